/- cmp.Compare, slices.Compare; slices.SortFunc at values. -/
import Derived.Test.YtkbikngkhaeakaaShelf
import Derived.Test.YtkbikngkhaeakaaRfE
namespace Go.Proofs.Ytkbikngkhaeakaa
open Go.RowKit Go.Sort

theorem nan66 (x : Int) (w : World) : Calls Try.prog 66 #[.int .u64 x] w fun e w' => e = .returned (.bool false) ∧ w' = w := by
  go_enter Try.func66, Try.ntmps66
  go_wp2
  go_ret
  exact ⟨rfl, rfl⟩
theorem cmp62 (x y : Int) (w : World) : Calls Try.prog 62 #[.int .u64 x, .int .u64 y] w fun e w' => e = .returned (.int .i64 (if x < y then -1 else if y < x then 1 else 0)) ∧ w' = w := by
  by_cases h : x < y
  · rw [if_pos h]
    go_enter Try.func62, Try.ntmps62
    go_wp2_with (first | (go_at_call 66; refine (nan66 _ _).mono ?_; rintro e w1 ⟨rfl, rfl⟩))
    go_ret
    exact ⟨rfl, rfl⟩
  · rw [if_neg h]
    by_cases h' : y < x
    · rw [if_pos h']
      go_enter Try.func62, Try.ntmps62
      go_wp2_with (first | (go_at_call 66; refine (nan66 _ _).mono ?_; rintro e w1 ⟨rfl, rfl⟩))
      go_ret
      exact ⟨rfl, rfl⟩
    · rw [if_neg h']
      go_enter Try.func62, Try.ntmps62
      go_wp2_with (first | (go_at_call 66; refine (nan66 _ _).mono ?_; rintro e w1 ⟨rfl, rfl⟩))
      go_ret
      exact ⟨rfl, rfl⟩
set_option maxRecDepth 20000 in
set_option maxHeartbeats 4000000 in
theorem compare57 (p : Option Addr) (l : List Int) (c : Nat) (q : Option Addr) (r : List Int) (d : Nat) (w : World) (hS : IRow .u64 w.heap.size w p l) (hR : IRow .u64 w.heap.size w q r) (l1 : l.length ≤ 1099511627776) (l2 : r.length ≤ 1099511627776) :
    Calls Try.prog 57 #[.slice p l.length c, .slice q r.length d] w fun e w' => e = .returned (.int .i64 (cmpL l r)) ∧ w' = w := by
  obtain ⟨v, hv⟩ : ∃ v, v = cmpL l r := ⟨_, rfl⟩
  rw [← hv]
  have HV : Hid (v = cmpL (l.drop 0) (r.drop 0)) := hv
  obtain ⟨n, hn⟩ : ∃ n, n = l.length := ⟨_, rfl⟩
  obtain ⟨m, hm⟩ : ∃ m, m = r.length := ⟨_, rfl⟩
  have HN := hidOg hn
  have HM := hidOg hm
  have HS := hidOg hS
  have HR := hidOg hR
  rw [← hn] at l1 ⊢
  rw [← hm] at l2 ⊢
  clear hS hR hv hn hm
  go_enter Try.func57, Try.ntmps57
  go_wp2
  go_loop [11] (fun i => ∃ k : Nat, k ≤ n ∧ k ≤ m ∧ i = .int .i64 k ∧ v = cmpL (l.drop k) (r.drop k)) (fun i => n - (intOf i).toNat)
  case atStart => exact ⟨0, Nat.zero_le _, Nat.zero_le _, rfl, HV.out⟩
  case round =>
    obtain ⟨k, hk, hkm, rfl, hv⟩ := hrel
    have HW := hidOg hv
    clear hv HV
    by_cases hkn : k < n
    · obtain ⟨b, off, rfl, hbB, hcs⟩ := HS.out (by have := HN.out; omega)
      have c0 := hcs k (by have := HN.out; omega)
      clear hcs
      obtain ⟨x, hx⟩ : ∃ x, x = iG l k := ⟨_, rfl⟩
      rw [← hx] at c0
      have HX := hidOg hx
      clear hx
      by_cases hlm : k < m
      · obtain ⟨b', off', rfl, hbB', hcs'⟩ := HR.out (by have := HM.out; omega)
        have c0' := hcs' k (by have := HM.out; omega)
        clear hcs'
        obtain ⟨y, hy⟩ : ∃ y, y = iG r k := ⟨_, rfl⟩
        rw [← hy] at c0'
        have HY := hidOg hy
        clear hy
        have HE : Hid (v = if x < y then -1 else if y < x then 1 else cmpL (l.drop (k + 1)) (r.drop (k + 1))) := by
          unfold Hid; rw [HW.out, cmp_step (by rw [← HN.out]; exact hkn) (by rw [← HM.out]; exact hlm), HX.out, HY.out]
        have CC := fun (W : World) => cmp62 x y W
        by_cases hxy : x = y
        · have HE' : Hid (v = cmpL (l.drop (k + 1)) (r.drop (k + 1))) := by unfold Hid; rw [HE.out, if_neg (by omega), if_neg (by omega)]
          have e0 : (if x < y then (-1 : Int) else if y < x then 1 else 0) = 0 := by rw [if_neg (by omega), if_neg (by omega)]
          rw [e0] at CC
          clear HW HE hxy e0
          go_wp2_with (first | (go_at_call 62; refine Calls.mono (CC _) ?_; rintro e w1 ⟨rfl, rfl⟩))
          go_round
          case rel => exact ⟨k + 1, by omega, by omega, by go_num, HE'.out⟩
          case measure => simp [intOf]; omega
        · have HE' : Hid (v = if x < y then -1 else if y < x then 1 else 0) := by
            unfold Hid; rw [HE.out]
            by_cases h1 : x < y
            · rw [if_pos h1, if_pos h1]
            · rw [if_neg h1, if_neg h1, if_pos (by omega), if_pos (by omega)]
          have hv0 : (v != 0) = true := by
            rw [HE'.out]; by_cases h1 : x < y
            · rw [if_pos h1]; decide
            · rw [if_neg h1, if_pos (by omega)]; decide
          rw [← HE'.out] at CC
          clear HW HE hxy
          go_wp2_with (first | (go_at_call 62; refine Calls.mono (CC _) ?_; rintro e w1 ⟨rfl, rfl⟩))
          go_ret
          exact ⟨rfl, rfl⟩
      · have e : v = 1 := by rw [HW.out]; exact cmp_end (by rw [← HN.out]; exact hkn) (by have := HM.out; omega)
        have hge : ((k : Int) == (m : Int)) = true := by simp; omega
        subst e
        clear HW
        go_wp2
        go_ret
        exact ⟨rfl, rfl⟩
    · obtain rfl : n = k := by omega
      by_cases hlm : n < m
      · have e : v = -1 := by rw [HW.out]; exact cmp_out (by have := HN.out; omega) (by have := HM.out; omega)
        subst e
        clear HW
        go_wp2
        go_ret
        exact ⟨rfl, rfl⟩
      · have e : v = 0 := by rw [HW.out]; exact cmp_both (by have := HN.out; omega) (by have := HM.out; omega)
        have hge : ¬ ((n : Int) < (m : Int)) := by omega
        subst e
        clear HW
        go_wp2
        go_ret
        exact ⟨rfl, rfl⟩
theorem cell_heap' {W W' : World} {b : Nat} (h : W'.heap[b]? = W.heap[b]?) (o : Nat) : W'.cell? ⟨b, o, none⟩ = W.cell? ⟨b, o, none⟩ := by simp only [World.cell?, h]
/-- A value that lies outside of block G. -/
structure GoodV (G : Nat) (w : World) (x : RR) : Prop where
  t : OwnR 0 w x.1 x.2.1 x.2.2
  l : x.2.1.length ≤ 1000
  g : ∀ a, x.1 = some a → a.block ≠ G
abbrev EV (G : Nat) (w : World) := {x : RR // GoodV G w x}
instance (G : Nat) (w : World) : Inhabited (EV G w) := ⟨⟨(none, [], 0), ⟨OwnR.nil _ _, by simp, fun a h => by cases h⟩⟩⟩
def encV {G : Nat} {w : World} (x : EV G w) : Value := vR x.1
def cfV {G : Nat} {w : World} (x y : EV G w) : Int := cmpL x.1.2.1 y.1.2.1
theorem swoV (G : Nat) (w : World) : SWO (ltOf (cfV (G := G) (w := w))) where
  irrefl x := by unfold ltOf cfV; rw [(cmp_eq _ _).2 rfl]; rfl
  trans x y z h1 h2 := by
    unfold ltOf cfV at *
    simp only [decide_eq_true_eq] at *
    have a1 : cmpL x.1.2.1 y.1.2.1 = -1 := by rcases cmp_01 x.1.2.1 y.1.2.1 with h | h | h <;> omega
    have a2 : cmpL y.1.2.1 z.1.2.1 = -1 := by rcases cmp_01 y.1.2.1 z.1.2.1 with h | h | h <;> omega
    have := cmp_trans _ _ _ a1 a2
    omega
  ntrans x y z h1 h2 := by
    unfold ltOf cfV at *
    simp only [decide_eq_false_iff_not] at *
    intro h3
    by_cases e : y.1.2.1 = z.1.2.1
    · rw [← e] at h3; exact h1 h3
    · have a3 : cmpL x.1.2.1 z.1.2.1 = -1 := by rcases cmp_01 x.1.2.1 z.1.2.1 with h | h | h <;> omega
      have a2 : cmpL z.1.2.1 y.1.2.1 = -1 := by
        have h5 := cmp_anti y.1.2.1 z.1.2.1
        rcases cmp_01 y.1.2.1 z.1.2.1 with h | h | h
        · omega
        · exact absurd ((cmp_eq _ _).1 h) e
        · omega
      have := cmp_trans _ _ _ a3 a2
      omega
theorem sw_heap1 {α : Type} [Inhabited α] (enc : α → Value) (w : World) (blk off m : Nat) (dk : Array α) (os : Array Obj) : w.heap.size ≤ (sortWorld enc w blk off m dk os).heap.size ∧ ∀ b, b ≠ blk → b < w.heap.size → (sortWorld enc w blk off m dk os).heap[b]? = w.heap[b]? := by
  refine ⟨?_, fun b hne hb => ?_⟩
  · unfold sortWorld grow putRow mapBlock Sort.ahead
    show w.heap.size ≤ (w.heap.modify blk _ ++ os).size
    simp
  · unfold sortWorld grow putRow mapBlock Sort.ahead
    show (w.heap.modify blk _ ++ os)[b]? = _
    rw [Array.getElem?_append_left (by simpa using hb), Array.getElem?_modify]
    simp [Ne.symm hne]
theorem ownR_other {B G : Nat} {w w' : World} {p : Option Addr} {l : List Int} {c : Nat} (h : OwnR B w p l c) (hg : ∀ a, p = some a → a.block ≠ G) (hh : ∀ b, b ≠ G → b < w.heap.size → w'.heap[b]? = w.heap[b]?) : OwnR B w' p l c :=
  ⟨owns_kept h.o (by
    rw [ownBlock_slice]
    cases p with
    | none => exact .inl rfl
    | some a => right; have := hg a rfl; simpa using this) hh, h.n⟩
theorem cmpLays57 (G : Nat) (w : World) (size : Nat) : CmpLays1 Try.prog 57 #[] (encV (G := G) (w := w)) cfV G 0 size w := by
  intro m os dk _ x y
  obtain ⟨hs, hh⟩ := sw_heap1 (encV (G := G) (w := w)) w G 0 m dk os
  have hx := (ownR_other x.2.t x.2.g hh).row
  have hy := (ownR_other y.2.t y.2.g hh).row
  refine Calls.mono (compare57 x.1.1 x.1.2.1 x.1.2.2 y.1.1 y.1.2.1 y.1.2.2 _ hx.i hy.i hx.n hy.n) ?_
  rintro e w' ⟨rfl, rfl⟩
  exact ⟨rfl, 0, #[], by rw [grow_empty]; rfl⟩
theorem holdsV {G : Nat} {w : World} {B c : Nat} {X : List RR} {D : List (EV G w)} (hD : D.map (·.1) = X) (hX : RV B X (some ⟨G, 0, none⟩) c w) : Holds encV w G 0 D.toArray := by
  intro j hj
  have hj' : j < D.length := by simpa using hj
  have hjX : j < X.length := by rw [← hD]; simpa using hj'
  obtain ⟨G', e, _, _, c0, f0⟩ := hX.cells hjX
  cases e
  rw [Nat.zero_add]
  refine ⟨?_, f0⟩
  rw [c0]
  have : gR X j = (D[j]).1 := by rw [gR_eq hjX]; subst hD; simp
  rw [this]
  simp [encV, vR, hj']
set_option maxHeartbeats 1000000 in
/-- slices.SortFunc by slices.Compare. -/
theorem sort60 (B G c : Nat) (w : World) (X : List RR) (hX : RV B X (some ⟨G, 0, none⟩) c w) (hl : ∀ x ∈ X, x.2.1.length ≤ 1000) (hn : X.length ≤ 100000) :
    Calls Try.prog 60 #[.slice (some ⟨G, 0, none⟩) X.length c, .func (.func 57) #[] #[]] w fun e w' => e = .returned (.tuple #[]) ∧
      ∃ X' : List RR, X'.Perm X ∧ (lS X').Pairwise (fun x y => ¬ cmpL y x < 0) ∧ RV B X' (some ⟨G, 0, none⟩) c w' ∧ w.heap.size ≤ w'.heap.size ∧ (∀ b, b ≠ G → b < w.heap.size → w'.heap[b]? = w.heap[b]?) ∧ w'.os = w.os ∧ w'.tape = w.tape ∧ w'.output = w.output := by
  have eg : ∀ args w, (callFunc 57 args).run Try.prog w = .ok (.enter 57 args) w := enters_of Try.func57 (by kernel_rfl) rfl
  have hgood : ∀ x ∈ X, GoodV G w x := fun x hx => ⟨hX.t x hx, hl x hx, fun a ha => by
    have := owns_apart (hX.t x hx).o hX.o (by decide)
    rw [ownBlock_slice, ownBlock_slice, ha] at this
    simpa using this⟩
  obtain ⟨D, hD⟩ : ∃ D : List (EV G w), D.map (·.1) = X := ⟨X.attach.map fun x => ⟨x.1, hgood x.1 x.2⟩, by rw [List.map_map]; exact List.attach_map_subtype_val X⟩
  have hlen : D.toArray.size = X.length := by rw [← hD]; simp
  have hGlt : G < w.heap.size := (hX.o.lt G rfl).2
  have h := Any.slices_SortFunc Try.sort1 encV (fun _ => rfl) cfV (swoV G w) 57 #[] G 0 c D.toArray w eg (by rw [hlen]; exact cmpLays57 G w _) (holdsV hD hX) hGlt (by rw [hlen]; omega)
  change Calls Try.prog 60 _ _ _ at h
  rw [hlen] at h
  refine h.mono ?_
  rintro e w' ⟨rfl, d', m, os, hp, hs, rfl⟩
  obtain ⟨D'⟩ := d'
  obtain ⟨p1, _, p3⟩ := hp
  have hlen' : D'.length = X.length := by have := p1; simp at this; rw [this, ← hD]; simp
  have hperm : D'.Perm D := by
    have e1 : ((⟨D'⟩ : Array (EV G w)).extract 0 X.length).toList = D' := by simp [← hlen']
    have e2 : (D.toArray.extract 0 X.length).toList = D := by simp [← hlen]
    rw [e1, e2] at p3; exact p3
  obtain ⟨hsz, hh⟩ := sw_heap1 (encV (G := G) (w := w)) w G 0 m D'.toArray os
  refine ⟨rfl, D'.map (·.1), by rw [← hD]; exact hperm.map _, ?_, ⟨?_, fun x hx => ?_⟩, hsz, hh, rfl, rfl, rfl⟩
  · rw [List.pairwise_iff_getElem]
    intro i j hi hj hij
    have hj' : j < D'.length := by simpa [lS] using hj
    have hi' : i < D'.length := by omega
    have := hs i j (Nat.zero_le _) hij (by omega)
    simp only [lS, List.getElem_map]
    simpa [ltOf, cfV, hj', hi'] using this
  · rcases hX.o.2 with ⟨h', _⟩ | ⟨g', cap', cur, h', hb, hc, h1, h2, h3, h4⟩
    · cases h'
    · cases h'
      have hlt := (Array.getElem?_eq_some_iff.1 hc).1
      refine ⟨by simp, .inr ⟨G, c, putCells encV 0 D'.toArray cur, by simp, hb, ?_, by simpa [hlen'] using h1, h2, by simp [putCells, h3], ?_⟩⟩
      · unfold sortWorld grow putRow mapBlock Sort.ahead
        show (w.heap.modify G _ ++ os)[G]? = _
        rw [Array.getElem?_append_left (by simpa using hlt), Array.getElem?_modify, hc]
        simp [onCells]
      · apply List.ext_getElem?
        intro j
        by_cases hj : j < D'.length
        · rw [List.getElem?_take_of_lt (by simpa using hj), Array.getElem?_toList]
          have : j < cur.size := by omega
          simp [putCells, hj, this, encV]
        · rw [List.getElem?_take_eq_none (by simpa using hj), List.getElem?_eq_none (by simp; omega)]
  · obtain ⟨y, hy, rfl⟩ := List.mem_map.1 hx
    exact ownR_other y.2.t y.2.g hh
theorem sort_none60 (p : Option Addr) (c : Nat) (fv : Value) (w : World) : Calls Try.prog 60 #[.slice p 0 c, fv] w fun e w' => e = .returned (.tuple #[]) ∧ w' = w := AnyF.slices_SortFunc_none Try.sortE p c fv w
end Go.Proofs.Ytkbikngkhaeakaa
