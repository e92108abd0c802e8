/- used, and what it hands back; rows that stay where only what is no cells turns. -/
/- Slots laid anew: mathematics; the closure that lays one. -/
import Derived.Test.YtjnhalomkmdcgaaLuG
import Derived.Test.YtjnhalomkmdcgaaRv
namespace Go.Proofs.Ytjnhalomkmdcgaa
open Go.RowKit Go.Shelf
attribute [local go_sem] Oper.semAt_some

/-- All blocks of cells stay. -/
structure Kc (W W' : World) : Prop where
  size : W.heap.size ≤ W'.heap.size
  same : ∀ (k : Nat) (o : Obj), W.heap[k]? = some o → o.isCells = true → W'.heap[k]? = some o
theorem cell_isCells {W : World} {b o : Nat} {v : Value} (h : W.cell? ⟨b, o, none⟩ = some v) : ∃ ob, W.heap[b]? = some ob ∧ ob.isCells = true := by
  unfold World.cell? at h
  cases hb : W.heap[b]? with
  | none => simp [hb] at h
  | some ob => cases ob <;> simp [hb] at h <;> exact ⟨_, rfl, rfl⟩
theorem Kc.cell {W W' : World} (k : Kc W W') {b o : Nat} {v : Value} (h : W.cell? ⟨b, o, none⟩ = some v) : W'.cell? ⟨b, o, none⟩ = some v := by
  obtain ⟨ob, h1, h2⟩ := cell_isCells h
  rw [cell_heap ((k.same b ob h1 h2).trans h1.symm)]; exact h
theorem Kc.irow {W W' : World} (k : Kc W W') {q : IntKind} {p : Option Addr} {l : List Int} (h : IRow q W.heap.size W p l) : IRow q W'.heap.size W' p l := fun h0 => by
  obtain ⟨b, off, e, hN, hc⟩ := h h0
  exact ⟨b, off, e, Nat.lt_of_lt_of_le hN k.size, fun j hj => k.cell (hc j hj)⟩
theorem Kc.trow {W W' : World} (k : Kc W W') {p : Option Addr} {l : List Int} {c : Nat} (h : TRow W.heap.size W p l c) : TRow W'.heap.size W' p l c := ⟨k.irow h.i, h.r, h.u⟩
theorem Kc.tg {W W' : World} (k : Kc W W') {G : Nat} {p : Option Addr} {l : List Int} {c : Nat} (h : TG G W p l c) : TG G W' p l c := ⟨k.trow h.t, h.g⟩
theorem Kc.owns {W W' : World} (k : Kc W W') {B e s n : Nat} {v : Value} {xs : List Value} (h : W.ownsRow B e s v n xs) : W'.ownsRow B e s v n xs := by
  refine ⟨h.1, ?_⟩
  rcases h.2 with hn | ⟨g, cap, cur, rfl, hb, hgg, rest⟩
  · exact .inl hn
  · exact .inr ⟨g, cap, cur, rfl, hb, k.same _ _ hgg rfl, rest⟩
theorem Kc.owT {W W' : World} (k : Kc W W') {B : Nat} {q : Option Addr} {l : List Int} {c : Nat} (h : OwT B W q l c) : OwT B W' q l c := ⟨k.owns h.o, h.u⟩
theorem Kc.erg {W W' : World} (k : Kc W W') {G m : Nat} {X : List Ep} (h : ERG G m W X) : ERG G m W' X := ⟨k.owns h.o, h.n, fun x hx => k.tg (h.t x hx)⟩
theorem own_kc {β : Type} {B : Nat} {I : β → World → Prop} (h : ∀ s W W', Kc W W' → I s W → I s W') : OwnFrom B I := fun s W W' row hs hg hr =>
  h s W W' ⟨hg.size, fun k o hk ho => (hg.block k (Array.getElem?_eq_some_iff.1 hk).1 (fun e => by
    obtain ⟨_, o', ho', hc⟩ := hr k e.symm
    rw [hk] at ho'; cases ho'; rw [ho] at hc; cases hc)).trans hk⟩ hs

theorem used36 (p : Option Addr) (n c : Nat) (w : World) :
    Calls Try.prog 36 #[.slice p n c] w fun e w' => e = .returned (.func (.func 60) #[] #[.pointer (some ⟨w.heap.size, 0, none⟩)]) ∧ w' = w.alloc (.cells #[.slice p n c] 22) := by
  go_enter Try.func36, Try.ntmps36
  go_wp2
  go_ret
  exact ⟨rfl, rfl⟩
abbrev encE (x : Ep) : Array Value := #[.agg #[.int .i64 x.1, .slice x.2.1.1 x.2.1.2.1.length x.2.1.2.2, .int .i64 x.2.2]]
/-- A used slot, copied, is handed over. -/
structure VU (L : List En) (n₁ : Nat) (pre : List Ep) (x : Ep) (W : World) : Prop where
  o : OwT n₁ W x.2.1.1 x.2.1.2.1 x.2.1.2.2
  k : ∃ k, k < L.length ∧ (gE L k).1 = 1 ∧ eOf x = gE L k ∧ pre.map eOf = (L.take k).filter usB
set_option maxRecDepth 100000 in
set_option maxHeartbeats 2000000 in
theorem used60 (n : Nat) (hn : 1 ≤ n) (yl Bl n₀ n₁ : Nat) (p : Option Addr) (L : List En) (c : Nat) (hB : LB L) (hm : L.length ≤ 1000000) (J : List Ep → World → Prop) (W : World)
    (hY : ∀ pre x W1, J pre W1 → VU L n₁ pre x W1 → YieldAt Fence.wide (n - 1) Try.prog yl (encE x) W1 fun e W' => e = .returned (.bool true) ∧ J (pre ++ [x]) W' ∧ Below n₀ W1 W')
    (hJ : AbidesFrom W.heap.size J) (hn₀ : n₀ ≤ W.heap.size) (hn₁ : n₁ ≤ W.heap.size) (hE : ERow n₀ W p L) (hBl : W.cell? ⟨Bl, 0, none⟩ = some (.slice p L.length c)) (h0 : J [] W) :
    CallsIn Fence.wide n Try.prog 60 #[.func (.yield yl) #[] #[], .pointer (some ⟨Bl, 0, none⟩)] W fun e W' => (∃ v, e = .returned v) ∧ ∃ xs, xs.map eOf = L.filter usB ∧ J xs W' := by
  refine callsIn_of_wp Try.func60 rfl trivial ?_ rfl
  simp only [Try.ntmps60, List.size_toArray, List.length_cons, List.length_nil, Nat.reduceAdd, Nat.reduceSub, Array.replicate_succ, Array.replicate_zero, List.push_toArray, List.append_toArray, List.nil_append, List.cons_append]
  have h61 : Fence.wide.fn 61 := trivial
  obtain ⟨m, hm'⟩ : ∃ m, m = L.length := ⟨_, rfl⟩
  have HM := hidOg hm'
  have HE := hidOg hE
  have HLB := hidOg hB
  have HY := hidOg hY
  rw [← hm'] at hm hBl
  clear hE hB hm' hY
  gi_wp2
  gi_loopw [7] (fun v wr => ∃ (k : Nat) (pre : List Ep), k ≤ m ∧ v = .int .i64 k ∧ pre.map eOf = (L.take k).filter usB ∧ J pre wr ∧ Below n₀ W wr)
    (fun v _ => m - (intOf v).toNat)
  case atStart => exact ⟨0, [], Nat.zero_le _, rfl, by simp, h0, Below.refl _ _⟩
  case round =>
    obtain ⟨k, pre, hk, rfl, hpre, hJs, hnx⟩ := hrel
    have HJ := hidOg hJs
    have HX := hidOg hnx
    have HP := hidOg hpre
    clear hJs hnx h0 hpre
    by_cases hlt : k < m
    · obtain ⟨b, off, rfl, hbN, hcs⟩ := HE.out (by have := HM.out; omega)
      obtain ⟨k0, ⟨qx, cx, k1, hTx⟩, k2⟩ := hcs k (by have := HM.out; omega)
      have k0' := (HX.out.cell (p := ⟨b, off + k * 3, none⟩) hbN).trans k0
      have k1' := (HX.out.cell (p := ⟨b, off + k * 3 + 1, none⟩) hbN).trans k1
      have k2' := (HX.out.cell (p := ⟨b, off + k * 3 + 2, none⟩) hbN).trans k2
      have hbal := fun (o : Obj) => (Below.refl wr.heap.size wr).alloc (Nat.le_refl _) o
      have hsz := HX.out.size
      have hTw : TRow wr.heap.size wr qx (gE L k).2.1 cx := (hTx.below HX.out (Nat.le_refl _)).mono (by omega)
      have HT : Hid (L.take (k + 1) = L.take k ++ [gE L k]) := take_succ_gE (by have := HM.out; omega)
      by_cases hu : (gE L k).1 = 1
      · have CO := fun (o : Obj) => own61 1 (gE L k).2.2 qx (gE L k).2.1 cx (wr.alloc o) ((hTw.below (hbal o) (Nat.le_refl _)).mono (hbal o).size) (HLB.out k (by have := HM.out; omega))
        have KEY : Hid (∀ (o : Obj) (W2 : World) (q' : Option Addr) (c' : Nat), OwT (wr.alloc o).heap.size W2 q' (gE L k).2.1 c' → Below (wr.alloc o).heap.size (wr.alloc o) W2 →
            J pre W2 ∧ VU L n₁ pre (1, (q', (gE L k).2.1, c'), (gE L k).2.2) W2 ∧ Below n₀ W W2) := fun o W2 q' c' hO hb => by
          have h1 := (hbal o).trans (hb.mono (hbal o).size)
          exact ⟨hJ _ _ W2 none HJ.out (grown_of_below h1) (fun r e => by cases e), ⟨hO.base (by simp; omega), k, by have := HM.out; omega, hu, by unfold eOf; rw [← hu], HP.out⟩, HX.out.trans (h1.mono (by omega))⟩
        have HF : Hid ((L.take (k + 1)).filter usB = (L.take k).filter usB ++ [gE L k]) := by unfold Hid; rw [HT.out, List.filter_append]; simp [usB, hu]
        have HEq : Hid (∀ (q' : Option Addr) (c' : Nat), eOf (1, (q', (gE L k).2.1, c'), (gE L k).2.2) = gE L k) := fun q' c' => by unfold eOf; rw [← hu]
        rw [hu] at k0'
        obtain ⟨ll, hll⟩ : ∃ ll, ll = (gE L k).2.1 := ⟨_, rfl⟩
        obtain ⟨zz, hzz⟩ : ∃ zz, zz = (gE L k).2.2 := ⟨_, rfl⟩
        rw [← hll] at k1' CO KEY HEq
        rw [← hzz] at k2' CO KEY HEq
        have YY : Hid (∀ W2 q' c', J pre W2 → VU L n₁ pre (1, (q', ll, c'), zz) W2 → YieldAt Fence.wide (n - 1) Try.prog yl (encE (1, (q', ll, c'), zz)) W2 fun e W' => e = .returned (.bool true) ∧ J (pre ++ [(1, (q', ll, c'), zz)]) W' ∧ Below n₀ W2 W') := fun W2 q' c' a b => HY.out _ _ _ a b
        clear hll hzz hu hcs k0 k1 k2 hTx hTw hbal HLB HY
        gi_wp2_with (first | (gi_at_call 61; refine (callsIn_wide.2 (CO _)).mono ?_; rintro e W2 ⟨q', c', rfl, hO, hb2⟩; obtain ⟨hJ2, hV2, hB2⟩ := KEY.out _ _ _ _ hO hb2; have HB2 := hidOg hB2; obtain ⟨fn, tmps, assign, body, hy, hR⟩ := YY.out W2 q' c' hJ2 hV2; clear hO hb2 hJ2 hV2 hB2))
        refine hR.mono ?_
        rintro e W3 ⟨rfl, hJ3, hk3⟩
        gi_wp2
        go_roundw
        case rel => exact ⟨k + 1, pre ++ [(1, (q', ll, c'), zz)], by omega, by go_num, by rw [HF.out, List.map_append, HP.out]; simp [HEq.out q' c'], hJ3, HB2.out.trans hk3⟩
        case measure => simp [intOf]; omega
      · obtain ⟨s, hs⟩ : ∃ s, s = (gE L k).1 := ⟨_, rfl⟩
        rw [← hs] at k0'
        have hu' : (s == 1) = false := by rw [hs]; simpa using hu
        have HF : Hid ((L.take (k + 1)).filter usB = (L.take k).filter usB) := by unfold Hid; rw [HT.out, List.filter_append]; simp [usB, hu]
        have HJA : Hid (∀ o, J pre (wr.alloc o) ∧ Below n₀ W (wr.alloc o)) := fun o => ⟨hJ _ _ _ none HJ.out (grown_of_below (hbal o)) (fun r e => by cases e), HX.out.trans ((hbal o).mono (by omega))⟩
        clear hs hu hcs k0 k1 k2 hTx hTw hbal HLB HY
        gi_wp2
        refine ⟨fun f hf => (by cases hf), ?_⟩
        gi_wp2
        go_roundw
        case rel => exact ⟨k + 1, pre, by omega, by go_num, by rw [HF.out, HP.out], (HJA.out _).1, (HJA.out _).2⟩
        case measure => simp [intOf]; omega
    · obtain rfl : k = m := by omega
      gi_wp2
      go_end0
      exact ⟨⟨_, rfl⟩, pre, by rw [HP.out, HM.out, List.take_length], HJ.out⟩
end Go.Proofs.Ytjnhalomkmdcgaa
namespace Go.Proofs.Ytjnhalomkmdcgaa
open Go.RowKit

theorem lb_of_ri {L : List En} (h : RiL hsT mayT L) : LB L := fun k hk => by
  rcases h.ok k hk with ⟨_, h1, _⟩ | ⟨_, h1, _⟩
  · rw [h1]; simp
  · have := ((mayT_iff _).1 h1).1; omega
theorem lay_cong {L T : List En} {m k k' : Nat} (e : (L.take k).filter usB = (L.take k').filter usB) (h : LayI hsT mayT L m k T) : LayI hsT mayT L m k' T := by
  have key : ∀ y : En, (y ∈ L.take k ∧ y.1 = 1) ↔ (y ∈ L.take k' ∧ y.1 = 1) := fun y => by
    have h1 : y ∈ (L.take k).filter usB ↔ y ∈ (L.take k').filter usB := by rw [e]
    simpa [List.mem_filter, usB] using h1
  exact ⟨h.len, h.ri, by rw [← e]; exact h.ta, fun y => (h.mem y).trans (key y), h.st⟩
theorem lay_none {L T : List En} {m k i : Nat} {b : Bool} {t : List Int} (h : LayI hsT mayT L m k T) (hn : ∀ y, y ∈ L.take k → y.1 = 1 → y.2.1 ≠ t) (hs : SkR T t i b) : b = false ∧ i < T.length ∧ (gE T i).1 = 0 ∧ Met hsT T t i ∧ NotIn T t := by
  have hNot : NotIn T t := fun y hy hu => by
    obtain ⟨h1, h2⟩ := (h.mem y).1 ⟨hy, hu⟩
    exact hn y h1 h2
  cases b
  · obtain ⟨hi, hz, hm, hN⟩ := sk_none h.ri hs
    rcases h.st i hi with h0 | h0
    · exact ⟨rfl, hi, h0, hm, hN⟩
    · exact absurd h0 hz
  · obtain ⟨hi, hu, hty, _⟩ := sk_found h.ri hs
    exact absurd hty (hNot _ (gE_mem hi) hu)
theorem lay_step {L T : List En} {m k i : Nat} {b : Bool} (h : LayI hsT mayT L m k T) (hr : RiL hsT mayT L) (hk : k < L.length) (hu : (gE L k).1 = 1) (hm : L.length ≤ m) (hs : SkR T (gE L k).2.1 i b) : LayI hsT mayT L m (k + 1) (T.set i (gE L k)) := by
  obtain ⟨_, hi, hz, hmet, _⟩ := lay_none h (fun y hy hy1 e => by
    obtain ⟨j, hj, ej⟩ := List.getElem_of_mem hy
    have hj' : j < k := by simp at hj; omega
    have e2 : gE L j = y := by rw [gE_eq (by omega), ← ej]; simp
    have := (dt_iff L).1 hr.dt j k (by omega) hk (by rw [e2]; exact hy1) hu (by rw [e2]; exact e)
    omega) hs
  exact h.put hr hk hu hm hi hz hmet
/-- The last one is laid. -/
theorem lay_more {L T : List En} {m i : Nat} {b : Bool} {t : List Int} {n : Int} (h : LayI hsT mayT L m L.length T) (hr : RiL hsT mayT L) (hN : NotIn L t) (ht : mayT t = true) (h0 : 0 ≤ n) (hq : 4 * ((L.filter usB).length + 1) ≤ 3 * m) (hx : (L.filter usB).length + 1 ≤ 4000) (hs : SkR T t i b) :
    RiL hsT mayT (T.set i (1, t, n)) ∧ alL cmpL (T.set i (1, t, n)) = wiL cmpL (alL cmpL L) (1, t, n) := by
  obtain ⟨_, hi, hz, hmet, hNT⟩ := lay_none h (fun y hy hy1 => hN y (List.mem_of_mem_take hy) hy1) hs
  obtain ⟨hal, hta⟩ := h.done isCmp hr
  have hri : RiL hsT mayT (T.set i (1, t, n)) := h.ri.put hi (by rw [hz]; decide) hmet hNT ht h0 (by rw [hta, h.len, if_pos hz]; omega) (by rw [hta, if_pos hz]; omega)
  refine ⟨hri, ?_⟩
  rw [← hal]
  exact alL_put isCmp h.ri.dt hri.dt (fun y hy hu => hNT y hy hu) (put_mem hi (by rw [hz]; decide))
theorem grown_put {W W2 : World} {G o0 o1 o2 : Nat} {u0 u1 u2 : Value} (h : Below W.heap.size W W2) : W.grownBy (((W2.setCell ⟨G, o0, none⟩ u0).setCell ⟨G, o1, none⟩ u1).setCell ⟨G, o2, none⟩ u2) (some G) := by
  have g0 := grownBy_setCellO W2 ⟨G, o0, none⟩ u0
  have g1 := grownBy_setCellO (W2.setCell ⟨G, o0, none⟩ u0) ⟨G, o1, none⟩ u1
  have g2 := grownBy_setCellO ((W2.setCell ⟨G, o0, none⟩ u0).setCell ⟨G, o1, none⟩ u1) ⟨G, o2, none⟩ u2
  refine ⟨(g2.os.trans (g1.os.trans g0.os)).trans h.os, (g2.tape.trans (g1.tape.trans g0.tape)).trans h.tape, (g2.output.trans (g1.output.trans g0.output)).trans h.output, by have := h.size; have := g0.size; have := g1.size; have := g2.size; omega, fun k hk hne => ?_⟩
  have a0 := h.size
  have a1 := g0.size
  have a2 := g1.size
  exact (g2.block k (by omega) hne).trans ((g1.block k (by omega) hne).trans ((g0.block k (by omega) hne).trans (h.block k hk)))
set_option maxRecDepth 20000 in
set_option maxHeartbeats 2000000 in
theorem lay66 (G m Bn : Nat) (X : List Ep) (y : Ep) (W : World) (hG : ERG G m W X) (hBn : Boxed W Bn 22 (.slice (some ⟨G, 0, none⟩) m m)) (hy : TG G W y.2.1.1 y.2.1.2.1 y.2.1.2.2) (hyl : y.2.1.2.1.length ≤ 1000)
    (hB : LB (X.map eOf)) (hst : ST (X.map eOf)) (hf : ∃ k, k < (X.map eOf).length ∧ (gE (X.map eOf) k).1 = 0) (hm : m ≤ 1000000) :
    Calls Try.prog 66 #[.agg #[.int .i64 y.1, .slice y.2.1.1 y.2.1.2.1.length y.2.1.2.2, .int .i64 y.2.2], .pointer (some ⟨Bn, 0, none⟩)] W fun e W' => e = .returned (.tuple #[]) ∧
      ∃ i b, SkR (X.map eOf) y.2.1.2.1 i b ∧ ERG G m W' (X.set i y) ∧ W.grownBy W' (some G) := by
  obtain ⟨s, ⟨q, t, d⟩, n⟩ := y
  simp only at hy hyl ⊢
  have lX : (X.map eOf).length = m := by rw [List.length_map, hG.n]
  have CS := fun (W2 : World) (hb : Below W.heap.size W W2) => seek40 (some ⟨G, 0, none⟩) (X.map eOf) m q t d W2 (hG.row.to hb) ((hy.t.below hb (Nat.le_refl _)).mono hb.size) (by obtain ⟨k, hk, _⟩ := hf; omega) (by omega) hB hyl hst hf
  rw [lX] at CS
  obtain ⟨wA, hA⟩ : ∃ wA, wA = W.alloc (.cells #[.int .i64 s, .slice q t.length d, .int .i64 n] 39) := ⟨_, rfl⟩
  have bA : Below W.heap.size W wA := by rw [hA]; exact (Below.refl _ _).alloc (Nat.le_refl _) _
  have sA : wA.heap.size = W.heap.size + 1 := by rw [hA]; simp
  have zA : wA.heap[W.heap.size]? = some (.cells #[.int .i64 s, .slice q t.length d, .int .i64 n] 39 (0, 0)) := by rw [hA]; exact World.alloc_heap_new W _
  have cn : wA.cell? ⟨Bn, 0, none⟩ = some (.slice (some ⟨G, 0, none⟩) m m) := (bA.cell (p := ⟨Bn, 0, none⟩) hBn.lt).trans hBn.cell
  have KEY : Hid (∀ W2 : World, Below wA.heap.size wA W2 → ∀ (i : Nat) (b : Bool), SkR (X.map eOf) t i b → i < m ∧ Below W.heap.size W W2 ∧ ERG G m W2 X ∧ TG G W2 q t d ∧ W2.cell? ⟨Bn, 0, none⟩ = some (.slice (some ⟨G, 0, none⟩) m m) ∧ W2.heap[W.heap.size]? = some (.cells #[.int .i64 s, .slice q t.length d, .int .i64 n] 39 (0, 0))) := fun W2 hb i b hs => by
    have h1 := bA.trans (hb.mono bA.size)
    have hlt := hBn.lt
    exact ⟨by have := hs.1; omega, h1, hG.below h1, hy.below h1, (hb.cell (p := ⟨Bn, 0, none⟩) (by simp; omega)).trans cn, (hb.block _ (by omega)).trans zA⟩
  obtain ⟨a0, a1, a2, _⟩ := heap3_cell zA
  obtain ⟨lt, hlt⟩ : ∃ lt, lt = t.length := ⟨_, rfl⟩
  have HLT := hidOg hlt
  rw [← hlt] at CS hA a1 KEY ⊢
  clear hG hBn hy hyl hB hst hf lX zA hlt
  have bA' := hidOg bA
  have cnL := cn
  rw [hA] at cnL
  go_enter Try.func66, Try.ntmps66
  go_wp2_with (first | (go_at_call 40; rw [← hA]; refine Calls.mono (CS _ bA'.out) ?_; rintro e W2 ⟨i, b, rfl, hsk, hb2⟩; obtain ⟨hi, hB2, hG2, hT2, cn2, z2⟩ := KEY.out W2 hb2 i b hsk; obtain ⟨y0, y1, y2, _⟩ := heap3_cell z2; obtain ⟨g0, g1, g2, gf⟩ := hG2.cells hi; have HSK := hidOg hsk; have HB2 := hidOg hB2; have HG2 := hidOg hG2; have HT2 := hidOg hT2; clear hb2 hsk hB2 hG2 hT2 z2))
  go_end0
  refine ⟨rfl, i, b, HSK.out, ?_, grown_put HB2.out⟩
  rw [HLT.out]
  exact HG2.out.put i (s, (q, t, d), n) HT2.out
end Go.Proofs.Ytjnhalomkmdcgaa
