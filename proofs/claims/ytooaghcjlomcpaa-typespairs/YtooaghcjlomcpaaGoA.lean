/- With once more: what it hands back is the call's own. Rows where one block turns. -/
import Derived.Test.YtooaghcjlomcpaaOrA
import Derived.Test.YtooaghcjlomcpaaRgB
namespace Go.Proofs.Ytooaghcjlomcpaa
open Go.RowKit Go.Sort

theorem OwnR.nil (B : Nat) (w : World) : OwnR B w none [] 0 := ⟨World.ownsRow_nil _ _ _ _, by simp⟩
theorem ownR_own {l : List Int} {w w' : World} {G : Nat} (hG : w.heap.size ≤ G) (hh : w'.heap[G]? = some (.cells (cellsI .u64 l).toArray 33 (0, 0))) (hl : l.length ≤ 1099511627776) : OwnR w.heap.size w' (some ⟨G, 0, none⟩) l l.length :=
  ⟨⟨by simp, .inr ⟨G, l.length, _, rfl, hG, hh, Nat.le_refl _, by unfold maxLen; omega, by simp [cellsI], by simp only [cellsI, Nat.mul_one]; exact List.take_of_length_le (by simp)⟩⟩, hl⟩
def WithOwn (l : List Int) (x : Int) (w : World) (e : Ending) (w' : World) : Prop := ∃ p' c', e = .returned (.tuple #[.slice p' (witL l x).length c', .int .i64 (witE l x)]) ∧ OwnR w.heap.size w' p' (witL l x) c' ∧ Below w.heap.size w w'

theorem withO_bad (p : Option Addr) (l : List Int) (c : Nat) (x : Int) (w : World) (h : Row w p l c) (hU : U64 l) (hm : mayT l = false) :
    Calls Try.prog 32 #[.slice p l.length c, .int .u64 x] w fun e w' => WithOwn l x w e w' := by
  have CM := mayBe_any p l c w h.i hU (by have := h.n; omega)
  have e1 : witL l x = [] := by unfold witL witOk; rw [hm]; rfl
  have e2 : witE l x = 130 := by unfold witE; rw [hm]; rfl
  unfold WithOwn
  rw [e1, e2]
  rw [hm] at CM
  clear hm h hU e1 e2
  go_enter Try.func32, Try.ntmps32
  go_wp2_with (first | (go_at_call 47; refine Calls.mono CM ?_; rintro e w1 ⟨rfl, hb⟩))
  go_ret2
  exact ⟨none, 0, rfl, OwnR.nil _ _, hb⟩

theorem withO_arg (p : Option Addr) (l : List Int) (c : Nat) (x : Int) (w : World) (h : Row w p l c) (hU : U64 l) (h0 : 0 ≤ x) (h1 : x < 18446744073709551616) (hm : mayT l = true) (hc : canB x = false) :
    Calls Try.prog 32 #[.slice p l.length c, .int .u64 x] w fun e w' => WithOwn l x w e w' := by
  have CM := mayBe_any p l c w h.i hU (by have := h.n; omega)
  have CC := fun (W : World) => canBeHad_any x W h0 h1
  have e1 : witL l x = [] := by unfold witL witOk; rw [hm, hc]; rfl
  have e2 : witE l x = 2 := by unfold witE; rw [hm, hc]; rfl
  unfold WithOwn
  rw [e1, e2]
  rw [hm] at CM
  rw [hc] at CC
  clear hm h hU e1 e2 hc
  go_enter Try.func32, Try.ntmps32
  go_wp2_with (first | (go_at_call 47; refine Calls.mono CM ?_; rintro e w1 ⟨rfl, hb⟩) | (go_at_call 48; refine Calls.mono (CC _) ?_; rintro e w2 ⟨rfl, hb2⟩))
  go_ret2
  exact ⟨none, 0, rfl, OwnR.nil _ _, hb.trans (hb2.mono hb.size)⟩

set_option maxHeartbeats 1000000 in
theorem withO_old (p : Option Addr) (l : List Int) (c : Nat) (x : Int) (w : World) (h : Row w p l c) (hU : U64 l) (h0 : 0 ≤ x) (h1 : x < 18446744073709551616) (hm : mayT l = true) (hc : canB x = true) (hx : x ∈ l) :
    Calls Try.prog 32 #[.slice p l.length c, .int .u64 x] w fun e w' => WithOwn l x w e w' := by
  have CM := mayBe_any p l c w h.i hU (by have := h.n; omega)
  have CC := fun (W : World) => canBeHad_any x W h0 h1
  obtain ⟨h12, _, hs⟩ := (mayT_iff l).1 hm
  have e1 : witL l x = l := by unfold witL witOk; rw [hm, hc, decide_eq_true hx]; exact insL_old hs hx
  have e2 : witE l x = 0 := by unfold witE; rw [hm, hc, decide_eq_true hx]; rfl
  have CB := fun (w1 : World) (hb : Below w.heap.size w w1) => bin_any p l c x w1 (h.to hb).i hs.ris (by omega)
  have CP := fun (i : Nat) (hi : i ≤ l.length) (w1 : World) (hb : Below w.heap.size w w1) => put_any p l c i none [] 0 w1 (h.to hb) hi (Row.nil w1)
  have F : Hid (∀ i, Pos l x i → fndB l x i = true) := fun i hp => by rw [fnd_iff hs hp, decide_eq_true hx]
  have HL : Hid (l.length ≤ 1099511627776) := by unfold Hid; omega
  unfold WithOwn
  rw [e1, e2]
  rw [hm] at CM
  rw [hc] at CC
  clear hm h hU e1 e2 hc hs hx h12
  go_enter Try.func32, Try.ntmps32
  go_wp2_with (first | (go_at_call 47; refine Calls.mono CM ?_; rintro e w1 ⟨rfl, hb⟩) | (go_at_call 48; refine Calls.mono (CC _) ?_; rintro e w2 ⟨rfl, hb2⟩; have hB : Below w.heap.size w w2 := hb.trans (hb2.mono hb.size)) | (go_at_call 49; refine Calls.mono (CB _ hB) ?_; rintro e w3 ⟨i, rfl, hp, hb3⟩; have f1 := F.out i hp; have CP' := CP i hp.1 w3 (hB.trans (hb3.mono hB.size)); rw [f1]; clear CP) | (go_at_call 50; refine Calls.mono CP' ?_; rintro e w4 ⟨G, rfl, hG, hh, hb4⟩))
  go_ret2
  have hB3 : Below w.heap.size w w3 := hB.trans (hb3.mono hB.size)
  rw [put_none] at hh
  exact ⟨some ⟨G, 0, none⟩, l.length, by rw [put_none]; rfl, ownR_own (Nat.le_trans hB3.size hG) hh HL.out, hB3.trans (hb4.mono hB3.size)⟩

set_option maxHeartbeats 1000000 in
theorem withO_full (p : Option Addr) (l : List Int) (c : Nat) (x : Int) (w : World) (h : Row w p l c) (hU : U64 l) (h0 : 0 ≤ x) (h1 : x < 18446744073709551616) (hm : mayT l = true) (hc : canB x = true) (hx : x ∉ l) (hl : l.length = 12) :
    Calls Try.prog 32 #[.slice p l.length c, .int .u64 x] w fun e w' => WithOwn l x w e w' := by
  have CM := mayBe_any p l c w h.i hU (by have := h.n; omega)
  have CC := fun (W : World) => canBeHad_any x W h0 h1
  obtain ⟨h12, _, hs⟩ := (mayT_iff l).1 hm
  have e1 : witL l x = [] := by unfold witL witOk; rw [hm, hc, decide_eq_false hx, hl]; rfl
  have e2 : witE l x = 6 := by unfold witE; rw [hm, hc, decide_eq_false hx, hl]; rfl
  have CB := fun (w1 : World) (hb : Below w.heap.size w w1) => bin_any p l c x w1 (h.to hb).i hs.ris (by omega)
  have F : Hid (∀ i, Pos l x i → fndB l x i = false) := fun i hp => by rw [fnd_iff hs hp, decide_eq_false hx]
  unfold WithOwn
  rw [e1, e2]
  rw [hm] at CM
  rw [hc] at CC
  rw [hl] at CM CB ⊢
  clear hm h hU e1 e2 hc hs hx h12 hl
  go_enter Try.func32, Try.ntmps32
  go_wp2_with (first | (go_at_call 47; refine Calls.mono CM ?_; rintro e w1 ⟨rfl, hb⟩) | (go_at_call 48; refine Calls.mono (CC _) ?_; rintro e w2 ⟨rfl, hb2⟩; have hB : Below w.heap.size w w2 := hb.trans (hb2.mono hb.size)) | (go_at_call 49; refine Calls.mono (CB _ hB) ?_; rintro e w3 ⟨i, rfl, hp, hb3⟩; have f1 := F.out i hp; rw [f1]))
  go_ret2
  exact ⟨none, 0, rfl, OwnR.nil _ _, hB.trans (hb3.mono hB.size)⟩

set_option maxHeartbeats 1000000 in
theorem withO_new (p : Option Addr) (l : List Int) (c : Nat) (x : Int) (w : World) (h : Row w p l c) (hU : U64 l) (h0 : 0 ≤ x) (h1 : x < 18446744073709551616) (hm : mayT l = true) (hc : canB x = true) (hx : x ∉ l) (hl : l.length < 12) :
    Calls Try.prog 32 #[.slice p l.length c, .int .u64 x] w fun e w' => WithOwn l x w e w' := by
  have CM := mayBe_any p l c w h.i hU (by have := h.n; omega)
  have CC := fun (W : World) => canBeHad_any x W h0 h1
  obtain ⟨h12, _, hs⟩ := (mayT_iff l).1 hm
  have e1 : witL l x = insL l x := by unfold witL witOk; rw [hm, hc, decide_eq_true hl]; simp
  have e2 : witE l x = 0 := by unfold witE; rw [hm, hc, decide_eq_true hl]; simp
  have CB := fun (w1 : World) (hb : Below w.heap.size w w1) => bin_any p l c x w1 (h.to hb).i hs.ris (by omega)
  have CP := fun (i : Nat) (hi : i ≤ l.length) (w1 : World) (hb : Below w.heap.size w w1) => put_any p l c i (some ⟨w1.heap.size, 0, none⟩) [x] 1 (w1.alloc (.cells #[.int .u64 x] 33)) (h.to (hb.alloc hb.size _)) hi (one_row x)
  have F : Hid (∀ i, Pos l x i → fndB l x i = false ∧ putL l i [x] = insL l x) := fun i hp => ⟨by rw [fnd_iff hs hp, decide_eq_false hx], put_new hp hx⟩
  have HL : Hid ((insL l x).length ≤ 1099511627776) := by unfold Hid; rw [insL_len hx]; omega
  unfold WithOwn
  rw [e1, e2]
  rw [hm] at CM
  rw [hc] at CC
  have hl' : ((l.length : Int) == 12) = false := by simp; omega
  clear hm h hU e1 e2 hc hs hx h12
  go_enter Try.func32, Try.ntmps32
  go_wp2_with (first | (go_at_call 47; refine Calls.mono CM ?_; rintro e w1 ⟨rfl, hb⟩) | (go_at_call 48; refine Calls.mono (CC _) ?_; rintro e w2 ⟨rfl, hb2⟩; have hB : Below w.heap.size w w2 := hb.trans (hb2.mono hb.size)) | (go_at_call 49; refine Calls.mono (CB _ hB) ?_; rintro e w3 ⟨i, rfl, hp, hb3⟩; obtain ⟨f1, f2⟩ := F.out i hp; have F2 := hidOg f2; clear f2; have CP' := CP i hp.1 w3 (hB.trans (hb3.mono hB.size)); rw [f1]; clear CP) | (go_at_call 50; refine Calls.mono CP' ?_; rintro e w4 ⟨G, rfl, hG, hh, hb4⟩))
  go_ret2
  have hB3 : Below w.heap.size w w3 := hB.trans (hb3.mono hB.size)
  have hB4 : Below w.heap.size w (w3.alloc (.cells #[.int .u64 x] 33)) := hB3.alloc hB3.size _
  rw [F2.out] at hh
  exact ⟨some ⟨G, 0, none⟩, (insL l x).length, by rw [F2.out]; rfl, ownR_own (Nat.le_trans hB4.size hG) hh HL.out, hB4.trans (hb4.mono hB4.size)⟩

theorem withO_any (p : Option Addr) (l : List Int) (c : Nat) (x : Int) (w : World) (h : Row w p l c) (hU : U64 l) (h0 : 0 ≤ x) (h1 : x < 18446744073709551616) :
    Calls Try.prog 32 #[.slice p l.length c, .int .u64 x] w fun e w' => WithOwn l x w e w' := by
  cases hm : mayT l
  · exact withO_bad p l c x w h hU hm
  · cases hc : canB x
    · exact withO_arg p l c x w h hU h0 h1 hm hc
    · by_cases hx : x ∈ l
      · exact withO_old p l c x w h hU h0 h1 hm hc hx
      · have := ((mayT_iff l).1 hm).1
        by_cases hl : l.length = 12
        · exact withO_full p l c x w h hU h0 h1 hm hc hx hl
        · exact withO_new p l c x w h hU h0 h1 hm hc hx (by omega)


/-- One cell of a row of the law's own is set. -/
theorem OwnR.set {B : Nat} {w : World} {p : Option Addr} {l : List Int} {c : Nat} (h : OwnR B w p l c) {k : Nat} (hk : k < l.length) :
    ∃ G, p = some ⟨G, 0, none⟩ ∧ w.cell? ⟨G, k, none⟩ = some (.int .u64 (iG l k)) ∧ w.frozen? ⟨G, k, none⟩ = false ∧ ∀ y, OwnR B (w.setCell ⟨G, k, none⟩ (.int .u64 y)) p (l.set k y) c ∧ w.grownBy (w.setCell ⟨G, k, none⟩ (.int .u64 y)) (p.map (·.block)) := by
  rcases h.o.2 with ⟨e, h0⟩ | ⟨G, cap, cur, e, hG, hh, h1, h2, h3, h4⟩
  · omega
  · injection e with e1 e2 e3
    subst e1 e3
    have hc := h.o.cellAt k (by omega)
    have hcur : k < cur.size := by omega
    refine ⟨G, rfl, ?_, by simp [World.frozen?, hh], fun y => ?_⟩
    · rw [hc]; simp [iG, hk]
    · have hh' : (w.setCell ⟨G, k, none⟩ (.int .u64 y)).heap[G]? = some (.cells (cur.setIfInBounds k (.int .u64 y)) 33 (0, 0)) := by
        rw [setCell_eq]; simp [mapBlock, Array.getElem?_modify, hh, onCells]
      refine ⟨⟨⟨by simp, .inr ⟨G, c, _, by simp, hG, hh', by simpa using h1, h2, by simpa using h3, ?_⟩⟩, by simpa using h.n⟩, ?_⟩
      · rw [List.length_set, Nat.mul_one, List.map_set, ← h4, Nat.mul_one]
        rw [Array.toList_setIfInBounds, List.take_set]
      · refine ⟨rfl, rfl, rfl, by rw [setCell_eq]; simp [mapBlock], fun j hj hne => ?_⟩
        have : G ≠ j := fun e => hne (by simp [e])
        rw [setCell_eq]; simp [mapBlock, Array.getElem?_modify, this]
theorem grownBy_trans {a b c : World} {r : Option Nat} (h : a.grownBy b r) (g : b.grownBy c r) : a.grownBy c r :=
  ⟨g.os.trans h.os, g.tape.trans h.tape, g.output.trans h.output, Nat.le_trans h.size g.size, fun k hk hne => (g.block k (Nat.lt_of_lt_of_le hk h.size) hne).trans (h.block k hk hne)⟩
theorem IRow.turned {q : IntKind} {w0 w1 w2 : World} {p r : Option Addr} {l : List Int} (h : IRow q w0.heap.size w0 p l) (hb : Below w0.heap.size w0 w1) (hg : w1.grownBy w2 (r.map (·.block))) (hf : FreshP w0.heap.size r) : IRow q w2.heap.size w2 p l := by
  intro h0
  obtain ⟨b, off, rfl, hN, hc⟩ := h.below hb (Nat.le_refl _) h0
  refine ⟨b, off, rfl, Nat.lt_of_lt_of_le hN (Nat.le_trans hb.size hg.size), fun k hk => ?_⟩
  rw [← hc k hk]
  have e := hg.block b (Nat.lt_of_lt_of_le hN hb.size) (by
    cases r with
    | none => simp
    | some a => have := hf a rfl; simp; omega)
  simp only [World.cell?]
  rw [e]
theorem Row.turned {w0 w1 w2 : World} {p r : Option Addr} {l : List Int} {c : Nat} (h : Row w0 p l c) (hb : Below w0.heap.size w0 w1) (hg : w1.grownBy w2 (r.map (·.block))) (hf : FreshP w0.heap.size r) : Row w2 p l c := ⟨h.i.turned hb hg hf, h.r, h.n, h.a⟩
theorem below_turned {B : Nat} {w w1 w2 : World} {r : Option Addr} (hb : Below B w w1) (hB : B ≤ w1.heap.size) (hg : w1.grownBy w2 (r.map (·.block))) (hf : FreshP B r) : Below B w w2 :=
  hb.grown hg hB (fun k hk => by
    cases r with
    | none => simp at hk
    | some a => have := hf a rfl; simp at hk; omega)
end Go.Proofs.Ytooaghcjlomcpaa
