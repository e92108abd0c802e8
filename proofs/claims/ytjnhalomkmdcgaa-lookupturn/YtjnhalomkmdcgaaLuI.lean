/- Slots laid anew: mathematics; the closure that lays one. -/
import Derived.Test.YtjnhalomkmdcgaaLuH
namespace Go.Proofs.Ytjnhalomkmdcgaa
open Go.RowKit

theorem lb_of_ri {L : List En} (h : RiL hsT mayT L) : LB L := fun k hk => by
  rcases h.ok k hk with ⟨_, h1, _⟩ | ⟨_, h1, _⟩
  · rw [h1]; simp
  · have := ((mayT_iff _).1 h1).1; omega
theorem lay_cong {L T : List En} {m k k' : Nat} (e : (L.take k).filter usB = (L.take k').filter usB) (h : LayI hsT mayT L m k T) : LayI hsT mayT L m k' T := by
  have key : ∀ y : En, (y ∈ L.take k ∧ y.1 = 1) ↔ (y ∈ L.take k' ∧ y.1 = 1) := fun y => by
    have h1 : y ∈ (L.take k).filter usB ↔ y ∈ (L.take k').filter usB := by rw [e]
    simpa [List.mem_filter, usB] using h1
  exact ⟨h.len, h.ri, by rw [← e]; exact h.ta, fun y => (h.mem y).trans (key y), h.st⟩
theorem lay_none {L T : List En} {m k i : Nat} {b : Bool} {t : List Int} (h : LayI hsT mayT L m k T) (hn : ∀ y, y ∈ L.take k → y.1 = 1 → y.2.1 ≠ t) (hs : SkR T t i b) : b = false ∧ i < T.length ∧ (gE T i).1 = 0 ∧ Met hsT T t i ∧ NotIn T t := by
  have hNot : NotIn T t := fun y hy hu => by
    obtain ⟨h1, h2⟩ := (h.mem y).1 ⟨hy, hu⟩
    exact hn y h1 h2
  cases b
  · obtain ⟨hi, hz, hm, hN⟩ := sk_none h.ri hs
    rcases h.st i hi with h0 | h0
    · exact ⟨rfl, hi, h0, hm, hN⟩
    · exact absurd h0 hz
  · obtain ⟨hi, hu, hty, _⟩ := sk_found h.ri hs
    exact absurd hty (hNot _ (gE_mem hi) hu)
theorem lay_step {L T : List En} {m k i : Nat} {b : Bool} (h : LayI hsT mayT L m k T) (hr : RiL hsT mayT L) (hk : k < L.length) (hu : (gE L k).1 = 1) (hm : L.length ≤ m) (hs : SkR T (gE L k).2.1 i b) : LayI hsT mayT L m (k + 1) (T.set i (gE L k)) := by
  obtain ⟨_, hi, hz, hmet, _⟩ := lay_none h (fun y hy hy1 e => by
    obtain ⟨j, hj, ej⟩ := List.getElem_of_mem hy
    have hj' : j < k := by simp at hj; omega
    have e2 : gE L j = y := by rw [gE_eq (by omega), ← ej]; simp
    have := (dt_iff L).1 hr.dt j k (by omega) hk (by rw [e2]; exact hy1) hu (by rw [e2]; exact e)
    omega) hs
  exact h.put hr hk hu hm hi hz hmet
/-- The last one is laid. -/
theorem lay_more {L T : List En} {m i : Nat} {b : Bool} {t : List Int} {n : Int} (h : LayI hsT mayT L m L.length T) (hr : RiL hsT mayT L) (hN : NotIn L t) (ht : mayT t = true) (h0 : 0 ≤ n) (hq : 4 * ((L.filter usB).length + 1) ≤ 3 * m) (hx : (L.filter usB).length + 1 ≤ 4000) (hs : SkR T t i b) :
    RiL hsT mayT (T.set i (1, t, n)) ∧ alL cmpL (T.set i (1, t, n)) = wiL cmpL (alL cmpL L) (1, t, n) := by
  obtain ⟨_, hi, hz, hmet, hNT⟩ := lay_none h (fun y hy hy1 => hN y (List.mem_of_mem_take hy) hy1) hs
  obtain ⟨hal, hta⟩ := h.done isCmp hr
  have hri : RiL hsT mayT (T.set i (1, t, n)) := h.ri.put hi (by rw [hz]; decide) hmet hNT ht h0 (by rw [hta, h.len, if_pos hz]; omega) (by rw [hta, if_pos hz]; omega)
  refine ⟨hri, ?_⟩
  rw [← hal]
  exact alL_put isCmp h.ri.dt hri.dt (fun y hy hu => hNT y hy hu) (put_mem hi (by rw [hz]; decide))
theorem grown_put {W W2 : World} {G o0 o1 o2 : Nat} {u0 u1 u2 : Value} (h : Below W.heap.size W W2) : W.grownBy (((W2.setCell ⟨G, o0, none⟩ u0).setCell ⟨G, o1, none⟩ u1).setCell ⟨G, o2, none⟩ u2) (some G) := by
  have g0 := grownBy_setCellO W2 ⟨G, o0, none⟩ u0
  have g1 := grownBy_setCellO (W2.setCell ⟨G, o0, none⟩ u0) ⟨G, o1, none⟩ u1
  have g2 := grownBy_setCellO ((W2.setCell ⟨G, o0, none⟩ u0).setCell ⟨G, o1, none⟩ u1) ⟨G, o2, none⟩ u2
  refine ⟨(g2.os.trans (g1.os.trans g0.os)).trans h.os, (g2.tape.trans (g1.tape.trans g0.tape)).trans h.tape, (g2.output.trans (g1.output.trans g0.output)).trans h.output, by have := h.size; have := g0.size; have := g1.size; have := g2.size; omega, fun k hk hne => ?_⟩
  have a0 := h.size
  have a1 := g0.size
  have a2 := g1.size
  exact (g2.block k (by omega) hne).trans ((g1.block k (by omega) hne).trans ((g0.block k (by omega) hne).trans (h.block k hk)))
set_option maxRecDepth 20000 in
set_option maxHeartbeats 2000000 in
theorem lay66 (G m Bn : Nat) (X : List Ep) (y : Ep) (W : World) (hG : ERG G m W X) (hBn : Boxed W Bn 22 (.slice (some ⟨G, 0, none⟩) m m)) (hy : TG G W y.2.1.1 y.2.1.2.1 y.2.1.2.2) (hyl : y.2.1.2.1.length ≤ 1000)
    (hB : LB (X.map eOf)) (hst : ST (X.map eOf)) (hf : ∃ k, k < (X.map eOf).length ∧ (gE (X.map eOf) k).1 = 0) (hm : m ≤ 1000000) :
    Calls Try.prog 66 #[.agg #[.int .i64 y.1, .slice y.2.1.1 y.2.1.2.1.length y.2.1.2.2, .int .i64 y.2.2], .pointer (some ⟨Bn, 0, none⟩)] W fun e W' => e = .returned (.tuple #[]) ∧
      ∃ i b, SkR (X.map eOf) y.2.1.2.1 i b ∧ ERG G m W' (X.set i y) ∧ W.grownBy W' (some G) := by
  obtain ⟨s, ⟨q, t, d⟩, n⟩ := y
  simp only at hy hyl ⊢
  have lX : (X.map eOf).length = m := by rw [List.length_map, hG.n]
  have CS := fun (W2 : World) (hb : Below W.heap.size W W2) => seek40 (some ⟨G, 0, none⟩) (X.map eOf) m q t d W2 (hG.row.to hb) ((hy.t.below hb (Nat.le_refl _)).mono hb.size) (by obtain ⟨k, hk, _⟩ := hf; omega) (by omega) hB hyl hst hf
  rw [lX] at CS
  obtain ⟨wA, hA⟩ : ∃ wA, wA = W.alloc (.cells #[.int .i64 s, .slice q t.length d, .int .i64 n] 39) := ⟨_, rfl⟩
  have bA : Below W.heap.size W wA := by rw [hA]; exact (Below.refl _ _).alloc (Nat.le_refl _) _
  have sA : wA.heap.size = W.heap.size + 1 := by rw [hA]; simp
  have zA : wA.heap[W.heap.size]? = some (.cells #[.int .i64 s, .slice q t.length d, .int .i64 n] 39 (0, 0)) := by rw [hA]; exact World.alloc_heap_new W _
  have cn : wA.cell? ⟨Bn, 0, none⟩ = some (.slice (some ⟨G, 0, none⟩) m m) := (bA.cell (p := ⟨Bn, 0, none⟩) hBn.lt).trans hBn.cell
  have KEY : Hid (∀ W2 : World, Below wA.heap.size wA W2 → ∀ (i : Nat) (b : Bool), SkR (X.map eOf) t i b → i < m ∧ Below W.heap.size W W2 ∧ ERG G m W2 X ∧ TG G W2 q t d ∧ W2.cell? ⟨Bn, 0, none⟩ = some (.slice (some ⟨G, 0, none⟩) m m) ∧ W2.heap[W.heap.size]? = some (.cells #[.int .i64 s, .slice q t.length d, .int .i64 n] 39 (0, 0))) := fun W2 hb i b hs => by
    have h1 := bA.trans (hb.mono bA.size)
    have hlt := hBn.lt
    exact ⟨by have := hs.1; omega, h1, hG.below h1, hy.below h1, (hb.cell (p := ⟨Bn, 0, none⟩) (by simp; omega)).trans cn, (hb.block _ (by omega)).trans zA⟩
  obtain ⟨a0, a1, a2, _⟩ := heap3_cell zA
  obtain ⟨lt, hlt⟩ : ∃ lt, lt = t.length := ⟨_, rfl⟩
  have HLT := hidOg hlt
  rw [← hlt] at CS hA a1 KEY ⊢
  clear hG hBn hy hyl hB hst hf lX zA hlt
  have bA' := hidOg bA
  have cnL := cn
  rw [hA] at cnL
  go_enter Try.func66, Try.ntmps66
  go_wp2_with (first | (go_at_call 40; rw [← hA]; refine Calls.mono (CS _ bA'.out) ?_; rintro e W2 ⟨i, b, rfl, hsk, hb2⟩; obtain ⟨hi, hB2, hG2, hT2, cn2, z2⟩ := KEY.out W2 hb2 i b hsk; obtain ⟨y0, y1, y2, _⟩ := heap3_cell z2; obtain ⟨g0, g1, g2, gf⟩ := hG2.cells hi; have HSK := hidOg hsk; have HB2 := hidOg hB2; have HG2 := hidOg hG2; have HT2 := hidOg hT2; clear hb2 hsk hB2 hG2 hT2 z2))
  go_end0
  refine ⟨rfl, i, b, HSK.out, ?_, grown_put HB2.out⟩
  rw [HLT.out]
  exact HG2.out.put i (s, (q, t, d), n) HT2.out
end Go.Proofs.Ytjnhalomkmdcgaa
