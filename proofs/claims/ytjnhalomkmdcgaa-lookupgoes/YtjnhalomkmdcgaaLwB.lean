/- The law's own 'own': a lookup in memory of its own. -/
import Derived.Test.YtjnhalomkmdcgaaLuK
import Derived.RangeFuncBox
namespace Go.Proofs.Ytjnhalomkmdcgaa
open Go.RowKit

theorem owns_part {W : World} {B B' s s' n n' : Nat} {e e' : TypeId} {v v' : Value} {xs xs' : List Value} (h : W.ownsRow B e s v n xs) (h' : W.ownsRow B' e' s' v' n' xs') (hne : e ≠ e') : v.ownBlock = none ∨ v.ownBlock ≠ v'.ownBlock := by
  rcases h.2 with ⟨rfl, _⟩ | ⟨g, cap, cur, rfl, _, hg, _⟩
  · exact .inl rfl
  · rcases h'.2 with ⟨rfl, _⟩ | ⟨g', cap', cur', rfl, _, hg', _⟩
    · exact .inr (by simp [Value.ownBlock])
    · refine .inr fun he => ?_
      have : g = g' := by simpa [Value.ownBlock] using he
      subst this
      rw [hg] at hg'; cases hg'; exact hne rfl
def cutE (x : En) : En := (x.1, x.2.1.take 14, x.2.2)
/-- The slots that 'own' keeps. -/
def ownL (L : List En) : List En := (L.take 130).map cutE
theorem ownL_succ {L : List En} {k : Nat} (hk : k < L.length) (h : k < 130) : ownL (L.take (k + 1)) = ownL (L.take k) ++ [cutE (gE L k)] := by
  unfold ownL
  rw [List.take_take, List.take_take, Nat.min_eq_right (by omega), Nat.min_eq_right (by omega), take_succ_gE hk, List.map_append]; rfl
theorem ownL_stay {L : List En} {k : Nat} (h : 130 ≤ k) : ownL (L.take (k + 1)) = ownL (L.take k) := by
  unfold ownL
  rw [List.take_take, List.take_take, Nat.min_eq_left (by omega), Nat.min_eq_left (by omega)]
theorem ownL_len (L : List En) : (ownL L).length ≤ 130 := by unfold ownL; simp; omega
theorem ownL_lb (L : List En) : ∀ k, k < (ownL L).length → (gE (ownL L) k).2.1.length ≤ 14 := by
  intro k hk
  have hm := gE_mem hk
  unfold ownL at hm
  obtain ⟨x, _, e⟩ := List.mem_map.1 hm
  rw [show gE (ownL L) k = cutE x from e.symm]
  unfold cutE; simp; omega
/-- slices.Clone at ids. -/
theorem clone19 (p : Option Addr) (l : List Int) (c : Nat) (w : World) (hS : IRow .u64 w.heap.size w p l) (hU : U64 l) (hn : l.length ≤ 1000) :
    Calls Try.prog 19 #[.slice p l.length c] w fun e w' => ∃ q' c', e = .returned (.slice q' l.length c') ∧ OwT w.heap.size w' q' l c' ∧ Below w.heap.size w w' := by
  refine (clone46o p l c w hS (by omega)).mono ?_
  rintro e w' ⟨v, rfl, ho, hb⟩
  obtain ⟨q, c', rfl, _⟩ := irow_owns ho
  exact ⟨q, c', rfl, ⟨ho, hU⟩, hb⟩
/-- Entries of a call's own, their types in blocks of its own. -/
structure OnE (S : Nat) (X : List Ep) (q : Option Addr) (c : Nat) (W : World) : Prop where
  r : W.ownsRow S 39 3 (.slice q X.length c) X.length (cellsE X)
  o : ∀ x ∈ X, OwT (S + 1) W x.2.1.1 x.2.1.2.1 x.2.1.2.2
theorem OnE.below {S : Nat} {X : List Ep} {q : Option Addr} {c : Nat} {W W' : World} (h : OnE S X q c W) (hb : Below W.heap.size W W') : OnE S X q c W' := ⟨owns_below h.r hb, fun x hx => (h.o x hx).below hb⟩
theorem OnE.nil (S : Nat) (W : World) : OnE S [] none 0 W := ⟨World.ownsRow_nil _ _ _ _, fun x hx => by simp at hx⟩
/-- An entry is laid behind. -/
theorem on_step {S : Nat} {X : List Ep} {q : Option Addr} {c : Nat} {W : World} (h : OnE S X q c W) (hX : X.length ≤ 100000) (hS : S ≤ W.heap.size) (x : Ep) (hO : OwT (S + 1) W x.2.1.1 x.2.1.2.1 x.2.1.2.2) :
    ∃ q' c' w', (Builtin.append_ #[22, 22] 22 #[.slice q X.length c, .slice (some ⟨W.heap.size, 0, none⟩) 1 1]).run Try.prog (W.alloc (.cells #[.int .i64 x.1, .slice x.2.1.1 x.2.1.2.1.length x.2.1.2.2, .int .i64 x.2.2] 39)) = .ok (.slice q' (X.length + 1) c') w' ∧
      OnE S (X ++ [x]) q' c' w' ∧ (W.alloc (.cells #[.int .i64 x.1, .slice x.2.1.1 x.2.1.2.1.length x.2.1.2.2, .int .i64 x.2.2] 39)).grownBy w' (Value.slice q X.length c).ownBlock ∧ Below S W w' := by
  obtain ⟨i0, hi0, hz0, hz1, hz2⟩ := info_parts Try.info39
  obtain ⟨s, ⟨p, l, d⟩, n⟩ := x
  obtain ⟨v', w2, hrun, hown', hgrow, _⟩ := run_append_own (P := Try.prog) (W.alloc (.cells #[.int .i64 s, .slice p l.length d, .int .i64 n] 39)) S 22 22 39 i0 (.agg #[.int .i64 0, .slice none 0 0, .int .i64 0]) 3 40 Try.underlying22 hi0 hz0 hz1 hz2 rfl (by decide) _ X.length _ (h.r.alloc _) ⟨W.heap.size, 0, none⟩ 1 1 (cellsE [(s, (p, l, d), n)]) rfl (by
    intro j u hj
    rw [addr_add, World.cell?_alloc_at _ _ _ _ rfl]
    have hj3 : j < 3 := by have := (List.getElem?_eq_some_iff.1 hj).1; simpa [cellsE] using this
    rcases (show j = 0 ∨ j = 1 ∨ j = 2 by omega) with rfl | rfl | rfl <;> simpa [cellsE] using hj) (cellsE_one _) (by unfold maxLen; omega) (by omega) (by simp; omega)
  obtain ⟨g', cap', rfl⟩ := ownsRow_succ hown'
  refine ⟨_, _, w2, hrun, ⟨?_, fun y hy => ?_⟩, hgrow, ?_⟩
  · rw [cellsE_append, List.length_append]; exact hown'
  · have key : ∀ (q' : Option Addr) (l' : List Int) (c' : Nat), OwT (S + 1) W q' l' c' → OwT (S + 1) w2 q' l' c' := fun q' l' c' ho => by
      have h1 := ho.below ((Below.refl _ _).alloc (Nat.le_refl _) (.cells #[.int .i64 s, .slice p l.length d, .int .i64 n] 39))
      exact ⟨h1.o.kept hgrow (owns_part h1.o (h.r.alloc _) (by decide)), h1.u⟩
    rcases List.mem_append.1 hy with hy | hy
    · exact key _ _ _ (h.o y hy)
    · rw [List.mem_singleton.1 hy]; exact key _ _ _ hO
  · refine ((Below.refl S W).alloc hS _).grown hgrow (by simp; omega) fun j ej => ?_
    rcases h.r.2 with ⟨hn, _⟩ | ⟨g, cap, cur, hn, hb, _, _⟩
    · rw [hn] at ej; simp [Value.ownBlock] at ej
    · rw [hn] at ej
      obtain rfl : g = j := by simpa [Value.ownBlock] using ej
      exact hb
theorem OnE.efr {S : Nat} {X : List Ep} {q : Option Addr} {c : Nat} {W : World} {L : List En} (h : OnE S X q c W) (hX : X.map eOf = L) : ∃ c', c' = c ∧ EFr S W q L c := by
  have hl : L.length = X.length := by rw [← hX, List.length_map]
  exact ⟨c, rfl, X, hX, by rw [hl]; exact h.r, fun x hx => (h.o x hx).base (by omega)⟩
attribute [local go_sem ↓] app_hide
/-- A box that lies beside the row stays. -/
theorem box_grown {S : Nat} {X : List Ep} {q : Option Addr} {c : Nat} {W w' : World} {B : Nat} {t : TypeId} {v : Value} {o : Obj} (h : OnE S X q c W) (hb : Boxed W B t v) (ht : t ≠ 39) (hg : (W.alloc o).grownBy w' (Value.slice q X.length c).ownBlock) : Boxed w' B t v :=
  (hb.alloc o).kept hg (hb.not_row ht h.r)
/-- It stays, where a box beside it is written. -/
theorem OnE.set {S : Nat} {X : List Ep} {q : Option Addr} {c : Nat} {W : World} {B : Nat} {t : TypeId} {v : Value} (h : OnE S X q c W) (hb : Boxed W B t v) (h1 : t ≠ 39) (h2 : t ≠ 41) (u : Value) : OnE S X q c (W.setCell ⟨B, 0, none⟩ u) := by
  refine ⟨h.r.kept (grownBy_setCell' W B u) (.inr (hb.not_row h1 h.r).symm), fun x hx => ⟨(h.o x hx).o.kept (grownBy_setCell' W B u) (.inr (hb.not_row h2 (h.o x hx).o).symm), (h.o x hx).u⟩⟩
/-- One turn of own: what is known behind the call of Clone. -/
theorem own_turn {wr w4 : World} {S : Nat} {X : List Ep} {q qx q4 : Option Addr} {d cx c4 lt : Nat} {s n : Int} {l : List Int} (lk : Nat) (hlk : lk = l.length) (x2 : Boxed wr S 24 (.slice q X.length d)) (hO : OnE S X q d wr) (hX : X.length ≤ 100000)
    (hT : OwT (wr.alloc (.cells #[.int .i64 s, .slice qx lt cx, .int .i64 n] 39)).heap.size w4 q4 l c4) (hb : Below (wr.alloc (.cells #[.int .i64 s, .slice qx lt cx, .int .i64 n] 39)).heap.size (wr.alloc (.cells #[.int .i64 s, .slice qx lt cx, .int .i64 n] 39)) w4) :
    (w4.cell? ⟨wr.heap.size, 1, none⟩ = some (.slice qx lt cx) ∧ w4.frozen? ⟨wr.heap.size, 1, none⟩ = false) ∧
    ((w4.setCell ⟨wr.heap.size, 1, none⟩ (.slice q4 lk c4)).cell? ⟨wr.heap.size, 0, none⟩ = some (.int .i64 s) ∧ (w4.setCell ⟨wr.heap.size, 1, none⟩ (.slice q4 lk c4)).cell? ⟨wr.heap.size, 1, none⟩ = some (.slice q4 lk c4) ∧ (w4.setCell ⟨wr.heap.size, 1, none⟩ (.slice q4 lk c4)).cell? ⟨wr.heap.size, 2, none⟩ = some (.int .i64 n)) ∧
    (w4.setCell ⟨wr.heap.size, 1, none⟩ (.slice q4 lk c4)).cell? ⟨S, 0, none⟩ = some (.slice q X.length d) ∧
    ∃ q5 c5 w6, (Builtin.append_ #[22, 22] 22 #[.slice q X.length d, .slice (some ⟨w4.heap.size, 0, none⟩) 1 1]).run Try.prog ((w4.setCell ⟨wr.heap.size, 1, none⟩ (.slice q4 lk c4)).alloc (.cells #[.int .i64 s, .slice q4 lk c4, .int .i64 n] 39)) = .ok (.slice q5 (X.length + 1) c5) w6 ∧
      w6.cell? ⟨S, 0, none⟩ = some (.slice q X.length d) ∧ w6.frozen? ⟨S, 0, none⟩ = false ∧
      Hid (Boxed (w6.setCell ⟨S, 0, none⟩ (.slice q5 (X.length + 1) c5)) S 24 (.slice q5 (X ++ [(s, (q4, l, c4), n)]).length c5) ∧ OnE S (X ++ [(s, (q4, l, c4), n)]) q5 c5 (w6.setCell ⟨S, 0, none⟩ (.slice q5 (X.length + 1) c5)) ∧ Below S wr (w6.setCell ⟨S, 0, none⟩ (.slice q5 (X.length + 1) c5))) := by
  have hS := x2.lt
  have bal : Below wr.heap.size wr (wr.alloc (.cells #[.int .i64 s, .slice qx lt cx, .int .i64 n] 39)) := (Below.refl _ _).alloc (Nat.le_refl _) _
  have z4 := (hb.block wr.heap.size (by simp)).trans (World.alloc_heap_new wr _)
  obtain ⟨a0, a1, a2, af⟩ := heap3_cell z4
  have z5 := heap_setCell_same w4 wr.heap.size 1 _ 39 (.slice q4 lk c4) z4
  have b5 : Below wr.heap.size wr (w4.setCell ⟨wr.heap.size, 1, none⟩ (.slice q4 lk c4)) := (bal.trans (hb.mono bal.size)).setCell (p := ⟨wr.heap.size, 1, none⟩) (Nat.le_refl _) _
  have hT5 : OwT (wr.heap.size + 1) (w4.setCell ⟨wr.heap.size, 1, none⟩ (.slice q4 lk c4)) q4 l c4 := (hT.base (by simp)).setCell (fun x hx => by have := hT.fresh x hx; simp at this; show x.block ≠ wr.heap.size; omega) _
  obtain ⟨W5, hW5⟩ : ∃ W5, W5 = w4.setCell ⟨wr.heap.size, 1, none⟩ (.slice q4 lk c4) := ⟨_, rfl⟩
  have s5 : w4.heap.size = W5.heap.size := by rw [hW5]; simp
  rw [← hW5] at z5 b5 hT5 ⊢
  rw [s5]
  obtain ⟨e0, e1, e2, _⟩ := heap3_cell (by simpa using z5)
  have x5 : Boxed W5 S 24 (.slice q X.length d) := (b5.block S hS).trans x2
  have hO5 := hO.below b5
  have hs5 := b5.size
  obtain ⟨q5, c5, w6, hrun, h6, hg, hb6⟩ := on_step hO5 hX (by omega) (s, (q4, l, c4), n) (hT5.base (by omega))
  simp only [← hlk] at hrun hg
  have x6 : Boxed w6 S 24 (.slice q X.length d) := box_grown hO5 x5 (by decide) hg
  refine ⟨⟨a1, af 1⟩, ⟨e0, e1, e2⟩, x5.cell, q5, c5, w6, hrun, x6.cell, x6.frozen, ?_, ?_, ?_⟩
  · rw [List.length_append]; exact x6.set _
  · exact h6.set x6 (by decide) (by decide) _
  · exact ((b5.mono (by omega)).trans hb6).setCell (p := ⟨S, 0, none⟩) (Nat.le_refl _) _
set_option maxRecDepth 20000 in
set_option maxHeartbeats 2000000 in
theorem own8 (p : Option Addr) (L : List En) (c : Nat) (w : World) (hE : ERow w.heap.size w p L) (hl : L.length ≤ maxLen) :
    Calls Try.prog 8 #[.agg #[.slice p L.length c]] w fun e w' => ∃ p' c', e = .returned (.agg #[.slice p' (ownL L).length c']) ∧ EFr w.heap.size w' p' (ownL L) c' ∧ Below w.heap.size w w' := by
  unfold maxLen at hl
  have HE := hidOg hE
  obtain ⟨m, hm⟩ : ∃ m, m = L.length := ⟨_, rfl⟩
  have HM := hidOg hm
  rw [← hm] at hl ⊢
  clear hE hm
  go_enter Try.func8, Try.ntmps8
  go_wp2
  obtain ⟨wA, hA⟩ : ∃ wA, wA = ((w.alloc (.cells #[.slice p m c] 24)).alloc (.cells #[.slice none 0 0] 24)).alloc (.cells #[.slice none 0 0] 24) := ⟨_, rfl⟩
  have bA : Below w.heap.size w wA := by rw [hA]; exact (((Below.refl _ _).alloc (Nat.le_refl _) _).alloc (by simp) _).alloc (by simp; omega) _
  have sA : wA.heap.size = w.heap.size + 3 := by rw [hA]; simp
  have xA : Boxed wA (w.heap.size + 1) 24 (.slice none 0 0) := by
    have := (Boxed.new (w.alloc (.cells #[.slice p m c] 24)) 24 (.slice none 0 0)).alloc (.cells #[.slice none 0 0] 24)
    rw [World.size_alloc] at this; rw [hA]; exact this
  have xB : Boxed wA (w.heap.size + 2) 24 (.slice none 0 0) := by
    have := Boxed.new ((w.alloc (.cells #[.slice p m c] 24)).alloc (.cells #[.slice none 0 0] 24)) 24 (.slice none 0 0)
    rw [World.size_alloc, World.size_alloc] at this; rw [hA]; exact this
  rw [← hA]
  clear hA
  go_loopw [9] (fun i wr => ∃ (k : Nat) (X : List Ep) (q : Option Addr) (d : Nat), k ≤ m ∧ i = .int .i64 k ∧ X.map eOf = ownL (L.take k) ∧ Boxed wr (w.heap.size + 1) 24 (.slice none 0 0) ∧ Boxed wr (w.heap.size + 2) 24 (.slice q X.length d) ∧ OnE (w.heap.size + 2) X q d wr ∧ Below w.heap.size w wr) (fun i _ => m - (intOf i).toNat)
  case atStart => exact ⟨0, [], none, 0, Nat.zero_le _, rfl, rfl, xA, xB, OnE.nil _ _, bA⟩
  case round =>
    obtain ⟨k, X, q, d, hk, rfl, hX, x1, x2, hO, hB⟩ := hrel
    have HX := hidOg hX
    have HO := hidOg hO
    have HB := hidOg hB
    have HX1 := hidOg x1
    have HX2 := hidOg x2
    have hXl : X.length ≤ 130 := by
      have : X.length = (ownL (L.take k)).length := by rw [← hX, List.length_map]
      have := ownL_len (L.take k); omega
    have hwr : w.heap.size + 2 < wr.heap.size := x2.lt
    clear hX hO hB x1 x2 xA xB bA sA
    by_cases hlt : k < m
    · obtain ⟨b, off, rfl, hbN, hcs⟩ := HE.out (by have := HM.out; omega)
      obtain ⟨k0, ⟨qx, cx, k1, hTx⟩, k2⟩ := hcs k (by have := HM.out; omega)
      have k0' := (HB.out.cell (p := ⟨b, off + k * 3, none⟩) hbN).trans k0
      have k1' := (HB.out.cell (p := ⟨b, off + k * 3 + 1, none⟩) hbN).trans k1
      have k2' := (HB.out.cell (p := ⟨b, off + k * 3 + 2, none⟩) hbN).trans k2
      have HTx := hidOg hTx
      obtain ⟨y, hy⟩ : ∃ y, y = gE L k := ⟨_, rfl⟩
      have HY := hidOg hy
      rw [← hy] at k0' k1' k2' HTx
      obtain ⟨s', t', n'⟩ := y
      simp only at k0' k1' k2'
      clear hcs k0 k1 k2 hTx hy
      by_cases h130 : k < 130
      · obtain ⟨lk, hlk⟩ : ∃ lk, lk = (t'.take 14).length := ⟨_, rfl⟩
        have hmin : min (t'.length : Int) 14 = (lk : Int) := by rw [hlk]; simp; omega
        have hmin2 : (if 14 < (t'.length : Int) then 14 else (t'.length : Int)) = (lk : Int) := by rw [hlk]; simp; split <;> omega
        have hkc : (lk : Int) ≤ (cx : Int) := by have := HTx.out.r; rw [hlk]; simp only [List.length_take]; simp only at this; omega
        have hk0 : (0 : Int) ≤ (lk : Int) := by omega
        have CC := fun (W : World) (hb : Below w.heap.size w W) => clone19 qx (t'.take 14) cx W (((HTx.out.i.below hb (Nat.le_refl _)).mono hb.size).take 14) (fun x hx => HTx.out.u x (List.mem_of_mem_take hx)) (by simp; omega)
        rw [← hlk] at CC
        have HLK := hidOg hlk
        obtain ⟨lt, hlt'⟩ : ∃ lt, lt = t'.length := ⟨_, rfl⟩
        rw [← hlt'] at k1' hmin hmin2
        have bal : Below wr.heap.size wr (wr.alloc (.cells #[.int .i64 s', .slice qx lt cx, .int .i64 n'] 39)) := (Below.refl _ _).alloc (Nat.le_refl _) _
        have HBal := hidOg bal
        have HBalw := hidOg (HB.out.trans (bal.mono HB.out.size))
        have zA : (wr.alloc (.cells #[.int .i64 s', .slice qx lt cx, .int .i64 n'] 39)).heap[wr.heap.size]? = some (.cells #[.int .i64 s', .slice qx lt cx, .int .i64 n'] 39 (0, 0)) := World.alloc_heap_new wr _
        have HZ := hidOg zA
        clear hlk bal hlt' zA
        go_wp2_with (first | (go_at_call 19; refine Calls.mono (CC _ HBalw.out) ?_; rintro e w4 ⟨q4, c4, rfl, hO4, hb4⟩; obtain ⟨⟨g0, g1⟩, ⟨e0, e1, e2⟩, e3, q5, c5, w6, hrun, e4, e5, hfin⟩ := own_turn lk HLK.out HX2.out HO.out (by omega) hO4 hb4; rw [app_hide] at hrun; clear hO4 hb4))
        go_roundw
        case rel =>
          obtain ⟨r1, r2, r3⟩ := hfin.out
          refine ⟨k + 1, X ++ [(s', (q4, t'.take 14, c4), n')], q5, c5, by omega, by go_num, ?_, (r3.block _ (by omega)).trans HX1.out, r1, r2, HB.out.trans (r3.mono (by omega))⟩
          rw [List.map_append, HX.out, ownL_succ (by rw [← HM.out]; exact hlt) h130, ← HY.out]; rfl
        case measure => simp [intOf]; omega
      · have HXn : Hid (X.map eOf = ownL (L.take (k + 1))) := by unfold Hid; rw [ownL_stay (by omega)]; exact HX.out
        have HBa := hidOg (fun o : Obj => (Below.refl wr.heap.size wr).alloc (Nat.le_refl _) o)
        go_wp2
        go_roundw
        case rel => exact ⟨k + 1, X, q, d, by omega, by go_num, HXn.out, HX1.out.alloc _, HX2.out.alloc _, HO.out.below (HBa.out _), HB.out.trans ((HBa.out _).mono HB.out.size)⟩
        case measure => simp [intOf]; omega
    · obtain rfl : k = m := by omega
      have c1 := HX1.out.cell
      have c2 := HX2.out.cell
      have f1 := HX1.out.frozen
      go_wp2
      have hl0 : X.length = (ownL L).length := by
        have := HX.out
        rw [HM.out, List.take_length] at this
        rw [← this, List.length_map]
      have hfin : EFr (w.heap.size + 2) wr q (ownL L) d := by
        have h0 := HX.out
        rw [HM.out, List.take_length] at h0
        obtain ⟨_, _, h⟩ := HO.out.efr h0
        exact h
      refine bodyPost_ret (v := .agg #[.slice q X.length d]) (by simp [results, Try.results8, go_sem, c1]) rfl ⟨q, d, by rw [hl0], (hfin.setCell (a := ⟨w.heap.size + 1, 0, none⟩) (by simp) _).base (by omega), HB.out.setCell (p := ⟨w.heap.size + 1, 0, none⟩) (by simp) _⟩
end Go.Proofs.Ytjnhalomkmdcgaa
