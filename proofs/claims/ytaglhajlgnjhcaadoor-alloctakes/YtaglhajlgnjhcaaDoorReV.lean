/- Same, of the program and of the document's answer; the document's New. -/
import Derived.Test.YtaglhajlgnjhcaaDoorReD
namespace Go.Proofs.YtaglhajlgnjhcaaDoor
open Go.RowKit

theorem bx2 {w w1 : World} {x y z x' y' z' : Value} (hb : Below ((w.alloc (.cells #[x, y, z] 25)).alloc (.cells #[x', y', z'] 25)).heap.size ((w.alloc (.cells #[x, y, z] 25)).alloc (.cells #[x', y', z'] 25)) w1) :
    (w1.cell? ⟨w.heap.size, 0, none⟩ = some x ∧ w1.cell? ⟨w.heap.size, 1, none⟩ = some y ∧ w1.cell? ⟨w.heap.size, 2, none⟩ = some z) ∧ (w1.cell? ⟨w.heap.size + 1, 0, none⟩ = some x' ∧ w1.cell? ⟨w.heap.size + 1, 1, none⟩ = some y' ∧ w1.cell? ⟨w.heap.size + 1, 2, none⟩ = some z') ∧ w.heap.size + 1 < w1.heap.size := by
  obtain ⟨h1, h2, h3⟩ := bx3 hb
  obtain ⟨a, b, c, _, _⟩ := cells3 h2
  exact ⟨h1, ⟨a, b, c⟩, h3⟩

set_option maxRecDepth 20000 in
set_option maxHeartbeats 2000000 in
theorem same13 (m m' : Int) (c d c' d' : Nat) (w : World) (p p' : Option Addr) (l l' : List (Int × Bool)) (q q' : Option Addr) (f f' : List Int) (h : AIn w p l q f) (h' : AIn w p' l' q' f') :
    Calls Tryd.prog 13 #[.agg #[.int .i64 m, .slice p l.length c, .slice q f.length d], .agg #[.int .i64 m', .slice p' l'.length c', .slice q' f'.length d']] w fun e w' => e = .returned (.bool (sameB m l f m' l' f')) ∧ Below w.heap.size w w' := by
  have CS := fun (o o' : Obj) => equal37 p l c p' l' c' ((w.alloc o).alloc o') ((h.alloc o).alloc o').s ((h'.alloc o).alloc o').s h.ln
  have CI := fun (w1 : World) (hb : Below w.heap.size w w1) => equal38 q f d q' f' d' w1 (h.below hb).i (h'.below hb).i h.fn
  obtain ⟨v, hv⟩ : ∃ v, v = sameB m l f m' l' f' := ⟨_, rfl⟩
  rw [← hv]
  have HV : Hid (v = (decide (m = m') && (samS l l' && samI f f'))) := hv
  clear hv h h'
  obtain ⟨s, hs⟩ : ∃ s, s = samS l l' := ⟨_, rfl⟩
  obtain ⟨t, ht⟩ : ∃ t, t = samI f f' := ⟨_, rfl⟩
  rw [← hs] at CS HV
  rw [← ht] at CI HV
  clear hs ht
  by_cases hm : m = m'
  · subst hm
    cases s
    · go_enter Tryd.func13, Tryd.ntmps13
      go_wp2_with (first | (go_at_call 37; refine Calls.mono (CS _ _) ?_; rintro e w1 ⟨rfl, hb1⟩))
      go_ret
      exact ⟨ret_bool (by rw [HV.out]; simp), below2 hb1⟩
    · go_enter Tryd.func13, Tryd.ntmps13
      go_wp2_with (first | (go_at_call 37; refine Calls.mono (CS _ _) ?_; rintro e w1 ⟨rfl, hb1⟩; obtain ⟨⟨a0, a1, a2⟩, ⟨b0, b1, b2⟩, hz⟩ := bx2 hb1; have HB1 : Hid (Below w.heap.size w w1) := below2 hb1; clear hb1) | (go_at_call 38; refine Calls.mono (CI _ HB1.out) ?_; rintro e w2 ⟨rfl, hb2⟩))
      go_ret
      exact ⟨ret_bool (by rw [HV.out]; simp), HB1.out.trans (hb2.mono HB1.out.size)⟩
  · have hd : (m == m') = false := by simpa using hm
    have HM : Hid (decide (m = m') = false) := decide_eq_false hm
    go_enter Tryd.func13, Tryd.ntmps13
    go_wp2
    go_ret
    exact ⟨ret_bool (by rw [HV.out, HM.out]; rfl), ((Below.refl _ _).alloc (Nat.le_refl _) _).alloc (by simp) _⟩

theorem refNew16 (m : Int) (w : World) :
    Calls Tryd.prog 16 #[.int .i64 m] w fun e w' => ∃ G, e = .returned (.agg #[.int .i64 m, .slice (some ⟨G, 0, none⟩) 2 2, .slice none 0 0]) ∧ w.heap.size ≤ G ∧ SRow w'.heap.size w' (some ⟨G, 0, none⟩) [(0, true), (0, true)] ∧ Below w.heap.size w w' := by
  go_enter Tryd.func16, Tryd.ntmps16
  go_wp2
  exact bodyPost_ret (v := .agg #[.int .i64 m, .slice (some ⟨w.heap.size + 1, 0, none⟩) 2 2, .slice none 0 0]) (by simp [results, Tryd.results16, go_sem]) rfl ⟨w.heap.size + 1, rfl, by omega, srow_heap (l := [(0, true), (0, true)]) (t := 61) (heap_at (by simp)), ((Below.refl _ _).alloc (Nat.le_refl _) _).alloc (by simp) _⟩
end Go.Proofs.YtaglhajlgnjhcaaDoor
/- The document's answer: Same. -/
namespace Go.Proofs.YtaglhajlgnjhcaaDoor
open Go.RowKit

/-- Two boxed arguments lie at w's end in W. -/
structure Tw (w W : World) (x y z x' y' z' : Value) : Prop where
  a : W.heap[w.heap.size]? = some (.cells #[x, y, z] 25 (0, 0))
  r : W.heap[w.heap.size + 1]? = some (.cells #[x', y', z'] 25 (0, 0))
  b : Below w.heap.size w W
theorem Tw.start (w : World) (x y z x' y' z' : Value) : Tw w ((w.alloc (.cells #[x, y, z] 25)).alloc (.cells #[x', y', z'] 25)) x y z x' y' z' :=
  ⟨(heap_alloc_old (by simp)).trans (heap_alloc_new w _), by have := heap_alloc_new (w.alloc (.cells #[x, y, z] 25)) (.cells #[x', y', z'] 25); rw [World.size_alloc] at this; exact this, ((Below.refl _ _).alloc (Nat.le_refl _) _).alloc (by simp) _⟩
theorem Tw.below {w W W' : World} {x y z x' y' z' : Value} (h : Tw w W x y z x' y' z') (hb : Below W.heap.size W W') : Tw w W' x y z x' y' z' :=
  ⟨atW hb h.a, atW hb h.r, h.b.trans (hb.mono h.b.size)⟩
theorem Tw.alloc {w W : World} {x y z x' y' z' : Value} (h : Tw w W x y z x' y' z') (o : Obj) : Tw w (W.alloc o) x y z x' y' z' := h.below ((Below.refl _ _).alloc (Nat.le_refl _) _)

theorem sameB_m {m m' : Int} {l l' : List (Int × Bool)} {f f' : List Int} (h : ¬ m = m') : sameB m l f m' l' f' = false := by unfold sameB; rw [decide_eq_false h]; rfl
theorem sameB_l {m m' : Int} {l l' : List (Int × Bool)} {f f' : List Int} (h : ¬ l.length = l'.length) : sameB m l f m' l' f' = false := by unfold sameB samS; rw [decide_eq_false h]; simp
theorem sameB_f {m m' : Int} {l l' : List (Int × Bool)} {f f' : List Int} (h : ¬ f.length = f'.length) : sameB m l f m' l' f' = false := by unfold sameB samI; rw [decide_eq_false h]; simp

set_option maxRecDepth 20000 in
set_option maxHeartbeats 2000000 in
theorem rsame_size (m m' : Int) (n k c d n' k' c' d' : Nat) (w : World) (p p' q q' : Option Addr) (h : ¬ m = m' ∨ (m = m' ∧ ¬ n = n') ∨ (m = m' ∧ n = n' ∧ ¬ k = k')) :
    Calls Tryd.prog 14 #[.agg #[.int .i64 m, .slice p n c, .slice q k d], .agg #[.int .i64 m', .slice p' n' c', .slice q' k' d']] w fun e w' => e = .returned (.bool false) ∧ Below w.heap.size w w' := by
  rcases h with h | ⟨rfl, h⟩ | ⟨rfl, rfl, h⟩
  · have hd : (m == m') = false := by simpa using h
    go_enter Tryd.func14, Tryd.ntmps14
    go_wp2
    go_ret
    exact ⟨rfl, (Tw.start w _ _ _ _ _ _).b⟩
  · have h' : ¬ ((n : Int) = (n' : Int)) := by omega
    clear h
    go_enter Tryd.func14, Tryd.ntmps14
    go_wp2
    go_ret
    exact ⟨rfl, (Tw.start w _ _ _ _ _ _).b⟩
  · have h' : ¬ ((k : Int) = (k' : Int)) := by omega
    clear h
    go_enter Tryd.func14, Tryd.ntmps14
    go_wp2
    go_ret
    exact ⟨rfl, (Tw.start w _ _ _ _ _ _).b⟩

set_option maxRecDepth 20000 in
set_option maxHeartbeats 8000000 in
theorem rsame_rows (m : Int) (n k c d c' d' : Nat) (w : World) (p p' q q' : Option Addr) (l l' : List (Int × Bool)) (f f' : List Int) (hn : n = l.length) (hn' : n = l'.length) (hk : k = f.length) (hk' : k = f'.length) (h : AIn w p l q f) (h' : AIn w p' l' q' f') :
    Calls Tryd.prog 14 #[.agg #[.int .i64 m, .slice p n c, .slice q k d], .agg #[.int .i64 m, .slice p' n c', .slice q' k d']] w fun e w' => e = .returned (.bool (eqS l l' n && eqI f f' k)) ∧ Below w.heap.size w w' := by
  obtain ⟨v, hv⟩ : ∃ v, v = (eqS l l' n && eqI f f' k) := ⟨_, rfl⟩
  rw [← hv]
  have HV : Hid (v = (eqS l l' n && eqI f f' k)) := hv
  have l1 : n ≤ 8796093022208 := by rw [hn]; exact h.ln
  have l2 : k ≤ 8796093022208 := by rw [hk]; exact h.fn
  have HN : Hid (n = l.length) := hn
  have HN' : Hid (n = l'.length) := hn'
  have HK : Hid (k = f.length) := hk
  have HK' : Hid (k = f'.length) := hk'
  have HH : Hid (AIn w p l q f) := h
  have HH' : Hid (AIn w p' l' q' f') := h'
  clear hv hn hn' hk hk' h h'
  have T0 : Hid _ := Tw.start w (.int .i64 m) (.slice p n c) (.slice q k d) (.int .i64 m) (.slice p' n c') (.slice q' k d')
  go_enter Tryd.func14, Tryd.ntmps14
  go_wp2
  go_loopw [35] (fun i wr => ∃ j : Nat, j ≤ n ∧ i = .int .i64 j ∧ (∀ x, x < j → sG l x = sG l' x ∧ sA l x = sA l' x) ∧ Tw w wr (.int .i64 m) (.slice p n c) (.slice q k d) (.int .i64 m) (.slice p' n c') (.slice q' k d')) (fun i _ => n - (intOf i).toNat)
  case atStart => exact ⟨0, Nat.zero_le _, rfl, fun j h => by omega, T0.out⟩
  case round =>
    obtain ⟨j, hj, rfl, hall, ht⟩ := hrel
    have HA : Hid (∀ x, x < j → sG l x = sG l' x ∧ sA l x = sA l' x) := hall
    have HT : Hid _ := ht
    obtain ⟨a0, a1, a2, _, az⟩ := cells3 ht.a
    obtain ⟨b0, b1, b2, _, bz⟩ := cells3 ht.r
    clear hall ht
    by_cases hj' : j < n
    · obtain ⟨b, off, rfl, hbB, hcs⟩ := (HH.out.below HT.out.b).s (by have := HN.out; omega)
      obtain ⟨c0, c1⟩ := hcs j (by have := HN.out; omega)
      obtain ⟨b', off', rfl, hbB', hcs'⟩ := (HH'.out.below HT.out.b).s (by have := HN'.out; omega)
      obtain ⟨c0', c1'⟩ := hcs' j (by have := HN'.out; omega)
      clear hcs hcs'
      obtain ⟨x, hx⟩ : ∃ x, x = sG l j := ⟨_, rfl⟩
      obtain ⟨y, hy⟩ : ∃ y, y = sG l' j := ⟨_, rfl⟩
      obtain ⟨s, hs⟩ : ∃ s, s = sA l j := ⟨_, rfl⟩
      obtain ⟨t, ht⟩ : ∃ t, t = sA l' j := ⟨_, rfl⟩
      rw [← hx] at c0
      rw [← hs] at c1
      rw [← hy] at c0'
      rw [← ht] at c1'
      have HX : Hid (x = sG l j) := hx
      have HY : Hid (y = sG l' j) := hy
      have H1 : Hid (s = sA l j) := hs
      have H2 : Hid (t = sA l' j) := ht
      clear hx hy hs ht
      have hc : (x = y ∧ s = t) ∨ ¬ x = y ∨ (x = y ∧ s = false ∧ t = true) ∨ (x = y ∧ s = true ∧ t = false) := by
        cases s <;> cases t <;> simp <;> omega
      rcases hc with ⟨rfl, rfl⟩ | hxy | ⟨rfl, rfl, rfl⟩ | ⟨rfl, rfl, rfl⟩
      · go_wp2
        go_region
        go_wp2
        go_roundw
        case rel => exact ⟨j + 1, by omega, by go_num, fun x hx => (by by_cases e : x = j; { subst e; rw [← HX.out, ← HY.out, ← H1.out, ← H2.out]; exact ⟨rfl, rfl⟩ }; { exact HA.out x (by omega) }), (HT.out.alloc _).below (below_drewN' (Below.refl _ _) _)⟩
        case measure => simp [intOf]; omega
      · have hd : (x == y) = false := by simpa using hxy
        go_wp2
        go_region
        go_wp2
        go_ret
        exact ⟨ret_bool (by rw [HV.out, eqS_false j hj' (by rw [← HX.out, ← HY.out]; exact fun h => hxy h.1)]; rfl), below_drewN' (HT.out.alloc _).b _⟩
      all_goals
        go_wp2
        go_region
        go_wp2
        go_ret
        exact ⟨ret_bool (by rw [HV.out, eqS_false j hj' (by rw [← H1.out, ← H2.out]; exact fun h => (by have := h.2; cases this))]; rfl), below_drewN' (HT.out.alloc _).b _⟩
    · obtain rfl : n = j := by omega
      have HE : Hid (v = eqI f f' k) := (by unfold Hid; rw [HV.out, (eqS_iff _ _ _).2 HA.out]; rfl)
      clear HA HV
      go_wp2
      go_loopw [51] (fun i wr => ∃ j : Nat, j ≤ k ∧ i = .int .i64 j ∧ (∀ x, x < j → iG f x = iG f' x) ∧ Tw w wr (.int .i64 m) (.slice p n c) (.slice q k d) (.int .i64 m) (.slice p' n c') (.slice q' k d')) (fun i _ => k - (intOf i).toNat)
      case atStart => exact ⟨0, Nat.zero_le _, rfl, fun j h => by omega, HT.out⟩
      case round =>
        obtain ⟨j, hj, rfl, hall, ht⟩ := hrel
        have HA : Hid (∀ x, x < j → iG f x = iG f' x) := hall
        have HT2 : Hid _ := ht
        obtain ⟨a0, a1, a2, _, az⟩ := cells3 ht.a
        obtain ⟨b0, b1, b2, _, bz⟩ := cells3 ht.r
        clear hall ht
        by_cases hj' : j < k
        · obtain ⟨b, off, rfl, hbB, hcs⟩ := (HH.out.below HT2.out.b).i (by have := HK.out; omega)
          have c0 := hcs j (by have := HK.out; omega)
          obtain ⟨b', off', rfl, hbB', hcs'⟩ := (HH'.out.below HT2.out.b).i (by have := HK'.out; omega)
          have c0' := hcs' j (by have := HK'.out; omega)
          clear hcs hcs'
          obtain ⟨x, hx⟩ : ∃ x, x = iG f j := ⟨_, rfl⟩
          obtain ⟨y, hy⟩ : ∃ y, y = iG f' j := ⟨_, rfl⟩
          rw [← hx] at c0
          rw [← hy] at c0'
          have HX : Hid (x = iG f j) := hx
          have HY : Hid (y = iG f' j) := hy
          clear hx hy
          by_cases hxy : x = y
          · subst hxy
            go_wp2
            go_roundw
            case rel => exact ⟨j + 1, by omega, by go_num, fun x hx => (by by_cases e : x = j; { subst e; rw [← HX.out, ← HY.out] }; { exact HA.out x (by omega) }), HT2.out⟩
            case measure => simp [intOf]; omega
          · have hd : (x == y) = false := by simpa using hxy
            go_wp2
            go_ret
            exact ⟨ret_bool (by rw [HE.out, eqI_false j hj' (by rw [← HX.out, ← HY.out]; exact hxy)]), HT2.out.b⟩
        · obtain rfl : j = k := by omega
          go_wp2
          go_ret
          exact ⟨ret_bool (by rw [HE.out, (eqI_iff _ _ _).2 HA.out]), HT2.out.b⟩

theorem refSame14 (m m' : Int) (c d c' d' : Nat) (w : World) (p p' : Option Addr) (l l' : List (Int × Bool)) (q q' : Option Addr) (f f' : List Int) (h : AIn w p l q f) (h' : AIn w p' l' q' f') :
    Calls Tryd.prog 14 #[.agg #[.int .i64 m, .slice p l.length c, .slice q f.length d], .agg #[.int .i64 m', .slice p' l'.length c', .slice q' f'.length d']] w fun e w' => e = .returned (.bool (sameB m l f m' l' f')) ∧ Below w.heap.size w w' := by
  by_cases hm : m = m'
  · subst hm
    by_cases hl : l.length = l'.length
    · by_cases hf : f.length = f'.length
      · have := rsame_rows m l.length f.length c d c' d' w p p' q q' l l' f f' rfl hl rfl hf h h'
        rw [hl, hf] at this
        refine Calls.mono (show Calls Tryd.prog 14 #[.agg #[.int .i64 m, .slice p l.length c, .slice q f.length d], .agg #[.int .i64 m, .slice p' l'.length c', .slice q' f'.length d']] w _ by rw [hl, hf]; exact this) ?_
        rintro e w' ⟨rfl, hb⟩
        exact ⟨ret_bool (by unfold sameB samS samI; rw [decide_eq_true hl, decide_eq_true hf, hl, hf]; simp), hb⟩
      · refine (rsame_size m m _ _ c d _ _ c' d' w p p' q q' (.inr (.inr ⟨rfl, hl, hf⟩))).mono ?_
        rintro e w' ⟨rfl, hb⟩
        exact ⟨ret_bool (sameB_f hf).symm, hb⟩
    · refine (rsame_size m m _ _ c d _ _ c' d' w p p' q q' (.inr (.inl ⟨rfl, hl⟩))).mono ?_
      rintro e w' ⟨rfl, hb⟩
      exact ⟨ret_bool (sameB_l hl).symm, hb⟩
  · refine (rsame_size m m' _ _ c d _ _ c' d' w p p' q q' (.inl hm)).mono ?_
    rintro e w' ⟨rfl, hb⟩
    exact ⟨ret_bool (sameB_m hm).symm, hb⟩
end Go.Proofs.YtaglhajlgnjhcaaDoor
