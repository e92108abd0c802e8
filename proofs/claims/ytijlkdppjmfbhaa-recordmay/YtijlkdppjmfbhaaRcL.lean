/- record: Put. -/
import Derived.Test.YtijlkdppjmfbhaaRcJ
import Derived.Test.YtijlkdppjmfbhaaRcK
namespace Go.Proofs.Ytijlkdppjmfbhaa
open Go.RowKit Go.Sort Go.Maps

theorem set1_heap {W : World} {B : Nat} {a : Value} {t : TypeId} (h : W.heap[B]? = some (.cells #[a] t (0, 0))) (x : Value) : (W.setCell ⟨B, 0, none⟩ x).heap[B]? = some (.cells #[x] t (0, 0)) := by
  simp [setCell_eq, mapBlock, Array.getElem?_modify, h, onCells]
theorem set1_size (W : World) (B : Nat) (x : Value) : (W.setCell ⟨B, 0, none⟩ x).heap.size = W.heap.size := by simp [setCell_eq, mapBlock]
theorem castS (k : Nat) : (((k + 1 : Nat)) : Int) = (k : Int) + 1 := by push_cast; rfl
theorem chP (I S : Nat) (p : Option Addr) (l : List Sp) (c k : Nat) (s : Sp) (w : World) (hE : SRow w.heap.size w p l) (hl : l.length ≤ 1099511627776) (hk : k < 1048578) (hI : w.heap[I]? = some (.cells #[.int .i64 ((k : Int) + 1)] 3)) (hS : w.heap[S]? = some (.cells #[.int .i64 s.1, .int .i64 s.2] 34)) :
    Calls Try.prog 46 #[.agg #[.slice p l.length c], .int .i64 ((k : Int) + 1), .func (.func 47) #[] #[.pointer (some ⟨S, 0, none⟩), .pointer (some ⟨I, 0, none⟩)]] w fun e w' => ∃ q d, e = .returned (.agg #[.slice q (cutL ((extS l (k + 1)).set k s)).length d]) ∧ GvS w.heap.size w' q (cutL ((extS l (k + 1)).set k s)) d ∧ Below w.heap.size w w' := by
  rw [← castS]
  exact changedP p l c (k + 1) S I ((extS l (k + 1)).set k s) w hE hl (by omega) (by omega) (by simp) (fun W hb hB => putc47 _ S I _ k s _ W hB rfl (by rw [extS_len]; omega) (by omega) (atW hb hS) (cell1_heap (atW hb hI)))
theorem chD (I : Nat) (p : Option Addr) (l : List Sp) (c k : Nat) (w : World) (hE : SRow w.heap.size w p l) (hl : l.length ≤ 1099511627776) (hk : k < 1048578) (hI : w.heap[I]? = some (.cells #[.int .i64 ((k : Int) + 1)] 3)) :
    Calls Try.prog 46 #[.agg #[.slice p l.length c], .int .i64 ((k : Int) + 1), .func (.func 50) #[] #[.pointer (some ⟨I, 0, none⟩)]] w fun e w' => ∃ q d, e = .returned (.agg #[.slice q (cutL ((extS l (k + 1)).set k (0, 0))).length d]) ∧ GvS w.heap.size w' q (cutL ((extS l (k + 1)).set k (0, 0))) d ∧ Below w.heap.size w w' := by
  rw [← castS]
  exact changedD p l c (k + 1) I ((extS l (k + 1)).set k (0, 0)) w hE hl (by omega) (by omega) (by simp) (fun W hb hB => dropc50 _ I _ k _ W hB rfl (by rw [extS_len]; omega) (by omega) (cell1_heap (atW hb hI)))
theorem chS (S F I : Nat) (p : Option Addr) (l : List Sp) (c k j : Nat) (s : Sp) (w : World) (hE : SRow w.heap.size w p l) (hl : l.length ≤ 1099511627776) (hk : k < 1048578) (hj : j < max l.length (k + 1)) (hI : w.heap[I]? = some (.cells #[.int .i64 ((k : Int) + 1)] 3)) (hF : w.heap[F]? = some (.cells #[.int .i64 ((j : Int) + 1)] 3)) (hS : w.heap[S]? = some (.cells #[.int .i64 s.1, .int .i64 s.2] 34)) :
    Calls Try.prog 46 #[.agg #[.slice p l.length c], .int .i64 ((k : Int) + 1), .func (.func 53) #[] #[.pointer (some ⟨S, 0, none⟩), .pointer (some ⟨F, 0, none⟩), .pointer (some ⟨I, 0, none⟩)]] w fun e w' => ∃ q d, e = .returned (.agg #[.slice q (cutL (((extS l (k + 1)).set j s).set k (0, 0))).length d]) ∧ GvS w.heap.size w' q (cutL (((extS l (k + 1)).set j s).set k (0, 0))) d ∧ Below w.heap.size w w' := by
  rw [← castS]
  have hlt := (Array.getElem?_eq_some_iff.1 hI).1
  exact changedS p l c (k + 1) S F I (((extS l (k + 1)).set j s).set k (0, 0)) w hE hl (by omega) (by omega) (by simp) (fun W hb hB => swapc53 _ S F I _ k j s _ W hB rfl (by rw [extS_len]; omega) (by omega) (by rw [extS_len]; exact hj) (by omega) (atW hb hS) (cell1_heap (atW hb hF)) (cell1_heap (atW hb hI)) (by omega))
/-- Records that a call gives, and an error. -/
def AnsG (X : List Sp) (er : Int) (w : World) (e : Ending) (w' : World) : Prop := ∃ q d, e = .returned (.tuple #[.agg #[.slice q X.length d], .int .i64 er]) ∧ GvS w.heap.size w' q X d ∧ Below w.heap.size w w'
def puA (l : List Sp) (i : Int) (s : Sp) : List Sp × Int :=
  if i < 1 ∨ 1048578 < i ∨ plB s = false then ([], 2) else if whF l (plN l l.length) s ≠ 0 ∧ whF l (plN l l.length) s ≠ i then ([], 5) else (cutL ((extS l i.toNat).set (i.toNat - 1) s), 0)
theorem AnsG.no {w w' : World} {er : Int} (h : Below w.heap.size w w') : AnsG [] er w (.returned (.tuple #[.agg #[.slice none 0 0], .int .i64 er])) w' := ⟨none, 0, rfl, GvS.nil _ _ _ _, h⟩
theorem drewB {w0 w : World} {B : Nat} (h : Below B w0 w) : Below B w0 w.drew := h.drew
set_option maxHeartbeats 2000000 in
theorem put44 (I S R b n m : Nat) (p : Option Addr) (l : List Sp) (c : Nat) (i : Int) (s : Sp) (w : World) (hE : SRow w.heap.size w p l) (hl : l.length ≤ 1099511627776) (hs : wfS s) (hM : MapS w b n m (whF l (plN l l.length))) (hR : w.heap[R]? = some (.cells #[.slice p l.length c] 24)) (hI : w.heap[I]? = some (.cells #[.int .i64 i] 3)) (hS : w.heap[S]? = some (.cells #[.int .i64 s.1, .int .i64 s.2] 34)) :
    Calls Try.prog 44 #[.map (some b), .pointer (some ⟨I, 0, none⟩), .pointer (some ⟨S, 0, none⟩), .pointer (some ⟨R, 0, none⟩)] w fun e w' => AnsG (puA l i s).1 (puA l i s).2 w e w' := by
  have hb0 := bal w (.cells #[.slice none 0 0] 24)
  have HB0 := hidOg hb0
  have HN := hidOg (blk1 (W := w) (o := .cells #[.slice none 0 0] 24))
  have i0 := cell1_heap (atW hb0 hI)
  obtain ⟨s0, s1, _⟩ := cell2_heap (atW hb0 hS)
  have CI := fun (Z : World) => isPlace45 s.1 s.2 Z
  by_cases h1 : i < 1
  · have E : Hid (puA l i s = ([], 2)) := if_pos (.inl h1)
    rw [E.out]
    have d1 : decide (i < 1) = true := decide_eq_true h1
    have z0 := cell1_heap HN.out
    clear hE hs hM hR hI hS hb0 CI
    go_enter Try.func44, Try.ntmps44
    go_wp2
    exact bodyPost_ret (v := .tuple #[.agg #[.slice none 0 0], .int .i64 2]) (by simp [results, Try.results44, go_sem]) rfl (AnsG.no HB0.out)
  · have d1 : decide (i < 1) = false := decide_eq_false h1
    by_cases h2 : 1048578 < i
    · have E : Hid (puA l i s = ([], 2)) := if_pos (.inr (.inl h2))
      rw [E.out]
      have d2 : decide (1048578 < i) = true := decide_eq_true h2
      clear hE hs hM hR hI hS hb0 CI
      go_enter Try.func44, Try.ntmps44
      go_wp2
      exact bodyPost_ret (v := .tuple #[.agg #[.slice none 0 0], .int .i64 2]) (by simp [results, Try.results44, go_sem]) rfl (AnsG.no HB0.out)
    · have d2 : decide (1048578 < i) = false := decide_eq_false h2
      by_cases h3 : plB s = true
      · obtain ⟨k, rfl⟩ : ∃ k : Nat, i = (k : Int) + 1 := ⟨(i - 1).toNat, by omega⟩
        have hk : k < 1048578 := by omega
        have CH := fun (W : World) (hb : Below w.heap.size w W) => chP I S p l c k s W (hE.to hb) hl hk (atW hb hI) (atW hb hS)
        have e3 : plB (s.1, s.2) = true := h3
        rw [e3] at CI
        have HA : Hid (puA l ((k : Int) + 1) s = if whF l (plN l l.length) s ≠ 0 ∧ whF l (plN l l.length) s ≠ (k : Int) + 1 then ([], 5) else (cutL ((extS l (k + 1)).set k s), 0)) := by
          unfold Hid puA
          have hk1 : ((k : Int) + 1).toNat = k + 1 := by omega
          rw [if_neg (fun h => h.elim h1 (fun h => h.elim h2 (fun h => by rw [h3] at h; cases h))), hk1, Nat.add_sub_cancel]
        obtain ⟨u, hu⟩ : ∃ u, u = whF l (plN l l.length) := ⟨_, rfl⟩
        rw [← hu] at hM HA
        have hat : ∀ W, Below w.heap.size w W → (Instr.lookup 59 (.map (some b)) (.agg #[.int .i64 s.1, .int .i64 s.2]) false).run Try.prog W = .ok (.int .i64 (u s)) W := fun W hb => (hM.to hb).look hs
        obtain ⟨v, hv⟩ : ∃ v, v = u s := ⟨_, rfl⟩
        rw [← hv] at hat HA
        have HAT := hidOg hat
        have HCE : Hid (∀ W, Below w.heap.size w W → W.cell? ⟨I, 0, none⟩ = some (.int .i64 ((k : Int) + 1)) ∧ W.cell? ⟨S, 0, none⟩ = some (.int .i64 s.1) ∧ W.cell? ⟨S, 1, none⟩ = some (.int .i64 s.2) ∧ W.cell? ⟨R, 0, none⟩ = some (.slice p l.length c)) := fun W hb => by
          obtain ⟨a1, a2, _⟩ := cell2_heap (atW hb hS)
          exact ⟨cell1_heap (atW hb hI), a1, a2, cell1_heap (atW hb hR)⟩
        have HCH := hidOg CH
        obtain ⟨a, d⟩ := s
        dsimp only at HAT HCE CI s0 s1
        clear hE hs hM hR hI hS hb0 hu hv hat CH h3 e3
        have ARM : Hid (∀ w1, Below (w.alloc (.cells #[.slice none 0 0] 24)).heap.size (w.alloc (.cells #[.slice none 0 0] 24)) w1 → Below w.heap.size w w1 ∧ (w1.cell? ⟨w.heap.size, 0, none⟩ = some (.slice none 0 0) ∧ ∀ o, w1.frozen? ⟨w.heap.size, o, none⟩ = false) ∧ w1.heap[w.heap.size]? = some (.cells #[.slice none 0 0] 24)) := fun w1 hb => by
          have z := atW hb HN.out
          exact ⟨HB0.out.trans (hb.mono HB0.out.size), ⟨cell1_heap z, fr_heap z⟩, z⟩
        by_cases h5 : v ≠ 0 ∧ v ≠ (k : Int) + 1
        · have E := hidOg (HA.out.trans (if_pos h5))
          rw [E.out]
          have g1 : (v != 0) = true := by simpa using h5.1
          have g2 : (v != (k : Int) + 1) = true := by simpa using h5.2
          clear h5
          go_enter Try.func44, Try.ntmps44
          go_wp2_with (first | (go_at_call 45; refine Calls.mono (CI _) ?_; rintro e w1 ⟨rfl, hb⟩; obtain ⟨hb1, ⟨y0, yf⟩, z0⟩ := ARM.out _ hb; obtain ⟨c1, c2, c3, c4⟩ := HCE.out _ hb1; have hlk := HAT.out _ hb1; have hlkd := HAT.out _ hb1.drew; have HB1 := hidOg hb1; have HZ := hidOg z0; clear hb hb1 z0))
          go_region
          all_goals
            go_wp2
            exact bodyPost_ret (v := .tuple #[.agg #[.slice none 0 0], .int .i64 5]) (by simp [results, Try.results44, go_sem, y0]) rfl (AnsG.no (HB1.out.drew.setCell (p := ⟨w.heap.size, 0, none⟩) (Nat.le_refl _) _))
        · have E := hidOg (HA.out.trans (if_neg h5))
          rw [E.out]
          obtain ⟨X, hX⟩ : ∃ X, X = cutL ((extS l (k + 1)).set k (a, d)) := ⟨_, rfl⟩
          rw [← hX] at HCH
          rw [← hX]
          clear E hX HA
          by_cases h6 : v = 0
          · have g1 : (v != 0) = false := by simpa using h6
            clear h5 h6
            go_enter Try.func44, Try.ntmps44
            go_wp2_with (first | (go_at_call 45; refine Calls.mono (CI _) ?_; rintro e w1 ⟨rfl, hb⟩; obtain ⟨hb1, ⟨y0, yf⟩, z0⟩ := ARM.out _ hb; obtain ⟨c1, c2, c3, c4⟩ := HCE.out _ hb1; have hlk := HAT.out _ hb1; have hlkd := HAT.out _ hb1.drew; have HB1 := hidOg hb1; have HZ := hidOg z0; clear hb hb1 z0))
            go_region
            all_goals
              go_wp2_with (first | (go_at_call 46; refine Calls.mono (HCH.out _ HB1.out.drew) ?_; rintro e w2 ⟨q, dd, rfl, hg, hb⟩; have z2 := atW hb (show w1.drew.heap[w.heap.size]? = _ from HZ.out); have y2 := cell1_heap z2; have f2 := fr_heap z2; have HG := hidOg hg; have HB2 := hidOg (HB1.out.drew.trans (hb.mono HB1.out.drew.size)); have HS1 := hidOg HB1.out.drew.size; clear hb hg z2))
              exact bodyPost_ret (v := .tuple #[.agg #[.slice q X.length dd], .int .i64 0]) (by simp [results, Try.results44, go_sem, y2]) rfl ⟨q, dd, rfl, ((HG.out.weak (B' := w.heap.size + 1) (Array.getElem?_eq_some_iff.1 HZ.out).1).setC (Nat.lt_succ_self _) _).weak (Nat.le_succ _), HB2.out.setCell (p := ⟨w.heap.size, 0, none⟩) (Nat.le_refl _) _⟩
          · have g1 : (v != 0) = true := by simpa using h6
            have g2 : (v != (k : Int) + 1) = false := by
              have : v = (k : Int) + 1 := Decidable.byContradiction fun h => h5 ⟨h6, h⟩
              simpa using this
            clear h5 h6
            go_enter Try.func44, Try.ntmps44
            go_wp2_with (first | (go_at_call 45; refine Calls.mono (CI _) ?_; rintro e w1 ⟨rfl, hb⟩; obtain ⟨hb1, ⟨y0, yf⟩, z0⟩ := ARM.out _ hb; obtain ⟨c1, c2, c3, c4⟩ := HCE.out _ hb1; have hlk := HAT.out _ hb1; have hlkd := HAT.out _ hb1.drew; have HB1 := hidOg hb1; have HZ := hidOg z0; clear hb hb1 z0))
            go_region
            all_goals
              go_wp2_with (first | (go_at_call 46; refine Calls.mono (HCH.out _ HB1.out.drew) ?_; rintro e w2 ⟨q, dd, rfl, hg, hb⟩; have z2 := atW hb (show w1.drew.heap[w.heap.size]? = _ from HZ.out); have y2 := cell1_heap z2; have f2 := fr_heap z2; have HG := hidOg hg; have HB2 := hidOg (HB1.out.drew.trans (hb.mono HB1.out.drew.size)); have HS1 := hidOg HB1.out.drew.size; clear hb hg z2))
              exact bodyPost_ret (v := .tuple #[.agg #[.slice q X.length dd], .int .i64 0]) (by simp [results, Try.results44, go_sem, y2]) rfl ⟨q, dd, rfl, ((HG.out.weak (B' := w.heap.size + 1) (Array.getElem?_eq_some_iff.1 HZ.out).1).setC (Nat.lt_succ_self _) _).weak (Nat.le_succ _), HB2.out.setCell (p := ⟨w.heap.size, 0, none⟩) (Nat.le_refl _) _⟩
      · have h3' : plB s = false := by simpa using h3
        have E : Hid (puA l i s = ([], 2)) := if_pos (.inr (.inr h3'))
        rw [E.out]
        have e3 : plB (s.1, s.2) = false := h3'
        rw [e3] at CI
        clear hE hs hM hR hI hS hb0
        go_enter Try.func44, Try.ntmps44
        go_wp2_with (first | (go_at_call 45; refine Calls.mono (CI _) ?_; rintro e w1 ⟨rfl, hb⟩; have z0 := atW hb HN.out; have y0 := cell1_heap z0; have yf := fr_heap z0; have HB1 := hidOg (HB0.out.trans (hb.mono HB0.out.size)); clear hb z0))
        exact bodyPost_ret (v := .tuple #[.agg #[.slice none 0 0], .int .i64 2]) (by simp [results, Try.results44, go_sem, y0]) rfl (AnsG.no (HB1.out.setCell (p := ⟨w.heap.size, 0, none⟩) (Nat.le_refl _) _))
/-- Put, whatever records. -/
def puR (l : List Sp) (i : Int) (s : Sp) : List Sp × Int := if mayS l then puA l i s else ([], 200)
set_option maxHeartbeats 1000000 in
theorem put43 (I S R : Nat) (p : Option Addr) (l : List Sp) (c : Nat) (i : Int) (s : Sp) (w : World) (hE : SRow w.heap.size w p l) (hw : wfL l) (hl : l.length ≤ 1099511627776) (hs : wfS s) (hR : w.heap[R]? = some (.cells #[.slice p l.length c] 24)) (hI : w.heap[I]? = some (.cells #[.int .i64 i] 3)) (hS : w.heap[S]? = some (.cells #[.int .i64 s.1, .int .i64 s.2] 34)) :
    Calls Try.prog 43 #[.agg #[.slice p l.length c], .func (.func 44) #[] #[.pointer (some ⟨I, 0, none⟩), .pointer (some ⟨S, 0, none⟩), .pointer (some ⟨R, 0, none⟩)]] w fun e w' => AnsG (puR l i s).1 (puR l i s).2 w e w' := by
  have CA := fun (W : World) (hb : Below w.heap.size w W) (b n : Nat) (hM : MapS W b n n (whF l (plN l l.length))) => put44 I S R b n n p l c i s W (hE.to hb) hl hs hM (atW hb hR) (atW hb hI) (atW hb hS)
  obtain ⟨A, hA⟩ : ∃ A, A = puA l i s := ⟨_, rfl⟩
  have HR : Hid (puR l i s = if mayS l then A else ([], 200)) := by rw [hA]; rfl
  rw [← hA] at CA
  have CW := whoStands33 p l c _ (hE.to (al2b w (.cells #[.slice p l.length c] 24) (.cells #[.slice none 0 0] 24))) hw hl
  obtain ⟨q0, q1⟩ := al2 w (.cells #[.slice p l.length c] 24) (.cells #[.slice none 0 0] 24)
  have HB := hidOg (al2b w (.cells #[.slice p l.length c] 24) (.cells #[.slice none 0 0] 24))
  have HN := hidOg q1
  have HS2 : Hid (((w.alloc (.cells #[.slice p l.length c] 24)).alloc (.cells #[.slice none 0 0] 24)).heap.size = w.heap.size + 2) := by unfold Hid; simp
  have hx := cell1_heap q0
  unfold AnsW at CW
  obtain ⟨v, hv⟩ : ∃ v, v = mayS l := ⟨_, rfl⟩
  rw [← hv] at CW HR
  clear hE hw hs hR hI hS q0 q1 hv hA
  cases v
  · have E : Hid (puR l i s = ([], 200)) := HR.out
    rw [E.out]
    clear CA
    go_enter Try.func43, Try.ntmps43
    go_wp2_with (first | (go_at_call 33; refine Calls.mono CW ?_; rintro e w1 ⟨m, rfl, _, hb⟩; have z1 := atW hb HN.out; have y0 := cell1_heap z1; have yf := fr_heap z1; have HZ1 := hidOg z1; have HB1 := hidOg (HB.out.trans (hb.mono HB.out.size)); have hlt : w.heap.size + 1 < w1.heap.size := (by have := hb.size; rw [HS2.out] at this; omega); clear hb z1))
    have hbb := (HB1.out.setCell (p := ⟨w.heap.size + 1, 0, none⟩) (Nat.le_succ _) (.slice none 0 0))
    have hc0 : (w1.setCell ⟨w.heap.size + 1, 0, none⟩ (.slice none 0 0)).heap[w.heap.size + 1]? = some (.cells #[.slice none 0 0] 24) := set1_heap HZ1.out _
    have f0 := cell1_heap (atW (bal _ (.cells #[.slice none 0 0] 24)) hc0)
    exact bodyPost_ret (v := .tuple #[.agg #[.slice none 0 0], .int .i64 200]) (by simp [results, Try.results43, go_sem, f0]) rfl (AnsG.no (hbb.alloc (by rw [set1_size]; omega) _))
  · have E : Hid (puR l i s = A) := HR.out
    rw [E.out]
    clear E HR
    obtain ⟨X, er⟩ := A
    go_enter Try.func43, Try.ntmps43
    go_wp2_with (first
      | (go_at_call 33; refine Calls.mono CW ?_; rintro e w1 ⟨m, rfl, hm, hb⟩; obtain ⟨b, n, rfl, hmap, _⟩ := hm rfl; have z1 := atW hb HN.out; have HM := hidOg hmap; have HZ1 := hidOg z1; have HB1 := hidOg (HB.out.trans (hb.mono HB.out.size)); have HLT : Hid (w.heap.size + 1 + 1 ≤ w1.heap.size) := (by have := hb.size; rw [HS2.out] at this; exact this); clear hb z1 hm hmap)
      | (go_at_call 44; refine Calls.mono (CA _ HB1.out _ _ HM.out) ?_; rintro e w2 ⟨q, dd, rfl, hg, hb⟩; have z2 := atW hb HZ1.out; have y2 := cell1_heap z2; have f2 := fr_heap z2; have HG := hidOg hg; have HB2 := hidOg (HB1.out.trans (hb.mono HB1.out.size)); clear hb hg z2))
    exact bodyPost_ret (v := .tuple #[.agg #[.slice q X.length dd], .int .i64 er]) (by simp [results, Try.results43, go_sem, y2]) rfl ⟨q, dd, rfl, ((HG.out.weak (B' := w.heap.size + 2) HLT.out).setC (by omega) _).weak (by omega), HB2.out.setCell (p := ⟨w.heap.size + 1, 0, none⟩) (by simp) _⟩
theorem put21 (p : Option Addr) (l : List Sp) (c : Nat) (i : Int) (s : Sp) (w : World) (hE : SRow w.heap.size w p l) (hw : wfL l) (hl : l.length ≤ 1099511627776) (hs : wfS s) :
    Calls Try.prog 21 #[.agg #[.slice p l.length c], .int .i64 i, .agg #[.int .i64 s.1, .int .i64 s.2]] w fun e w' => AnsG (puR l i s).1 (puR l i s).2 w e w' := by
  obtain ⟨q0, q1, q2, q3⟩ := al4 w (.cells #[.slice p l.length c] 24) (.cells #[.int .i64 i] 3) (.cells #[.int .i64 s.1, .int .i64 s.2] 34) (.cells #[.slice none 0 0] 24)
  have hb : Below w.heap.size w ((((w.alloc (.cells #[.slice p l.length c] 24)).alloc (.cells #[.int .i64 i] 3)).alloc (.cells #[.int .i64 s.1, .int .i64 s.2] 34)).alloc (.cells #[.slice none 0 0] 24)) := (al3b w _ _ _).alloc (by simp; omega) _
  have s4 : ((((w.alloc (.cells #[.slice p l.length c] 24)).alloc (.cells #[.int .i64 i] 3)).alloc (.cells #[.int .i64 s.1, .int .i64 s.2] 34)).alloc (.cells #[.slice none 0 0] 24)).heap.size = w.heap.size + 4 := by simp
  have CG := put43 (w.heap.size + 1) (w.heap.size + 1 + 1) w.heap.size p l c i s _ (hE.to hb) hw hl hs q0 q1 q2
  have HB := hidOg hb
  have HN := hidOg q3
  have HS4 := hidOg s4
  have hx := cell1_heap q0
  obtain ⟨⟨X, er⟩, hA⟩ : ∃ A, A = puR l i s := ⟨_, rfl⟩
  rw [← hA] at CG
  rw [← hA]
  obtain ⟨a, d⟩ := s
  clear hE hw hs hb q0 q1 q2 q3 s4 hA
  go_enter Try.func21, Try.ntmps21
  go_wp2_with (first | (go_at_call 43; refine Calls.mono CG ?_; rintro e w1 ⟨q, dd, rfl, hg, hb⟩; have z1 := atW hb HN.out; have y1 := cell1_heap z1; have f1 := fr_heap z1; have HG := hidOg hg; have HB1 := hidOg (HB.out.trans (hb.mono HB.out.size)); clear hb hg z1))
  exact bodyPost_ret (v := .tuple #[.agg #[.slice q X.length dd], .int .i64 er]) (by simp [results, Try.results21, go_sem, y1]) rfl ⟨q, dd, rfl, ((HG.out.weak (B' := w.heap.size + 4) (by rw [HS4.out]; exact Nat.le_refl _)).setC (by omega) _).weak (by omega), HB1.out.setCell (p := ⟨w.heap.size + 1 + 1 + 1, 0, none⟩) (by simp; omega) _⟩
end Go.Proofs.Ytijlkdppjmfbhaa
