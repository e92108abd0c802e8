/- Texts and values lead back to one another: plain mathematics. -/
import Derived.Test.YtofobpijkceldaaDoorVaK
namespace Go.Proofs.YtofobpijkceldaaDoor
open Go.RowKit Go.Shelf

/-- Parts joined by commas. -/
def jP : List (List UInt8) → List UInt8
  | [] => []
  | x :: r => x ++ r.flatMap fun y => 44 :: y
theorem cut_eq {l : List UInt8} (h : hasC l = true) : l = ahd l ++ 44 :: bhd l := by
  induction l with
  | nil => simp [hasC] at h
  | cons b l ih =>
    by_cases hb : (b == 44) = true
    · have e : ahd (b :: l) = [] := by unfold ahd; simp [bne, hb]
      unfold bhd
      rw [e]
      simp at hb
      simp [hb]
    · have hb' : (b == 44) = false := by simpa using hb
      have hl : hasC l = true := by simp [hasC] at h ⊢; rcases h with h | h; { rw [← h] at hb; simp at hb }; { exact h }
      have e : ahd (b :: l) = b :: ahd l := by unfold ahd; simp [bne, hb']
      have e2 : bhd (b :: l) = bhd l := by unfold bhd; rw [e]; simp
      rw [e, e2]
      have := ih hl
      rw [List.cons_append, ← this]
theorem prts_cons (l : List UInt8) : ∃ y r, prts l = y :: r := by rw [prts]; exact ⟨_, _, rfl⟩
theorem jP_prts : ∀ (n : Nat) (l : List UInt8), l.length ≤ n → jP (prts l) = l := by
  intro n
  induction n with
  | zero =>
    intro l h
    obtain rfl : l = [] := List.eq_nil_of_length_eq_zero (by omega)
    rw [prts_no (by decide)]; rfl
  | succ n ih =>
    intro l h
    cases hc : hasC l
    · rw [prts_no hc, (ix_no l hc).2]; simp [jP]
    · rw [prts_yes hc]
      have h1 := (ix_yes l hc).2
      have h2 : (bhd l).length ≤ n := by unfold bhd; simp only [List.length_drop]; omega
      have h3 := ih (bhd l) h2
      obtain ⟨y, r, e⟩ := prts_cons (bhd l)
      rw [e] at h3 ⊢
      have h4 := cut_eq hc
      rw [← h3] at h4
      have h5 : jP (ahd l :: y :: r) = ahd l ++ 44 :: jP (y :: r) := by simp [jP]
      rw [h5]; exact h4.symm
theorem jn_jP (r : List Wd) : jnL r = jP (r.map fun x => hexW x.1) := by
  cases r with
  | nil => rfl
  | cons x r => simp [jnL, jP, List.flatMap_map]
/-- No comma in it. -/
def noC (l : List UInt8) : Prop := hasC l = false
theorem noC_isH {l : List UInt8} (h : l.all isH = true) : noC l := by
  unfold noC hasC
  rw [Bool.eq_false_iff]; intro e
  rw [List.contains_iff_mem] at e
  rw [List.all_eq_true] at h
  have := h 44 e
  revert this; decide
theorem ahd_app {x y : List UInt8} (h : noC x) : ahd (x ++ 44 :: y) = x ∧ hasC (x ++ 44 :: y) = true := by
  refine ⟨?_, by simp [hasC]⟩
  have h2 := (ix_no x h).2
  unfold ahd at h2 ⊢
  rw [List.takeWhile_append, h2]
  simp
theorem prts_jP : ∀ (r : List (List UInt8)) (x : List UInt8), noC x → (∀ y ∈ r, noC y) → prts (jP (x :: r)) = x :: r := by
  intro r
  induction r with
  | nil => intro x h _; simp only [jP, List.flatMap_nil, List.append_nil]; rw [prts_no h, (ix_no x h).2]
  | cons y r ih =>
    intro x h hr
    have e : jP (x :: y :: r) = x ++ 44 :: jP (y :: r) := by simp [jP]
    obtain ⟨h1, h2⟩ := ahd_app (y := jP (y :: r)) h
    rw [e, prts_yes h2, h1]
    have e2 : bhd (x ++ 44 :: jP (y :: r)) = jP (y :: r) := by
      unfold bhd; rw [h1]; simp
    rw [e2, ih y (hr y (by simp)) (fun z hz => hr z (by simp [hz]))]

theorem toWd_nat {x : Int} (h : 0 ≤ x ∧ x < 18446744073709551616) : (toWd x).1 = x.toNat := by
  unfold toWd; exact Nat.mod_eq_of_lt (by omega)
/-- A value's text, as parts. -/
theorem txt_parts {l : List Int} (hw : isW l.length = true) (h0 : l.length ≠ 0) (hU : U64 l) : bL (txtV l) = jP (l.map fun x => hexW x.toNat) := by
  have e : bL (txtV l) = jnL (texN l l.length) := by
    unfold txtV; rw [hw, if_neg h0]; rfl
  rw [e, jn_jP]
  unfold texN
  rw [List.take_length, List.map_map]
  congr 1
  apply List.map_congr_left
  intro x hx
  simp only [Function.comp]
  rw [toWd_nat (hU x hx)]
theorem bL_dash : bL ⟨#[45]⟩ = [45] := rfl
/-- Read of Text. -/
theorem read_text {l : List Int} (hw : isW l.length = true) (hU : U64 l) : rdV (bL (txtV l)) = l ∧ rdE (bL (txtV l)) = 0 := by
  by_cases h0 : l.length = 0
  · obtain rfl : l = [] := List.eq_nil_of_length_eq_zero h0
    decide
  · rw [txt_parts hw h0 hU]
    cases l with
    | nil => simp at h0
    | cons x r =>
      have hp : prts (jP ((x :: r).map fun x => hexW x.toNat)) = (x :: r).map fun x => hexW x.toNat :=
        prts_jP (r.map fun x : Int => hexW x.toNat) (hexW x.toNat) (noC_isH (hexW_all _).1) (fun y hy => by
          simp at hy; obtain ⟨z, _, rfl⟩ := hy; exact noC_isH (hexW_all _).1)
      have h4 := (isW_t hw).2
      have hok : rdOk (jP ((x :: r).map fun x => hexW x.toNat)) = true := by
        unfold rdOk
        rw [hp, List.length_map, decide_eq_true (by omega), Bool.and_true, List.all_eq_true]
        intro y hy
        rw [List.mem_map] at hy
        obtain ⟨z, hz, rfl⟩ := hy
        have := hU z hz
        exact okW_hexW _ (by omega)
      have hne : (jP ((x :: r).map fun x => hexW x.toNat) == [45]) = false := by
        rw [beq_eq_false_iff_ne]; intro e
        rw [e] at hp
        have h1 : prts [45] = [[45]] := by rw [prts_no (by decide)]; decide
        rw [h1] at hp
        simp only [List.map_cons, List.cons.injEq] at hp
        have := (hexW_all x.toNat).1
        rw [← hp.1] at this
        revert this; decide
      unfold rdV rdE
      rw [hne]
      simp only [Bool.false_eq_true, if_false]
      rw [rdL_t hok, rdN_t hok, hp, List.map_map]
      refine ⟨?_, rfl⟩
      have hi : ∀ m : List Int, U64 m → m.map (wdI ∘ fun x => hexW x.toNat) = m := by
        intro m
        induction m with
        | nil => intro _; rfl
        | cons y m ih =>
          intro h
          have hy := h y (by simp)
          rw [List.map_cons, ih (fun z hz => h z (by simp [hz]))]
          congr 1
          simp only [Function.comp]
          unfold wdI
          rw [wordV_hexW _ (by omega)]; omega
      exact hi _ hU
/-- Text of Read. -/
theorem text_read (t : ByteArray) (h : rdE (bL t) = 0) : txtV (rdV (bL t)) = t ∧ txtE (rdV (bL t)) = 0 ∧ isW (rdV (bL t)).length = true := by
  cases hd : (bL t == [45])
  · have e1 : rdV (bL t) = rdL (bL t) := by unfold rdV; rw [hd]; rfl
    have e2 : rdE (bL t) = rdN (bL t) := by unfold rdE; rw [hd]; rfl
    cases hk : rdOk (bL t)
    · rw [e2, rdN_f hk] at h; simp at h
    · have hk' := hk
      unfold rdOk at hk'
      simp only [Bool.and_eq_true, decide_eq_true_eq] at hk'
      obtain ⟨hall, h4⟩ := hk'
      have hlen : (rdV (bL t)).length = (prts (bL t)).length := by rw [e1, rdL_t hk, List.length_map]
      obtain ⟨y, r, ep⟩ := prts_cons (bL t)
      have h0 : (rdV (bL t)).length ≠ 0 := by rw [hlen, ep]; simp
      have hw : isW (rdV (bL t)).length = true := by unfold isW; rw [decide_eq_true (by omega), decide_eq_true (by omega)]; rfl
      refine ⟨?_, by unfold txtE; rw [hw]; rfl, hw⟩
      have := txt_parts hw h0 (rdV_u _)
      have hm : (rdV (bL t)).map (fun x => hexW x.toNat) = prts (bL t) := by
        rw [e1, rdL_t hk, List.map_map]
        conv => rhs; rw [← List.map_id (prts (bL t))]
        apply List.map_congr_left
        intro z hz
        rw [List.all_eq_true] at hall
        simp only [Function.comp, id, wdI, Int.toNat_natCast]
        exact hexW_wordV (hall z hz)
      rw [hm, jP_prts _ _ (Nat.le_refl _)] at this
      have h5 : bA (bL (txtV (rdV (bL t)))) = bA (bL t) := by rw [this]
      exact h5
  · have e1 : rdV (bL t) = [] := by unfold rdV; rw [hd]; rfl
    rw [e1]
    refine ⟨?_, by decide, by decide⟩
    have h5 : bL t = [45] := by simpa using hd
    have h6 : bA (bL t) = bA [45] := by rw [h5]
    exact h6.symm
theorem read_no (t : ByteArray) (h : rdE (bL t) ≠ 0) : rdV (bL t) = [] ∧ rdE (bL t) = 140 := by
  unfold rdE at h
  unfold rdV rdE
  cases hd : (bL t == [45])
  · rw [hd] at h
    simp only [Bool.false_eq_true, if_false] at h ⊢
    cases hk : rdOk (bL t)
    · exact ⟨rdL_f hk, rdN_f hk⟩
    · exact absurd (rdN_t hk) h
  · rw [hd] at h; simp at h
end Go.Proofs.YtofobpijkceldaaDoor
