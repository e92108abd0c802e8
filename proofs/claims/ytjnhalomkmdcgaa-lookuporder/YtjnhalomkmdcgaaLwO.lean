/- LookupOrder: slices.Clone at rows of ids, the closure put, what a lookup says after so many are put. -/
import Derived.Test.YtjnhalomkmdcgaaLwR
import Derived.Test.YtjnhalomkmdcgaaLwC
namespace Go.Proofs.Ytjnhalomkmdcgaa
open Go.RowKit

theorem RRow.places {N : Nat} {w : World} {p : Option Addr} {R : List (List Int)} (h : RRow N w p R) : ∃ X : List Rp, X.map lR = R ∧ (∀ x ∈ X, TRow N w x.1 x.2.1 x.2.2) ∧
    (0 < R.length → ∃ b off, p = some ⟨b, off, none⟩ ∧ b < N ∧ ∀ k, k < X.length → w.cell? ⟨b, off + k, none⟩ = some (vR (gR X k))) := by
  by_cases h0 : 0 < R.length
  · obtain ⟨b, off, rfl, hN, hc⟩ := h h0
    have hc' : ∀ k, k < R.length → ∃ x : Rp, x.2.1 = rG R k ∧ w.cell? ⟨b, off + k, none⟩ = some (vR x) ∧ TRow N w x.1 x.2.1 x.2.2 := fun k hk => by
      obtain ⟨q, c, h1, h2⟩ := hc k hk
      exact ⟨(q, rG R k, c), rfl, h1, h2⟩
    obtain ⟨f, hf⟩ := Deep.choose_lt hc'
    have hl : ((List.range R.length).map f).length = R.length := by simp
    refine ⟨(List.range R.length).map f, ?_, fun x hx => ?_, fun _ => ⟨b, off, rfl, hN, fun k hk => ?_⟩⟩
    · apply List.ext_getElem (by simp)
      intro k h1 h2
      have hk : k < R.length := by simpa using h2
      simp only [List.getElem_map, List.getElem_range]
      have := (hf k hk).1
      unfold lR
      rw [this]; simp [rG, hk]
    · obtain ⟨k, hk, rfl⟩ := List.mem_map.1 hx
      exact (hf k (by simpa using hk)).2.2
    · have hk' : k < R.length := by simpa using hk
      have e : gR ((List.range R.length).map f) k = f k := by simp [gR, hk']
      rw [e]; exact (hf k hk').2.1
  · have : R = [] := List.eq_nil_of_length_eq_zero (by omega)
    subst this
    exact ⟨[], rfl, fun x hx => by simp at hx, fun h => absurd h h0⟩
theorem cellsR_src {w : World} {b off : Nat} {X : List Rp} (h : ∀ k, k < X.length → w.cell? ⟨b, off + k, none⟩ = some (vR (gR X k))) : ∀ j u, (X.map vR)[j]? = some u → w.cell? ((⟨b, off, none⟩ : Addr).add j) = some u := by
  intro j u hj
  have hlt : j < X.length := by have := (List.getElem?_eq_some_iff.1 hj).1; simpa using this
  rw [addr_add, h j hlt, gR_eq hlt]
  simpa [hlt] using hj
theorem Try.info34 : (Try.prog.info? 34).map (fun i => (i.zero, i.size, i.bytes)) = some (some (.slice none 0 0), 1, 24) := by kernel_rfl
theorem rrow_none {N : Nat} {w : World} {R : List (List Int)} (h : RRow N w none R) : R = [] := by
  cases R with
  | nil => rfl
  | cons x t => obtain ⟨b, off, h, _⟩ := h (by simp); cases h
set_option maxRecDepth 20000 in
theorem clone27 (p : Option Addr) (R : List (List Int)) (c : Nat) (w : World) (hR : RRow w.heap.size w p R) (hn : R.length ≤ 1000) :
    Calls Try.prog 27 #[.slice p R.length c] w fun e w' => ∃ q' c' X, X.map lR = R ∧ e = .returned (.slice q' X.length c') ∧ RO w.heap.size w.heap.size X q' c' w' ∧ Below w.heap.size w w' := by
  cases p with
  | none =>
    obtain rfl := rrow_none hR
    clear hR hn
    have qn := fun (w : World) => Lib.run_eql_slice_nil (P := Try.prog) w 25 _ none 0 c 0 0 Try.underlying25
    go_enter Try.func27, Try.ntmps27
    go_wp2
    go_ret
    exact ⟨none, 0, [], rfl, rfl, ⟨World.ownsRow_nil _ _ _ _, fun x hx => by simp at hx⟩, Below.refl _ _⟩
  | some a =>
    obtain ⟨X, hX, hXt, hXc⟩ := hR.places
    have lX : R.length = X.length := by rw [← hX, List.length_map]
    obtain ⟨i0, hi, hz0, hz1, hz2⟩ := info_parts Try.info34
    have ho := World.ownsRow_made (base := w.heap.size) (e := 34) (size := 1) w #[] 0 (Nat.le_refl _) (by unfold maxLen; omega) (by simp)
    have qn := fun (w : World) => Lib.run_eql_slice_nil (P := Try.prog) w 25 _ (some a) R.length c 0 0 Try.underlying25
    have hsrc : ∀ (o : Obj) j u, (X.map vR)[j]? = some u → (w.alloc o).cell? (a.add j) = some u := by
      intro o j u hj
      have hlt : j < X.length := by have := (List.getElem?_eq_some_iff.1 hj).1; simpa using this
      obtain ⟨b, off, e, hN, hc⟩ := hXc (by omega)
      cases e
      refine cellsR_src (fun k hk => ?_) j u hj
      exact (((Below.refl w.heap.size w).alloc (Nat.le_refl _) o).cell (p := ⟨b, off + k, none⟩) hN).trans (hc k hk)
    have hlen : (X.map vR).length = R.length * 1 := by rw [List.length_map, lX]; omega
    have hone : ∀ v ∈ X.map vR, v.oneCell' = true := fun v hv => by
      obtain ⟨x, _, rfl⟩ := List.mem_map.1 hv; rfl
    have HX := hidOg hX
    have HXT := hidOg hXt
    obtain ⟨n, hn'⟩ : ∃ n, n = R.length := ⟨_, rfl⟩
    have HE : Hid (n = X.length) := hn'.trans lX
    rw [← hn'] at hlen qn hn ⊢
    clear hR hn' hX hXt hXc lX
    go_enter Try.func27, Try.ntmps27
    go_wp2_with (first | (at_builtin; refine wpList_append_own _ rfl _ _ 25 rfl w.heap.size 34 i0 (.slice none 0 0) 1 24 Try.underlying25 hi hz0 hz1 hz2 rfl (by decide) _ _ _ rfl ho a n c (X.map vR) rfl hlen (hsrc _) hone (by unfold maxLen; omega) (by omega) (by simp) ?_; intro v' w1 hown hgrow _))
    go_ret
    have hb : Below w.heap.size w w1 := ((Below.refl _ w).alloc (Nat.le_refl _) _).grown hgrow (by simp) (fun k hk => by have h' : w.heap.size = k := Option.some.inj hk; omega)
    rw [HE.out, Nat.zero_add] at hown
    rcases owns_len hown with ⟨rfl, h0⟩ | ⟨g, c', rfl, hg⟩
    · have : X = [] := List.eq_nil_of_length_eq_zero h0
      subst this
      exact ⟨none, 0, [], HX.out, rfl, ⟨World.ownsRow_nil _ _ _ _, fun x hx => by simp at hx⟩, hb⟩
    · exact ⟨_, c', X, HX.out, rfl, ⟨hown, fun x hx => (HXT.out x hx).below hb (Nat.le_refl _)⟩, hb⟩

/-- One type more, if it is one and is not there. -/
def inA (A : List En) (t : List Int) : List En := if mayT t = true ∧ fiL A t = -1 then wiL cmpL A (1, t, (t.length : Int)) else A
/-- What is said after these were put: each that is a type, once, with its length. -/
structure AS (R : List (List Int)) (A : List En) : Prop where
  s : SE cmpL A
  m : ∀ y, y ∈ A ↔ ∃ t ∈ R, mayT t = true ∧ y = (1, t, (t.length : Int))
theorem AS.nil : AS [] [] := ⟨List.Pairwise.nil, fun y => by simp⟩
theorem AS.fi {R : List (List Int)} {A : List En} (h : AS R A) (t : List Int) : fiL A t = if t ∈ R ∧ mayT t = true then (t.length : Int) else -1 := by
  by_cases ht : t ∈ R ∧ mayT t = true
  · rw [if_pos ht]
    exact fiL_of isCmp h.s (x := (1, t, (t.length : Int))) ((h.m _).2 ⟨t, ht.1, ht.2, rfl⟩)
  · rw [if_neg ht]
    refine fiL_none fun y hy e => ht ?_
    obtain ⟨t', h1, h2, rfl⟩ := (h.m y).1 hy
    have e' : t' = t := e
    rw [← e']; exact ⟨h1, h2⟩
theorem AS.step {R : List (List Int)} {A : List En} (h : AS R A) (t : List Int) : AS (R ++ [t]) (inA A t) := by
  have hf := h.fi t
  unfold inA
  by_cases hm : mayT t = true
  · by_cases ht : t ∈ R
    · rw [if_pos ⟨ht, hm⟩] at hf
      rw [if_neg (by intro hh; have := hh.2; omega)]
      refine ⟨h.s, fun y => (h.m y).trans ⟨fun ⟨t', h1, h2⟩ => ⟨t', by simp [h1], h2⟩, fun ⟨t', h1, h2⟩ => ?_⟩⟩
      rcases List.mem_append.1 h1 with h1 | h1
      · exact ⟨t', h1, h2⟩
      · rw [List.mem_singleton.1 h1] at h2; exact ⟨t, ht, h2⟩
    · rw [if_neg (fun hh => ht hh.1)] at hf
      rw [if_pos ⟨hm, hf⟩]
      refine ⟨wiL_se isCmp _ h.s fun y hy e => ?_, fun y => (wiL_mem _ _ _).trans ⟨fun hy => ?_, fun ⟨t', h1, h2, h3⟩ => ?_⟩⟩
      · obtain ⟨t', h1, _, rfl⟩ := (h.m y).1 hy
        have e' : t' = t := e
        exact ht (e' ▸ h1)
      · rcases hy with rfl | hy
        · exact ⟨t, by simp, hm, rfl⟩
        · obtain ⟨t', h1, h2⟩ := (h.m y).1 hy
          exact ⟨t', by simp [h1], h2⟩
      · rcases List.mem_append.1 h1 with h1 | h1
        · exact .inr ((h.m y).2 ⟨t', h1, h2, h3⟩)
        · rw [List.mem_singleton.1 h1] at h3; exact .inl h3
  · rw [if_neg (fun hh => hm hh.1)]
    refine ⟨h.s, fun y => (h.m y).trans ⟨fun ⟨t', h1, h2⟩ => ⟨t', by simp [h1], h2⟩, fun ⟨t', h1, h2, h3⟩ => ?_⟩⟩
    rcases List.mem_append.1 h1 with h1 | h1
    · exact ⟨t', h1, h2, h3⟩
    · rw [List.mem_singleton.1 h1] at h2; exact absurd h2 hm
theorem AS.eq {R R' : List (List Int)} {A A' : List En} (h : AS R A) (h' : AS R' A') (he : ∀ t, t ∈ R ↔ t ∈ R') : A = A' :=
  se_ext isCmp h.s h'.s fun y => (h.m y).trans (Iff.trans ⟨fun ⟨t, h1, h2⟩ => ⟨t, (he t).1 h1, h2⟩, fun ⟨t, h1, h2⟩ => ⟨t, (he t).2 h1, h2⟩⟩ (h'.m y).symm)
theorem inA_len (A : List En) (t : List Int) : (inA A t).length ≤ A.length + 1 := by
  unfold inA; split
  · rw [wiL_len]; omega
  · omega
theorem AS.no {R : List (List Int)} {A : List En} (h : AS R A) {t : List Int} (hn : ¬ (mayT t = true ∧ fiL A t = -1)) : mayT t = false ∨ (mayT t = true ∧ 0 ≤ fiL A t) := by
  cases hm : mayT t
  · exact .inl rfl
  · refine .inr ⟨rfl, ?_⟩
    have hf := h.fi t
    by_cases ht : t ∈ R
    · rw [if_pos ⟨ht, hm⟩] at hf; omega
    · rw [if_neg (fun hh => ht hh.1)] at hf
      exact absurd ⟨hm, hf⟩ hn
theorem en_64 {T A : List En} (h : LkR T A) (h1 : T.length ≤ 64) (h2 : A.length + 1 ≤ 30) : enN T.length (A.length + 1) ≤ 64 := by
  obtain ⟨e, he⟩ := h.r.pw
  have hp := Nat.two_pow_pos e
  unfold enN
  split
  · exact h1
  · rename_i hq
    have : e ≤ 3 := by
      refine Classical.byContradiction fun hn => ?_
      have h1 : (2 : Nat) ^ 4 ≤ 2 ^ e := Nat.pow_le_pow_right (by omega) (by omega)
      omega
    have h3 : (2 : Nat) ^ e = 2 ^ 3 ∨ (2 : Nat) ^ e ≤ 2 ^ 2 := by
      by_cases h : e = 3
      · subst h; exact .inl rfl
      · exact .inr (Nat.pow_le_pow_right (by omega) (by omega))
    rcases h3 with h3 | h3 <;> omega
end Go.Proofs.Ytjnhalomkmdcgaa
