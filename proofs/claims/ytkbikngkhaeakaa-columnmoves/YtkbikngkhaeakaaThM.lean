/- ColumnThere: what Move answers, and back; rows sorted. -/
import Derived.Test.YtkbikngkhaeakaaTc
import Derived.Test.YtkbikngkhaeakaaLwT
namespace Go.Proofs.Ytkbikngkhaeakaa
open Go.RowKit

theorem swO_pushN {rows : List (List Int)} {v : List Int} {n : Nat} (h : rows.length = n) : swO (rows ++ [v]) n = rows := by subst h; exact swO_push rows v
theorem mv_no {wd rs : Int} {L : List Int} {wd2 rs2 : Int} {L2 : List Int} {row : Int} (h : ¬ (mA wd rs L wd2 rs2 L2 row).2.2 = 0) : (mA wd rs L wd2 rs2 L2 row).1.2.1 = 0 ∧ (mA wd rs L wd2 rs2 L2 row).2.1.2.1 = 0 := by
  unfold mA mvA at h ⊢
  by_cases h1 : (mayB wd rs L.length && mayB wd2 rs2 L2.length) = true
  · rw [if_pos h1] at h ⊢
    by_cases h2 : (hasB (rs.toNat : Int) row && decide (wd.toNat = wd2.toNat)) = true
    · rw [if_pos h2] at h ⊢
      by_cases h3 : roomB (rs2.toNat : Int) 1 = true
      · rw [if_pos h3] at h; exact absurd rfl h
      · rw [if_neg h3]; exact ⟨rfl, rfl⟩
    · rw [if_neg h2]; exact ⟨rfl, rfl⟩
  · rw [if_neg h1]; exact ⟨rfl, rfl⟩
theorem mv_yes {wd rs : Int} {L : List Int} {wd2 rs2 : Int} {L2 : List Int} {row : Int} (h : (mA wd rs L wd2 rs2 L2 row).2.2 = 0) : ∃ W R R2 r : Nat, ∃ hr : r < R, wd = W ∧ rs = R ∧ wd2 = W ∧ rs2 = R2 ∧ row = r ∧ mayB (W : Int) (R : Int) L.length = true ∧ mayB (W : Int) (R2 : Int) L2.length = true ∧ L.length = W * R ∧ L2.length = W * R2 ∧ mA wd rs L wd2 rs2 L2 row = (((W : Int), ((R - 1 : Nat) : Int), (swO (chK W R L) r).flatten), ((W : Int), ((R2 + 1 : Nat) : Int), L2 ++ (chK W R L)[r]'(by rw [chK_len]; exact hr)), 0) := by
  unfold mA mvA at h ⊢
  by_cases h1 : (mayB wd rs L.length && mayB wd2 rs2 L2.length) = true
  · have h1' := h1
    rw [Bool.and_eq_true] at h1'
    obtain ⟨m0, m1, m2, m3, m4⟩ := mayB_t h1'.1
    obtain ⟨n0, n1, n2, n3, n4⟩ := mayB_t h1'.2
    obtain ⟨W, rfl⟩ : ∃ W : Nat, wd = W := ⟨wd.toNat, by omega⟩
    obtain ⟨R, rfl⟩ : ∃ R : Nat, rs = R := ⟨rs.toNat, by omega⟩
    obtain ⟨W2, rfl⟩ : ∃ W : Nat, wd2 = W := ⟨wd2.toNat, by omega⟩
    obtain ⟨R2, rfl⟩ : ∃ R : Nat, rs2 = R := ⟨rs2.toNat, by omega⟩
    rw [if_pos h1] at h ⊢
    rw [show (W : Int).toNat = W from rfl, show (R : Int).toNat = R from rfl, show (W2 : Int).toNat = W2 from rfl, show (R2 : Int).toNat = R2 from rfl] at h ⊢
    by_cases h2 : (hasB (R : Int) row && decide (W = W2)) = true
    · have h2' : (0 ≤ row ∧ row < R) ∧ W = W2 := by unfold hasB at h2; simpa using h2
      obtain ⟨⟨r0, r1⟩, rfl⟩ := h2'
      obtain ⟨r, rfl⟩ : ∃ r : Nat, row = r := ⟨row.toNat, by omega⟩
      rw [if_pos h2] at h ⊢
      by_cases h3 : roomB (R2 : Int) 1 = true
      · rw [if_pos h3]
        refine ⟨W, R, R2, r, by omega, rfl, rfl, rfl, rfl, rfl, h1'.1, h1'.2, by exact_mod_cast m4, by exact_mod_cast n4, ?_⟩
        rw [wdK_row, chK_at _ _ (by omega : r < R)]
        rfl
      · rw [if_neg h3] at h; exact absurd h (by decide)
    · rw [if_neg h2] at h; exact absurd h (by decide)
  · rw [if_neg h1] at h; exact absurd h (by decide)
/-- The one that gave: its rows, and those of it and the row that went. -/
theorem left_rows {W R r : Nat} {L : List Int} (hl : L.length = W * R) (hr : r < R) : ((swO (chK W R L) r).flatten).length = W * (R - 1) ∧ chK W (R - 1) ((swO (chK W R L) r).flatten) = swO (chK W R L) r := by
  have h1 : ∀ x ∈ swO (chK W R L) r, x.length = W := swO_mem (fun x hx => chK_mem hl hx) (by rw [chK_len]; exact hr)
  have h2 : (swO (chK W R L) r).length = R - 1 := by rw [swO_len, chK_len]
  refine ⟨by rw [flat_len h1, h2], ?_⟩
  have := chK_flat h1
  rwa [h2] at this
theorem push_one {W R : Nat} {L v : List Int} (hl : L.length = W * R) (hv : v.length = W) : (L ++ v).length = W * (R + 1) ∧ chK W (R + 1) (L ++ v) = chK W R L ++ [v] := by
  refine ⟨by rw [List.length_append, hl, hv, Nat.mul_succ], ?_⟩
  have := chK_push hl (vs := [v]) (fun x hx => by simp at hx; rw [hx, hv])
  simpa using this
theorem mayB_nat {W R n : Nat} (hW : W ≤ 4) (hR : R ≤ 1048578) (hn : n = W * R) : mayB (W : Int) (R : Int) n = true := mayB_of ⟨by omega, by omega, by omega, by omega, by rw [hn]; push_cast; rfl⟩
/-- Moved, and moved back. -/
theorem mv_back {W R R2 r : Nat} {L L2 : List Int} (hW : W ≤ 4) (hR : R ≤ 200) (hR2 : R2 ≤ 200) (hl : L.length = W * R) (hl2 : L2.length = W * R2) (hr : r < R) :
    mA (W : Int) ((R2 + 1 : Nat) : Int) (L2 ++ (chK W R L)[r]'(by rw [chK_len]; exact hr)) (W : Int) ((R - 1 : Nat) : Int) ((swO (chK W R L) r).flatten) (R2 : Int) = (((W : Int), (R2 : Int), L2), ((W : Int), (R : Int), (swO (chK W R L) r).flatten ++ (chK W R L)[r]'(by rw [chK_len]; exact hr)), 0) := by
  have hv : ((chK W R L)[r]'(by rw [chK_len]; exact hr)).length = W := chK_mem hl (List.getElem_mem _)
  obtain ⟨p1, p2⟩ := push_one hl2 hv
  obtain ⟨q1, q2⟩ := left_rows hl hr
  unfold mA mvA
  have h1 : (mayB (W : Int) ((R2 + 1 : Nat) : Int) (L2 ++ (chK W R L)[r]'(by rw [chK_len]; exact hr)).length && mayB (W : Int) ((R - 1 : Nat) : Int) ((swO (chK W R L) r).flatten).length) = true := by
    rw [Bool.and_eq_true]; exact ⟨mayB_nat hW (by omega) p1, mayB_nat hW (by omega) q1⟩
  rw [if_pos h1, show (W : Int).toNat = W from rfl, show (((R2 + 1 : Nat) : Int)).toNat = R2 + 1 from rfl, show (((R - 1 : Nat) : Int)).toNat = R - 1 from rfl]
  have h2 : (hasB ((R2 + 1 : Nat) : Int) (R2 : Int) && decide (W = W)) = true := by unfold hasB; simp; omega
  have h3 : roomB ((R - 1 : Nat) : Int) 1 = true := by unfold roomB; simp; omega
  rw [if_pos h2, if_pos h3, p2, wdK_row, show ((R2 : Int)).toNat = R2 from rfl]
  have e1 : swO (chK W R2 L2 ++ [(chK W R L)[r]'(by rw [chK_len]; exact hr)]) R2 = chK W R2 L2 := by
    exact swO_pushN (chK_len _ _ _)
  have e2 : ((L2 ++ (chK W R L)[r]'(by rw [chK_len]; exact hr)).drop (R2 * W)).take W = (chK W R L)[r]'(by rw [chK_len]; exact hr) := by
    rw [List.drop_left' (by rw [hl2, Nat.mul_comm])]
    exact List.take_of_length_le (by rw [hv]; exact Nat.le_refl _)
  rw [e1, flat_chK hl2, e2, show R2 + 1 - 1 = R2 from rfl, show R - 1 + 1 = R by omega]
theorem back_rows {W R r : Nat} {L : List Int} (hl : L.length = W * R) (hr : r < R) : chK W R ((swO (chK W R L) r).flatten ++ (chK W R L)[r]'(by rw [chK_len]; exact hr)) = swO (chK W R L) r ++ [(chK W R L)[r]'(by rw [chK_len]; exact hr)] := by
  obtain ⟨q1, q2⟩ := left_rows hl hr
  have := (push_one q1 (v := (chK W R L)[r]'(by rw [chK_len]; exact hr)) (chK_mem hl (List.getElem_mem _))).2
  rw [q2, show R - 1 + 1 = R by omega] at this
  exact this
/-- Rows in order stand in one way alone. -/
theorem in_order {X Y : List (List Int)} (hx : X.Pairwise fun x y => ¬ cmpL y x < 0) (hy : Y.Pairwise fun x y => ¬ cmpL y x < 0) (hp : X.Perm Y) : X = Y := by
  refine sorted_perm_eq (lt := fun a b => cmpL a b < 0) (fun a b h1 h2 => ?_) (fun a b h1 h2 => ?_) (fun a b c h1 h2 h3 => ?_) hx hy hp
  · have := cmp_anti a b
    exact (cmp_eq a b).1 (by omega)
  · have := cmp_anti a b
    omega
  · -- c < a, but neither b < a nor c < b
    have a1 := cmp_anti a b
    have a2 := cmp_anti b c
    have a3 := cmp_anti a c
    rcases cmp_01 a b with e1 | e1 | e1
    · rcases cmp_01 b c with e2 | e2 | e2
      · have := cmp_trans a b c e1 e2; omega
      · have := (cmp_eq b c).1 e2; subst this; omega
      · omega
    · have := (cmp_eq a b).1 e1; subst this; omega
    · omega
theorem lS_perm {X Y : List RR} (h : X.Perm Y) : (lS X).Perm (lS Y) := h.map _
/-- Rows in order. -/
def Ord (X : List (List Int)) : Prop := X.Pairwise fun x y => ¬ cmpL y x < 0
theorem ord_eq {X Y : List (List Int)} (hx : Ord X) (hy : Ord Y) (hp : X.Perm Y) : X = Y := in_order hx hy hp
theorem sort_ord (q : Option Addr) (X : List RR) (c : Nat) (w : World) (hV : RV 0 X q c w) (hm : X.length ≤ 1000) (hl : ∀ x ∈ X, x.2.1.length ≤ 1000) :
    Calls Try.prog 32 #[.slice q X.length c] w fun e w' => ∃ q' c' X', e = .returned (.slice q' X'.length c') ∧ X'.Perm X ∧ Ord (lS X') ∧ RV w.heap.size X' q' c' w' ∧ Below w.heap.size w w' := sorted32 q X c w hV hm hl
theorem few_of {X : List RR} {A : List (List Int)} (h : (lS X).Perm A) (hA : A.length ≤ 1000) (hm : ∀ a ∈ A, a.length ≤ 1000) : X.length ≤ 1000 ∧ ∀ x ∈ X, x.2.1.length ≤ 1000 :=
  ⟨by have := h.length_eq; rw [lS_len] at this; omega, fun x hx => hm _ (h.mem_iff.1 (List.mem_map.2 ⟨x, hx, rfl⟩))⟩
theorem eqf_yes {B B' : Nat} (p : Option Addr) (A : List RR) (c : Nat) (q : Option Addr) (C : List RR) (d : Nat) (w : World) (hA : RV B A p c w) (hC : RV B' C q d w) (hn : A.length ≤ 1000) (hl : ∀ x ∈ A, x.2.1.length ≤ 1000) (he : lS A = lS C) :
    Calls Try.prog 19 #[.slice p A.length c, .slice q C.length d, .func (.func 21) #[] #[]] w fun e w' => e = .returned (.bool true) ∧ Below w.heap.size w w' := by
  have := equalFunc19 p A c q C d w hA.row hC.row (by omega) (fun k hk => by
    have h1 : rL A k = (A[k]'hk).2.1 := by simp [rL, hk]
    rw [h1]
    have := hl _ (List.getElem_mem hk); omega)
  rw [decide_eq_true he] at this
  exact this
end Go.Proofs.Ytkbikngkhaeakaa
