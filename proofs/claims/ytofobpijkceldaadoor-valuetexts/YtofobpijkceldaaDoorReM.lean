/- The document's Read goes through a text sign by sign: plain mathematics. -/
import Derived.Test.YtofobpijkceldaaDoorBaM
namespace Go.Proofs.YtofobpijkceldaaDoor
open Go.RowKit Go.Shelf

/-- How far a text has been read: the parts that are done, and the one under way. -/
structure RdI (l : List UInt8) (i : Nat) (done : List (List UInt8)) (cur : List UInt8) : Prop where
  pr : prts l = done ++ prts (cur ++ l.drop i)
  ok : done.all okW = true
  cn : cur.all isH = true
  c16 : cur.length ≤ 16
  hd : 1 < cur.length → (cur.headD 0 == 48) = false
theorem RdI.start (l : List UInt8) : RdI l 0 [] [] := ⟨by simp, by simp, by simp, by simp, by simp⟩
theorem okW_cur {cur : List UInt8} (h0 : cur ≠ []) (cn : cur.all isH = true) (c16 : cur.length ≤ 16) (hd : 1 < cur.length → (cur.headD 0 == 48) = false) : okW cur = true := by
  have h1 : 1 ≤ cur.length := by cases cur with | nil => exact absurd rfl h0 | cons _ _ => simp
  unfold okW
  rw [cn, decide_eq_true ⟨h1, c16⟩]
  by_cases h : 1 < cur.length
  · rw [hd h]; simp
  · rw [decide_eq_false h]; rfl
theorem drop_at {l : List UInt8} {i : Nat} (h : i < l.length) : l.drop i = l[i] :: l.drop (i + 1) := List.drop_eq_getElem_cons h
theorem RdI.comma {l : List UInt8} {i : Nat} {done : List (List UInt8)} {cur : List UInt8} (h : RdI l i done cur) (hi : i < l.length) (hc : l[i] = 44) (h0 : cur ≠ []) : RdI l (i + 1) (done ++ [cur]) [] := by
  have hn := noC_isH h.cn
  obtain ⟨e1, e2⟩ := ahd_app (y := l.drop (i + 1)) hn
  refine ⟨?_, ?_, by simp, by simp, by simp⟩
  · rw [h.pr, drop_at hi, hc, prts_yes e2, e1]
    have e3 : bhd (cur ++ 44 :: l.drop (i + 1)) = l.drop (i + 1) := by unfold bhd; rw [e1]; simp
    rw [e3]; simp
  · rw [List.all_append, h.ok]; simp [okW_cur h0 h.cn h.c16 h.hd]
theorem RdI.fin {l : List UInt8} {i : Nat} {done : List (List UInt8)} {cur : List UInt8} (h : RdI l i done cur) (hi : i = l.length) (h0 : cur ≠ []) : prts l = done ++ [cur] ∧ (done ++ [cur]).all okW = true := by
  have hn := noC_isH h.cn
  refine ⟨?_, by rw [List.all_append, h.ok]; simp [okW_cur h0 h.cn h.c16 h.hd]⟩
  have hp := h.pr
  rw [hi, List.drop_length, List.append_nil, prts_no hn, (ix_no cur hn).2] at hp
  exact hp
theorem rd_first {l : List UInt8} {done : List (List UInt8)} {X : List UInt8} (h : prts l = done ++ prts X) (hb : okW (ahd X) = false) : rdOk l = false := by
  unfold rdOk
  rw [h, List.all_append]
  have : prts X = ahd X :: (if _h : hasC X = true then prts (bhd X) else []) := by rw [prts]
  rw [this, List.all_cons, hb]
  simp
theorem RdI.none {l : List UInt8} {i : Nat} {done : List (List UInt8)} (h : RdI l i done []) (hi : i = l.length ∨ ∃ hi : i < l.length, l[i] = 44) : rdOk l = false := by
  refine rd_first h.pr ?_
  rcases hi with hi | ⟨hi, hc⟩
  · rw [hi, List.drop_length]; decide
  · rw [drop_at hi, hc]
    have e : ahd ([] ++ 44 :: l.drop (i + 1)) = [] := (ahd_app (x := []) (by unfold noC; decide)).1
    rw [e]; decide
theorem num_one {cur : List UInt8} (cn : cur.all isH = true) (h : cur.length = 1) (h0 : numH cur = 0) : cur = [48] := by
  match cur, h with
  | [x], _ =>
    simp at cn
    have e := hexD_vH x cn
    have e2 : vH x = 0 := by simpa [numH] using h0
    rw [e2] at e
    rw [← e]; decide
theorem RdI.step {l : List UInt8} {i : Nat} {done : List (List UInt8)} {cur : List UInt8} (h : RdI l i done cur) (hi : i < l.length) (hc : isH l[i] = true) (h16 : cur.length < 16) (hz : ¬ (cur.length = 1 ∧ numH cur = 0)) : RdI l (i + 1) done (cur ++ [l[i]]) := by
  refine ⟨?_, h.ok, by rw [List.all_append, h.cn]; simp [hc], by simp; omega, ?_⟩
  · rw [h.pr, drop_at hi]; simp
  · intro h1
    cases cur with
    | nil => simp at h1
    | cons x r =>
      simp only [List.cons_append, List.headD_cons]
      by_cases hr : r = []
      · subst hr
        rw [beq_eq_false_iff_ne]; intro e
        apply hz
        rw [e]; exact ⟨rfl, by decide⟩
      · have := h.hd (by cases r with | nil => exact absurd rfl hr | cons _ _ => simp)
        simpa using this
theorem ahd_more {cur r : List UInt8} {c : UInt8} (hn : noC cur) (hc : c ≠ 44) : ahd (cur ++ c :: r) = cur ++ c :: ahd r := by
  have h2 := (ix_no cur hn).2
  unfold ahd at h2 ⊢
  rw [List.takeWhile_append, h2]
  have : (c != 44) = true := by simpa using hc
  simp [this]
theorem RdI.bad {l : List UInt8} {i : Nat} {done : List (List UInt8)} {cur : List UInt8} (h : RdI l i done cur) (hi : i < l.length) (hc : l[i] ≠ 44) (hb : isH l[i] = false ∨ cur.length = 16 ∨ (cur.length = 1 ∧ numH cur = 0)) : rdOk l = false := by
  refine rd_first h.pr ?_
  rw [drop_at hi, ahd_more (noC_isH h.cn) hc]
  unfold okW
  rcases hb with hb | hb | ⟨h1, h0⟩
  · rw [List.all_append, List.all_cons, hb]; simp
  · rw [decide_eq_false (by simp; omega)]; rfl
  · rw [num_one h.cn h1 h0]; simp
theorem num_lt {l : List UInt8} {i : Nat} {done : List (List UInt8)} {cur : List UInt8} (h : RdI l i done cur) (h16 : cur.length < 16) : numH cur < 1152921504606846976 := by
  have h1 := numH_lt cur h.cn
  have h3 : 16 ^ cur.length ≤ 16 ^ 15 := Nat.pow_le_pow_right (by omega) (by omega)
  have h4 : (16 : Nat) ^ 15 = 1152921504606846976 := by decide
  omega
theorem num_64 {l : List UInt8} {i : Nat} {done : List (List UInt8)} {cur : List UInt8} (h : RdI l i done cur) : numH cur < 18446744073709551616 := by
  have h1 := numH_lt cur h.cn
  have h3 : 16 ^ cur.length ≤ 16 ^ 16 := Nat.pow_le_pow_right (by omega) h.c16
  have h4 : (16 : Nat) ^ 16 = 18446744073709551616 := by decide
  omega
theorem prts_len : ∀ (n : Nat) (l : List UInt8), l.length ≤ n → (prts l).length ≤ l.length + 1 := by
  intro n
  induction n with
  | zero =>
    intro l h
    obtain rfl : l = [] := List.eq_nil_of_length_eq_zero (by omega)
    rw [prts_no (by decide)]; simp
  | succ n ih =>
    intro l h
    cases hc : hasC l
    · rw [prts_no hc]; simp
    · rw [prts_yes hc]
      have h1 := (ix_yes l hc).2
      have h2 : (bhd l).length + 1 ≤ l.length := by unfold bhd; simp only [List.length_drop]; omega
      have := ih (bhd l) (by omega)
      simp; omega
theorem done_len {l : List UInt8} {i : Nat} {done : List (List UInt8)} {cur : List UInt8} (h : RdI l i done cur) : done.length ≤ l.length := by
  have h1 := prts_len l.length l (Nat.le_refl _)
  rw [h.pr, List.length_append] at h1
  obtain ⟨y, r, e⟩ := prts_cons (cur ++ l.drop i)
  rw [e] at h1
  simp at h1; omega
/-- The number of a digit among the first k. -/
def dgN (c : UInt8) (k : Nat) : Int := if isH c = true ∧ vH c < k then (vH c : Int) else -1
theorem dg_hit {c : UInt8} {k : Nat} (hk : k < 16) (h : hexD k = c) : dgN c (k + 1) = k := by
  obtain ⟨a, b⟩ := isH_hexD k hk
  rw [h] at a b
  unfold dgN; rw [if_pos ⟨a, by omega⟩, b]
theorem dg_miss {c : UInt8} {k : Nat} (h : hexD k ≠ c) : dgN c (k + 1) = dgN c k := by
  unfold dgN
  by_cases hc : isH c = true
  · have h2 : vH c ≠ k := fun e => h (by rw [← e]; exact hexD_vH c hc)
    by_cases h3 : vH c < k
    · rw [if_pos ⟨hc, by omega⟩, if_pos ⟨hc, h3⟩]
    · rw [if_neg (fun e => h3 (by have := e.2; omega)), if_neg (fun e => h3 e.2)]
  · rw [if_neg (fun e => hc e.1), if_neg (fun e => hc e.1)]
theorem dg_yes {c : UInt8} (h : isH c = true) : dgN c 16 = vH c := by unfold dgN; rw [if_pos ⟨h, vH_lt h⟩]
theorem dg_no {c : UInt8} (h : isH c = false) : dgN c 16 = -1 := by unfold dgN; rw [if_neg (by simp [h])]
end Go.Proofs.YtofobpijkceldaaDoor
