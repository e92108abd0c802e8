/- The document's answers: Parts, Class, far, Compare, Less, Equal, Test, Next. -/
import Derived.Test.YtglfhgedaknljaaNx
namespace Go.Proofs.Ytglfhgedaknljaa
open Go.RowKit

def faW (x : Int) : Int := x % 9223372036854775808
theorem parts11 (x : Int) (w : World) (h : W64 x) : Calls Try.prog 11 #[.int .u64 x] w fun e w' => e = .returned (.tuple #[.bool (ngW x), .int .i64 (exW x), .int .u64 (maW x)]) ∧ w' = w := by
  have e1 : Hid (x.tdiv 4503599627370496 = x / 4503599627370496) := by unfold Hid; exact Int.tdiv_eq_ediv_of_nonneg h.1
  have e0 : Hid (IntKind.u64.wrap (x / 4503599627370496) = x / 4503599627370496) := wrapu64_small _ (by unfold W64 at h; omega) (by unfold W64 at h; omega)
  have e2 : Hid ((x / 4503599627370496).tmod 2048 = exW x) := by unfold Hid exW; exact Int.tmod_eq_emod_of_nonneg (by unfold W64 at h; omega)
  have e3 : Hid (x.tmod 4503599627370496 = maW x) := by unfold Hid maW; exact Int.tmod_eq_emod_of_nonneg h.1
  have e4 : Hid (wrap64 (exW x) = exW x) := wrap64_small _ (exW_bd x).1 (by have := exW_bd x; omega)
  have e5 : Hid (decide (9223372036854775808 ≤ x) = ngW x) := rfl
  go_enter Try.func11, Try.ntmps11
  go_wp2
  rw [e1.out, e0.out, e2.out, e3.out, e4.out, e5.out]
  exact bodyPost_ret (v := .tuple #[.bool (ngW x), .int .i64 (exW x), .int .u64 (maW x)]) (by simp [results, Try.results11, go_sem]) rfl ⟨rfl, rfl⟩
theorem far35 (x : Int) (w : World) (h : W64 x) : Calls Try.prog 35 #[.int .u64 x] w fun e w' => e = .returned (.int .u64 (faW x)) ∧ w' = w := by
  have e3 : Hid (x.tmod 9223372036854775808 = faW x) := by unfold Hid faW; exact Int.tmod_eq_emod_of_nonneg h.1
  go_enter Try.func35, Try.ntmps35
  go_wp2
  go_ret
  refine ⟨?_, rfl⟩
  rw [← e3.out]; rfl
theorem class15 (x : Int) (w : World) (h : W64 x) : Calls Try.prog 15 #[.int .u64 x] w fun e w' => e = .returned (.int .i64 (clW x)) ∧ w' = w := by
  have PP := fun (W : World) => parts11 x W h
  have hb := exW_bd x
  have hm := maW_bd x
  obtain ⟨a, ea⟩ : ∃ a, a = ngW x := ⟨_, rfl⟩
  obtain ⟨b, eb⟩ : ∃ b, b = exW x := ⟨_, rfl⟩
  obtain ⟨c, ec⟩ : ∃ c, c = maW x := ⟨_, rfl⟩
  unfold clW
  rw [← eb, ← ec]
  rw [← ea, ← eb, ← ec] at PP
  rw [← eb] at hb
  rw [← ec] at hm
  clear ea eb ec
  by_cases q1 : b = 2047
  · subst q1
    clear hb
    by_cases q2 : c = 0
    · subst q2
      clear hm
      go_enter Try.func15, Try.ntmps15
      go_wp2_with (first | (go_at_call 11; refine (PP _).mono ?_; rintro e w1 ⟨rfl, rfl⟩))
      go_ret
      exact ⟨rfl, rfl⟩
    · rw [if_pos rfl, if_neg q2]
      have q3 : 0 < c := by omega
      clear hm
      go_enter Try.func15, Try.ntmps15
      go_wp2_with (first | (go_at_call 11; refine (PP _).mono ?_; rintro e w1 ⟨rfl, rfl⟩))
      go_ret
      exact ⟨rfl, rfl⟩
  · rw [if_neg q1]
    by_cases q3 : b = 0
    · subst q3
      clear hb q1
      by_cases q2 : c = 0
      · subst q2
        clear hm
        go_enter Try.func15, Try.ntmps15
        go_wp2_with (first | (go_at_call 11; refine (PP _).mono ?_; rintro e w1 ⟨rfl, rfl⟩))
        go_ret
        exact ⟨rfl, rfl⟩
      · rw [if_pos rfl, if_neg q2]
        have q3 : 0 < c := by omega
        clear hm
        go_enter Try.func15, Try.ntmps15
        go_wp2_with (first | (go_at_call 11; refine (PP _).mono ?_; rintro e w1 ⟨rfl, rfl⟩))
        go_ret
        exact ⟨rfl, rfl⟩
    · rw [if_neg q3]
      have q4 : 0 < b := by omega
      clear hb hm
      go_enter Try.func15, Try.ntmps15
      go_wp2_with (first | (go_at_call 11; refine (PP _).mono ?_; rintro e w1 ⟨rfl, rfl⟩))
      go_ret
      exact ⟨rfl, rfl⟩
/-- How the document compares. -/
theorem cm_eq (a : Int) : cmW a a = 0 := by unfold cmW cmI; rw [if_neg (by omega), if_neg (by omega)]
theorem cm_tf {a b : Int} (ha : W64 a) (hb : W64 b) (h1 : ngW a = true) (h2 : ngW b = false) : cmW a b = -1 := by
  have e1 : 9223372036854775808 ≤ a := of_decide_eq_true h1
  have e2 : ¬ 9223372036854775808 ≤ b := of_decide_eq_false h2
  unfold W64 at *; unfold cmW cmI plW; rw [if_pos e1, if_neg e2, if_pos (by omega)]
theorem cm_ft {a b : Int} (ha : W64 a) (hb : W64 b) (h1 : ngW a = false) (h2 : ngW b = true) : cmW a b = 1 := by
  have e1 : ¬ 9223372036854775808 ≤ a := of_decide_eq_false h1
  have e2 : 9223372036854775808 ≤ b := of_decide_eq_true h2
  unfold W64 at *; unfold cmW cmI plW; rw [if_neg e1, if_pos e2, if_neg (by omega), if_pos (by omega)]
theorem cm_tt {a b : Int} (ha : W64 a) (hb : W64 b) (ne : a ≠ b) (h1 : ngW a = true) (h2 : ngW b = true) : cmW a b = if faW b < faW a then -1 else 1 := by
  have e1 : 9223372036854775808 ≤ a := of_decide_eq_true h1
  have e2 : 9223372036854775808 ≤ b := of_decide_eq_true h2
  unfold W64 at *; unfold cmW cmI plW faW; rw [if_pos e1, if_pos e2]; (repeat' split) <;> omega
theorem cm_ff {a b : Int} (ha : W64 a) (hb : W64 b) (ne : a ≠ b) (h1 : ngW a = false) (h2 : ngW b = false) : cmW a b = if faW a < faW b then -1 else 1 := by
  have e1 : ¬ 9223372036854775808 ≤ a := of_decide_eq_false h1
  have e2 : ¬ 9223372036854775808 ≤ b := of_decide_eq_false h2
  unfold W64 at *; unfold cmW cmI plW faW; rw [if_neg e1, if_neg e2]; (repeat' split) <;> omega
set_option maxHeartbeats 1000000 in
theorem compare18 (a b : Int) (w : World) (ha : W64 a) (hb : W64 b) : Calls Try.prog 18 #[.int .u64 a, .int .u64 b] w fun e w' => e = .returned (.int .i64 (cmW a b)) ∧ w' = w := by
  by_cases ne : a = b
  · subst ne
    rw [cm_eq]
    have PA := fun (W : World) => parts11 a W ha
    go_enter Try.func18, Try.ntmps18
    go_wp2_with (first | (go_at_call 11; refine Calls.mono (PA _) ?_; rintro e w1 ⟨rfl, rfl⟩))
    go_ret
    exact ⟨rfl, rfl⟩
  · have hab : (a == b) = false := by simp [ne]
    have PA := fun (W : World) => parts11 a W ha
    have PB := fun (W : World) => parts11 b W hb
    have FA := fun (W : World) => far35 a W ha
    have FB := fun (W : World) => far35 b W hb
    have K1 := cm_tf ha hb
    have K2 := cm_ft ha hb
    have K3 := cm_tt ha hb ne
    have K4 := cm_ff ha hb ne
    obtain ⟨x, hx⟩ : ∃ x, x = ngW a := ⟨_, rfl⟩
    obtain ⟨y, hy⟩ : ∃ y, y = ngW b := ⟨_, rfl⟩
    obtain ⟨u, hu⟩ : ∃ u, u = faW a := ⟨_, rfl⟩
    obtain ⟨v, hv⟩ : ∃ v, v = faW b := ⟨_, rfl⟩
    rw [← hx, ← hy] at K1 K2 K3 K4
    rw [← hu, ← hv] at K3 K4
    rw [← hx] at PA
    rw [← hy] at PB
    rw [← hu] at FA
    rw [← hv] at FB
    clear hx hy hu hv ne
    cases x <;> cases y
    · rw [K4 rfl rfl]
      clear K1 K2 K3 K4
      by_cases q : u < v
      · rw [if_pos q]
        go_enter Try.func18, Try.ntmps18
        go_wp2_with (first | (go_at_call_has 11 a; refine Calls.mono (PA _) ?_; rintro e w1 ⟨rfl, rfl⟩) | (go_at_call_has 11 b; refine Calls.mono (PB _) ?_; rintro e w1 ⟨rfl, rfl⟩) | (go_at_call_has 35 a; refine Calls.mono (FA _) ?_; rintro e w1 ⟨rfl, rfl⟩) | (go_at_call_has 35 b; refine Calls.mono (FB _) ?_; rintro e w1 ⟨rfl, rfl⟩))
        go_ret
        exact ⟨rfl, rfl⟩
      · rw [if_neg q]
        go_enter Try.func18, Try.ntmps18
        go_wp2_with (first | (go_at_call_has 11 a; refine Calls.mono (PA _) ?_; rintro e w1 ⟨rfl, rfl⟩) | (go_at_call_has 11 b; refine Calls.mono (PB _) ?_; rintro e w1 ⟨rfl, rfl⟩) | (go_at_call_has 35 a; refine Calls.mono (FA _) ?_; rintro e w1 ⟨rfl, rfl⟩) | (go_at_call_has 35 b; refine Calls.mono (FB _) ?_; rintro e w1 ⟨rfl, rfl⟩))
        go_ret
        exact ⟨rfl, rfl⟩
    · rw [K2 rfl rfl]
      clear K1 K2 K3 K4
      go_enter Try.func18, Try.ntmps18
      go_wp2_with (first | (go_at_call_has 11 a; refine Calls.mono (PA _) ?_; rintro e w1 ⟨rfl, rfl⟩) | (go_at_call_has 11 b; refine Calls.mono (PB _) ?_; rintro e w1 ⟨rfl, rfl⟩) | (go_at_call_has 35 a; refine Calls.mono (FA _) ?_; rintro e w1 ⟨rfl, rfl⟩) | (go_at_call_has 35 b; refine Calls.mono (FB _) ?_; rintro e w1 ⟨rfl, rfl⟩))
      go_ret
      exact ⟨rfl, rfl⟩
    · rw [K1 rfl rfl]
      clear K1 K2 K3 K4
      go_enter Try.func18, Try.ntmps18
      go_wp2_with (first | (go_at_call_has 11 a; refine Calls.mono (PA _) ?_; rintro e w1 ⟨rfl, rfl⟩) | (go_at_call_has 11 b; refine Calls.mono (PB _) ?_; rintro e w1 ⟨rfl, rfl⟩) | (go_at_call_has 35 a; refine Calls.mono (FA _) ?_; rintro e w1 ⟨rfl, rfl⟩) | (go_at_call_has 35 b; refine Calls.mono (FB _) ?_; rintro e w1 ⟨rfl, rfl⟩))
      go_ret
      exact ⟨rfl, rfl⟩
    · rw [K3 rfl rfl]
      clear K1 K2 K3 K4
      by_cases q : v < u
      · rw [if_pos q]
        go_enter Try.func18, Try.ntmps18
        go_wp2_with (first | (go_at_call_has 11 a; refine Calls.mono (PA _) ?_; rintro e w1 ⟨rfl, rfl⟩) | (go_at_call_has 11 b; refine Calls.mono (PB _) ?_; rintro e w1 ⟨rfl, rfl⟩) | (go_at_call_has 35 a; refine Calls.mono (FA _) ?_; rintro e w1 ⟨rfl, rfl⟩) | (go_at_call_has 35 b; refine Calls.mono (FB _) ?_; rintro e w1 ⟨rfl, rfl⟩))
        go_ret
        exact ⟨rfl, rfl⟩
      · rw [if_neg q]
        go_enter Try.func18, Try.ntmps18
        go_wp2_with (first | (go_at_call_has 11 a; refine Calls.mono (PA _) ?_; rintro e w1 ⟨rfl, rfl⟩) | (go_at_call_has 11 b; refine Calls.mono (PB _) ?_; rintro e w1 ⟨rfl, rfl⟩) | (go_at_call_has 35 a; refine Calls.mono (FA _) ?_; rintro e w1 ⟨rfl, rfl⟩) | (go_at_call_has 35 b; refine Calls.mono (FB _) ?_; rintro e w1 ⟨rfl, rfl⟩))
        go_ret
        exact ⟨rfl, rfl⟩
theorem ls_ok {a b : Int} (ha : W64 a) (hb : W64 b) (na : clW a ≠ 4) (nb : clW b ≠ 4) (h : ¬ (faW a = 0 ∧ faW b = 0)) : decide (cmW a b < 0) = tsW 1 a b := by
  have eA : nuW a = true := by simp [nuW, na]
  have eB : nuW b = true := by simp [nuW, nb]
  rw [ts1, eA, eB]
  have e : cmW a b < 0 ↔ plW a < plW b := cmI_lt
  have e2 : plW a < plW b ↔ plW (unW a) < plW (unW b) := by
    unfold W64 faW at *; unfold plW unW; (repeat' split) <;> omega
  have e3 := e.trans e2
  by_cases q : plW (unW a) < plW (unW b)
  · simp [q, e3.2 q]
  · have : ¬ cmW a b < 0 := fun h => q (e3.1 h)
    simp [q, this]
theorem ls_zero {a b : Int} (ha : W64 a) (hb : W64 b) (h1 : faW a = 0) (h2 : faW b = 0) : tsW 1 a b = false := by
  rw [ts1]
  have : ¬ plW (unW a) < plW (unW b) := by unfold W64 faW at *; unfold plW unW; (repeat' split) <;> omega
  simp [this]
theorem ls_na {a b : Int} (h : clW a = 4) : tsW 1 a b = false := by rw [ts1]; simp [nuW, h]
theorem ls_nb {a b : Int} (h : clW b = 4) : tsW 1 a b = false := by rw [ts1]; simp [nuW, h]
set_option maxHeartbeats 1000000 in
theorem less41 (a b : Int) (w : World) (ha : W64 a) (hb : W64 b) : Calls Try.prog 41 #[.int .u64 a, .int .u64 b] w fun e w' => e = .returned (.bool (tsW 1 a b)) ∧ w' = w := by
  have K1 := @ls_na a b
  have K2 := @ls_nb a b
  have K3 := ls_zero ha hb
  have K4 := ls_ok ha hb
  obtain ⟨q, hq⟩ : ∃ q, q = clW := ⟨_, rfl⟩
  obtain ⟨f, hf⟩ : ∃ f, f = faW := ⟨_, rfl⟩
  have QQ : ∀ (x : Int) (W : World), W64 x → Calls Try.prog 15 #[.int .u64 x] W fun e w' => e = .returned (.int .i64 (q x)) ∧ w' = W := by rw [hq]; exact class15
  have FF : ∀ (x : Int) (W : World), W64 x → Calls Try.prog 35 #[.int .u64 x] W fun e w' => e = .returned (.int .u64 (f x)) ∧ w' = W := by rw [hf]; exact far35
  have CC := fun (W : World) => compare18 a b W ha hb
  rw [← hq] at K1 K2 K4
  rw [← hf] at K3 K4
  clear hq hf
  obtain ⟨t, ht⟩ : ∃ t, t = tsW 1 a b := ⟨_, rfl⟩
  obtain ⟨o, ho⟩ : ∃ o, o = cmW a b := ⟨_, rfl⟩
  rw [← ht] at K1 K2 K3 K4 ⊢
  rw [← ho] at K4 CC
  clear ht ho
  by_cases q1 : q a = 4
  · rw [K1 q1]
    clear K1 K2 K3 K4
    go_enter Try.func41, Try.ntmps41
    go_wp2_with (first | (go_at_call 15; refine Calls.mono (QQ _ _ (by assumption)) ?_; rintro e w1 ⟨rfl, rfl⟩) | (go_at_call 35; refine Calls.mono (FF _ _ (by assumption)) ?_; rintro e w1 ⟨rfl, rfl⟩) | (go_at_call 18; refine Calls.mono (CC _) ?_; rintro e w1 ⟨rfl, rfl⟩))
    go_ret
    exact ⟨rfl, rfl⟩
  · have p1 : (q a == 4) = false := by simp [q1]
    by_cases q2 : q b = 4
    · rw [K2 q2]
      clear K1 K2 K3 K4 q1
      go_enter Try.func41, Try.ntmps41
      go_wp2_with (first | (go_at_call 15; refine Calls.mono (QQ _ _ (by assumption)) ?_; rintro e w1 ⟨rfl, rfl⟩) | (go_at_call 35; refine Calls.mono (FF _ _ (by assumption)) ?_; rintro e w1 ⟨rfl, rfl⟩) | (go_at_call 18; refine Calls.mono (CC _) ?_; rintro e w1 ⟨rfl, rfl⟩))
      go_ret
      exact ⟨rfl, rfl⟩
    · have p2 : (q b == 4) = false := by simp [q2]
      by_cases q3 : f a = 0
      · by_cases q4 : f b = 0
        · rw [K3 q3 q4]
          clear K1 K2 K3 K4 q1 q2
          go_enter Try.func41, Try.ntmps41
          go_wp2_with (first | (go_at_call 15; refine Calls.mono (QQ _ _ (by assumption)) ?_; rintro e w1 ⟨rfl, rfl⟩) | (go_at_call 35; refine Calls.mono (FF _ _ (by assumption)) ?_; rintro e w1 ⟨rfl, rfl⟩) | (go_at_call 18; refine Calls.mono (CC _) ?_; rintro e w1 ⟨rfl, rfl⟩))
          go_ret
          exact ⟨rfl, rfl⟩
        · have p4 : (f b == 0) = false := by simp [q4]
          rw [← K4 q1 q2 (fun h => q4 h.2)]
          clear K1 K2 K3 K4 q1 q2 q4
          go_enter Try.func41, Try.ntmps41
          go_wp2_with (first | (go_at_call 15; refine Calls.mono (QQ _ _ (by assumption)) ?_; rintro e w1 ⟨rfl, rfl⟩) | (go_at_call 35; refine Calls.mono (FF _ _ (by assumption)) ?_; rintro e w1 ⟨rfl, rfl⟩) | (go_at_call 18; refine Calls.mono (CC _) ?_; rintro e w1 ⟨rfl, rfl⟩))
          go_ret
          exact ⟨rfl, rfl⟩
      · have p3 : (f a == 0) = false := by simp [q3]
        rw [← K4 q1 q2 (fun h => q3 h.1)]
        clear K1 K2 K3 K4 q1 q2 q3
        go_enter Try.func41, Try.ntmps41
        go_wp2_with (first | (go_at_call 15; refine Calls.mono (QQ _ _ (by assumption)) ?_; rintro e w1 ⟨rfl, rfl⟩) | (go_at_call 35; refine Calls.mono (FF _ _ (by assumption)) ?_; rintro e w1 ⟨rfl, rfl⟩) | (go_at_call 18; refine Calls.mono (CC _) ?_; rintro e w1 ⟨rfl, rfl⟩))
        go_ret
        exact ⟨rfl, rfl⟩
theorem cl_lt (x : Int) : clW x < 4 ↔ clW x ≠ 4 := by unfold clW; (repeat' split) <;> omega
theorem eq_na {a b : Int} (h : clW a = 4) : tsW 3 a b = false := by rw [ts3]; simp [nuW, h]
theorem eq_nb {a b : Int} (h : clW b = 4) : tsW 3 a b = false := by rw [ts3]; simp [nuW, h]
theorem eq_ok {a b : Int} (na : clW a ≠ 4) (nb : clW b ≠ 4) : tsW 3 a b = (!tsW 1 a b && !tsW 1 b a) := by
  have eA : nuW a = true := by simp [nuW, na]
  have eB : nuW b = true := by simp [nuW, nb]
  rw [ts3, ts1, ts1, eA, eB]
  by_cases q1 : plW (unW a) < plW (unW b)
  · have q3 : ¬ plW (unW a) = plW (unW b) := by omega
    simp [q1, q3]
  · by_cases q2 : plW (unW b) < plW (unW a)
    · have q3 : ¬ plW (unW a) = plW (unW b) := by omega
      simp [q2, q3]
    · have q3 : plW (unW a) = plW (unW b) := by omega
      simp [q3]
set_option maxHeartbeats 1000000 in
theorem equal42 (a b : Int) (w : World) (ha : W64 a) (hb : W64 b) : Calls Try.prog 42 #[.int .u64 a, .int .u64 b] w fun e w' => e = .returned (.bool (tsW 3 a b)) ∧ w' = w := by
  have K1 := @eq_na a b
  have K2 := @eq_nb a b
  have K4 := @eq_ok a b
  have L1 := cl_lt a
  have L2 := cl_lt b
  obtain ⟨q, hq⟩ : ∃ q, q = clW := ⟨_, rfl⟩
  have QQ : ∀ (x : Int) (W : World), W64 x → Calls Try.prog 15 #[.int .u64 x] W fun e w' => e = .returned (.int .i64 (q x)) ∧ w' = W := by rw [hq]; exact class15
  obtain ⟨f, hf⟩ : ∃ f, f = tsW 1 := ⟨_, rfl⟩
  have LL : ∀ (x y : Int) (W : World), W64 x → W64 y → Calls Try.prog 41 #[.int .u64 x, .int .u64 y] W fun e w' => e = .returned (.bool (f x y)) ∧ w' = W := by rw [hf]; exact less41
  obtain ⟨t, ht⟩ : ∃ t, t = tsW 3 a b := ⟨_, rfl⟩
  rw [← hq] at K1 K2 K4 L1 L2
  rw [← ht] at K1 K2 K4 ⊢
  rw [← hf] at K4
  clear hq hf ht
  by_cases q1 : q a = 4
  · rw [K1 q1]
    clear K1 K2 K4 L1 L2
    go_enter Try.func42, Try.ntmps42
    go_wp2_with (first | (go_at_call 15; refine Calls.mono (QQ _ _ (by assumption)) ?_; rintro e w1 ⟨rfl, rfl⟩) | (go_at_call 41; refine Calls.mono (LL _ _ _ (by assumption) (by assumption)) ?_; rintro e w1 ⟨rfl, rfl⟩))
    go_ret
    exact ⟨rfl, rfl⟩
  · have p1 := L1.2 q1
    by_cases q2 : q b = 4
    · rw [K2 q2]
      clear K1 K2 K4 L1 L2 q1
      go_enter Try.func42, Try.ntmps42
      go_wp2_with (first | (go_at_call 15; refine Calls.mono (QQ _ _ (by assumption)) ?_; rintro e w1 ⟨rfl, rfl⟩) | (go_at_call 41; refine Calls.mono (LL _ _ _ (by assumption) (by assumption)) ?_; rintro e w1 ⟨rfl, rfl⟩))
      go_ret
      exact ⟨rfl, rfl⟩
    · have p2 := L2.2 q2
      rw [K4 q1 q2]
      clear K1 K2 K4 L1 L2 q1 q2
      cases f1 : f a b
      · cases f2 : f b a
        · go_enter Try.func42, Try.ntmps42
          go_wp2_with (first | (go_at_call 15; refine Calls.mono (QQ _ _ (by assumption)) ?_; rintro e w1 ⟨rfl, rfl⟩) | (go_at_call 41; refine Calls.mono (LL _ _ _ (by assumption) (by assumption)) ?_; rintro e w1 ⟨rfl, rfl⟩))
          go_ret
          exact ⟨rfl, rfl⟩
        · go_enter Try.func42, Try.ntmps42
          go_wp2_with (first | (go_at_call 15; refine Calls.mono (QQ _ _ (by assumption)) ?_; rintro e w1 ⟨rfl, rfl⟩) | (go_at_call 41; refine Calls.mono (LL _ _ _ (by assumption) (by assumption)) ?_; rintro e w1 ⟨rfl, rfl⟩))
          go_ret
          exact ⟨rfl, rfl⟩
      · go_enter Try.func42, Try.ntmps42
        go_wp2_with (first | (go_at_call 15; refine Calls.mono (QQ _ _ (by assumption)) ?_; rintro e w1 ⟨rfl, rfl⟩) | (go_at_call 41; refine Calls.mono (LL _ _ _ (by assumption) (by assumption)) ?_; rintro e w1 ⟨rfl, rfl⟩))
        go_ret
        exact ⟨rfl, rfl⟩
theorem ts_other {k a b : Int} (h1 : k ≠ 1) (h2 : k ≠ 2) (h3 : k ≠ 3) : tsW k a b = false := by unfold tsW tsO; simp [h1, h2, h3]
theorem ts_swap (a b : Int) : tsW 1 b a = tsW 2 a b := by rw [ts1, ts2, Bool.and_comm (nuW b)]
theorem test20 (k a b : Int) (w : World) (ha : W64 a) (hb : W64 b) : Calls Try.prog 20 #[.int .i64 k, .int .u64 a, .int .u64 b] w fun e w' => e = .returned (.bool (tsW k a b)) ∧ w' = w := by
  by_cases k1 : k = 1
  · subst k1
    go_enter Try.func20, Try.ntmps20
    go_wp2_with (first | (go_at_call 41; refine Calls.mono (less41 a b _ ha hb) ?_; rintro e w1 ⟨rfl, rfl⟩))
    go_ret
    exact ⟨rfl, rfl⟩
  · by_cases k2 : k = 2
    · subst k2
      rw [← ts_swap]
      go_enter Try.func20, Try.ntmps20
      go_wp2_with (first | (go_at_call 41; refine Calls.mono (less41 b a _ hb ha) ?_; rintro e w1 ⟨rfl, rfl⟩))
      go_ret
      exact ⟨rfl, rfl⟩
    · by_cases k3 : k = 3
      · subst k3
        go_enter Try.func20, Try.ntmps20
        go_wp2_with (first | (go_at_call 42; refine Calls.mono (equal42 a b _ ha hb) ?_; rintro e w1 ⟨rfl, rfl⟩))
        go_ret
        exact ⟨rfl, rfl⟩
      · rw [ts_other k1 k2 k3]
        go_enter Try.func20, Try.ntmps20
        go_wp2
        go_ret
        exact ⟨rfl, rfl⟩
def rnW (x : Int) : Int := if faW x = 0 then 1 else if ngW x then (if faW x = 1 then 0 else x - 1) else x + 1
theorem rn_ok {x : Int} (h : W64 x) (hn : nuW x = true) : rnW x = nxW x := by
  have hb := nuW_t h hn
  unfold rnW nxW plW unW atW faW ngW W64 at *
  simp only [decide_eq_true_eq]
  (repeat' split) <;> omega
theorem next14 (x : Int) (w : World) (h : W64 x) : Calls Try.prog 14 #[.int .u64 x] w fun e w' => e = .returned (.int .u64 (rnW x)) ∧ w' = w := by
  have PA := fun (W : World) => parts11 x W h
  have FA := fun (W : World) => far35 x W h
  have hg : ngW x = decide (9223372036854775808 ≤ x) := rfl
  have W1 : Hid (ngW x = false → IntKind.u64.wrap (x + 1) = x + 1) := fun q => wrapu64_small _ (by unfold W64 at h; omega) (by rw [hg] at q; simp at q; omega)
  have W2 : Hid (ngW x = true → IntKind.u64.wrap (x - 1) = x - 1) := fun q => wrapu64_small _ (by rw [hg] at q; simp at q; omega) (by unfold W64 at h; omega)
  unfold rnW
  clear hg
  obtain ⟨g, hg⟩ : ∃ g, g = ngW x := ⟨_, rfl⟩
  obtain ⟨u, hu⟩ : ∃ u, u = faW x := ⟨_, rfl⟩
  rw [← hg] at W1 W2 PA ⊢
  rw [← hu] at FA ⊢
  clear hg hu
  by_cases q1 : u = 0
  · subst q1
    rw [if_pos rfl]
    go_enter Try.func14, Try.ntmps14
    go_wp2_with (first | (go_at_call 11; refine Calls.mono (PA _) ?_; rintro e w1 ⟨rfl, rfl⟩) | (go_at_call 35; refine Calls.mono (FA _) ?_; rintro e w1 ⟨rfl, rfl⟩))
    go_ret
    exact ⟨rfl, rfl⟩
  · rw [if_neg q1]
    have p1 : (u == 0) = false := by simp [q1]
    clear q1
    cases g
    · have E := hidOg (W1.out rfl)
      simp only [Bool.false_eq_true, if_false]
      clear W1 W2
      go_enter Try.func14, Try.ntmps14
      go_wp2_with (first | (go_at_call 11; refine Calls.mono (PA _) ?_; rintro e w1 ⟨rfl, rfl⟩) | (go_at_call 35; refine Calls.mono (FA _) ?_; rintro e w1 ⟨rfl, rfl⟩))
      go_ret
      refine ⟨?_, rfl⟩
      rw [E.out]; rfl
    · have E := hidOg (W2.out rfl)
      simp only [if_true]
      clear W1 W2
      by_cases q2 : u = 1
      · subst q2
        rw [if_pos rfl]
        go_enter Try.func14, Try.ntmps14
        go_wp2_with (first | (go_at_call 11; refine Calls.mono (PA _) ?_; rintro e w1 ⟨rfl, rfl⟩) | (go_at_call 35; refine Calls.mono (FA _) ?_; rintro e w1 ⟨rfl, rfl⟩))
        go_ret
        exact ⟨rfl, rfl⟩
      · rw [if_neg q2]
        have p2 : (u == 1) = false := by simp [q2]
        clear q2
        go_enter Try.func14, Try.ntmps14
        go_wp2_with (first | (go_at_call 11; refine Calls.mono (PA _) ?_; rintro e w1 ⟨rfl, rfl⟩) | (go_at_call 35; refine Calls.mono (FA _) ?_; rintro e w1 ⟨rfl, rfl⟩))
        go_ret
        refine ⟨?_, rfl⟩
        rw [E.out]; rfl
end Go.Proofs.Ytglfhgedaknljaa
