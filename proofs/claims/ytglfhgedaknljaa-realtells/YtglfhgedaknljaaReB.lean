/- Test. -/
import Derived.Test.YtglfhgedaknljaaReA
import Derived.Laws.EntriesVeiled
namespace Go.Proofs.Ytglfhgedaknljaa
open Go.RowKit

theorem t37 (w : World) : Calls Try.prog 37 #[] w fun e w' => e = .returned (.bool false) ∧ w' = w := by
  go_enter Try.func37, Try.ntmps37
  go_wp2
  go_ret
  exact ⟨rfl, rfl⟩
theorem t38 (b : Nat) (o : Int) (w : World) (hc : w.cell? ⟨b, 0, none⟩ = some (.int .i64 o)) : Calls Try.prog 38 #[.pointer (some ⟨b, 0, none⟩)] w fun e w' => e = .returned (.bool (decide (o < 0))) ∧ w' = w := by
  go_enter Try.func38, Try.ntmps38
  go_wp2
  go_ret
  exact ⟨rfl, rfl⟩
theorem t39 (b : Nat) (o : Int) (w : World) (hc : w.cell? ⟨b, 0, none⟩ = some (.int .i64 o)) : Calls Try.prog 39 #[.pointer (some ⟨b, 0, none⟩)] w fun e w' => e = .returned (.bool (decide (0 < o))) ∧ w' = w := by
  go_enter Try.func39, Try.ntmps39
  go_wp2
  go_ret
  exact ⟨rfl, rfl⟩
theorem t40 (b : Nat) (o : Int) (w : World) (hc : w.cell? ⟨b, 0, none⟩ = some (.int .i64 o)) : Calls Try.prog 40 #[.pointer (some ⟨b, 0, none⟩)] w fun e w' => e = .returned (.bool (decide (o = 0))) ∧ w' = w := by
  have E : Hid ((o == 0) = decide (o = 0)) := by unfold Hid; by_cases q : o = 0 <;> simp [q]
  go_enter Try.func40, Try.ntmps40
  go_wp2
  go_ret
  refine ⟨?_, rfl⟩
  rw [← E.out]; rfl

theorem test19_na (k a b : Int) (w : World) (ha : W64 a) (hn : nuW a = false) : Calls Try.prog 19 #[.int .i64 k, .int .u64 a, .int .u64 b] w fun e w' => e = .returned (.bool false) ∧ Below w.heap.size w w' := by
  have HH := fun (W : World) => has31 a W ha
  rw [hn] at HH
  clear hn
  go_enter Try.func19, Try.ntmps19
  go_wp2_with (first | (go_at_call 31; refine (HH _).mono ?_; rintro e w1 ⟨rfl, rfl⟩))
  go_ret
  exact ⟨rfl, Below.refl _ _⟩
theorem test19_nb (k a b : Int) (w : World) (ha : W64 a) (hb : W64 b) (hn : nuW a = true) (hm : nuW b = false) : Calls Try.prog 19 #[.int .i64 k, .int .u64 a, .int .u64 b] w fun e w' => e = .returned (.bool false) ∧ Below w.heap.size w w' := by
  have HH := fun (W : World) => has31 a W ha
  rw [hn] at HH
  have GG := fun (W : World) => has31 b W hb
  rw [hm] at GG
  have ne : a ≠ b := by intro h; rw [h, hm] at hn; cases hn
  clear hn hm
  go_enter Try.func19, Try.ntmps19
  go_wp2_with (first | (go_at_call_has 31 a; refine (HH _).mono ?_; rintro e w1 ⟨rfl, rfl⟩) | (go_at_call_has 31 b; refine (GG _).mono ?_; rintro e w1 ⟨rfl, rfl⟩))
  go_ret
  exact ⟨rfl, Below.refl _ _⟩
theorem below2 {w w' : World} {a b : Obj} (h : Below ((w.alloc a).alloc b).heap.size ((w.alloc a).alloc b) w') : Below w.heap.size w w' :=
  ((Below.refl _ _).alloc (Nat.le_refl _) _).trans ((((Below.refl _ _).alloc (Nat.le_refl _) _).trans (h.mono (by simp))).mono (by simp))
theorem test19_k0 (a b : Int) (w : World) (ha : W64 a) (hb : W64 b) (hn : nuW a = true) (hm : nuW b = true) : Calls Try.prog 19 #[.int .i64 0, .int .u64 a, .int .u64 b] w fun e w' => e = .returned (.bool false) ∧ Below w.heap.size w w' := by
  have HH := fun (W : World) => has31 a W ha
  rw [hn] at HH
  have GG := fun (W : World) => has31 b W hb
  rw [hm] at GG
  clear hn hm
  have CC := fun (W : World) => compare17 (unW a) (unW b) W (unW_64 ha) (unW_64 hb)
  obtain ⟨o, ho⟩ : ∃ o, o = cmW (unW a) (unW b) := ⟨_, rfl⟩
  rw [← ho] at CC
  clear ho
  go_enter Try.func19, Try.ntmps19
  go_wp2_with (first | (go_at_call_has 31 a; refine (HH _).mono ?_; rintro e w1 ⟨rfl, rfl⟩) | (go_at_call_has 31 b; refine (GG _).mono ?_; rintro e w1 ⟨rfl, rfl⟩) | (go_at_call 32; refine (unsigned32 _ _).mono ?_; rintro e w1 ⟨rfl, rfl⟩) | (go_at_call 17; refine (CC _).mono ?_; rintro e w1 ⟨rfl, rfl⟩) | (go_at_call 37; refine Calls.mono (t37 _) ?_; rintro e w1 ⟨rfl, rfl⟩))
  go_ret
  exact ⟨rfl, below2 (Below.refl _ _)⟩
theorem test19_k1 (a b : Int) (w : World) (ha : W64 a) (hb : W64 b) (hn : nuW a = true) (hm : nuW b = true) : Calls Try.prog 19 #[.int .i64 1, .int .u64 a, .int .u64 b] w fun e w' => e = .returned (.bool (decide (cmW (unW a) (unW b) < 0))) ∧ Below w.heap.size w w' := by
  have HH := fun (W : World) => has31 a W ha
  rw [hn] at HH
  have GG := fun (W : World) => has31 b W hb
  rw [hm] at GG
  clear hn hm
  have CC := fun (W : World) => compare17 (unW a) (unW b) W (unW_64 ha) (unW_64 hb)
  obtain ⟨o, ho⟩ : ∃ o, o = cmW (unW a) (unW b) := ⟨_, rfl⟩
  rw [← ho] at CC ⊢
  clear ho
  go_enter Try.func19, Try.ntmps19
  go_wp2_with (first | (go_at_call_has 31 a; refine (HH _).mono ?_; rintro e w1 ⟨rfl, rfl⟩) | (go_at_call_has 31 b; refine (GG _).mono ?_; rintro e w1 ⟨rfl, rfl⟩) | (go_at_call 32; refine (unsigned32 _ _).mono ?_; rintro e w1 ⟨rfl, rfl⟩) | (go_at_call 17; refine (CC _).mono ?_; rintro e w1 ⟨rfl, rfl⟩) | (go_at_call 38; refine Calls.mono (t38 _ o _ (by simp)) ?_; rintro e w1 ⟨rfl, rfl⟩))
  go_ret
  exact ⟨rfl, below2 (Below.refl _ _)⟩
theorem test19_k2 (a b : Int) (w : World) (ha : W64 a) (hb : W64 b) (hn : nuW a = true) (hm : nuW b = true) : Calls Try.prog 19 #[.int .i64 2, .int .u64 a, .int .u64 b] w fun e w' => e = .returned (.bool (decide (0 < cmW (unW a) (unW b)))) ∧ Below w.heap.size w w' := by
  have HH := fun (W : World) => has31 a W ha
  rw [hn] at HH
  have GG := fun (W : World) => has31 b W hb
  rw [hm] at GG
  clear hn hm
  have CC := fun (W : World) => compare17 (unW a) (unW b) W (unW_64 ha) (unW_64 hb)
  obtain ⟨o, ho⟩ : ∃ o, o = cmW (unW a) (unW b) := ⟨_, rfl⟩
  rw [← ho] at CC ⊢
  clear ho
  go_enter Try.func19, Try.ntmps19
  go_wp2_with (first | (go_at_call_has 31 a; refine (HH _).mono ?_; rintro e w1 ⟨rfl, rfl⟩) | (go_at_call_has 31 b; refine (GG _).mono ?_; rintro e w1 ⟨rfl, rfl⟩) | (go_at_call 32; refine (unsigned32 _ _).mono ?_; rintro e w1 ⟨rfl, rfl⟩) | (go_at_call 17; refine (CC _).mono ?_; rintro e w1 ⟨rfl, rfl⟩) | (go_at_call 39; refine Calls.mono (t39 _ o _ (by simp)) ?_; rintro e w1 ⟨rfl, rfl⟩))
  go_ret
  exact ⟨rfl, below2 (Below.refl _ _)⟩
theorem test19_k3 (a b : Int) (w : World) (ha : W64 a) (hb : W64 b) (hn : nuW a = true) (hm : nuW b = true) : Calls Try.prog 19 #[.int .i64 3, .int .u64 a, .int .u64 b] w fun e w' => e = .returned (.bool (decide (cmW (unW a) (unW b) = 0))) ∧ Below w.heap.size w w' := by
  have HH := fun (W : World) => has31 a W ha
  rw [hn] at HH
  have GG := fun (W : World) => has31 b W hb
  rw [hm] at GG
  clear hn hm
  have CC := fun (W : World) => compare17 (unW a) (unW b) W (unW_64 ha) (unW_64 hb)
  obtain ⟨o, ho⟩ : ∃ o, o = cmW (unW a) (unW b) := ⟨_, rfl⟩
  rw [← ho] at CC ⊢
  clear ho
  go_enter Try.func19, Try.ntmps19
  go_wp2_with (first | (go_at_call_has 31 a; refine (HH _).mono ?_; rintro e w1 ⟨rfl, rfl⟩) | (go_at_call_has 31 b; refine (GG _).mono ?_; rintro e w1 ⟨rfl, rfl⟩) | (go_at_call 32; refine (unsigned32 _ _).mono ?_; rintro e w1 ⟨rfl, rfl⟩) | (go_at_call 17; refine (CC _).mono ?_; rintro e w1 ⟨rfl, rfl⟩) | (go_at_call 40; refine Calls.mono (t40 _ o _ (by simp)) ?_; rintro e w1 ⟨rfl, rfl⟩))
  go_ret
  exact ⟨rfl, below2 (Below.refl _ _)⟩
theorem test19_lo (k : Int) (a b : Int) (w : World) (ha : W64 a) (hb : W64 b) (hn : nuW a = true) (hm : nuW b = true) (hk : k < 0) : Calls Try.prog 19 #[.int .i64 k, .int .u64 a, .int .u64 b] w fun e w' => e = .returned (.bool false) ∧ Below w.heap.size w w' := by
  have HH := fun (W : World) => has31 a W ha
  rw [hn] at HH
  have GG := fun (W : World) => has31 b W hb
  rw [hm] at GG
  clear hn hm
  have CC := fun (W : World) => compare17 (unW a) (unW b) W (unW_64 ha) (unW_64 hb)
  obtain ⟨o, ho⟩ : ∃ o, o = cmW (unW a) (unW b) := ⟨_, rfl⟩
  rw [← ho] at CC
  clear ho
  go_enter Try.func19, Try.ntmps19
  go_wp2_with (first | (go_at_call_has 31 a; refine (HH _).mono ?_; rintro e w1 ⟨rfl, rfl⟩) | (go_at_call_has 31 b; refine (GG _).mono ?_; rintro e w1 ⟨rfl, rfl⟩) | (go_at_call 32; refine (unsigned32 _ _).mono ?_; rintro e w1 ⟨rfl, rfl⟩) | (go_at_call 17; refine (CC _).mono ?_; rintro e w1 ⟨rfl, rfl⟩))
  go_ret
  exact ⟨rfl, below2 (Below.refl _ _)⟩
theorem test19_hi (k : Int) (a b : Int) (w : World) (ha : W64 a) (hb : W64 b) (hn : nuW a = true) (hm : nuW b = true) (hk0 : 0 ≤ k) (hk : ¬ k < 4) : Calls Try.prog 19 #[.int .i64 k, .int .u64 a, .int .u64 b] w fun e w' => e = .returned (.bool false) ∧ Below w.heap.size w w' := by
  have HH := fun (W : World) => has31 a W ha
  rw [hn] at HH
  have GG := fun (W : World) => has31 b W hb
  rw [hm] at GG
  clear hn hm
  have CC := fun (W : World) => compare17 (unW a) (unW b) W (unW_64 ha) (unW_64 hb)
  obtain ⟨o, ho⟩ : ∃ o, o = cmW (unW a) (unW b) := ⟨_, rfl⟩
  rw [← ho] at CC
  clear ho
  go_enter Try.func19, Try.ntmps19
  go_wp2_with (first | (go_at_call_has 31 a; refine (HH _).mono ?_; rintro e w1 ⟨rfl, rfl⟩) | (go_at_call_has 31 b; refine (GG _).mono ?_; rintro e w1 ⟨rfl, rfl⟩) | (go_at_call 32; refine (unsigned32 _ _).mono ?_; rintro e w1 ⟨rfl, rfl⟩) | (go_at_call 17; refine (CC _).mono ?_; rintro e w1 ⟨rfl, rfl⟩))
  go_ret
  exact ⟨rfl, below2 (Below.refl _ _)⟩
theorem test19 (k a b : Int) (w : World) (ha : W64 a) (hb : W64 b) : Calls Try.prog 19 #[.int .i64 k, .int .u64 a, .int .u64 b] w fun e w' => e = .returned (.bool (tsW k a b)) ∧ Below w.heap.size w w' := by
  unfold tsW
  cases hn : nuW a
  · exact test19_na k a b w ha hn
  · cases hm : nuW b
    · exact test19_nb k a b w ha hb hn hm
    · by_cases q0 : k < 0
      · have e : tsO k (cmW (unW a) (unW b)) = false := by
          have : k ≠ 1 ∧ k ≠ 2 ∧ k ≠ 3 := by omega
          simp [tsO, this]
        rw [e]; exact test19_lo k a b w ha hb hn hm q0
      · by_cases q4 : k < 4
        · have hk : k = 0 ∨ k = 1 ∨ k = 2 ∨ k = 3 := by omega
          rcases hk with rfl | rfl | rfl | rfl
          · exact test19_k0 a b w ha hb hn hm
          · simpa [tsO] using test19_k1 a b w ha hb hn hm
          · simpa [tsO] using test19_k2 a b w ha hb hn hm
          · simpa [tsO] using test19_k3 a b w ha hb hn hm
        · have e : tsO k (cmW (unW a) (unW b)) = false := by
            have : k ≠ 1 ∧ k ≠ 2 ∧ k ≠ 3 := by omega
            simp [tsO, this]
          rw [e]; exact test19_hi k a b w ha hb hn hm (by omega) q4
end Go.Proofs.Ytglfhgedaknljaa
