/- Contracts of the document's answer: number and any of windroseref01. -/
import Derived.Test.YtpamgcmjhfojeaaDoorTellsB
namespace Go.Proofs.YtpamgcmjhfojeaaDoor
open Go.RowKit

/-- the number that bytes say, from a number on -/
def nf : List UInt8 → Int → Option Int
  | [], n => some n
  | c :: cs, n => if (c.toNat : Int) < 48 ∨ 57 < (c.toNat : Int) ∨ 10000000 < n then none else nf cs (10 * n + ((c.toNat : Int) - 48))
/-- what 'number' tells of bytes -/
def numF (l : List UInt8) : Int :=
  match nf l 0 with
  | none => -1
  | some n => if l = [] ∨ (l.head? = some 48 ∧ l ≠ [48]) then -1 else n

theorem drop_at (s : ByteArray) (k : Nat) (h : k < s.size) : s.data.toList.drop k = s[k] :: s.data.toList.drop (k + 1) := by
  have hl : k < s.data.toList.length := h
  rw [List.drop_eq_getElem_cons hl]; rfl

theorem numF_none {l : List UInt8} (h : nf l 0 = none) : numF l = -1 := by unfold numF; rw [h]
theorem numF_some {l : List UInt8} {n : Int} (h : nf l 0 = some n) : numF l = if l = [] ∨ (l.head? = some 48 ∧ l ≠ [48]) then -1 else n := by unfold numF; rw [h]
theorem head_at (s : ByteArray) (h : 0 < s.size) : s.data.toList.head? = some s[0] := by
  have := drop_at s 0 h
  rw [List.drop_zero] at this
  rw [this]; rfl
theorem u8_48 (c : UInt8) (h : (c.toNat : Int) = 48) : c = 48 := by
  apply UInt8.toNat_inj.1; show c.toNat = 48; omega

/-- what 'number' tells of a text -/
def numS (s : ByteArray) : Int := numF s.data.toList
set_option maxHeartbeats 1000000 in
theorem number_any (s : ByteArray) (w : World) (hs : s.size ≤ 9223372036854775807) :
    Calls Tryd.prog 41 #[.string s] w fun e w' => e = .returned (.int .i64 (numS s)) ∧ w' = w := by
  go_enter Tryd.func41, Tryd.ntmps41
  go_wp2
  go_loop [3, 7] (fun n i => ∃ (k : Nat) (m : Int), k ≤ s.size ∧ i = .int .i64 k ∧ n = .int .i64 m ∧ 0 ≤ m ∧ m ≤ 100000009 ∧ nf (s.data.toList.drop k) m = nf s.data.toList 0) (fun _ i => s.size - (intOf i).toNat)
  case atStart => exact ⟨0, 0, Nat.zero_le _, rfl, rfl, by omega, by omega, rfl⟩
  case round =>
    obtain ⟨k, m, hk, rfl, rfl, m0, m1, hn⟩ := hrel
    by_cases hlt : k < s.size
    · have hd := drop_at s k hlt
      rw [hd, nf] at hn
      have HN : Hid ((if (s[k].toNat : Int) < 48 ∨ 57 < (s[k].toNat : Int) ∨ 10000000 < m then none else nf (s.data.toList.drop (k + 1)) (10 * m + ((s[k].toNat : Int) - 48))) = nf s.data.toList 0) := hn
      clear hn hd
      by_cases h1 : (s[k].toNat : Int) < 48
      · have E : Hid (numS s = -1) := numF_none (l := s.data.toList) (by rw [← HN.out, if_pos (Or.inl h1)])
        go_wp2
        go_ret
        exact ⟨by rw [E.out]; rfl, rfl⟩
      · by_cases h2 : 57 < (s[k].toNat : Int)
        · have E : Hid (numS s = -1) := numF_none (l := s.data.toList) (by rw [← HN.out, if_pos (Or.inr (Or.inl h2))])
          go_wp2
          go_ret
          exact ⟨by rw [E.out]; rfl, rfl⟩
        · by_cases h3 : 10000000 < m
          · have E : Hid (numS s = -1) := numF_none (l := s.data.toList) (by rw [← HN.out, if_pos (Or.inr (Or.inr h3))])
            go_wp2
            go_ret
            exact ⟨by rw [E.out]; rfl, rfl⟩
          · have E : Hid (nf (s.data.toList.drop (k + 1)) (10 * m + ((s[k].toNat : Int) - 48)) = nf s.data.toList 0) := by
              have := HN.out; rw [if_neg (by omega)] at this; exact this
            clear HN
            go_wp2
            go_round
            case rel => exact ⟨k + 1, _, by omega, by go_num, rfl, by omega, by omega, E.out⟩
            case measure => simp [intOf]; omega
    · rw [List.drop_eq_nil_of_le (by have : s.data.toList.length = s.size := rfl; omega)] at hn
      have E0 := numF_some (n := m) hn.symm
      clear hn
      by_cases hz : s.size = 0
      · have hl : s.data.toList = [] := List.eq_nil_of_length_eq_zero hz
        have hz' : s.toList = [] := by rw [ByteArray.toList_eq]; exact hl
        have E : Hid (numS s = -1) := by unfold Hid numS; rw [E0, if_pos (Or.inl hl)]
        clear E0 hl
        go_wp2
        go_ret
        exact ⟨by rw [E.out]; rfl, rfl⟩
      · have hp : 0 < s.size := by omega
        have hh := head_at s hp
        have hl : s.data.toList ≠ [] := by intro e; rw [e] at hh; cases hh
        have hz' : ¬ s.toList = [] := by rw [ByteArray.toList_eq]; exact hl
        have hz2 : s.toList.isEmpty = false := by simp [hz']
        by_cases h48 : (s[0].toNat : Int) = 48
        · rw [u8_48 _ h48] at hh
          by_cases h1 : s.data.toList = [48]
          · have h1' : (s.toList == [48]) = true := by rw [ByteArray.toList_eq, h1]; rfl
            have E : Hid (numS s = m) := by unfold Hid numS; rw [E0, if_neg (fun h => h.elim hl (fun b => b.2 h1))]
            clear E0 hl hh h1
            go_wp2
            go_ret
            exact ⟨by rw [E.out]; rfl, rfl⟩
          · have h1' : (s.toList == [48]) = false := by rw [ByteArray.toList_eq, beq_eq_false_iff_ne]; exact h1
            have E : Hid (numS s = -1) := by unfold Hid numS; rw [E0, if_pos (Or.inr ⟨hh, h1⟩)]
            clear E0 hl hh h1
            go_wp2
            go_ret
            exact ⟨by rw [E.out]; rfl, rfl⟩
        · have h48' : ((s[0].toNat : Int) == 48) = false := by simp; omega
          have E : Hid (numS s = m) := by
            unfold Hid numS; rw [E0, if_neg]
            rintro (a | ⟨a, _⟩)
            · exact hl a
            · rw [hh] at a; injection a with a; rw [a] at h48; exact h48 rfl
          clear E0 hl hh
          go_wp2
          go_ret
          exact ⟨by rw [E.out]; rfl, rfl⟩

/-- what 'any' tells of bytes -/
def anyF (l : List UInt8) : Int := if l = [42] then 0 else if l = [48] then -1 else numF l
def anyS (s : ByteArray) : Int := anyF s.data.toList
theorem any_any (s : ByteArray) (w : World) (hs : s.size ≤ 9223372036854775807) :
    Calls Tryd.prog 42 #[.string s] w fun e w' => e = .returned (.int .i64 (anyS s)) ∧ w' = w := by
  have E : Hid (anyS s = if s.data.toList = [42] then 0 else if s.data.toList = [48] then -1 else numF s.data.toList) := rfl
  by_cases h1 : s.data.toList = [42]
  · have h1' : (s.toList == [42]) = true := by rw [ByteArray.toList_eq, h1]; rfl
    have h1'' : s.toList = [42] := by rw [ByteArray.toList_eq, h1]
    have E2 : Hid (anyS s = 0) := by unfold Hid; rw [E.out, if_pos h1]
    clear h1
    go_enter Tryd.func42, Tryd.ntmps42
    go_wp2
    go_ret
    exact ⟨by rw [E2.out]; rfl, rfl⟩
  · have h1' : (s.toList == [42]) = false := by rw [ByteArray.toList_eq, beq_eq_false_iff_ne]; exact h1
    have h1'' : ¬ s.toList = [42] := by rw [ByteArray.toList_eq]; exact h1
    by_cases h2 : s.data.toList = [48]
    · have h2' : (s.toList == [48]) = true := by rw [ByteArray.toList_eq, h2]; rfl
      have h2'' : s.toList = [48] := by rw [ByteArray.toList_eq, h2]
      have E2 : Hid (anyS s = -1) := by unfold Hid; rw [E.out, if_neg h1, if_pos h2]
      clear h1 h2 h1' h1''
      go_enter Tryd.func42, Tryd.ntmps42
      go_wp2
      go_ret
      exact ⟨by rw [E2.out]; rfl, rfl⟩
    · have h2' : (s.toList == [48]) = false := by rw [ByteArray.toList_eq, beq_eq_false_iff_ne]; exact h2
      have h2'' : ¬ s.toList = [48] := by rw [ByteArray.toList_eq]; exact h2
      have E2 : Hid (anyS s = numS s) := by unfold Hid; rw [E.out, if_neg h1, if_neg h2]; rfl
      clear h1 h2
      go_enter Tryd.func42, Tryd.ntmps42
      go_wp2_with (first | (go_at_call 41; refine (number_any _ _ hs).mono ?_; rintro e w1 ⟨rfl, rfl⟩))
      go_ret
      exact ⟨by rw [E2.out]; rfl, rfl⟩
end Go.Proofs.YtpamgcmjhfojeaaDoor
