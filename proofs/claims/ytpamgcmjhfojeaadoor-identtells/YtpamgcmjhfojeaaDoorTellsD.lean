/- The contract of the document's answer: cut of windroseref01. -/
import Derived.Test.YtpamgcmjhfojeaaDoorTellsC
import Derived.Lib.Strings
namespace Go.Proofs.YtpamgcmjhfojeaaDoor
open Go.RowKit

/-- bytes cut at the first of a byte -/
def cutF (c : Int) : List UInt8 → Option (List UInt8 × List UInt8)
  | [] => none
  | b :: bs => if (b.toNat : Int) = c then some ([], bs) else (cutF c bs).map fun p => (b :: p.1, p.2)

theorem take_at (s : ByteArray) (k : Nat) (h : k < s.size) : s.data.toList.take (k + 1) = s.data.toList.take k ++ [s[k]] := by
  rw [List.take_succ_eq_append_getElem (by simpa using h)]; rfl

/-- What 'cut' tells: two texts and true, or two empty texts and false. -/
def CutIs (s : ByteArray) (c : Int) (X Y : ByteArray) (ok : Bool) : Prop :=
  X.size ≤ s.size ∧ Y.size ≤ s.size ∧ ((ok = true ∧ cutF c s.data.toList = some (X.data.toList, Y.data.toList)) ∨ (ok = false ∧ cutF c s.data.toList = none))

def CutOut (s : ByteArray) (c : Int) (w : World) (e : Ending) (w' : World) : Prop :=
  ∃ X Y ok, CutIs s c X Y ok ∧ e = .returned (.tuple #[.string X, .string Y, .bool ok]) ∧ Below w.heap.size w w'
theorem cutOut_of {s : ByteArray} {c : Int} {w w' : World} {e : Ending} {X Y : ByteArray} {ok : Bool} (h : CutIs s c X Y ok) (he : e = .returned (.tuple #[.string X, .string Y, .bool ok])) (hb : Below w.heap.size w w') : CutOut s c w e w' := ⟨X, Y, ok, h, he, hb⟩

set_option maxHeartbeats 1000000 in
theorem cut_any (s : ByteArray) (c : Int) (w : World) (hs : s.size ≤ 9223372036854775807) :
    Calls Tryd.prog 40 #[.string s, .int .u8 c] w fun e w' => CutOut s c w e w' := by
  go_enter Tryd.func40, Tryd.ntmps40
  go_wp2
  go_loop [10] (fun i => ∃ k : Nat, k ≤ s.size ∧ i = .int .i64 k ∧ cutF c s.data.toList = (cutF c (s.data.toList.drop k)).map fun p => (s.data.toList.take k ++ p.1, p.2)) (fun i => s.size - (intOf i).toNat)
  case atStart => exact ⟨0, Nat.zero_le _, rfl, by simp⟩
  case round =>
    obtain ⟨k, hk, rfl, hn⟩ := hrel
    by_cases hlt : k < s.size
    · have hd := drop_at s k hlt
      have htk := take_at s k hlt
      rw [hd, cutF] at hn
      by_cases hc : (s[k].toNat : Int) = c
      · rw [if_pos hc] at hn
        have C : Hid (CutIs s c (s.extract 0 k) (s.extract (k + 1) s.size) true) := by
          refine ⟨by rw [ByteArray.size_extract]; omega, by rw [ByteArray.size_extract]; omega, Or.inl ⟨rfl, ?_⟩⟩
          rw [hn, Lib.extract_data, Lib.extract_data]
          have e : (s.data.toList.drop (k + 1)).take (s.size - (k + 1)) = s.data.toList.drop (k + 1) := by
            apply List.take_of_length_le
            have : s.data.toList.length = s.size := rfl
            rw [List.length_drop]; omega
          simp [e]
        clear hn hd htk
        subst hc
        have hk1 : (k : Int) + 1 ≤ (s.size : Int) := by omega
        have hk0 : (k : Int) ≤ (s.size : Int) := by omega
        go_wp2
        go_quiet (fail)
        go_wp2
        go_ret3
        exact cutOut_of C.out rfl (below_drewN' (Below.refl _ _) _)
      · rw [if_neg hc] at hn
        have E : Hid (cutF c s.data.toList = (cutF c (s.data.toList.drop (k + 1))).map fun p => (s.data.toList.take (k + 1) ++ p.1, p.2)) := by
          unfold Hid
          rw [hn, htk]
          cases cutF c (s.data.toList.drop (k + 1)) <;> simp
        have hc' : ((s[k].toNat : Int) == c) = false := by simp [hc]
        clear hn hd htk hc
        go_wp2
        go_round
        case rel => exact ⟨k + 1, by omega, by go_num, E.out⟩
        case measure => simp [intOf]; omega
    · rw [List.drop_eq_nil_of_le (by have : s.data.toList.length = s.size := rfl; omega)] at hn
      have C : Hid (CutIs s c ⟨#[]⟩ ⟨#[]⟩ false) := ⟨Nat.zero_le _, Nat.zero_le _, Or.inr ⟨rfl, by rw [hn]; rfl⟩⟩
      clear hn
      go_wp2
      go_ret3
      exact cutOut_of C.out rfl (Below.refl _ _)
end Go.Proofs.YtpamgcmjhfojeaaDoor
