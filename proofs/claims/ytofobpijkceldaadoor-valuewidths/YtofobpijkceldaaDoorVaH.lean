/- strings.Cut at a comma. -/
import Derived.Test.YtofobpijkceldaaDoorVaG
import Derived.Lib.Bytealg
import Derived.BigCall
import Derived.BigGuard
import Derived.Deep.Draws
import Derived.Laws.Strings3
import Derived.Shelf.RegionOpenPlain
import Derived.Lib.Walk
namespace Go.Proofs.YtofobpijkceldaaDoor
open Go.RowKit

/-- What stands ahead of the first comma. -/
def ahd (l : List UInt8) : List UInt8 := l.takeWhile (· != 44)
/-- What stands behind it. -/
def bhd (l : List UInt8) : List UInt8 := l.drop ((ahd l).length + 1)
def hasC (l : List UInt8) : Bool := l.contains 44
theorem ix_no : ∀ (l : List UInt8), hasC l = false → Lib.indexByte l 44 = -1 ∧ ahd l = l
  | [], _ => ⟨rfl, rfl⟩
  | b :: l, h => by
    simp [hasC] at h
    have hb : (b == 44) = false := by rw [beq_eq_false_iff_ne]; exact fun e => h.1 e.symm
    obtain ⟨h1, h2⟩ := ix_no l (by simp [hasC]; exact h.2)
    refine ⟨by simp [Lib.indexByte, hb, h1], ?_⟩
    unfold ahd at h2 ⊢
    have hb2 : (b != 44) = true := by simp [bne, hb]
    rw [List.takeWhile_cons, hb2]
    simp [h2]
theorem ix_yes : ∀ (l : List UInt8), hasC l = true → Lib.indexByte l 44 = (ahd l).length ∧ (ahd l).length < l.length
  | [], h => by simp [hasC] at h
  | b :: l, h => by
    by_cases hb : (b == 44) = true
    · simp [Lib.indexByte, ahd, bne, hb]
    · have hb' : (b == 44) = false := by simpa using hb
      have hl : hasC l = true := by simp [hasC] at h ⊢; rcases h with h | h; { rw [← h] at hb; simp at hb }; { exact h }
      obtain ⟨h1, h2⟩ := ix_yes l hl
      have hne : ((((ahd l).length : Int)) == -1) = false := by rw [beq_eq_false_iff_ne]; omega
      have e : ahd (b :: l) = b :: ahd l := by unfold ahd; simp [bne, hb']
      rw [e]
      refine ⟨by simp [Lib.indexByte, hb', h1, hne], by simp; omega⟩

set_option maxHeartbeats 1000000 in
set_option maxRecDepth 100000 in
theorem ixb59 (s : ByteArray) (c : Int) (w : World) :
    Calls Tryd.prog 59 #[.string s, .int .u8 c] w fun e w' => e = .returned (.int .i64 (Lib.indexByte (bL s) c.toNat.toUInt8)) ∧ w' = w := by
  go_enter Tryd.func59, Tryd.ntmps59
  go_wp2
  rw [run_callFunc_extern Tryd.func65 (by kernel_rfl) (by kernel_rfl) (by kernel_rfl) (e := Extern.BytealgIndexByte.indexByte) (by kernel_rfl), Lib.run_indexByteString]
  simp only [Result.andThen]
  rw [Oper.upon_value]
  go_wp2
  go_ret
  exact ⟨rfl, rfl⟩
set_option maxHeartbeats 2000000 in
set_option maxRecDepth 100000 in
theorem ix53 (s : ByteArray) (w : World) :
    Calls Tryd.prog 53 #[.string s, .string ⟨#[44]⟩] w fun e w' => e = .returned (.int .i64 (Lib.indexByte (bL s) 44)) ∧ w' = w := by
  have CC := fun (W : World) => ixb59 s 44 W
  cases h : ([44] == s.toList)
  · go_enter Tryd.func53, Tryd.ntmps53
    go_wp2_with (first | (go_at_call 59; refine Calls.mono (CC _) ?_; rintro e w1 ⟨rfl, hw⟩; rw [hw]; clear hw w1))
    go_ret
    exact ⟨rfl, rfl⟩
  · have e : bL s = [44] := by unfold bL; rw [← Lib.toList_data]; exact (beq_iff_eq.1 h).symm
    have E : Hid (Lib.indexByte (bL s) 44 = 0) := by unfold Hid; rw [e]; rfl
    clear e
    go_enter Tryd.func53, Tryd.ntmps53
    go_wp2_with (first | (go_at_call 59; refine Calls.mono (CC _) ?_; rintro e w1 ⟨rfl, hw⟩; rw [hw]; clear hw w1))
    go_ret
    exact ⟨ret_int E.out.symm, rfl⟩

def bA (l : List UInt8) : ByteArray := ⟨l.toArray⟩
theorem bA_bL (s : ByteArray) : bA (bL s) = s := rfl
theorem bL_bA (l : List UInt8) : bL (bA l) = l := rfl
theorem ahd_take (l : List UInt8) : ahd l = l.take (ahd l).length := List.prefix_iff_eq_take.1 (List.takeWhile_prefix _)
theorem ext_ahd (s : ByteArray) (i : Nat) (h : i = (ahd (bL s)).length) : s.extract 0 i = bA (ahd (bL s)) := by
  apply ByteArray.ext
  apply Array.ext'
  rw [ahd_take (bL s), ← h]
  simp [bA, bL]
theorem ext_bhd (s : ByteArray) (i : Nat) (h : i = (ahd (bL s)).length) : s.extract (i + 1) s.size = bA (bhd (bL s)) := by
  apply ByteArray.ext
  apply Array.ext'
  unfold bhd
  rw [← h]
  simp [bA, bL]
  exact List.take_of_length_le (by simp)
theorem bhd_no {l : List UInt8} (h : hasC l = false) : bhd l = [] := by
  unfold bhd; rw [(ix_no l h).2]; simp

set_option maxHeartbeats 2000000 in
set_option maxRecDepth 100000 in
theorem cut47 (s : ByteArray) (w : World) (hs : s.size < 1152921504606846976) :
    Calls Tryd.prog 47 #[.string s, .string ⟨#[44]⟩] w fun e w' => e = .returned (.tuple #[.string (bA (ahd (bL s))), .string (bA (bhd (bL s))), .bool (hasC (bL s))]) ∧ ∃ n, w' = w.drewN n := by
  have CC := fun (W : World) => ix53 s W
  cases h : hasC (bL s)
  · obtain ⟨h1, h2⟩ := ix_no _ h
    rw [h2, bhd_no h, bA_bL]
    rw [h1] at CC
    clear h h1 h2
    go_enter Tryd.func47, Tryd.ntmps47
    go_wp2_with (first | (go_at_call 53; refine Calls.mono (CC _) ?_; rintro e w1 ⟨rfl, hw⟩; rw [hw]; clear hw w1))
    go_ret3
    exact ⟨rfl, 0, rfl⟩
  · obtain ⟨h1, h2⟩ := ix_yes _ h
    obtain ⟨i, hi⟩ : ∃ i, i = (ahd (bL s)).length := ⟨_, rfl⟩
    rw [← ext_ahd s i hi, ← ext_bhd s i hi]
    rw [h1, ← hi] at CC
    rw [bL_len, ← hi] at h2
    have c1 : (0 : Int) ≤ ↑i := by omega
    have c2 : (↑i : Int) ≤ ↑s.size := by omega
    have c3 : (0 : Int) ≤ ↑i + 1 := by omega
    have c4 : (↑i + 1 : Int) ≤ ↑s.size := by omega
    clear h h1 hi h2
    go_enter Tryd.func47, Tryd.ntmps47
    go_wp2_with (first | (go_at_call 53; refine Calls.mono (CC _) ?_; rintro e w1 ⟨rfl, hw⟩; rw [hw]; clear hw w1))
    go_region
    go_wp2
    go_ret3
    exact ⟨rfl, 1, rfl⟩
theorem cut44 (s : ByteArray) (w : World) (hs : s.size < 1152921504606846976) :
    Calls Tryd.prog 44 #[.string s, .string ⟨#[44]⟩] w fun e w' => e = .returned (.tuple #[.string (bA (ahd (bL s))), .string (bA (bhd (bL s))), .bool (hasC (bL s))]) ∧ Below w.heap.size w w' := by
  have CC := fun (W : World) => cut47 s W hs
  go_enter Tryd.func44, Tryd.ntmps44
  go_wp2_with (first | (go_at_call 47; refine Calls.mono (CC _) ?_; rintro e w1 ⟨rfl, n, rfl⟩))
  go_ret3
  exact ⟨rfl, below_drewN' (Below.refl _ _) n⟩
end Go.Proofs.YtofobpijkceldaaDoor
