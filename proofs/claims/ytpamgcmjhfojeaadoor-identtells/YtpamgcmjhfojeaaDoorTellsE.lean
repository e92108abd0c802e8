/- The contract of the document's answer: Read of windroseref01. -/
import Derived.Test.YtpamgcmjhfojeaaDoorTellsD
namespace Go.Proofs.YtpamgcmjhfojeaaDoor
open Go.RowKit

/-- the id that bytes say; 0: none -/
def refF (l : List UInt8) : Int :=
  match l with
  | [] => 0
  | c :: t =>
    if c = 101 then (match cutF 46 t with
      | some (x, y) => if inR 1 1048578 (numF x) && inR 0 7 (numF y) then mk 0 (numF y) (numF x) else 0
      | none => 0)
    else if c = 99 then (if inR 1 24 (numF t) then mk 1 0 (numF t) else 0)
    else if c = 112 then (match cutF 58 t with
      | some (x, y) => if inR 0 1048578 (anyF x) && inR 0 1048578 (anyF y) then mk 2 (anyF x) (anyF y) else 0
      | none => 0)
    else 0

theorem refF_101 {l t : List UInt8} (h : l = 101 :: t) (X Y : List UInt8) (ok : Bool) (hc : (ok = true ∧ cutF 46 t = some (X, Y)) ∨ (ok = false ∧ cutF 46 t = none)) :
    refF l = if ok && (inR 1 1048578 (numF X) && inR 0 7 (numF Y)) then mk 0 (numF Y) (numF X) else 0 := by
  subst h
  rcases hc with ⟨rfl, e⟩ | ⟨rfl, e⟩
  · simp [refF, e]
  · simp [refF, e]

set_option maxHeartbeats 2000000 in
theorem ref_101 (s : ByteArray) (w : World) (hs : s.size ≤ 9223372036854775807) (hp : 0 < s.size) (hz' : s.toList.isEmpty = false) (hl : s.data.toList = 101 :: (s.extract 1 s.size).data.toList) (hc : (s[0].toNat : Int) = 101) :
    Calls Tryd.prog 23 #[.string s] w fun e w' => e = .returned (.tuple #[.int .u64 (refF s.data.toList), .bool (refF s.data.toList != 0)]) ∧ Below w.heap.size w w' := by
  have HL : Hid (s.data.toList = 101 :: (s.extract 1 s.size).data.toList) := hl
  have HT : Hid ((s.extract 1 s.size).size ≤ 9223372036854775807) := by unfold Hid; rw [ByteArray.size_extract]; omega
  clear hl
  have hp1 : (1 : Int) ≤ (s.size : Int) := by omega
  go_enter Tryd.func23, Tryd.ntmps23
  go_wp2_with (first | (go_at_call 40; refine (cut_any _ _ _ HT.out).mono ?_; rintro e w1 ⟨X, Y, ok, ⟨hX, hY, hC⟩, rfl, hb⟩) | (go_at_call 41; fail))
  have HX : Hid (X.size ≤ 9223372036854775807) := by have := HT.out; unfold Hid; omega
  have HY : Hid (Y.size ≤ 9223372036854775807) := by have := HT.out; unfold Hid; omega
  have E : Hid (refF s.data.toList = if ok && (inR 1 1048578 (numS X) && inR 0 7 (numS Y)) then mk 0 (numS Y) (numS X) else 0) := refF_101 HL.out _ _ ok hC
  clear hC hX hY
  cases ok
  · have E2 : Hid (refF s.data.toList = 0) := by unfold Hid; rw [E.out]; rfl
    go_wp2_with (first
            | (go_at_call_has 41 X; refine (number_any X _ HX.out).mono ?_; rintro e w2 ⟨rfl, rfl⟩)
            | (go_at_call_has 41 Y; refine (number_any Y _ HY.out).mono ?_; rintro e w2 ⟨rfl, rfl⟩)
            | (go_at_call_has 42 X; refine (any_any X _ HX.out).mono ?_; rintro e w2 ⟨rfl, rfl⟩)
            | (go_at_call_has 42 Y; refine (any_any Y _ HY.out).mono ?_; rintro e w2 ⟨rfl, rfl⟩)
            | (go_at_call 12; refine (is12 _ _ _ _).mono ?_; rintro e w2 ⟨rfl, rfl⟩))
    go_ret2
    exact ⟨by rw [E2.out]; rfl, hb⟩
  · cases c1 : inR 1 1048578 (numS X)
    · have E2 : Hid (refF s.data.toList = 0) := by unfold Hid; rw [E.out, c1]; rfl
      go_wp2_with (first
            | (go_at_call_has 41 X; refine (number_any X _ HX.out).mono ?_; rintro e w2 ⟨rfl, rfl⟩)
            | (go_at_call_has 41 Y; refine (number_any Y _ HY.out).mono ?_; rintro e w2 ⟨rfl, rfl⟩)
            | (go_at_call_has 42 X; refine (any_any X _ HX.out).mono ?_; rintro e w2 ⟨rfl, rfl⟩)
            | (go_at_call_has 42 Y; refine (any_any Y _ HY.out).mono ?_; rintro e w2 ⟨rfl, rfl⟩)
            | (go_at_call 12; refine (is12 _ _ _ _).mono ?_; rintro e w2 ⟨rfl, rfl⟩))
      go_ret2
      exact ⟨by rw [E2.out]; rfl, hb⟩
    · cases c2 : inR 0 7 (numS Y)
      · have E2 : Hid (refF s.data.toList = 0) := by unfold Hid; rw [E.out, c1, c2]; rfl
        go_wp2_with (first
            | (go_at_call_has 41 X; refine (number_any X _ HX.out).mono ?_; rintro e w2 ⟨rfl, rfl⟩)
            | (go_at_call_has 41 Y; refine (number_any Y _ HY.out).mono ?_; rintro e w2 ⟨rfl, rfl⟩)
            | (go_at_call_has 42 X; refine (any_any X _ HX.out).mono ?_; rintro e w2 ⟨rfl, rfl⟩)
            | (go_at_call_has 42 Y; refine (any_any Y _ HY.out).mono ?_; rintro e w2 ⟨rfl, rfl⟩)
            | (go_at_call 12; refine (is12 _ _ _ _).mono ?_; rintro e w2 ⟨rfl, rfl⟩))
        go_ret2
        exact ⟨by rw [E2.out]; rfl, hb⟩
      · have E2 : Hid (refF s.data.toList = mk 0 (numS Y) (numS X)) := by unfold Hid; rw [E.out, c1, c2]; rfl
        have d1 := inR_le c1
        have d2 := inR_le c2
        have D1 : Hid (1 ≤ numS X ∧ numS X ≤ 1048578) := d1
        have D2 : Hid (0 ≤ numS Y ∧ numS Y ≤ 7) := d2
        clear d1 d2
        go_wp2_with (first
            | (go_at_call_has 41 X; refine (number_any X _ HX.out).mono ?_; rintro e w2 ⟨rfl, rfl⟩)
            | (go_at_call_has 41 Y; refine (number_any Y _ HY.out).mono ?_; rintro e w2 ⟨rfl, rfl⟩)
            | (go_at_call_has 42 X; refine (any_any X _ HX.out).mono ?_; rintro e w2 ⟨rfl, rfl⟩)
            | (go_at_call_has 42 Y; refine (any_any Y _ HY.out).mono ?_; rintro e w2 ⟨rfl, rfl⟩)
            | (go_at_call 12; refine (is12 _ _ _ _).mono ?_; rintro e w2 ⟨rfl, rfl⟩)
            | (go_at_call 13; refine Calls.mono (made13 0 0 (numS Y) (numS X) _ (by omega) (by omega) (by omega) (by have := D1.out; have := D2.out; omega) (by have := D1.out; have := D2.out; omega) (by have := D1.out; have := D2.out; omega) (by have := D1.out; have := D2.out; omega)) ?_; rintro e w2 ⟨rfl, rfl⟩))
        go_ret2
        exact ⟨by rw [E2.out]; rfl, hb⟩

theorem refF_112 {l t : List UInt8} (h : l = 112 :: t) (X Y : List UInt8) (ok : Bool) (hc : (ok = true ∧ cutF 58 t = some (X, Y)) ∨ (ok = false ∧ cutF 58 t = none)) :
    refF l = if ok && (inR 0 1048578 (anyF X) && inR 0 1048578 (anyF Y)) then mk 2 (anyF X) (anyF Y) else 0 := by
  subst h
  rcases hc with ⟨rfl, e⟩ | ⟨rfl, e⟩
  · simp [refF, e]
  · simp [refF, e]

set_option maxHeartbeats 2000000 in
theorem ref_112 (s : ByteArray) (w : World) (hs : s.size ≤ 9223372036854775807) (hp : 0 < s.size) (hz' : s.toList.isEmpty = false) (hl : s.data.toList = 112 :: (s.extract 1 s.size).data.toList) (hc : (s[0].toNat : Int) = 112) :
    Calls Tryd.prog 23 #[.string s] w fun e w' => e = .returned (.tuple #[.int .u64 (refF s.data.toList), .bool (refF s.data.toList != 0)]) ∧ Below w.heap.size w w' := by
  have HL : Hid (s.data.toList = 112 :: (s.extract 1 s.size).data.toList) := hl
  have HT : Hid ((s.extract 1 s.size).size ≤ 9223372036854775807) := by unfold Hid; rw [ByteArray.size_extract]; omega
  clear hl
  have hp1 : (1 : Int) ≤ (s.size : Int) := by omega
  go_enter Tryd.func23, Tryd.ntmps23
  go_wp2_with (first | (go_at_call 40; refine (cut_any _ _ _ HT.out).mono ?_; rintro e w1 ⟨X, Y, ok, ⟨hX, hY, hC⟩, rfl, hb⟩) | (go_at_call 42; fail))
  have HX : Hid (X.size ≤ 9223372036854775807) := by have := HT.out; unfold Hid; omega
  have HY : Hid (Y.size ≤ 9223372036854775807) := by have := HT.out; unfold Hid; omega
  have E : Hid (refF s.data.toList = if ok && (inR 0 1048578 (anyS X) && inR 0 1048578 (anyS Y)) then mk 2 (anyS X) (anyS Y) else 0) := refF_112 HL.out _ _ ok hC
  clear hC hX hY
  cases ok
  · have E2 : Hid (refF s.data.toList = 0) := by unfold Hid; rw [E.out]; rfl
    go_wp2_with (first
            | (go_at_call_has 41 X; refine (number_any X _ HX.out).mono ?_; rintro e w2 ⟨rfl, rfl⟩)
            | (go_at_call_has 41 Y; refine (number_any Y _ HY.out).mono ?_; rintro e w2 ⟨rfl, rfl⟩)
            | (go_at_call_has 42 X; refine (any_any X _ HX.out).mono ?_; rintro e w2 ⟨rfl, rfl⟩)
            | (go_at_call_has 42 Y; refine (any_any Y _ HY.out).mono ?_; rintro e w2 ⟨rfl, rfl⟩)
            | (go_at_call 12; refine (is12 _ _ _ _).mono ?_; rintro e w2 ⟨rfl, rfl⟩))
    go_ret2
    exact ⟨by rw [E2.out]; rfl, hb⟩
  · cases c1 : inR 0 1048578 (anyS X)
    · have E2 : Hid (refF s.data.toList = 0) := by unfold Hid; rw [E.out, c1]; rfl
      go_wp2_with (first
            | (go_at_call_has 41 X; refine (number_any X _ HX.out).mono ?_; rintro e w2 ⟨rfl, rfl⟩)
            | (go_at_call_has 41 Y; refine (number_any Y _ HY.out).mono ?_; rintro e w2 ⟨rfl, rfl⟩)
            | (go_at_call_has 42 X; refine (any_any X _ HX.out).mono ?_; rintro e w2 ⟨rfl, rfl⟩)
            | (go_at_call_has 42 Y; refine (any_any Y _ HY.out).mono ?_; rintro e w2 ⟨rfl, rfl⟩)
            | (go_at_call 12; refine (is12 _ _ _ _).mono ?_; rintro e w2 ⟨rfl, rfl⟩))
      go_ret2
      exact ⟨by rw [E2.out]; rfl, hb⟩
    · cases c2 : inR 0 1048578 (anyS Y)
      · have E2 : Hid (refF s.data.toList = 0) := by unfold Hid; rw [E.out, c1, c2]; rfl
        go_wp2_with (first
            | (go_at_call_has 41 X; refine (number_any X _ HX.out).mono ?_; rintro e w2 ⟨rfl, rfl⟩)
            | (go_at_call_has 41 Y; refine (number_any Y _ HY.out).mono ?_; rintro e w2 ⟨rfl, rfl⟩)
            | (go_at_call_has 42 X; refine (any_any X _ HX.out).mono ?_; rintro e w2 ⟨rfl, rfl⟩)
            | (go_at_call_has 42 Y; refine (any_any Y _ HY.out).mono ?_; rintro e w2 ⟨rfl, rfl⟩)
            | (go_at_call 12; refine (is12 _ _ _ _).mono ?_; rintro e w2 ⟨rfl, rfl⟩))
        go_ret2
        exact ⟨by rw [E2.out]; rfl, hb⟩
      · have E2 : Hid (refF s.data.toList = mk 2 (anyS X) (anyS Y)) := by unfold Hid; rw [E.out, c1, c2]; rfl
        have d1 := inR_le c1
        have d2 := inR_le c2
        have D1 : Hid (0 ≤ anyS X ∧ anyS X ≤ 1048578) := d1
        have D2 : Hid (0 ≤ anyS Y ∧ anyS Y ≤ 1048578) := d2
        clear d1 d2
        go_wp2_with (first
            | (go_at_call_has 41 X; refine (number_any X _ HX.out).mono ?_; rintro e w2 ⟨rfl, rfl⟩)
            | (go_at_call_has 41 Y; refine (number_any Y _ HY.out).mono ?_; rintro e w2 ⟨rfl, rfl⟩)
            | (go_at_call_has 42 X; refine (any_any X _ HX.out).mono ?_; rintro e w2 ⟨rfl, rfl⟩)
            | (go_at_call_has 42 Y; refine (any_any Y _ HY.out).mono ?_; rintro e w2 ⟨rfl, rfl⟩)
            | (go_at_call 12; refine (is12 _ _ _ _).mono ?_; rintro e w2 ⟨rfl, rfl⟩)
            | (go_at_call 13; refine Calls.mono (made13 9223372036854775808 2 (anyS X) (anyS Y) _ (by omega) (by omega) (by omega) (by have := D1.out; have := D2.out; omega) (by have := D1.out; have := D2.out; omega) (by have := D1.out; have := D2.out; omega) (by have := D1.out; have := D2.out; omega)) ?_; rintro e w2 ⟨rfl, rfl⟩))
        go_ret2
        exact ⟨by rw [E2.out]; rfl, hb⟩

set_option maxHeartbeats 2000000 in
theorem ref_99 (s : ByteArray) (w : World) (hs : s.size ≤ 9223372036854775807) (hp : 0 < s.size) (hz' : s.toList.isEmpty = false) (hl : s.data.toList = 99 :: (s.extract 1 s.size).data.toList) (hc : (s[0].toNat : Int) = 99) :
    Calls Tryd.prog 23 #[.string s] w fun e w' => e = .returned (.tuple #[.int .u64 (refF s.data.toList), .bool (refF s.data.toList != 0)]) ∧ Below w.heap.size w w' := by
  have HT : Hid ((s.extract 1 s.size).size ≤ 9223372036854775807) := by unfold Hid; rw [ByteArray.size_extract]; omega
  have E : Hid (refF s.data.toList = if inR 1 24 (numS (s.extract 1 s.size)) then mk 1 0 (numS (s.extract 1 s.size)) else 0) := by unfold Hid; rw [hl]; rfl
  clear hl
  have hp1 : (1 : Int) ≤ (s.size : Int) := by omega
  cases c1 : inR 1 24 (numS (s.extract 1 s.size))
  · have E2 : Hid (refF s.data.toList = 0) := by unfold Hid; rw [E.out, c1]; rfl
    go_enter Tryd.func23, Tryd.ntmps23
    go_wp2_with (first
      | (go_at_call 41; refine (number_any _ _ HT.out).mono ?_; rintro e w2 ⟨rfl, rfl⟩)
      | (go_at_call 12; refine (is12 _ _ _ _).mono ?_; rintro e w2 ⟨rfl, rfl⟩))
    go_ret2
    exact ⟨by rw [E2.out]; rfl, Below.refl _ _⟩
  · have E2 : Hid (refF s.data.toList = mk 1 0 (numS (s.extract 1 s.size))) := by unfold Hid; rw [E.out, c1]; rfl
    have d1 := inR_le c1
    have D1 : Hid (1 ≤ numS (s.extract 1 s.size) ∧ numS (s.extract 1 s.size) ≤ 24) := d1
    clear d1
    go_enter Tryd.func23, Tryd.ntmps23
    go_wp2_with (first
      | (go_at_call 41; refine (number_any _ _ HT.out).mono ?_; rintro e w2 ⟨rfl, rfl⟩)
      | (go_at_call 12; refine (is12 _ _ _ _).mono ?_; rintro e w2 ⟨rfl, rfl⟩)
      | (go_at_call 13; refine Calls.mono (made13 4611686018427387904 1 0 (numS (s.extract 1 s.size)) _ (by omega) (by omega) (by omega) (by omega) (by omega) (by have := D1.out; omega) (by have := D1.out; omega)) ?_; rintro e w2 ⟨rfl, rfl⟩))
    go_ret2
    exact ⟨by rw [E2.out]; rfl, Below.refl _ _⟩

theorem ref_other (s : ByteArray) (w : World) (hp : 0 < s.size) (hz' : s.toList.isEmpty = false) (E : refF s.data.toList = 0) (c1 : ((s[0].toNat : Int) == 101) = false) (c2 : ((s[0].toNat : Int) == 99) = false) (c3 : ((s[0].toNat : Int) == 112) = false) :
    Calls Tryd.prog 23 #[.string s] w fun e w' => e = .returned (.tuple #[.int .u64 (refF s.data.toList), .bool (refF s.data.toList != 0)]) ∧ Below w.heap.size w w' := by
  have E2 : Hid (refF s.data.toList = 0) := E
  clear E
  go_enter Tryd.func23, Tryd.ntmps23
  go_wp2
  go_ret2
  exact ⟨by rw [E2.out]; rfl, Below.refl _ _⟩
theorem ref_empty (s : ByteArray) (w : World) (hz' : s.toList.isEmpty = true) (E : refF s.data.toList = 0) :
    Calls Tryd.prog 23 #[.string s] w fun e w' => e = .returned (.tuple #[.int .u64 (refF s.data.toList), .bool (refF s.data.toList != 0)]) ∧ Below w.heap.size w w' := by
  have E2 : Hid (refF s.data.toList = 0) := E
  clear E
  go_enter Tryd.func23, Tryd.ntmps23
  go_wp2
  go_ret2
  exact ⟨by rw [E2.out]; rfl, Below.refl _ _⟩

theorem refF_else (c : UInt8) (t : List UInt8) (h1 : c ≠ 101) (h2 : c ≠ 99) (h3 : c ≠ 112) : refF (c :: t) = 0 := by simp [refF, h1, h2, h3]
theorem u8_eq (c : UInt8) (d : Nat) (hd : d < 256) (h : (c.toNat : Int) = d) : c = UInt8.ofNat d := by
  apply UInt8.toNat_inj.1; rw [UInt8.toNat_ofNat']; omega
theorem u8_ne (c : UInt8) (d : Nat) (hd : d < 256) (h : ¬ (c.toNat : Int) = d) : c ≠ UInt8.ofNat d := by
  intro e; subst e; apply h; rw [UInt8.toNat_ofNat']; omega

theorem refRead_any (s : ByteArray) (w : World) (hs : s.size ≤ 9223372036854775807) :
    Calls Tryd.prog 23 #[.string s] w fun e w' => e = .returned (.tuple #[.int .u64 (refF s.data.toList), .bool (refF s.data.toList != 0)]) ∧ Below w.heap.size w w' := by
  by_cases hz : s.size = 0
  · have hl : s.data.toList = [] := List.eq_nil_of_length_eq_zero hz
    exact ref_empty s w (by rw [ByteArray.toList_eq, hl]; rfl) (by rw [hl]; rfl)
  · have hp : 0 < s.size := by omega
    have hd := drop_at s 0 hp
    rw [List.drop_zero] at hd
    have ht : (s.extract 1 s.size).data.toList = s.data.toList.drop 1 := by
      rw [Lib.extract_data]
      apply List.take_of_length_le
      have : s.data.toList.length = s.size := rfl
      rw [List.length_drop]; omega
    have hl : s.data.toList = s[0] :: (s.extract 1 s.size).data.toList := by rw [ht]; exact hd
    have hz' : s.toList.isEmpty = false := by rw [ByteArray.toList_eq, hl]; rfl
    by_cases c1 : (s[0].toNat : Int) = 101
    · have e := u8_eq s[0] 101 (by omega) c1
      exact ref_101 s w hs hp hz' (by rw [hl, e]; rfl) c1
    · by_cases c2 : (s[0].toNat : Int) = 99
      · have e := u8_eq s[0] 99 (by omega) c2
        exact ref_99 s w hs hp hz' (by rw [hl, e]; rfl) c2
      · by_cases c3 : (s[0].toNat : Int) = 112
        · have e := u8_eq s[0] 112 (by omega) c3
          exact ref_112 s w hs hp hz' (by rw [hl, e]; rfl) c3
        · have E : refF s.data.toList = 0 := by
            rw [hl]
            exact refF_else _ _ (u8_ne s[0] 101 (by omega) c1) (u8_ne s[0] 99 (by omega) c2) (u8_ne s[0] 112 (by omega) c3)
          exact ref_other s w hp hz' E (by simp; omega) (by simp; omega) (by simp; omega)
end Go.Proofs.YtpamgcmjhfojeaaDoor
