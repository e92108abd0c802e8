/- readDigit, readWord. -/
import Derived.Test.YtofobpijkceldaaDoorMod
import Derived.Test.YtofobpijkceldaaDoorHexR
import Derived.Lib.OthersKept
import Derived.Laws.RangeAny
import Derived.Lib.RuneCount
import Derived.WalkMore
import Derived.Lib.Strings
namespace Go.Proofs.YtofobpijkceldaaDoor
open Go.RowKit

def dV (r : Int) : Int := if isHN r then vHN r else 0
theorem digit48 (r : Int) (w : World) (h0 : 0 ≤ r) (h1 : r ≤ 2147483647) : Calls Tryd.prog 48 #[.int .i32 r] w fun e w' => e = .returned (.tuple #[.int .u64 (dV r), .bool (isHN r)]) ∧ w' = w := by
  by_cases a : 48 ≤ r
  · by_cases b : r ≤ 57
    · have e1 : isHN r = true := by simp [isHN, a, b]
      have e2 : dV r = r - 48 := by unfold dV vHN; rw [e1, if_pos b]; rfl
      rw [e1, e2]
      clear e1 e2
      go_enter Tryd.func48, Tryd.ntmps48
      go_wp2
      go_ret2
      exact ⟨rfl, rfl⟩
    · by_cases c : 97 ≤ r
      · by_cases d : r ≤ 102
        · have e1 : isHN r = true := by simp [isHN, c, d]
          have e2 : dV r = r - 97 + 10 := by unfold dV vHN; rw [e1, if_neg b]; simp; omega
          rw [e1, e2]
          clear e1 e2
          go_enter Tryd.func48, Tryd.ntmps48
          go_wp2
          go_ret2
          exact ⟨rfl, rfl⟩
        · have e1 : isHN r = false := by simp [isHN]; omega
          have e2 : dV r = 0 := by unfold dV; rw [e1]; rfl
          rw [e1, e2]
          clear e1 e2
          go_enter Tryd.func48, Tryd.ntmps48
          go_wp2
          go_ret2
          exact ⟨rfl, rfl⟩
      · have e1 : isHN r = false := by simp [isHN]; omega
        have e2 : dV r = 0 := by unfold dV; rw [e1]; rfl
        rw [e1, e2]
        clear e1 e2
        go_enter Tryd.func48, Tryd.ntmps48
        go_wp2
        go_ret2
        exact ⟨rfl, rfl⟩
  · have e1 : isHN r = false := by simp [isHN]; omega
    have e2 : dV r = 0 := by unfold dV; rw [e1]; rfl
    rw [e1, e2]
    clear e1 e2
    have c : ¬ 97 ≤ r := by omega
    go_enter Tryd.func48, Tryd.ntmps48
    go_wp2
    go_ret2
    exact ⟨rfl, rfl⟩

/-- What the loop over a text keeps in memory. -/
structure RW (s : ByteArray) (w : World) (pos : Nat) (wr : World) : Prop where
  it : wr.heap[w.heap.size]? = some (.stringIter s pos)
  bel : Below w.heap.size w wr
theorem RW.iterAt {s : ByteArray} {w wr : World} {pos : Nat} (h : RW s w pos wr) (pos' : Nat) : RW s w pos' (wr.iterAt w.heap.size s pos') :=
  ⟨Lib.iterAt_heap wr w.heap.size s pos pos' h.it, Lib.below_iterAt h.bel (Nat.le_refl _) s pos'⟩
theorem RW.iterPos {s : ByteArray} {w wr : World} {pos : Nat} (h : RW s w pos wr) : wr.iterPos w.heap.size = pos := by
  have := h.it; simp [World.iterPos, this]
theorem RW.next {s : ByteArray} {w wr : World} {pos : Nat} (h : RW s w pos wr) (hlt : pos < s.size) :
    ∃ W2, (∀ ty, (Instr.next (.pointer (some ⟨w.heap.size, 0, none⟩)) true ty).run Tryd.prog wr = .ok (.tuple #[.bool true, .int .i64 pos, .int .i32 (Utf8.decode s pos).1]) W2) ∧ RW s w (pos + (Utf8.decode s pos).2) W2 :=
  ⟨_, fun ty => Lib.run_next_any_at wr w.heap.size s pos ty h.it hlt, h.iterAt _⟩
theorem RW.nextEnd {s : ByteArray} {w wr : World} {pos : Nat} (h : RW s w pos wr) (hlt : ¬ pos < s.size) :
    ∀ ty, (Instr.next (.pointer (some ⟨w.heap.size, 0, none⟩)) true ty).run Tryd.prog wr = .ok (.tuple #[.bool false]) wr :=
  fun ty => Lib.run_next_end_at wr w.heap.size s pos ty h.it hlt

/-- A text's bytes. -/
abbrev bL (s : ByteArray) : List UInt8 := s.data.toList
theorem bL_take (s : ByteArray) (k : Nat) (h : k < s.size) : (bL s).take (k + 1) = (bL s).take k ++ [s[k]] := by
  rw [List.take_succ_eq_append_getElem (by simpa using h)]; rfl
theorem or4 (x d : Nat) (hx : x < 1152921504606846976) (hd : d < 16) : bits .or .u64 ((x : Int) * 16) (d : Int) = ((16 * x + d : Nat) : Int) := by
  rw [u64_or _ _ (by omega) (by omega) (by omega) (by omega)]
  have h := (Nat.two_pow_add_eq_or_of_lt (i := 4) (show d < 2 ^ 4 by omega) x).symm
  have e : ((x : Int) * 16).toNat = 2 ^ 4 * x := by omega
  rw [e, Int.toNat_natCast, h]

def numA (l : List UInt8) : Nat := if l.all isH then numH l else 0
theorem all_take_no {l : List UInt8} {k : Nat} (h : k < l.length) (hb : isH l[k] = false) : l.all isH = false := by
  rw [Bool.eq_false_iff]; intro e; rw [List.all_eq_true] at e
  have := e _ (List.getElem_mem h); rw [hb] at this; cases this

set_option maxRecDepth 100000 in
set_option maxHeartbeats 4000000 in
theorem word_loop (s : ByteArray) (w : World) (hs1 : 1 ≤ s.size) (hs2 : s.size ≤ 16) (hh : ¬ (1 < (s.size : Int)) ∨ (1 < (s.size : Int) ∧ (((s[0]'(by omega)).toNat : Int) == 48) = false)) :
    Calls Tryd.prog 45 #[.string s] w fun e w' => e = .returned (.tuple #[.int .u64 (numA (bL s)), .bool ((bL s).all isH)]) ∧ Below w.heap.size w w' := by
  have g0 : ((s.size : Int) == 0) = false := by rw [beq_eq_false_iff_ne]; omega
  have g1 : ¬ ((16 : Int) < (s.size : Int)) := by omega
  have g2 : 0 < s.size := by omega
  obtain ⟨V, hV⟩ : ∃ V, V = numA (bL s) := ⟨_, rfl⟩
  obtain ⟨T, hT⟩ : ∃ T, T = (bL s).all isH := ⟨_, rfl⟩
  rw [← hV, ← hT]
  have HV := hidOg hV
  have HTt := hidOg hT
  clear hV hT
  have hG : RW s w 0 (w.iter s 0) := ⟨by have := World.iter_heap w s 0; simpa using this, by unfold World.iter; exact (Below.refl _ _).alloc (Nat.le_refl _) _⟩
  rcases hh with hh | ⟨hh1, hh2⟩
  all_goals
    go_enter Tryd.func45, Tryd.ntmps45
    go_wp2
    go_loopw [4] (fun u wr => ∃ (x pos : Nat), u = .int .u64 x ∧ pos ≤ s.size ∧ x = numH ((bL s).take pos) ∧ ((bL s).take pos).all isH = true ∧ RW s w pos wr) (fun _ wr => s.size - wr.iterPos w.heap.size)
    case atStart => exact ⟨0, 0, rfl, Nat.zero_le _, by simp [numH], by simp, hG⟩
    case round =>
      obtain ⟨x, pos, rfl, hpos, hx, hall, hW⟩ := hrel
      clear hG
      by_cases hlt : pos < s.size
      · obtain ⟨W2, hn, hW2⟩ := hW.next hlt
        have hwd : Hid (1 ≤ (Utf8.decode s pos).2) := Lib.decode_width_pos s pos hlt
        have I1 : wr.iterPos w.heap.size = pos := hW.iterPos
        have I2 : W2.iterPos w.heap.size = pos + (Utf8.decode s pos).2 := hW2.iterPos
        have hr1 := decode_le s pos
        have hlen : ((bL s).take pos).length = pos := by simp; omega
        have hxl : x < 16 ^ pos := by rw [hx]; have := numH_lt _ hall; rwa [hlen] at this
        have hxb : x < 1152921504606846976 := by
          have h2 : 16 ^ pos ≤ 16 ^ 15 := Nat.pow_le_pow_right (by omega) (by omega)
          have h3 : (16 : Nat) ^ 15 = 1152921504606846976 := by decide
          omega
        have hA : Hid (isHN ((Utf8.decode s pos).1 : Int) = true → (Utf8.decode s pos).2 = 1 ∧ ((Utf8.decode s pos).1 : Int) = ((s[pos]'hlt).toNat : Int)) := fun h => by
          by_cases ha : (s[pos]'hlt).toNat < 128
          · rw [decode_ascii s pos hlt ha]; exact ⟨rfl, rfl⟩
          · have := (decode_high s pos hlt (by omega)).1
            have := isHN_bd h
            omega
        have hB : Hid (isHN ((Utf8.decode s pos).1 : Int) = false → isH (s[pos]'hlt) = false) := fun h => by
          by_cases ha : (s[pos]'hlt).toNat < 128
          · rw [decode_ascii s pos hlt ha] at h; exact h
          · unfold isH; simp [isHN]; omega
        obtain ⟨wd, hwd'⟩ : ∃ wd, wd = (Utf8.decode s pos).2 := ⟨_, rfl⟩
        obtain ⟨r, hr⟩ : ∃ r : Int, r = ((Utf8.decode s pos).1 : Int) := ⟨_, rfl⟩
        have hr0 : 0 ≤ r := by omega
        have hr2 : r ≤ 2147483647 := by omega
        rw [← hr] at hn hA hB
        rw [← hwd'] at hW2 hwd I2 hA
        have HI1 := hidOg I1
        have HI2 := hidOg I2
        have HW2 := hidOg hW2
        have HLT := hidOg hlt
        have HXE := hidOg hx
        have HALL := hidOg hall
        have CC := fun (W : World) => digit48 r W hr0 hr2
        clear hr hr1 hwd' I1 I2 hW hW2 hx hall hxl hlen
        cases hd : isHN r
        · have hT0 : T = false := by rw [HTt.out]; exact all_take_no (k := pos) (by simpa using hlt) (hB.out hd)
          have hV0 : V = 0 := by rw [HV.out]; unfold numA; rw [← HTt.out, hT0]; rfl
          rw [hd] at CC
          subst hT0 hV0
          clear hd hA hB HV HTt
          go_wp2_with (first | (go_at_call 48; refine Calls.mono (CC _) ?_; rintro e w1 ⟨rfl, hw⟩; rw [hw]; clear hw w1))
          go_ret2
          exact ⟨rfl, HW2.out.bel⟩
        · obtain ⟨e1, e2⟩ := hA.out hd
          subst e1
          have hbd := vHN_bd hd
          have hHc : isH (s[pos]'hlt) = true := by unfold isH; rw [← e2]; exact hd
          obtain ⟨d, hdd⟩ : ∃ d : Nat, dV r = (d : Int) := ⟨(vHN r).toNat, by unfold dV; rw [hd]; simp; omega⟩
          have hd16 : d < 16 := by unfold dV at hdd; rw [hd] at hdd; simp at hdd; omega
          have hdv : d = vH (s[pos]'hlt) := by
            have := vH_eq hHc
            rw [← e2] at this
            unfold dV at hdd; rw [hd] at hdd; simp at hdd; omega
          have HN : Hid (16 * x + d = numH ((bL s).take (pos + 1))) := by unfold Hid; rw [bL_take s pos hlt, numH_snoc, ← HXE.out, hdv]
          have HA2 : Hid (((bL s).take (pos + 1)).all isH = true) := by unfold Hid; rw [bL_take s pos hlt, List.all_append, HALL.out]; simp [hHc]
          have ho := or4 x d hxb hd16
          rw [hd, hdd] at CC
          clear hd hA hB e2 hbd hHc hdd hdv
          go_wp2_with (first | (go_at_call 48; refine Calls.mono (CC _) ?_; rintro e w1 ⟨rfl, hw⟩; rw [hw]; clear hw w1))
          go_roundw
          case rel => exact ⟨16 * x + d, pos + 1, by first | rfl | go_num, by omega, HN.out, HA2.out, HW2.out⟩
          case measure => rw [HI1.out, HI2.out]; have := HLT.out; omega
      · have hn := hW.nextEnd hlt
        obtain rfl : pos = s.size := by omega
        have et : (bL s).take s.size = bL s := List.take_of_length_le (by simp)
        rw [et] at hx hall
        have hT1 : T = true := by rw [HTt.out]; exact hall
        have hV1 : V = x := by rw [HV.out]; unfold numA; rw [hall, hx]; rfl
        have HW := hidOg hW
        subst hT1 hV1
        clear hW hx hall HV HTt et
        go_wp2
        go_ret2
        exact ⟨rfl, HW.out.bel⟩

theorem word_no (s : ByteArray) (w : World) (hh : ((s.size : Int) == 0) = true ∨ (((s.size : Int) == 0) = false ∧ (16 : Int) < (s.size : Int)) ∨ (((s.size : Int) == 0) = false ∧ ¬ ((16 : Int) < (s.size : Int)) ∧ 1 < (s.size : Int) ∧ ∃ h : 0 < s.size, (((s[0]'h).toNat : Int) == 48) = true)) :
    Calls Tryd.prog 45 #[.string s] w fun e w' => e = .returned (.tuple #[.int .u64 0, .bool false]) ∧ Below w.heap.size w w' := by
  rcases hh with h1 | ⟨h1, h2⟩ | ⟨h1, h2, h3, h4, h5⟩
  all_goals
    go_enter Tryd.func45, Tryd.ntmps45
    go_wp2
    go_ret2
    exact ⟨rfl, Below.refl _ _⟩
theorem head_at {s : ByteArray} (h : 0 < s.size) : (bL s).headD 0 = s[0] := by
  obtain ⟨⟨l⟩⟩ := s
  cases l with
  | nil => simp [ByteArray.size] at h
  | cons c r => rfl
theorem bL_len (s : ByteArray) : (bL s).length = s.size := by simp
theorem beq48 (c : UInt8) : ((c.toNat : Int) == 48) = (c == 48) := by
  rw [Bool.eq_iff_iff]; simp
  constructor
  · intro h; apply UInt8.toNat_inj.1; simpa using (by omega : c.toNat = 48)
  · intro h; rw [h]; rfl
theorem word45 (s : ByteArray) (w : World) :
    Calls Tryd.prog 45 #[.string s] w fun e w' => e = .returned (.tuple #[.int .u64 (wordV (bL s)), .bool (okW (bL s))]) ∧ Below w.heap.size w w' := by
  by_cases h0 : s.size = 0
  · have e : okW (bL s) = false := by unfold okW; rw [bL_len, decide_eq_false (by omega)]; rfl
    have e2 : wordV (bL s) = 0 := by unfold wordV; rw [e]; rfl
    rw [e, e2]
    exact word_no s w (.inl (by rw [beq_iff_eq]; omega))
  · have g0 : ((s.size : Int) == 0) = false := by rw [beq_eq_false_iff_ne]; omega
    by_cases h1 : 16 < s.size
    · have e : okW (bL s) = false := by unfold okW; rw [bL_len, decide_eq_false (by omega)]; rfl
      have e2 : wordV (bL s) = 0 := by unfold wordV; rw [e]; rfl
      rw [e, e2]
      exact word_no s w (.inr (.inl ⟨g0, by omega⟩))
    · by_cases h2 : 1 < s.size ∧ ((bL s).headD 0 == 48) = true
      · have e : okW (bL s) = false := by unfold okW; rw [bL_len, h2.2, decide_eq_true h2.1]; simp
        have e2 : wordV (bL s) = 0 := by unfold wordV; rw [e]; rfl
        rw [e, e2]
        exact word_no s w (.inr (.inr ⟨g0, by omega, by omega, by omega, by rw [beq48, ← head_at]; exact h2.2⟩))
      · have e : okW (bL s) = (bL s).all isH := by
          unfold okW; rw [bL_len, decide_eq_true (by omega : 1 ≤ s.size ∧ s.size ≤ 16)]
          cases hd : decide (1 < s.size)
          · simp
          · have : ((bL s).headD 0 == 48) = false := by
              cases hc : ((bL s).headD 0 == 48)
              · rfl
              · exact absurd ⟨of_decide_eq_true hd, hc⟩ h2
            rw [this]; simp
        have e2 : wordV (bL s) = numA (bL s) := by unfold wordV numA; rw [e]
        rw [e, e2]
        refine word_loop s w (by omega) (by omega) ?_
        by_cases h3 : 1 < s.size
        · refine .inr ⟨by omega, ?_⟩
          rw [beq48, ← head_at (by omega)]
          cases hc : ((bL s).headD 0 == 48)
          · rfl
          · exact absurd ⟨h3, hc⟩ h2
        · exact .inl (by omega)
end Go.Proofs.YtofobpijkceldaaDoor
