/- Float64frombits, Float64bits, IsNaN, add, wordOf, Sum. -/
import Derived.Test.YtglfhgedaknljaaMod
import Derived.Test.YtglfhgedaknljaaFl
import Derived.Laws.Externs
namespace Go.Proofs.Ytglfhgedaknljaa
open Go.RowKit

theorem run_frombits (n : Int) (w : World) : (callFunc 23 #[.int .u64 n]).run Try.prog w = .ok (.value (.float .f64 n.toNat)) w := by
  rw [run_callFunc_extern Try.func23 (by kernel_rfl) (by kernel_rfl) (by kernel_rfl) (e := Extern.MathFloatBits.float64frombits) (by kernel_rfl)]
  rfl
theorem run_bits (n : Nat) (w : World) : (callFunc 26 #[.float .f64 n]).run Try.prog w = .ok (.value (.int .u64 n)) w := by
  rw [run_callFunc_extern Try.func26 (by kernel_rfl) (by kernel_rfl) (by kernel_rfl) (e := Extern.MathFloatBits.float64bits) (by kernel_rfl)]
  rfl
/-- Two float64s are added: what they come to, and nothing of memory changes. -/
theorem run_add (m x : Nat) (w : World) : ∃ r w', (binOp .add 46 (.float .f64 m) (.float .f64 x)).run Try.prog w = .ok (.float .f64 r) w' ∧ AddsTo m x r ∧ Below w.heap.size w w' ∧ w'.heap = w.heap := by
  cases e : Ieee.double.add m x with
  | some v =>
    refine ⟨v, w, run_float_arith w .add 46 .f64 m x v e, ⟨?_, by rw [e]⟩, Below.refl _ _, rfl⟩
    exact Ieee.double.add_lt e
  | none =>
    obtain ⟨t, ht⟩ : ∃ t, t = w.tape w.drawn (.nanBits .f64 m x) := ⟨_, rfl⟩
    refine ⟨(t % 2) * 2 ^ 63 + 0x7ff0000000000000 + 1 + (t / 2) % (2 ^ 52 - 1), { w with drawn := w.drawn + 1 }, ?_, ?_, ⟨rfl, rfl, rfl, Nat.le_refl _, fun _ _ => rfl⟩, rfl⟩
    · have e' : FloatKind.f64.format.add m x = none := e
      subst ht
      simp only [binOp, Op.floatArith, e']
      rfl
    · have hb : (t % 2) * 2 ^ 63 + 0x7ff0000000000000 + 1 + (t / 2) % (2 ^ 52 - 1) < 18446744073709551616 := by omega
      refine ⟨hb, ?_⟩
      rw [e]
      refine ⟨hb, ?_⟩
      cases h : nuW (((t % 2) * 2 ^ 63 + 0x7ff0000000000000 + 1 + (t / 2) % (2 ^ 52 - 1) : Nat) : Int)
      · rfl
      · have := nuW_t ⟨by omega, by omega⟩ h
        omega
theorem isNaN25 (n : Nat) (w : World) (h : n < 18446744073709551616) : Calls Try.prog 25 #[.float .f64 n] w fun e w' => e = .returned (.bool (!nuW (n : Int))) ∧ w' = w := by
  have E : Hid ((Ieee.double.order n n == some .eq) = nuW (n : Int)) := order_self h
  go_enter Try.func25, Try.ntmps25
  go_wp2
  go_ret
  refine ⟨?_, rfl⟩
  rw [← E.out]; rfl

theorem take_snoc {l : List Int} {k : Nat} (h : k < l.length) : l.take (k + 1) = l.take k ++ [iG l k] := by
  rw [List.take_add_one, List.getElem?_eq_getElem h, iG_eq h]; rfl
theorem kstep {k : Nat} {l : List Int} (h : k < l.length) (hl : l.length ≤ 40) : k + 1 ≤ l.length ∧ wrap64 ((k : Int) + 1) = ((k + 1 : Nat) : Int) ∧ l.length - (intOf (.int .i64 ((k + 1 : Nat) : Int))).toNat < l.length - (intOf (.int .i64 (k : Int))).toNat ∧ l.take (k + 1) = l.take k ++ [iG l k] := by
  refine ⟨h, by unfold wrap64; omega, by simp [intOf]; omega, take_snoc h⟩
set_option maxRecDepth 20000 in
theorem add44 (p : Option Addr) (l : List Int) (c : Nat) (w : World) (h : Fw w p l c) :
    Calls Try.prog 44 #[.float .f64 0, .slice p l.length c] w fun e w' => ∃ r, e = .returned (.float .f64 r) ∧ Summed 0 l r ∧ Below w.heap.size w w' := by
  have hl : Hid (l.length ≤ 40) := h.n
  go_enter Try.func44, Try.ntmps44
  go_wp2
  go_loopw [0, 9] (fun s i wr => ∃ (k : Nat) (r : Nat), k ≤ l.length ∧ i = .int .i64 k ∧ s = .float .f64 r ∧ Summed 0 (l.take k) r ∧ Below w.heap.size w wr) (fun _ i _ => l.length - (intOf i).toNat)
  case atStart => exact ⟨0, 0, by omega, rfl, rfl, rfl, Below.refl _ _⟩
  case round =>
    obtain ⟨k, r, hk, rfl, rfl, hs, hb⟩ := hrel
    by_cases hlt : k < l.length
    · obtain ⟨b, off, rfl, hN, hc⟩ := (h.to hb).i (by omega)
      have hck := hc k hlt
      obtain ⟨r', w', hrun, hadd, hb', -⟩ := run_add r (iG l k).toNat wr
      have FB := run_frombits (iG l k)
      have HS := hidOg hs
      have HB := hidOg hb
      have HA := hidOg hadd
      have HL := hidOg hlt
      have HB' := hidOg hb'
      clear hs hb hadd hc h hb' hN
      have NN := kstep (k := k) (l := l) hlt hl.out
      go_wp2
      go_roundw
      case rel => exact ⟨k + 1, r', NN.1, by rw [NN.2.1], rfl, by rw [NN.2.2.2]; exact HS.out.snoc HA.out, HB.out.trans (HB'.out.mono HB.out.size)⟩
      case measure => rw [NN.2.1]; exact NN.2.2.1
    · have hkl : k = l.length := by omega
      have HS : Hid (Summed 0 l r) := by rw [hkl, List.take_length] at hs; exact hs
      clear hs hkl
      go_wp2
      go_ret
      exact ⟨r, rfl, HS.out, hb⟩

/-- What Sum tells of a sum. -/
def sumV (r : Nat) : Int := if nuW (r : Int) then (r : Int) else 9221120237041090560
theorem wordOf43 (n : Nat) (w : World) (h : n < 18446744073709551616) : Calls Try.prog 43 #[.float .f64 n] w fun e w' => e = .returned (.int .u64 (sumV n)) ∧ w' = w := by
  have HH := fun (W : World) => has31 (n : Int) W ⟨by omega, by omega⟩
  have RB := run_bits n
  cases hn : nuW (n : Int)
  · rw [hn] at HH
    have E : Hid (sumV n = 9221120237041090560) := by unfold Hid sumV; rw [hn]; rfl
    go_enter Try.func43, Try.ntmps43
    go_wp2_with (first | (go_at_call 31; refine (HH _).mono ?_; rintro e w1 ⟨rfl, rfl⟩))
    go_ret
    exact ⟨by rw [E.out]; rfl, rfl⟩
  · rw [hn] at HH
    have E : Hid (sumV n = n) := by unfold Hid sumV; rw [hn]; rfl
    go_enter Try.func43, Try.ntmps43
    go_wp2_with (first | (go_at_call 31; refine (HH _).mono ?_; rintro e w1 ⟨rfl, rfl⟩))
    go_ret
    exact ⟨by rw [E.out]; rfl, rfl⟩
theorem sum24 (p : Option Addr) (l : List Int) (c : Nat) (w : World) (h : Fw w p l c) :
    Calls Try.prog 24 #[.slice p l.length c] w fun e w' => ∃ r, r < 18446744073709551616 ∧ e = .returned (.int .u64 (sumV r)) ∧ Summed 0 l r ∧ Below w.heap.size w w' := by
  go_enter Try.func24, Try.ntmps24
  go_wp2_with (first | (go_at_call 44; refine Calls.mono (add44 p l c _ h) ?_; rintro e w1 ⟨r, rfl, hs, hb⟩; have hr := hs.lt (by decide)) | (go_at_call 43; refine Calls.mono (wordOf43 _ _ hr) ?_; rintro e w1 ⟨rfl, rfl⟩))
  go_ret
  exact ⟨r, hr, rfl, hs, hb⟩
end Go.Proofs.Ytglfhgedaknljaa
