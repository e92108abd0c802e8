/- The contract of ident.Read: it tells the id whose text it is handed, or that there is none. -/
import Derived.Test.YtpamgcmjhfojeaaDoorPlainC
import Derived.Test.YtpamgcmjhfojeaaDoorIdJ
namespace Go.Proofs.YtpamgcmjhfojeaaDoor
open Go.RowKit

/-- What 'Read' tells of a text: an id of a kind whose text it is, or 0 and ErrId where no id has it. -/
def ReadIs (s : ByteArray) (v er : Int) : Prop :=
  (er = 0 ∧ kindOf v ≠ 0 ∧ textOf v = s ∧ 0 ≤ v ∧ v < 18446744073709551616) ∨ (er = 110 ∧ v = 0 ∧ ∀ x : Int, kindOf x ≠ 0 → textOf x ≠ s)

theorem readIs_bad (s : ByteArray) (k p a b : Int) (h : GR s 0 0 0 0 0 (k, p, a, b)) (hn : kindOf (madeV k a b) = 0 ∨ textOf (madeV k a b) ≠ s) : ReadIs s 0 110 := by
  refine Or.inr ⟨rfl, rfl, fun x hx e => ?_⟩
  subst e
  have := gr_text x hx h
  simp only at this
  rw [this] at hn
  rcases hn with hn | hn
  · exact hx hn
  · exact hn rfl

theorem toList_ne {a b : ByteArray} (h : a ≠ b) : (a.toList == b.toList) = false := by
  rw [beq_eq_false_iff_ne]
  intro e
  rw [ByteArray.toList_eq, ByteArray.toList_eq] at e
  apply h
  cases a; cases b
  simp at e
  rw [e]

set_option maxHeartbeats 1000000 in
theorem read_any (s : ByteArray) (w : World) (ht : Tab w) (hs : s.size ≤ maxLen) :
    Calls Tryd.prog 22 #[.string s] w fun e w' => ∃ v er : Int, ReadIs s v er ∧ e = .returned (.tuple #[.int .u64 v, .int .i64 er]) ∧ Below w.heap.size w w' := by
  go_enter Tryd.func22, Tryd.ntmps22
  go_wp2_with (first | (go_at_call 39; refine (guess_any _ _ hs).mono ?_; rintro e w1 ⟨k, p, a, b, hg, rfl, hb1⟩; have ht1 := ht.below hb1))
  have hbd := made_bd k a b
  have HBad : Hid (kindOf (madeV k a b) = 0 ∨ textOf (madeV k a b) ≠ s → ReadIs s 0 110) := readIs_bad s k p a b hg
  generalize madeV k a b = v at *
  clear hg
  obtain ⟨h0, h1⟩ := hbd
  by_cases kz : kindOf v = 0
  · have E : textE v = 110 := by simp [textE, kz]
    have R := HBad.out (Or.inl kz)
    clear HBad kz
    go_wp2_with (first | (go_at_call 16; refine (text_any _ _ ht1 h0 h1).mono ?_; rintro e w2 ⟨rfl, hb2⟩))
    go_ret2
    exact ⟨_, _, R, rfl, hb1.trans (hb2.mono hb1.size)⟩
  · have E : textE v = 0 := by simp [textE, kz]
    by_cases te : textOf v = s
    · have R : Hid (ReadIs s v 0) := Or.inl ⟨rfl, kz, te, h0, h1⟩
      clear HBad kz
      subst te
      go_wp2_with (first | (go_at_call 16; refine (text_any _ _ ht1 h0 h1).mono ?_; rintro e w2 ⟨rfl, hb2⟩))
      go_ret2
      exact ⟨_, _, R.out, rfl, hb1.trans (hb2.mono hb1.size)⟩
    · have R := HBad.out (Or.inr te)
      have te' := toList_ne te
      clear HBad kz
      go_wp2_with (first | (go_at_call 16; refine (text_any _ _ ht1 h0 h1).mono ?_; rintro e w2 ⟨rfl, hb2⟩))
      go_ret2
      exact ⟨_, _, R, rfl, hb1.trans (hb2.mono hb1.size)⟩
end Go.Proofs.YtpamgcmjhfojeaaDoor
