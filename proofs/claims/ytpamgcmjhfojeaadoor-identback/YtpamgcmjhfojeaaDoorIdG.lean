/- Contracts of strconv.Itoa, ident.part and ident.Text, over worlds in which the table of powers of ten is laid. -/
import Derived.Test.YtpamgcmjhfojeaaDoorShelf
import Derived.Test.YtpamgcmjhfojeaaDoorIdF
import Derived.Lib.ItoaLen
namespace Go.Proofs.YtpamgcmjhfojeaaDoor
open Go.RowKit

/-- The library's table of powers of ten is as the program's text lays it. -/
def Tab (w : World) : Prop := Lib.TabIs Tryd.prog w "internal/strconv.uint64pow10" .u64 Lib.pow10Tab

theorem Tab.below {w w' : World} (h : Tab w) (hb : Below w.heap.size w w') : Tab w' := by
  unfold Tab Lib.TabIs at h ⊢
  have hg : ∃ g, Tryd.prog.globalNamed "internal/strconv.uint64pow10" = some g := by
    cases e : Tryd.prog.globalNamed "internal/strconv.uint64pow10" with
    | none => simp [World.var?, e] at h
    | some g => exact ⟨g, rfl⟩
  obtain ⟨g, hg⟩ := hg
  refine var?_below hb hg ?_ h
  rcases Nat.lt_or_ge g w.heap.size with h' | h'
  · exact h'
  · simp [World.var?, hg, Array.getElem?_eq_none h'] at h
theorem Tab.alloc {w : World} (h : Tab w) (o : Obj) : Tab (w.alloc o) := h.below ((Below.refl _ _).alloc (Nat.le_refl _) _)

/-- a number's digits -/
def digS (n : Int) : ByteArray := ⟨(Lib.itoa n).toArray⟩
theorem grow_below (w : World) (k : Nat) (os : Array Obj) : Below w.heap.size w (Sort.grow (w.drewN k) os) :=
  ⟨rfl, rfl, rfl, by simp [Sort.grow, World.drewN], fun i hi => by simp [Sort.grow, World.drewN, Array.getElem?_append, hi]⟩
theorem itoa_any (n : Int) (w : World) (ht : Tab w) (h0 : 0 ≤ n) (h1 : n < 1073741824) :
    Calls Tryd.prog 28 #[.int .i64 n] w fun e w' => e = .returned (.string (digS n)) ∧ Below w.heap.size w w' :=
  (Tryd.strconv_Itoa n (by omega) (by omega) w ht).mono fun e w' ⟨he, k, os, hw⟩ => ⟨he, hw ▸ grow_below w k os⟩

def partS (n : Int) : ByteArray := if n = 0 then ⟨#[42]⟩ else digS n
theorem part_any (n : Int) (w : World) (ht : Tab w) (h0 : 0 ≤ n) (h1 : n < 1073741824) :
    Calls Tryd.prog 29 #[.int .i64 n] w fun e w' => e = .returned (.string (partS n)) ∧ Below w.heap.size w w' := by
  have E : Hid (partS n = if n = 0 then ⟨#[42]⟩ else digS n) := rfl
  by_cases c : n = 0
  · subst c
    go_enter Tryd.func29, Tryd.ntmps29
    go_wp2
    go_ret
    exact ⟨rfl, Below.refl _ _⟩
  · go_enter Tryd.func29, Tryd.ntmps29
    go_wp2_with (first | (go_at_call 28; refine (itoa_any _ _ ht h0 h1).mono ?_; rintro e w1 ⟨rfl, hb1⟩))
    go_ret
    exact ⟨by rw [E.out, if_neg c]; rfl, hb1⟩

theorem digS_size (n : Int) (h0 : 0 ≤ n) (h1 : n < 1073741824) : (digS n).size ≤ 21 := by
  show (Lib.itoa n).toArray.size ≤ 21
  rw [List.size_toArray]; exact Lib.itoa_length_le n (by omega) (by omega)
theorem partS_size (n : Int) (h0 : 0 ≤ n) (h1 : n < 1073741824) : (partS n).size ≤ 21 := by
  unfold partS; split
  · exact (by decide : (1 : Nat) ≤ 21)
  · exact digS_size n h0 h1
theorem p_bd (x : Int) : (0 ≤ p1 x ∧ p1 x < 1073741824) ∧ (0 ≤ p2 x ∧ p2 x < 1073741824) := by
  have a : 0 ≤ fA x ∧ fA x < 1073741824 := by unfold fA; omega
  have b : 0 ≤ fB x ∧ fB x < 1073741824 := by unfold fB; omega
  unfold p1 p2
  constructor
  · split
    · exact b
    · split
      · exact a
      · omega
  · split
    · exact a
    · split
      · exact b
      · omega

/-- the text of an id -/
def textOf (x : Int) : ByteArray :=
  if kindOf x = 1 then ((⟨#[101]⟩ ++ digS (p1 x)) ++ ⟨#[46]⟩) ++ digS (p2 x)
  else if kindOf x = 2 then ⟨#[99]⟩ ++ digS (p1 x)
  else if kindOf x = 3 ∨ kindOf x = 4 then ((⟨#[112]⟩ ++ partS (p1 x)) ++ ⟨#[58]⟩) ++ partS (p2 x)
  else ⟨#[]⟩
def textE (x : Int) : Int := if kindOf x = 0 then 110 else 0

set_option maxHeartbeats 2000000 in
theorem text_any (x : Int) (w : World) (ht : Tab w) (h0 : 0 ≤ x) (h1 : x < 18446744073709551616) :
    Calls Tryd.prog 16 #[.int .u64 x] w fun e w' => e = .returned (.tuple #[.string (textOf x), .int .i64 (textE x)]) ∧ Below w.heap.size w w' := by
  obtain ⟨⟨a0, a1⟩, b0, b1⟩ := p_bd x
  have E : Hid (textOf x = if kindOf x = 1 then ((⟨#[101]⟩ ++ digS (p1 x)) ++ ⟨#[46]⟩) ++ digS (p2 x) else if kindOf x = 2 then ⟨#[99]⟩ ++ digS (p1 x) else if kindOf x = 3 ∨ kindOf x = 4 then ((⟨#[112]⟩ ++ partS (p1 x)) ++ ⟨#[58]⟩) ++ partS (p2 x) else ⟨#[]⟩) := rfl
  have F : Hid (textE x = if kindOf x = 0 then 110 else 0) := rfl
  have A0 : Hid (0 ≤ p1 x) := a0
  have A1 : Hid (p1 x < 1073741824) := a1
  have B0 : Hid (0 ≤ p2 x) := b0
  have B1 : Hid (p2 x < 1073741824) := b1
  have s1 := digS_size (p1 x) a0 a1
  have s2 := digS_size (p2 x) b0 b1
  have s3 := partS_size (p1 x) a0 a1
  have s4 := partS_size (p2 x) b0 b1
  clear a0 a1 b0 b1
  rcases kind_cases x with k | k | k | k | k
  case inl =>
    clear s1 s2 s3 s4
    go_enter Tryd.func16, Tryd.ntmps16
    go_wp2_with (first | (go_at_call 14; refine (parts_any _ _ h0 h1).mono ?_; rintro e w1 ⟨rfl, hb1⟩) | (go_at_call 18; refine (kind_any _ _ h0 h1).mono ?_; rintro e w2 ⟨rfl, hb2⟩))
    go_ret2
    exact ⟨by rw [E.out, F.out, k]; rfl, hb1.trans (hb2.mono hb1.size)⟩
  case inr.inl =>
    clear s3 s4
    go_enter Tryd.func16, Tryd.ntmps16
    go_wp2_with (first | (go_at_call 14; refine (parts_any _ _ h0 h1).mono ?_; rintro e w1 ⟨rfl, hb1⟩; have ht1 := ht.below hb1) | (go_at_call 18; refine (kind_any _ _ h0 h1).mono ?_; rintro e w2 ⟨rfl, hb2⟩; have ht2 := ht1.below hb2) | (go_at_call_has 28 (p1 x); refine (itoa_any _ _ ht2 A0.out A1.out).mono ?_; rintro e w3 ⟨rfl, hb3⟩; have ht3 := ht2.below hb3) | (go_at_call_has 28 (p2 x); refine (itoa_any _ _ ht3 B0.out B1.out).mono ?_; rintro e w4 ⟨rfl, hb4⟩))
    go_ret2
    exact ⟨by rw [E.out, F.out, k]; rfl, ((hb1.trans (hb2.mono hb1.size)).trans (hb3.mono (Nat.le_trans hb1.size hb2.size))).trans (hb4.mono (Nat.le_trans hb1.size (Nat.le_trans hb2.size hb3.size)))⟩
  case inr.inr.inl =>
    clear s2 s3 s4
    go_enter Tryd.func16, Tryd.ntmps16
    go_wp2_with (first | (go_at_call 14; refine (parts_any _ _ h0 h1).mono ?_; rintro e w1 ⟨rfl, hb1⟩; have ht1 := ht.below hb1) | (go_at_call 18; refine (kind_any _ _ h0 h1).mono ?_; rintro e w2 ⟨rfl, hb2⟩; have ht2 := ht1.below hb2) | (go_at_call_has 28 (p1 x); refine (itoa_any _ _ ht2 A0.out A1.out).mono ?_; rintro e w3 ⟨rfl, hb3⟩; have ht3 := ht2.below hb3))
    go_ret2
    exact ⟨by rw [E.out, F.out, k]; rfl, (hb1.trans (hb2.mono hb1.size)).trans (hb3.mono (Nat.le_trans hb1.size hb2.size))⟩
  all_goals
    clear s1 s2
    go_enter Tryd.func16, Tryd.ntmps16
    go_wp2_with (first | (go_at_call 14; refine (parts_any _ _ h0 h1).mono ?_; rintro e w1 ⟨rfl, hb1⟩; have ht1 := ht.below hb1) | (go_at_call 18; refine (kind_any _ _ h0 h1).mono ?_; rintro e w2 ⟨rfl, hb2⟩; have ht2 := ht1.below hb2) | (go_at_call_has 29 (p1 x); refine (part_any _ _ ht2 A0.out A1.out).mono ?_; rintro e w3 ⟨rfl, hb3⟩; have ht3 := ht2.below hb3) | (go_at_call_has 29 (p2 x); refine (part_any _ _ ht3 B0.out B1.out).mono ?_; rintro e w4 ⟨rfl, hb4⟩))
    go_ret2
    exact ⟨by rw [E.out, F.out, k]; rfl, ((hb1.trans (hb2.mono hb1.size)).trans (hb3.mono (Nat.le_trans hb1.size hb2.size))).trans (hb4.mono (Nat.le_trans hb1.size (Nat.le_trans hb2.size hb3.size)))⟩
end Go.Proofs.YtpamgcmjhfojeaaDoor
