/- What 'wakes' asks: it returns true. -/
import Derived.Test.YtpamgcmjhfojeaaDoorIdK
namespace Go.Proofs.YtpamgcmjhfojeaaDoor
open Go.RowKit

/-- unlike ids have unlike texts -/
theorem text_inj {x y : Int} (hx : kindOf x ≠ 0) (hy : kindOf y ≠ 0) (h : textOf x = textOf y) : x = y := by
  obtain ⟨p, hp⟩ := lr_text x hx
  obtain ⟨q, hq⟩ := lr_text y hy
  rw [h, hq] at hp
  simp only [Prod.mk.injEq] at hp
  obtain ⟨a, _, b, c⟩ := hp
  rw [← made_parts x hx, ← made_parts y hy, a, b, c]

/-- 'Read' of the text of an id is that id. -/
theorem read_of {s : ByteArray} {v er : Int} (h : ReadIs s v er) (x : Int) (hx : kindOf x ≠ 0) (hs : textOf x = s) : v = x ∧ er = 0 := by
  rcases h with ⟨e, k, t, _⟩ | ⟨_, _, n⟩
  · exact ⟨text_inj k hx (t.trans hs.symm), e⟩
  · exact absurd hs (n x hx)

theorem wk1 : entV 5 2 = 8589934597 ∧ entE 5 2 = 0 := by decide
theorem wk2 : paiV 2 7 = 9223372045444710407 ∧ paiE 2 7 = 0 := by decide
theorem wk3 : kindOf 9223372045444710400 = 4 := by decide
theorem wk4 : kindOf 9223372045444710407 = 3 := by decide
theorem dec1 (u : Nat) (h : u < 10) : Lib.decDigits u = [UInt8.ofNat (48 + u)] := Lib.decDigits_one h
theorem byteArray_ext {a b : ByteArray} (h : a.data.toList = b.data.toList) : a = b := by
  cases a; cases b; simp at h; rw [h]
theorem wk5 : textOf 9223372045444710400 = ⟨#[112, 50, 58, 42]⟩ := by
  apply byteArray_ext
  rw [text_list, wk3]
  have a : p1 9223372045444710400 = 2 := by decide
  have b : p2 9223372045444710400 = 0 := by decide
  rw [a, b]
  simp [partL, digL, dec1]
theorem wk6 : textOf 9223372045444710407 = ⟨#[112, 50, 58, 55]⟩ := by
  apply byteArray_ext
  rw [text_list, wk4]
  have a : p1 9223372045444710407 = 2 := by decide
  have b : p2 9223372045444710407 = 7 := by decide
  rw [a, b]
  simp [partL, digL, dec1]
theorem wk7 : textE 9223372045444710407 = 0 := by decide
theorem wk8 : takesB 9223372045444710400 9223372045444710407 = true := by decide

theorem bstep {w a b : World} (h : Below w.heap.size w a) (k : Below a.heap.size a b) : Below w.heap.size w b := h.trans (k.mono h.size)

theorem wakes_any (w : World) (ht : Tab w) : Calls Tryd.prog 8 #[] w fun e w' => e = .returned (.bool true) ∧ Below w.heap.size w w' := by
  go_enter Tryd.func8, Tryd.ntmps8
  go_wp2_with (first
    | (go_at_call 9; refine (entity_any _ _ _).mono ?_; rintro e w1 ⟨rfl, hb1⟩; have ht1 := ht.below hb1; rw [wk1.1, wk1.2])
    | (go_at_call 11; refine (pair_any _ _ _).mono ?_; rintro e w2 ⟨rfl, hb2⟩; have ht2 := ht1.below hb2; rw [wk2.1, wk2.2])
    | (go_at_call 22; refine (read_any _ _ ht2 (by decide)).mono ?_; rintro e w3 ⟨v, er, hr, rfl, hb3⟩; have ht3 := ht2.below hb3; obtain ⟨rfl, rfl⟩ := read_of hr 9223372045444710400 (by rw [wk3]; decide) wk5; clear hr)
    | (go_at_call 16; refine (text_any _ _ ht3 (by decide) (by decide)).mono ?_; rintro e w4 ⟨rfl, hb4⟩; rw [wk6, wk7])
    | (go_at_call 20; refine (takes_any _ _ _ (by decide) (by decide) (by decide) (by decide)).mono ?_; rintro e w5 ⟨rfl, hb5⟩; rw [wk8])
    | (go_at_call 18; refine (kind_any _ _ (by decide) (by decide)).mono ?_; rintro e w6 ⟨rfl, hb6⟩; rw [wk3]))
  go_ret
  exact ⟨rfl, hb1.trans ((hb2.trans ((hb3.trans ((hb4.trans ((hb5.trans (hb6.mono hb5.size)).mono hb4.size)).mono hb3.size)).mono hb2.size)).mono hb1.size)⟩
end Go.Proofs.YtpamgcmjhfojeaaDoor
