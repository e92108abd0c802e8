/- Plain mathematics of hashes (stage 6): bytes added and taken back. Imports nothing of a program. -/
import Derived.WalkKit
import Derived.Laws.BitsAllLaws
namespace Go.Proofs.Ytjnhalomkmdcgaa
open Go.RowKit

theorem xor_split (q r b : Nat) (hr : r < 256) (hb : b < 256) : (256 * q + r) ^^^ b = 256 * q + (r ^^^ b) := by
  have hx : r ^^^ b < 2 ^ 8 := Nat.xor_lt_two_pow (by omega) (by omega)
  apply Nat.eq_of_testBit_eq
  intro i
  rw [show (256 : Nat) = 2 ^ 8 from rfl, Nat.testBit_xor, Nat.testBit_two_pow_mul_add _ (by omega), Nat.testBit_two_pow_mul_add _ hx]
  by_cases hi : i < 8
  · simp [hi]
  · have : b.testBit i = false := Nat.testBit_lt_two_pow (Nat.lt_of_lt_of_le hb (show (256 : Nat) ≤ 2 ^ i from by have := Nat.pow_le_pow_right (n := 2) (by omega) (show 8 ≤ i by omega); simpa using this))
    simp [hi, this]
theorem xor_back (a b : Nat) : (a ^^^ b) ^^^ b = a := by rw [Nat.xor_assoc, Nat.xor_self, Nat.xor_zero]
/-- A byte is added to a hash. -/
def hAdd (h b : Nat) : Nat := (h ^^^ b) * 1099511628211 % 18446744073709551616
/-- A byte is taken back. -/
def hBack (h b : Nat) : Nat := (h * 14886173955864302971 % 18446744073709551616) ^^^ b
theorem xor_64 {h b : Nat} (hh : h < 18446744073709551616) (hb : b < 256) : h ^^^ b < 18446744073709551616 := Nat.xor_lt_two_pow (n := 64) hh (by omega)
theorem hAdd_lt (h b : Nat) : hAdd h b < 18446744073709551616 := Nat.mod_lt _ (by decide)
theorem hBack_lt {h b : Nat} (hb : b < 256) : hBack h b < 18446744073709551616 := xor_64 (Nat.mod_lt _ (by decide)) hb
theorem inv1 (x : Nat) (hx : x < 18446744073709551616) : x * 1099511628211 % 18446744073709551616 * 14886173955864302971 % 18446744073709551616 = x := by
  rw [Nat.mod_mul_mod, Nat.mul_assoc]
  omega
theorem inv2 (x : Nat) (hx : x < 18446744073709551616) : x * 14886173955864302971 % 18446744073709551616 * 1099511628211 % 18446744073709551616 = x := by
  rw [Nat.mod_mul_mod, Nat.mul_assoc]
  omega
theorem back_add {h b : Nat} (hh : h < 18446744073709551616) (hb : b < 256) : hBack (hAdd h b) b = h := by
  unfold hBack hAdd; rw [inv1 _ (xor_64 hh hb), xor_back]
theorem add_back {h b : Nat} (hh : h < 18446744073709551616) : hAdd (hBack h b) b = h := by
  unfold hBack hAdd; rw [xor_back, inv2 _ hh]
/-- The k-th byte of an id. -/
def byN (id k : Nat) : Nat := id / 256 ^ k % 256
theorem byN_lt (id k : Nat) : byN id k < 256 := Nat.mod_lt _ (by decide)
/-- The first k bytes of an id are added; they are taken back, the last one first. -/
def hAddN (h id : Nat) : Nat → Nat
  | 0 => h
  | k + 1 => hAdd (hAddN h id k) (byN id k)
def hBackN (h id : Nat) : Nat → Nat
  | 0 => h
  | k + 1 => hBackN (hBack h (byN id k)) id k
theorem hAddN_lt {h : Nat} (hh : h < 18446744073709551616) (id : Nat) : ∀ k, hAddN h id k < 18446744073709551616
  | 0 => hh
  | _ + 1 => hAdd_lt _ _
theorem hBackN_lt {h : Nat} (hh : h < 18446744073709551616) (id : Nat) : ∀ k, hBackN h id k < 18446744073709551616
  | 0 => hh
  | k + 1 => hBackN_lt (hBack_lt (byN_lt id k)) id k
theorem backN_addN {h : Nat} (hh : h < 18446744073709551616) (id : Nat) : ∀ k, hBackN (hAddN h id k) id k = h
  | 0 => rfl
  | k + 1 => by
    show hBackN (hBack (hAdd (hAddN h id k) (byN id k)) (byN id k)) id k = h
    rw [back_add (hAddN_lt hh id k) (byN_lt id k)]; exact backN_addN hh id k
theorem addN_backN (id : Nat) : ∀ k h, h < 18446744073709551616 → hAddN (hBackN h id k) id k = h
  | 0, _, _ => rfl
  | k + 1, h, hh => by
    show hAdd (hAddN (hBackN (hBack h (byN id k)) id k) id k) (byN id k) = h
    rw [addN_backN id k _ (hBack_lt (byN_lt id k)), add_back hh]
/-- An id added, and taken back. -/
def hId (h id : Nat) : Nat := hAddN h id 8
def uId (h id : Nat) : Nat := hBackN h id 8
theorem uId_hId {h : Nat} (hh : h < 18446744073709551616) (id : Nat) : uId (hId h id) id = h := backN_addN hh id 8
theorem hId_uId {h : Nat} (hh : h < 18446744073709551616) (id : Nat) : hId (uId h id) id = h := addN_backN id 8 h hh
theorem hId_lt {h : Nat} (hh : h < 18446744073709551616) (id : Nat) : hId h id < 18446744073709551616 := by unfold hId; exact hAddN_lt hh id 8
theorem hId_inj {g h : Nat} (hg : g < 18446744073709551616) (hh : h < 18446744073709551616) (id : Nat) : hId g id = hId h id ↔ g = h :=
  ⟨fun e => by rw [← uId_hId hg id, e, uId_hId hh id], fun e => by rw [e]⟩
/-- The hash of a row. -/
def hOf (l : List Nat) : Nat := l.foldl hId 14695981039346656037
theorem hOf_append (a b : List Nat) : hOf (a ++ b) = b.foldl hId (hOf a) := by unfold hOf; rw [List.foldl_append]
theorem fold_lt : ∀ (l : List Nat) (h : Nat), h < 18446744073709551616 → l.foldl hId h < 18446744073709551616
  | [], _, hh => hh
  | x :: t, _, hh => by rw [List.foldl_cons]; exact fold_lt t _ (hId_lt hh x)
theorem fold_back : ∀ (l : List Nat) (h : Nat), h < 18446744073709551616 → l.foldr (fun x g => uId g x) (l.foldl hId h) = h
  | [], _, _ => rfl
  | x :: t, h, hh => by
    rw [List.foldl_cons, List.foldr_cons, fold_back t _ (hId_lt hh x), uId_hId hh x]
/-- The slot so many turns from the first one. -/
theorem turns_next (at_ many t : Nat) : ((at_ + (t + 1)) % many) = ((at_ + t) % many + 1) % many := by
  rw [← Nat.add_assoc, Nat.add_mod (at_ + t) 1 many, Nat.add_mod ((at_ + t) % many) 1 many, Nat.mod_mod]
theorem turns_inj {a many s t : Nat} (hs : s < t) (ht : t < many) : (a + s) % many ≠ (a + t) % many := by
  intro e
  have h1 := Nat.div_add_mod (a + s) many
  have h2 := Nat.div_add_mod (a + t) many
  have h3 : many * ((a + s) / many) + (t - s) = many * ((a + t) / many) := by omega
  have h4 : (t - s) % many = 0 := by
    have := congrArg (· % many) h3
    simp only [Nat.mul_add_mod, Nat.mul_mod_right] at this
    exact this
  rw [Nat.mod_eq_of_lt (by omega)] at h4
  omega
end Go.Proofs.Ytjnhalomkmdcgaa
