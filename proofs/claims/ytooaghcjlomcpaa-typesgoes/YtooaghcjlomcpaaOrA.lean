/- TypesOrder: its mathematics; rows that the law owns. -/
import Derived.Test.YtooaghcjlomcpaaTyL
import Derived.Test.YtooaghcjlomcpaaTuA
namespace Go.Proofs.Ytooaghcjlomcpaa
open Go.RowKit

theorem ofL_mem (l : List Int) (y : Int) : y ∈ ofL l ↔ y ∈ l := by
  unfold ofL; rw [ofN_mem l l.length y (Nat.le_refl _), List.take_length]
theorem ofL_ss (l : List Int) : SS (ofL l) := ofN_ss l l.length
theorem ofL_rev (l : List Int) : ofL l.reverse = ofL l := ss_ext (ofL_ss _) (ofL_ss _) fun y => by rw [ofL_mem, ofL_mem, List.mem_reverse]
theorem all_rev (l : List Int) : l.reverse.all canB = l.all canB := by simp
theorem ofR_rev (l : List Int) : ofR l.reverse = ofR l := by unfold ofR ofOk; rw [ofL_rev, all_rev]
theorem ofE_rev (l : List Int) : ofE l.reverse = ofE l := by unfold ofE; rw [ofL_rev, all_rev]
theorem of_yes {l : List Int} (h : ofE l = 0) : ofR l = ofL l ∧ mayT (ofL l) = true := by
  unfold ofE at h
  unfold ofR ofOk
  cases hc : l.all canB
  · rw [hc] at h; simp at h
  · rw [hc] at h
    cases hd : decide ((ofL l).length ≤ 12)
    · rw [hd] at h; simp at h
    · refine ⟨rfl, (mayT_iff _).2 ⟨by simpa using hd, fun x hx => ?_, ofL_ss l⟩⟩
      rw [List.all_eq_true] at hc
      exact hc x ((ofL_mem l x).1 hx)
theorem of_no {l : List Int} (h : ofE l ≠ 0) : ofR l = [] := by
  unfold ofE at h
  unfold ofR ofOk
  cases hc : l.all canB
  · rfl
  · rw [hc] at h
    cases hd : decide ((ofL l).length ≤ 12)
    · rfl
    · rw [hd] at h; simp at h
theorem ofR_u {l : List Int} (h : U64 l) : U64 (ofR l) := by
  intro y hy
  unfold ofR at hy
  split at hy
  · exact h y ((ofL_mem l y).1 hy)
  · simp at hy

theorem cmp_01 : ∀ (a b : List Int), cmpL a b = -1 ∨ cmpL a b = 0 ∨ cmpL a b = 1
  | [], [] => .inr (.inl rfl)
  | [], _ :: _ => .inl rfl
  | _ :: _, [] => .inr (.inr rfl)
  | x :: a, y :: b => by
    unfold cmpL
    split
    · exact .inl rfl
    · split
      · exact .inr (.inr rfl)
      · exact cmp_01 a b
theorem cmp_anti : ∀ (a b : List Int), cmpL b a = - cmpL a b
  | [], [] => rfl
  | [], _ :: _ => rfl
  | _ :: _, [] => rfl
  | x :: a, y :: b => by
    unfold cmpL
    by_cases h : x < y
    · rw [if_pos h, if_neg (by omega), if_pos h]; rfl
    · by_cases h' : y < x
      · rw [if_pos h', if_neg h, if_pos h']
      · rw [if_neg h', if_neg h, if_neg h, if_neg h']; exact cmp_anti a b
theorem cmp_eq : ∀ (a b : List Int), cmpL a b = 0 ↔ a = b
  | [], [] => by simp [cmpL]
  | [], _ :: _ => by simp [cmpL]
  | _ :: _, [] => by simp [cmpL]
  | x :: a, y :: b => by
    have := cmp_eq a b
    unfold cmpL
    by_cases h : x < y
    · rw [if_pos h]; simp; omega
    · by_cases h' : y < x
      · rw [if_neg h, if_pos h']; simp; omega
      · rw [if_neg h, if_neg h', this]; simp; omega
theorem cmp_trans : ∀ (a b c : List Int), cmpL a b = -1 → cmpL b c = -1 → cmpL a c = -1
  | [], _, [], h, g => by
    rename_i b
    cases b with
    | nil => simp [cmpL] at h
    | cons y b => simp [cmpL] at g
  | [], _, _ :: _, _, _ => rfl
  | x :: a, [], _, h, _ => by simp [cmpL] at h
  | x :: a, y :: b, [], _, g => by simp [cmpL] at g
  | x :: a, y :: b, z :: c, h, g => by
    unfold cmpL at h g ⊢
    by_cases h1 : x < y
    · by_cases g1 : y < z
      · rw [if_pos (by omega)]
      · rw [if_neg g1] at g
        by_cases g2 : z < y
        · rw [if_pos g2] at g; simp at g
        · rw [if_pos (by omega)]
    · rw [if_neg h1] at h
      by_cases h2 : y < x
      · rw [if_pos h2] at h; simp at h
      · rw [if_neg h2] at h
        by_cases g1 : y < z
        · rw [if_pos (by omega)]
        · rw [if_neg g1] at g
          by_cases g2 : z < y
          · rw [if_pos g2] at g; simp at g
          · rw [if_neg g2] at g
            rw [if_neg (by omega), if_neg (by omega)]
            exact cmp_trans a b c h g
theorem sam_cmp (a b : List Int) : samI a b = decide (cmpL a b = 0) := by
  unfold samI
  by_cases h : a = b
  · rw [decide_eq_true h, decide_eq_true ((cmp_eq a b).2 h)]
  · rw [decide_eq_false h, decide_eq_false (fun e => h ((cmp_eq a b).1 e))]

/-- A row that the law owns, in memory from B on. -/
structure OwnR (B : Nat) (w : World) (p : Option Addr) (l : List Int) (c : Nat) : Prop where
  o : w.ownsRow B 33 1 (.slice p l.length c) l.length (l.map (Value.int .u64))
  n : l.length ≤ 1099511627776
theorem OwnR.row {B : Nat} {w : World} {p : Option Addr} {l : List Int} {c : Nat} (h : OwnR B w p l c) : Row w p l c := by
  obtain ⟨p', c', e, hi, _, hc, ha⟩ := irow_owns h.o
  cases e
  exact ⟨hi, hc, h.n, ha⟩
theorem OwnR.fr {B : Nat} {w : World} {p : Option Addr} {l : List Int} {c : Nat} (h : OwnR B w p l c) : FreshP B p := by
  obtain ⟨p', c', e, _, hf, _⟩ := irow_owns h.o
  cases e
  exact hf
theorem OwnR.lt {B : Nat} {w : World} {p : Option Addr} {l : List Int} {c : Nat} (h : OwnR B w p l c) : ∀ a, p = some a → a.block < w.heap.size := by
  intro a ha
  rcases h.o.2 with ⟨e, _⟩ | ⟨g, cap, cur, e, _, hh, _⟩
  · injection e with e1; rw [ha] at e1; cases e1
  · injection e with e1; rw [ha] at e1; cases e1; exact (Array.getElem?_eq_some_iff.1 hh).1
theorem OwnR.to {B : Nat} {w w' : World} {p : Option Addr} {l : List Int} {c : Nat} (h : OwnR B w p l c) (hb : Below w.heap.size w w') : OwnR B w' p l c :=
  ⟨h.o.kept (row := none) (grown_of_below hb) (by cases (Value.slice p l.length c).ownBlock <;> simp), h.n⟩
theorem few_ownR (p : Option Addr) (l : List Int) (c : Nat) (w : World) (h : InR w p l c) :
    Calls Try.prog 10 #[.slice p l.length c] w fun e w' => ∃ q d, e = .returned (.slice q (l.take 20).length d) ∧ OwnR w.heap.size w' q (l.take 20) d ∧ Below w.heap.size w w' := by
  refine Calls.mono (few_own p l c w h) ?_
  rintro e w' ⟨v, rfl, ho, hb⟩
  obtain ⟨q, d, rfl, _⟩ := irow_owns ho
  exact ⟨q, d, rfl, ⟨ho, by simp; omega⟩, hb⟩
theorem reverse_ownR (B : Nat) (p : Option Addr) (l : List Int) (c : Nat) (w : World) (h : OwnR B w p l c) :
    Calls Try.prog 36 #[.slice p l.length c] w fun e w' => e = .returned (.tuple #[]) ∧ OwnR B w' p l.reverse c ∧ w.grownBy w' (p.map (·.block)) := by
  refine Calls.mono (reverse36 B _ l w h.o h.n) ?_
  rintro e w' ⟨rfl, ho, hg⟩
  refine ⟨rfl, ⟨by rw [List.length_reverse]; exact ho, by rw [List.length_reverse]; exact h.n⟩, ?_⟩
  cases p <;> exact hg
theorem block_ne {N : Nat} {p q : Option Addr} (hp : ∀ a, p = some a → a.block < N) (hq : FreshP N q) : ∀ a, q = some a → some a.block ≠ p.map (·.block) := by
  intro a ha h
  cases p with
  | none => simp at h
  | some b =>
    have h1 := hp b rfl
    have h2 := hq a ha
    simp at h
    omega
end Go.Proofs.Ytooaghcjlomcpaa
