/- The walk of IdentBack: it returns true, whatever the id and the text, where the table of powers of ten is laid. -/
import Derived.Test.YtpamgcmjhfojeaaDoorIdL
namespace Go.Proofs.YtpamgcmjhfojeaaDoor
open Go.RowKit

theorem text_size (x : Int) : (textOf x).size ≤ maxLen := by
  obtain ⟨⟨a0, a1⟩, b0, b1⟩ := p_bd x
  have s1 := digS_size (p1 x) a0 a1
  have s2 := digS_size (p2 x) b0 b1
  have s3 := partS_size (p1 x) a0 a1
  have s4 := partS_size (p2 x) b0 b1
  have one : ∀ c : UInt8, (⟨#[c]⟩ : ByteArray).size = 1 := fun _ => rfl
  unfold maxLen textOf
  split
  · simp only [ByteArray.size_append, one]; omega
  · split
    · simp only [ByteArray.size_append, one]; omega
    · split
      · simp only [ByteArray.size_append, one]; omega
      · exact Nat.zero_le _
theorem textE_ok {x : Int} (k : kindOf x ≠ 0) : textE x = 0 := by unfold textE; rw [if_neg k]

/-- A text that was read: the id whose text it is. -/
structure RdOk (s : ByteArray) (v : Int) : Prop where
  b0 : 0 ≤ v
  b1 : v < 18446744073709551616
  tv : textOf v = s
  te : textE v = 0
  kv : (kindOf v != 0) = true
theorem rd_cases {s : ByteArray} {v er : Int} (h : ReadIs s v er) : (er = 0 ∧ RdOk s v) ∨ (er = 110 ∧ v = 0) := by
  rcases h with ⟨e, k, t, a, b⟩ | ⟨e, f, _⟩
  · exact Or.inl ⟨e, a, b, t, textE_ok k, bne_iff_ne.2 k⟩
  · exact Or.inr ⟨e, f⟩
theorem cut_size (s : ByteArray) (hs : s.size ≤ maxLen) : (s.extract 0 (min (s.size : Int) 60).toNat).size ≤ maxLen := by
  rw [ByteArray.size_extract]; omega

set_option maxHeartbeats 2000000 in
theorem back0 (x : Int) (s : ByteArray) (h0 : 0 ≤ x) (h1 : x < 18446744073709551616) (hs : s.size ≤ maxLen) (w : World) (ht : Tab w) (k : kindOf x = 0) (e1 : p1 x = 0) (e2 : p2 x = 0) :
    Calls Tryd.prog 5 #[.int .u64 x, .string s] w fun e w' => e = .returned (.bool true) ∧ Below w.heap.size w w' := by
  have H0 : Hid (0 ≤ x) := h0
  have H1 : Hid (x < 18446744073709551616) := h1
  have HX : Hid ((s.extract 0 (min (s.size : Int) 60).toNat).size ≤ maxLen) := cut_size s hs
  have hB := Below.refl w.heap.size w
  clear h0 h1 hs
  go_enter Tryd.func5, Tryd.ntmps5
  go_wp2_with (first
    | (go_at_call 8; refine (wakes_any _ ht).mono ?_; rintro e w1 ⟨rfl, hb⟩; replace hB := bstep hB hb; clear hb)
    | (go_at_call_has 18 x; refine (kind_any x _ H0.out H1.out).mono ?_; rintro e w1 ⟨rfl, hb⟩; replace hB := bstep hB hb; clear hb)
    | (go_at_call_has 14 x; refine (parts_any x _ H0.out H1.out).mono ?_; rintro e w1 ⟨rfl, hb⟩; replace hB := bstep hB hb; clear hb)
    | (go_at_call 22; refine (read_any _ _ (ht.below hB) HX.out).mono ?_; rintro e w1 ⟨v, er, hr, rfl, hb⟩; replace hB := bstep hB hb; clear hb; rcases rd_cases hr with ⟨rfl, ro⟩ | ⟨rfl, rfl⟩; clear hr)
    | (go_at_call_has 16 v; have te := ro.te; have tv := ro.tv; have kv := ro.kv; refine (text_any v _ (ht.below hB) ro.b0 ro.b1).mono ?_; rintro e w1 ⟨rfl, hb⟩; replace hB := bstep hB hb; clear hb)
    | (go_at_call_has 18 v; refine (kind_any v _ ro.b0 ro.b1).mono ?_; rintro e w1 ⟨rfl, hb⟩; replace hB := bstep hB hb; clear hb))
  all_goals
    go_ret
    exact ⟨rfl, hB⟩
set_option maxHeartbeats 2000000 in
theorem back1 (x : Int) (s : ByteArray) (h0 : 0 ≤ x) (h1 : x < 18446744073709551616) (hs : s.size ≤ maxLen) (w : World) (ht : Tab w) (k : kindOf x = 1) (e1 : entV (p1 x) (p2 x) = x) (e2 : entE (p1 x) (p2 x) = 0) (e3 : textE x = 0) :
    Calls Tryd.prog 5 #[.int .u64 x, .string s] w fun e w' => e = .returned (.bool true) ∧ Below w.heap.size w w' := by
  have H0 : Hid (0 ≤ x) := h0
  have H1 : Hid (x < 18446744073709551616) := h1
  have HX : Hid ((s.extract 0 (min (s.size : Int) 60).toNat).size ≤ maxLen) := cut_size s hs
  have KX : Hid (kindOf x ≠ 0) := by unfold Hid; rw [k]; decide
  have hB := Below.refl w.heap.size w
  clear h0 h1 hs
  go_enter Tryd.func5, Tryd.ntmps5
  go_wp2_with (first
    | (go_at_call 8; refine (wakes_any _ ht).mono ?_; rintro e w1 ⟨rfl, hb⟩; replace hB := bstep hB hb; clear hb)
    | (go_at_call_has 18 x; refine (kind_any x _ H0.out H1.out).mono ?_; rintro e w1 ⟨rfl, hb⟩; replace hB := bstep hB hb; clear hb)
    | (go_at_call_has 14 x; refine (parts_any x _ H0.out H1.out).mono ?_; rintro e w1 ⟨rfl, hb⟩; replace hB := bstep hB hb; clear hb)
    | (go_at_call 9; refine (entity_any _ _ _).mono ?_; rintro e w1 ⟨rfl, hb⟩; replace hB := bstep hB hb; clear hb)
    | (go_at_call_has 16 x; refine (text_any x _ (ht.below hB) H0.out H1.out).mono ?_; rintro e w1 ⟨rfl, hb⟩; replace hB := bstep hB hb; clear hb)
    | (go_at_call_has 22 (textOf x); refine (read_any (textOf x) _ (ht.below hB) (text_size x)).mono ?_; rintro e w1 ⟨v, er, hr, rfl, hb⟩; replace hB := bstep hB hb; clear hb; obtain ⟨rfl, rfl⟩ := read_of hr x KX.out rfl; clear hr)
    | (go_at_call 22; refine (read_any _ _ (ht.below hB) HX.out).mono ?_; rintro e w1 ⟨v, er, hr, rfl, hb⟩; replace hB := bstep hB hb; clear hb; rcases rd_cases hr with ⟨rfl, ro⟩ | ⟨rfl, rfl⟩; clear hr)
    | (go_at_call_has 16 v; have te := ro.te; have tv := ro.tv; have kv := ro.kv; refine (text_any v _ (ht.below hB) ro.b0 ro.b1).mono ?_; rintro e w1 ⟨rfl, hb⟩; replace hB := bstep hB hb; clear hb)
    | (go_at_call_has 18 v; refine (kind_any v _ ro.b0 ro.b1).mono ?_; rintro e w1 ⟨rfl, hb⟩; replace hB := bstep hB hb; clear hb))
  all_goals
    go_ret
    exact ⟨rfl, hB⟩
set_option maxHeartbeats 2000000 in
theorem back2 (x : Int) (s : ByteArray) (h0 : 0 ≤ x) (h1 : x < 18446744073709551616) (hs : s.size ≤ maxLen) (w : World) (ht : Tab w) (k : kindOf x = 2) (e1 : comV (p1 x) = x) (e2 : comE (p1 x) = 0) (e3 : textE x = 0) :
    Calls Tryd.prog 5 #[.int .u64 x, .string s] w fun e w' => e = .returned (.bool true) ∧ Below w.heap.size w w' := by
  have H0 : Hid (0 ≤ x) := h0
  have H1 : Hid (x < 18446744073709551616) := h1
  have HX : Hid ((s.extract 0 (min (s.size : Int) 60).toNat).size ≤ maxLen) := cut_size s hs
  have KX : Hid (kindOf x ≠ 0) := by unfold Hid; rw [k]; decide
  have hB := Below.refl w.heap.size w
  clear h0 h1 hs
  go_enter Tryd.func5, Tryd.ntmps5
  go_wp2_with (first
    | (go_at_call 8; refine (wakes_any _ ht).mono ?_; rintro e w1 ⟨rfl, hb⟩; replace hB := bstep hB hb; clear hb)
    | (go_at_call_has 18 x; refine (kind_any x _ H0.out H1.out).mono ?_; rintro e w1 ⟨rfl, hb⟩; replace hB := bstep hB hb; clear hb)
    | (go_at_call_has 14 x; refine (parts_any x _ H0.out H1.out).mono ?_; rintro e w1 ⟨rfl, hb⟩; replace hB := bstep hB hb; clear hb)
    | (go_at_call 10; refine (component_any _ _).mono ?_; rintro e w1 ⟨rfl, hb⟩; replace hB := bstep hB hb; clear hb)
    | (go_at_call_has 16 x; refine (text_any x _ (ht.below hB) H0.out H1.out).mono ?_; rintro e w1 ⟨rfl, hb⟩; replace hB := bstep hB hb; clear hb)
    | (go_at_call_has 22 (textOf x); refine (read_any (textOf x) _ (ht.below hB) (text_size x)).mono ?_; rintro e w1 ⟨v, er, hr, rfl, hb⟩; replace hB := bstep hB hb; clear hb; obtain ⟨rfl, rfl⟩ := read_of hr x KX.out rfl; clear hr)
    | (go_at_call 22; refine (read_any _ _ (ht.below hB) HX.out).mono ?_; rintro e w1 ⟨v, er, hr, rfl, hb⟩; replace hB := bstep hB hb; clear hb; rcases rd_cases hr with ⟨rfl, ro⟩ | ⟨rfl, rfl⟩; clear hr)
    | (go_at_call_has 16 v; have te := ro.te; have tv := ro.tv; have kv := ro.kv; refine (text_any v _ (ht.below hB) ro.b0 ro.b1).mono ?_; rintro e w1 ⟨rfl, hb⟩; replace hB := bstep hB hb; clear hb)
    | (go_at_call_has 18 v; refine (kind_any v _ ro.b0 ro.b1).mono ?_; rintro e w1 ⟨rfl, hb⟩; replace hB := bstep hB hb; clear hb))
  all_goals
    go_ret
    exact ⟨rfl, hB⟩
set_option maxHeartbeats 2000000 in
theorem back3 (x : Int) (s : ByteArray) (h0 : 0 ≤ x) (h1 : x < 18446744073709551616) (hs : s.size ≤ maxLen) (w : World) (ht : Tab w) (k : kindOf x = 3) (e1 : paiV (p1 x) (p2 x) = x) (e2 : paiE (p1 x) (p2 x) = 0) (e3 : textE x = 0) :
    Calls Tryd.prog 5 #[.int .u64 x, .string s] w fun e w' => e = .returned (.bool true) ∧ Below w.heap.size w w' := by
  have H0 : Hid (0 ≤ x) := h0
  have H1 : Hid (x < 18446744073709551616) := h1
  have HX : Hid ((s.extract 0 (min (s.size : Int) 60).toNat).size ≤ maxLen) := cut_size s hs
  have KX : Hid (kindOf x ≠ 0) := by unfold Hid; rw [k]; decide
  have hB := Below.refl w.heap.size w
  clear h0 h1 hs
  go_enter Tryd.func5, Tryd.ntmps5
  go_wp2_with (first
    | (go_at_call 8; refine (wakes_any _ ht).mono ?_; rintro e w1 ⟨rfl, hb⟩; replace hB := bstep hB hb; clear hb)
    | (go_at_call_has 18 x; refine (kind_any x _ H0.out H1.out).mono ?_; rintro e w1 ⟨rfl, hb⟩; replace hB := bstep hB hb; clear hb)
    | (go_at_call_has 14 x; refine (parts_any x _ H0.out H1.out).mono ?_; rintro e w1 ⟨rfl, hb⟩; replace hB := bstep hB hb; clear hb)
    | (go_at_call 11; refine (pair_any _ _ _).mono ?_; rintro e w1 ⟨rfl, hb⟩; replace hB := bstep hB hb; clear hb)
    | (go_at_call_has 16 x; refine (text_any x _ (ht.below hB) H0.out H1.out).mono ?_; rintro e w1 ⟨rfl, hb⟩; replace hB := bstep hB hb; clear hb)
    | (go_at_call_has 22 (textOf x); refine (read_any (textOf x) _ (ht.below hB) (text_size x)).mono ?_; rintro e w1 ⟨v, er, hr, rfl, hb⟩; replace hB := bstep hB hb; clear hb; obtain ⟨rfl, rfl⟩ := read_of hr x KX.out rfl; clear hr)
    | (go_at_call 22; refine (read_any _ _ (ht.below hB) HX.out).mono ?_; rintro e w1 ⟨v, er, hr, rfl, hb⟩; replace hB := bstep hB hb; clear hb; rcases rd_cases hr with ⟨rfl, ro⟩ | ⟨rfl, rfl⟩; clear hr)
    | (go_at_call_has 16 v; have te := ro.te; have tv := ro.tv; have kv := ro.kv; refine (text_any v _ (ht.below hB) ro.b0 ro.b1).mono ?_; rintro e w1 ⟨rfl, hb⟩; replace hB := bstep hB hb; clear hb)
    | (go_at_call_has 18 v; refine (kind_any v _ ro.b0 ro.b1).mono ?_; rintro e w1 ⟨rfl, hb⟩; replace hB := bstep hB hb; clear hb))
  all_goals
    go_ret
    exact ⟨rfl, hB⟩
set_option maxHeartbeats 2000000 in
theorem back4 (x : Int) (s : ByteArray) (h0 : 0 ≤ x) (h1 : x < 18446744073709551616) (hs : s.size ≤ maxLen) (w : World) (ht : Tab w) (k : kindOf x = 4) (e1 : paiV (p1 x) (p2 x) = x) (e2 : paiE (p1 x) (p2 x) = 0) (e3 : textE x = 0) :
    Calls Tryd.prog 5 #[.int .u64 x, .string s] w fun e w' => e = .returned (.bool true) ∧ Below w.heap.size w w' := by
  have H0 : Hid (0 ≤ x) := h0
  have H1 : Hid (x < 18446744073709551616) := h1
  have HX : Hid ((s.extract 0 (min (s.size : Int) 60).toNat).size ≤ maxLen) := cut_size s hs
  have KX : Hid (kindOf x ≠ 0) := by unfold Hid; rw [k]; decide
  have hB := Below.refl w.heap.size w
  clear h0 h1 hs
  go_enter Tryd.func5, Tryd.ntmps5
  go_wp2_with (first
    | (go_at_call 8; refine (wakes_any _ ht).mono ?_; rintro e w1 ⟨rfl, hb⟩; replace hB := bstep hB hb; clear hb)
    | (go_at_call_has 18 x; refine (kind_any x _ H0.out H1.out).mono ?_; rintro e w1 ⟨rfl, hb⟩; replace hB := bstep hB hb; clear hb)
    | (go_at_call_has 14 x; refine (parts_any x _ H0.out H1.out).mono ?_; rintro e w1 ⟨rfl, hb⟩; replace hB := bstep hB hb; clear hb)
    | (go_at_call 11; refine (pair_any _ _ _).mono ?_; rintro e w1 ⟨rfl, hb⟩; replace hB := bstep hB hb; clear hb)
    | (go_at_call_has 16 x; refine (text_any x _ (ht.below hB) H0.out H1.out).mono ?_; rintro e w1 ⟨rfl, hb⟩; replace hB := bstep hB hb; clear hb)
    | (go_at_call_has 22 (textOf x); refine (read_any (textOf x) _ (ht.below hB) (text_size x)).mono ?_; rintro e w1 ⟨v, er, hr, rfl, hb⟩; replace hB := bstep hB hb; clear hb; obtain ⟨rfl, rfl⟩ := read_of hr x KX.out rfl; clear hr)
    | (go_at_call 22; refine (read_any _ _ (ht.below hB) HX.out).mono ?_; rintro e w1 ⟨v, er, hr, rfl, hb⟩; replace hB := bstep hB hb; clear hb; rcases rd_cases hr with ⟨rfl, ro⟩ | ⟨rfl, rfl⟩; clear hr)
    | (go_at_call_has 16 v; have te := ro.te; have tv := ro.tv; have kv := ro.kv; refine (text_any v _ (ht.below hB) ro.b0 ro.b1).mono ?_; rintro e w1 ⟨rfl, hb⟩; replace hB := bstep hB hb; clear hb)
    | (go_at_call_has 18 v; refine (kind_any v _ ro.b0 ro.b1).mono ?_; rintro e w1 ⟨rfl, hb⟩; replace hB := bstep hB hb; clear hb))
  all_goals
    go_ret
    exact ⟨rfl, hB⟩

theorem backWalk (x : Int) (s : ByteArray) (h0 : 0 ≤ x) (h1 : x < 18446744073709551616) (hs : s.size ≤ maxLen) (w : World) (ht : Tab w) :
    Calls Tryd.prog 5 #[.int .u64 x, .string s] w fun e w' => e = .returned (.bool true) ∧ Below w.heap.size w w' := by
  have mp := made_parts x
  rcases kind_cases x with k | k | k | k | k
  · exact back0 x s h0 h1 hs w ht k (by simp [p1, k]) (by simp [p2, k])
  · have m := mp (by omega)
    obtain ⟨a, b, c, d, _⟩ := ent_is k
    rw [k] at m
    exact back1 x s h0 h1 hs w ht k m (by unfold entE entB; rw [a, b, c, d]; rfl) (textE_ok (by omega))
  · have m := mp (by omega)
    obtain ⟨a, b, c, _⟩ := com_is k
    rw [k] at m
    exact back2 x s h0 h1 hs w ht k m (by unfold comE; rw [a, c]; rfl) (textE_ok (by omega))
  · have m := mp (by omega)
    obtain ⟨a, b, c, d, _⟩ := pai_is k
    have c' := inR_le c
    have d' := inR_le d
    rw [k] at m
    exact back3 x s h0 h1 hs w ht k m (by have f : paiB (p1 x) (p2 x) = true := (by simp [paiB, inR]; omega); unfold paiE; rw [f]; rfl) (textE_ok (by omega))
  · have m := mp (by omega)
    obtain ⟨a, b, c, d, _⟩ := pat_is k
    rw [k] at m
    exact back4 x s h0 h1 hs w ht k m (by have f : paiB (p1 x) (p2 x) = true := (by unfold paiB; rw [a, b, c, d]; rfl); unfold paiE; rw [f]; rfl) (textE_ok (by omega))
end Go.Proofs.YtpamgcmjhfojeaaDoor
