/- The walk of IdentTells: it returns true, whatever the ids and the texts, where the table of powers of ten is laid. -/
import Derived.Test.YtpamgcmjhfojeaaDoorTellsF
namespace Go.Proofs.YtpamgcmjhfojeaaDoor
open Go.RowKit

/-- what the document's Read tells of a text -/
def refS (s : ByteArray) : Int := refF s.data.toList
theorem refRead_s (s : ByteArray) (w : World) (hs : s.size ≤ maxLen) :
    Calls Tryd.prog 23 #[.string s] w fun e w' => e = .returned (.tuple #[.int .u64 (refS s), .bool (refS s != 0)]) ∧ Below w.heap.size w w' := refRead_any s w (by unfold maxLen at hs; omega)
theorem read_bothS {s : ByteArray} {v er : Int} (h : ReadIs s v er) : v = refS s ∧ ((er = 0 ∧ (refS s != 0) = true) ∨ (er = 110 ∧ (refS s != 0) = false)) := read_both h
theorem cut_size' (s : ByteArray) (hs : s.size ≤ maxLen) : (s.extract 0 (min (s.size : Int) 60).toNat).size ≤ maxLen := by
  rw [ByteArray.size_extract]; omega

/-- What the walk is told of a row of texts. -/
def IsTexts (w : World) (a : Option Addr) (len : Nat) : Prop :=
  ∀ i, i < len → ∃ (b off : Nat) (s : ByteArray), a = some ⟨b, off, none⟩ ∧ b < w.heap.size ∧ s.size ≤ maxLen ∧ w.cell? ⟨b, off + i, none⟩ = some (.string s)
/-- What the walk is told of a row of ids that lies at a place. -/
def IdsAt (w : World) (b off len : Nat) : Prop :=
  ∀ i, i < len → b < w.heap.size ∧ ∃ x : Int, 0 ≤ x ∧ x < 18446744073709551616 ∧ w.cell? ⟨b, off + i, none⟩ = some (.int .u64 x)
theorem kind_two (x : Int) : (kindOf x = 0 ∧ textE x = 110 ∧ textOf x = ⟨#[]⟩) ∨ (kindOf x ≠ 0 ∧ 0 < kindOf x ∧ (kindOf x == 0) = false ∧ textE x = 0) := by
  rcases kind_cases x with h | h | h | h | h
  · exact Or.inl ⟨h, by simp [textE, h], by simp [textOf, h]⟩
  all_goals exact Or.inr ⟨by omega, by omega, by rw [h]; rfl, by simp [textE, h]⟩

set_option maxRecDepth 50000 in
set_option maxHeartbeats 4000000 in
theorem tells_nil (a2 : Option Addr) (len2 cap2 : Nat) (w : World) (ht : Tab w) (h2 : IsTexts w a2 len2) :
    Calls Tryd.prog 4 #[.slice none 0 0, .slice a2 len2 cap2] w fun e w' => e = .returned (.bool true) ∧ Below w.heap.size w w' := by
  have H2 : Hid (IsTexts w a2 len2) := h2
  clear h2
  have hb := Below.refl w.heap.size w
  go_enter Tryd.func4, Tryd.ntmps4
  go_wp2_with (first
    | (go_at_call 8; refine (wakes_any _ ht).mono ?_; rintro e w1 ⟨rfl, hb3⟩; replace hb := bstep hb hb3; clear hb3))
  have n1 : (min (0 : Int) 12).toNat = 0 := by decide
  have n2 : max (min (0 : Int) 12) 0 = 0 := by decide
  rw [n1, n2]
  clear n1 n2
  go_loopw [31] (fun i wr => i = .int .i64 0 ∧ Below w.heap.size w wr) (fun _ _ => 0)
  case atStart => exact ⟨rfl, hb⟩
  case round =>
    clear hb
    obtain ⟨rfl, hb⟩ := hrel
    go_wp2
    go_loopw [112] (fun i wr => ∃ k : Nat, k ≤ len2 ∧ k ≤ 20 ∧ i = .int .i64 k ∧ Below w.heap.size w wr) (fun i _ => len2 - (intOf i).toNat)
    case atStart => exact ⟨0, by omega, by omega, rfl, hb⟩
    case round =>
      clear hb
      obtain ⟨k, hk, hk2, rfl, hb⟩ := hrel
      by_cases hlt : k < len2
      · obtain ⟨b2, off2, s, ha, hbl, hsz, e0⟩ := H2.out k hlt
        have hc0 : wr.cell? ⟨b2, off2 + k, none⟩ = some (.string s) := (hb.cell (p := ⟨b2, off2 + k, none⟩) hbl).trans e0
        have HX : Hid ((s.extract 0 (min (s.size : Int) 60).toNat).size ≤ maxLen) := cut_size' s hsz
        clear H2 e0 hbl hsz
        subst ha
        by_cases h20 : k = 20
        · subst h20
          go_wp2
          go_ret
          exact ⟨rfl, hb⟩
        · have h20' : ((k : Int) == 20) = false := by simp; omega
          go_wp2_with (first
            | (go_at_call 22; refine (read_any _ _ (ht.below hb) HX.out).mono ?_; rintro e w2 ⟨v, er, hr, rfl, hb3⟩; obtain ⟨rfl, hh⟩ := read_bothS hr; clear hr; replace hb := bstep hb hb3; clear hb3; rcases hh with ⟨rfl, hz⟩ | ⟨rfl, hz⟩)
            | (go_at_call 23; refine (refRead_s _ _ HX.out).mono ?_; rintro e w3 ⟨rfl, hb4⟩; replace hb := bstep hb hb4; clear hb4))
          all_goals
            go_roundw
            case rel => exact ⟨k + 1, by omega, by omega, by go_num, hb⟩
            case measure => simp [intOf]; omega
      · go_wp2
        go_ret
        exact ⟨rfl, hb⟩
set_option maxRecDepth 50000 in
set_option maxHeartbeats 4000000 in
theorem tells_zero (x : Addr) (cap : Nat) (a2 : Option Addr) (len2 cap2 : Nat) (w : World) (ht : Tab w) (h2 : IsTexts w a2 len2) :
    Calls Tryd.prog 4 #[.slice (some x) 0 cap, .slice a2 len2 cap2] w fun e w' => e = .returned (.bool true) ∧ Below w.heap.size w w' := by
  have H2 : Hid (IsTexts w a2 len2) := h2
  clear h2
  have hb := Below.refl w.heap.size w
  go_enter Tryd.func4, Tryd.ntmps4
  go_wp2_with (first
    | (go_at_call 8; refine (wakes_any _ ht).mono ?_; rintro e w1 ⟨rfl, hb3⟩; replace hb := bstep hb hb3; clear hb3))
  have n1 : (min (0 : Int) 12).toNat = 0 := by decide
  have n2 : max (min (0 : Int) 12) 0 = 0 := by decide
  rw [n1, n2]
  clear n1 n2
  go_loopw [31] (fun i wr => i = .int .i64 0 ∧ Below w.heap.size w wr) (fun _ _ => 0)
  case atStart => exact ⟨rfl, hb⟩
  case round =>
    clear hb
    obtain ⟨rfl, hb⟩ := hrel
    go_wp2
    go_loopw [112] (fun i wr => ∃ k : Nat, k ≤ len2 ∧ k ≤ 20 ∧ i = .int .i64 k ∧ Below w.heap.size w wr) (fun i _ => len2 - (intOf i).toNat)
    case atStart => exact ⟨0, by omega, by omega, rfl, hb⟩
    case round =>
      clear hb
      obtain ⟨k, hk, hk2, rfl, hb⟩ := hrel
      by_cases hlt : k < len2
      · obtain ⟨b2, off2, s, ha, hbl, hsz, e0⟩ := H2.out k hlt
        have hc0 : wr.cell? ⟨b2, off2 + k, none⟩ = some (.string s) := (hb.cell (p := ⟨b2, off2 + k, none⟩) hbl).trans e0
        have HX : Hid ((s.extract 0 (min (s.size : Int) 60).toNat).size ≤ maxLen) := cut_size' s hsz
        clear H2 e0 hbl hsz
        subst ha
        by_cases h20 : k = 20
        · subst h20
          go_wp2
          go_ret
          exact ⟨rfl, hb⟩
        · have h20' : ((k : Int) == 20) = false := by simp; omega
          go_wp2_with (first
            | (go_at_call 22; refine (read_any _ _ (ht.below hb) HX.out).mono ?_; rintro e w2 ⟨v, er, hr, rfl, hb3⟩; obtain ⟨rfl, hh⟩ := read_bothS hr; clear hr; replace hb := bstep hb hb3; clear hb3; rcases hh with ⟨rfl, hz⟩ | ⟨rfl, hz⟩)
            | (go_at_call 23; refine (refRead_s _ _ HX.out).mono ?_; rintro e w3 ⟨rfl, hb4⟩; replace hb := bstep hb hb4; clear hb4))
          all_goals
            go_roundw
            case rel => exact ⟨k + 1, by omega, by omega, by go_num, hb⟩
            case measure => simp [intOf]; omega
      · go_wp2
        go_ret
        exact ⟨rfl, hb⟩
set_option maxRecDepth 50000 in
set_option maxHeartbeats 16000000 in
theorem tells_row (b off len cap : Nat) (a2 : Option Addr) (len2 cap2 : Nat) (w : World) (ht : Tab w) (hl : len ≤ cap) (hm : cap ≤ 9223372036854775807) (h1 : IdsAt w b off len) (h2 : IsTexts w a2 len2) :
    Calls Tryd.prog 4 #[.slice (some ⟨b, off, none⟩) len cap, .slice a2 len2 cap2] w fun e w' => e = .returned (.bool true) ∧ Below w.heap.size w w' := by
  have H1 : Hid (IdsAt w b off len) := h1
  have H2 : Hid (IsTexts w a2 len2) := h2
  clear h1 h2
  have hb := Below.refl w.heap.size w
  go_enter Tryd.func4, Tryd.ntmps4
  go_wp2_with (first
    | (go_at_call 8; refine (wakes_any _ ht).mono ?_; rintro e w1 ⟨rfl, hb3⟩; replace hb := bstep hb hb3; clear hb3))
  obtain ⟨n, n1, n2, n3, n4⟩ : ∃ n : Nat, (min (len : Int) 12).toNat = n ∧ max (min (len : Int) 12) 0 = (n : Int) ∧ n ≤ len ∧ n ≤ 12 := ⟨_, rfl, by omega, by omega, by omega⟩
  rw [n1, n2]
  clear n1 n2 hl hm
  have H1n : Hid (∀ i, i < n → b < w.heap.size ∧ ∃ x : Int, 0 ≤ x ∧ x < 18446744073709551616 ∧ w.cell? ⟨b, off + i, none⟩ = some (.int .u64 x)) := fun i hi => H1.out i (by omega)
  clear H1 n3
  go_loopw [31] (fun i wr => ∃ k : Nat, k ≤ n ∧ i = .int .i64 k ∧ Below w.heap.size w wr) (fun i _ => n - (intOf i).toNat)
  case atStart => exact ⟨0, by omega, rfl, hb⟩
  case round =>
    clear hb
    obtain ⟨k, hk, rfl, hb⟩ := hrel
    by_cases hlt : k < n
    · obtain ⟨hbl, x, x0, x1, e0⟩ := H1n.out k hlt
      have hc0 : wr.cell? ⟨b, off + k, none⟩ = some (.int .u64 x) := (hb.cell (p := ⟨b, off + k, none⟩) hbl).trans e0
      have X0 : Hid (0 ≤ x) := x0
      have X1 : Hid (x < 18446744073709551616) := x1
      clear e0 x0 x1
      rcases kind_two x with ⟨kz, tE, tO⟩ | ⟨kn, kp, kz, tE⟩
      case inl =>
        go_wp2_with (first
          | (go_at_call 14; refine (parts_any x _ X0.out X1.out).mono ?_; rintro e w2 ⟨rfl, hb3⟩; replace hb := bstep hb hb3; clear hb3)
          | (go_at_call 15; refine (refParts_any x _ X0.out X1.out).mono ?_; rintro e w2 ⟨rfl, rfl⟩)
          | (go_at_call 16; refine (text_any x _ (ht.below hb) X0.out X1.out).mono ?_; rintro e w2 ⟨rfl, hb3⟩; replace hb := bstep hb hb3; clear hb3)
          | (go_at_call 17; refine (refKind_any x _ X0.out X1.out).mono ?_; rintro e w2 ⟨rfl, rfl⟩)
          | (go_at_call 18; refine (kind_any x _ X0.out X1.out).mono ?_; rintro e w2 ⟨rfl, hb3⟩; replace hb := bstep hb hb3; clear hb3))
        go_loopw [97] (fun j wr2 => ∃ m : Nat, m ≤ n ∧ j = .int .i64 m ∧ Below w.heap.size w wr2) (fun j _ => n - (intOf j).toNat)
        case atStart => exact ⟨0, by omega, rfl, hb⟩
        case round =>
          clear hb hc0
          obtain ⟨m, hm, rfl, hb⟩ := hrel
          by_cases hlt2 : m < n
          · obtain ⟨_, y, y0, y1, e0⟩ := H1n.out m hlt2
            have hc1 : wr.cell? ⟨b, off + m, none⟩ = some (.int .u64 y) := (hb.cell (p := ⟨b, off + m, none⟩) hbl).trans e0
            have Y0 : Hid (0 ≤ y) := y0
            have Y1 : Hid (y < 18446744073709551616) := y1
            clear e0 y0 y1
            go_wp2_with (first
              | (go_at_call 20; refine (takes_any y x _ Y0.out Y1.out X0.out X1.out).mono ?_; rintro e w2 ⟨rfl, hb3⟩; replace hb := bstep hb hb3; clear hb3)
              | (go_at_call 21; refine (refTakes_any y x _ Y0.out Y1.out X0.out X1.out).mono ?_; rintro e w2 ⟨rfl, rfl⟩))
            go_roundw
            case rel => exact ⟨m + 1, by omega, by go_num, hb⟩
            case measure => simp [intOf]; omega
          · go_wp2
            go_roundw
            case rel => exact ⟨k + 1, by omega, by go_num, hb⟩
            case measure => simp [intOf]; omega
      case inr =>
        go_wp2_with (first
          | (go_at_call 14; refine (parts_any x _ X0.out X1.out).mono ?_; rintro e w2 ⟨rfl, hb3⟩; replace hb := bstep hb hb3; clear hb3)
          | (go_at_call 15; refine (refParts_any x _ X0.out X1.out).mono ?_; rintro e w2 ⟨rfl, rfl⟩)
          | (go_at_call 16; refine (text_any x _ (ht.below hb) X0.out X1.out).mono ?_; rintro e w2 ⟨rfl, hb3⟩; replace hb := bstep hb hb3; clear hb3)
          | (go_at_call 17; refine (refKind_any x _ X0.out X1.out).mono ?_; rintro e w2 ⟨rfl, rfl⟩)
          | (go_at_call 18; refine (kind_any x _ X0.out X1.out).mono ?_; rintro e w2 ⟨rfl, hb3⟩; replace hb := bstep hb hb3; clear hb3)
          | (go_at_call 19; refine (refText_any x _ X0.out X1.out kn).mono ?_; rintro e w2 ⟨rfl, hb3⟩; replace hb := bstep hb hb3; clear hb3))
        go_loopw [97] (fun j wr2 => ∃ m : Nat, m ≤ n ∧ j = .int .i64 m ∧ Below w.heap.size w wr2) (fun j _ => n - (intOf j).toNat)
        case atStart => exact ⟨0, by omega, rfl, hb⟩
        case round =>
          clear hb hc0
          obtain ⟨m, hm, rfl, hb⟩ := hrel
          by_cases hlt2 : m < n
          · obtain ⟨_, y, y0, y1, e0⟩ := H1n.out m hlt2
            have hc1 : wr.cell? ⟨b, off + m, none⟩ = some (.int .u64 y) := (hb.cell (p := ⟨b, off + m, none⟩) hbl).trans e0
            have Y0 : Hid (0 ≤ y) := y0
            have Y1 : Hid (y < 18446744073709551616) := y1
            clear e0 y0 y1
            go_wp2_with (first
              | (go_at_call 20; refine (takes_any y x _ Y0.out Y1.out X0.out X1.out).mono ?_; rintro e w2 ⟨rfl, hb3⟩; replace hb := bstep hb hb3; clear hb3)
              | (go_at_call 21; refine (refTakes_any y x _ Y0.out Y1.out X0.out X1.out).mono ?_; rintro e w2 ⟨rfl, rfl⟩))
            go_roundw
            case rel => exact ⟨m + 1, by omega, by go_num, hb⟩
            case measure => simp [intOf]; omega
          · go_wp2
            go_roundw
            case rel => exact ⟨k + 1, by omega, by go_num, hb⟩
            case measure => simp [intOf]; omega
    · go_wp2
      go_loopw [112] (fun i wr => ∃ k : Nat, k ≤ len2 ∧ k ≤ 20 ∧ i = .int .i64 k ∧ Below w.heap.size w wr) (fun i _ => len2 - (intOf i).toNat)
      case atStart => exact ⟨0, by omega, by omega, rfl, hb⟩
      case round =>
        clear hb
        obtain ⟨k, hk, hk2, rfl, hb⟩ := hrel
        by_cases hlt : k < len2
        · obtain ⟨b2, off2, s, ha, hbl, hsz, e0⟩ := H2.out k hlt
          have hc0 : wr.cell? ⟨b2, off2 + k, none⟩ = some (.string s) := (hb.cell (p := ⟨b2, off2 + k, none⟩) hbl).trans e0
          have HX : Hid ((s.extract 0 (min (s.size : Int) 60).toNat).size ≤ maxLen) := cut_size' s hsz
          clear H2 e0 hbl hsz
          subst ha
          by_cases h20 : k = 20
          · subst h20
            go_wp2
            go_ret
            exact ⟨rfl, hb⟩
          · have h20' : ((k : Int) == 20) = false := by simp; omega
            go_wp2_with (first
              | (go_at_call 22; refine (read_any _ _ (ht.below hb) HX.out).mono ?_; rintro e w2 ⟨v, er, hr, rfl, hb3⟩; obtain ⟨rfl, hh⟩ := read_bothS hr; clear hr; replace hb := bstep hb hb3; clear hb3; rcases hh with ⟨rfl, hz⟩ | ⟨rfl, hz⟩)
              | (go_at_call 23; refine (refRead_s _ _ HX.out).mono ?_; rintro e w3 ⟨rfl, hb4⟩; replace hb := bstep hb hb4; clear hb4))
            all_goals
              go_roundw
              case rel => exact ⟨k + 1, by omega, by omega, by go_num, hb⟩
              case measure => simp [intOf]; omega
        · go_wp2
          go_ret
          exact ⟨rfl, hb⟩
end Go.Proofs.YtpamgcmjhfojeaaDoor
