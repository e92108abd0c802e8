/- The sort of ids: math/bits.Len at 13, pdqsortOrdered, slices.Sort, at 13 and fewer. -/
import Derived.Test.YtooaghcjlomcpaaSoC
namespace Go.Proofs.Ytooaghcjlomcpaa
open Go.RowKit Go.Sort

theorem Sorts.len {B : Nat} {p : Option Addr} {L : List Int} {c a b : Nat} {w w' : World} (h : Sorts B p L c a b w w') : ∃ L', L'.length = L.length ∧ Seg L L' a b ∧ Up L' a b ∧ OwnR B w' p L' c ∧ w.grownBy w' (p.map (·.block)) := by
  obtain ⟨L', h1, h2, h3, h4⟩ := h
  exact ⟨L', h1.len, h1, h2, h3, h4⟩

set_option maxRecDepth 20000 in
theorem len100 (w : World) : Calls Try.prog 99 #[.int .u64 13] w fun e w' => e = .returned (.int .i64 4) ∧ w' = w := by
  go_enter Try.func99, Try.ntmps99
  go_wp2
  go_ret
  exact ⟨by kernel_rfl, rfl⟩
set_option maxRecDepth 20000 in
theorem len76 (w : World) : Calls Try.prog 81 #[.int .u64 13] w fun e w' => e = .returned (.int .i64 4) ∧ w' = w := by
  have C := len100 w
  go_enter Try.func81, Try.ntmps81
  go_wp2_with (first | (go_at_call 99; refine Calls.mono C ?_; rintro e w1 ⟨rfl, rfl⟩))
  go_ret
  exact ⟨rfl, rfl⟩

set_option maxRecDepth 20000 in
set_option maxHeartbeats 4000000 in
theorem pdq_small (B : Nat) (p : Option Addr) (L : List Int) (c a b : Nat) (lim : Int) (w : World) (h : OwnR B w p L c) (hab : a ≤ b) (hb : b ≤ L.length) (h12 : b ≤ a + 12) (hl : L.length ≤ 100) :
    Calls Try.prog 80 #[.slice p L.length c, .int .i64 a, .int .i64 b, .int .i64 lim] w fun e w' => e = .returned (.tuple #[]) ∧ Sorts B p L c a b w w' := by
  have C := ins91 B p L c a b w h hab hb hl
  obtain ⟨n, hn⟩ : ∃ n, n = L.length := ⟨_, rfl⟩
  rw [← hn] at hb hl C ⊢
  have hs : (b : Int) - (a : Int) ≤ 12 := by omega
  clear h hn
  go_enter Try.func80, Try.ntmps80
  go_wp2
  go_loopw [1, 2, 3, 8, 9] (fun s t r _ _ wr => s = .int .i64 a ∧ t = .int .i64 b ∧ r = .int .i64 lim ∧ wr = w) (fun _ _ _ _ _ _ => 0)
  case atStart => exact ⟨rfl, rfl, rfl, rfl⟩
  case round =>
    obtain ⟨rfl, rfl, rfl, hw⟩ := hrel
    rw [hw]
    clear hw
    go_wp2_with (first | (go_at_call 90; refine Calls.mono C ?_; rintro e w1 ⟨rfl, hS⟩))
    refine bodyPost_ret (results_none rfl _ _ _) rfl ?_
    exact ⟨rfl, hS⟩

/-- Two sorted parts on both sides of what parts them. -/
theorem up_join {M : List Int} {n k : Nat} {N : List Int} (ha : ∀ s, s < k → iG N s < iG M k) (hk : iG N k = iG M k) (hb : ∀ s, k < s → s < n → iG M k ≤ iG N s) (u1 : Up N 0 k) (u2 : Up N (k + 1) n) : Up N 0 n := by
  intro s t h2 h3 h4
  by_cases t1 : t < k
  · exact u1 s t h2 h3 t1
  · by_cases s1 : s < k
    · have := ha s s1
      by_cases e : t = k
      · rw [e, hk]; omega
      · have := hb t (by omega) h4; omega
    · by_cases e : s = k
      · rw [e, hk]; exact hb t (by omega) h4
      · exact u2 s t (by omega) h3 h4
/-- Parted, and both parts sorted, the whole is. -/
theorem parts_up {M N O : List Int} {n k : Nat} (h : Parted M n k) (g1 : Seg M N 0 k) (v1 : Up N 0 k) (g2 : Seg N O (k + 1) n) (v2 : Up O (k + 1) n) : Seg M O 0 n ∧ Up O 0 n := by
  obtain ⟨hk, ha, hb⟩ := h
  have S : Seg M O 0 n := (g1.wide (Nat.le_refl _) (by omega)).trans (g2.wide (by omega) (Nat.le_refl _))
  refine ⟨S, up_join (M := M) (fun s hs => ?_) ?_ (fun s h1 h2 => ?_) (fun s t h1 h2 h3 => ?_) v2⟩
  · rw [g2.out s (by omega)]
    obtain ⟨t, _, t2, e⟩ := g1.inn s (by omega) hs
    rw [e]; exact ha t t2
  · rw [g2.out k (by omega), g1.out k (by omega)]
  · obtain ⟨t, t1, t2, e⟩ := g2.inn s (by omega) h2
    rw [e, g1.out t (by omega)]; exact hb t (by omega) t2
  · rw [g2.out s (by omega), g2.out t (by omega)]; exact v1 s t h1 h2 h3
theorem parts_up' {M N O : List Int} {n k : Nat} (h : Parted M n k) (g2 : Seg M N (k + 1) n) (v2 : Up N (k + 1) n) (g1 : Seg N O 0 k) (v1 : Up O 0 k) : Seg M O 0 n ∧ Up O 0 n := by
  obtain ⟨hk, ha, hb⟩ := h
  have S : Seg M O 0 n := (g2.wide (by omega) (Nat.le_refl _)).trans (g1.wide (Nat.le_refl _) (by omega))
  refine ⟨S, up_join (M := M) (fun s hs => ?_) ?_ (fun s h1 h2 => ?_) v1 (fun s t h1 h2 h3 => ?_)⟩
  · obtain ⟨t, _, t2, e⟩ := g1.inn s (by omega) hs
    rw [e, g2.out t (by omega)]; exact ha t t2
  · rw [g1.out k (by omega), g2.out k (by omega)]
  · rw [g1.out s (by omega)]
    obtain ⟨t, t1, t2, e⟩ := g2.inn s (by omega) h2
    rw [e]; exact hb t (by omega) t2
  · rw [g1.out s (by omega), g1.out t (by omega)]; exact v2 s t h1 h2 h3

/-- How the sort of 13 stands at the head of a round: at its start, or with one part left. -/
theorem grown_any {w w' : World} (hb : Below w.heap.size w w') (r : Option Nat) : w.grownBy w' r := ⟨hb.os, hb.tape, hb.output, hb.size, fun k hk _ => hb.block k hk⟩
def Half (L M : List Int) (a b : Nat) : Prop := a ≤ b ∧ b ≤ 13 ∧ b ≤ a + 12 ∧ M.length = 13 ∧ ∀ O, Seg M O a b → Up O a b → Seg L O 0 13 ∧ Up O 0 13
def Stand (L : List Int) (s t r f g : Value) (M : List Int) : Prop :=
  (s = .int .i64 0 ∧ t = .int .i64 13 ∧ r = .int .i64 4 ∧ f = .bool true ∧ g = .bool true ∧ M = L) ∨ (∃ (a b : Nat) (x y : Bool), s = .int .i64 a ∧ t = .int .i64 b ∧ r = .int .i64 4 ∧ f = .bool x ∧ g = .bool y ∧ Half L M a b)

set_option maxRecDepth 20000 in
set_option maxHeartbeats 8000000 in
theorem pdq_13 (B : Nat) (p : Option Addr) (L : List Int) (c : Nat) (w : World) (h : OwnR B w p L c) (hl : L.length = 13) :
    Calls Try.prog 80 #[.slice p 13 c, .int .i64 0, .int .i64 13, .int .i64 4] w fun e w' => e = .returned (.tuple #[]) ∧ Sorts B p L c 0 13 w w' := by
  have H0 := hidOg h
  have HL := hidOg hl
  have CI := fun (M : List Int) (a b : Nat) (W : World) (hM : M.length = 13) (hO : OwnR B W p M c) (h1 : a ≤ b) (h2 : b ≤ 13) => (hM ▸ ins91 B p M c a b W hO h1 (by omega) (by omega) : Calls Try.prog 90 #[.slice p 13 c, .int .i64 a, .int .i64 b] W fun e w' => e = .returned (.tuple #[]) ∧ Sorts B p M c a b W w')
  have CQ := fun (M : List Int) (a b : Nat) (W : World) (hM : M.length = 13) (hO : OwnR B W p M c) (h1 : a ≤ b) (h2 : b ≤ 13) (h3 : b ≤ a + 12) => (hM ▸ pdq_small B p M c a b 4 W hO h1 (by omega) h3 (by omega) : Calls Try.prog 80 #[.slice p 13 c, .int .i64 a, .int .i64 b, .int .i64 4] W fun e w' => e = .returned (.tuple #[]) ∧ Sorts B p M c a b W w')
  have CV := pivot94 p L c w h.row hl
  have CP := fun (W : World) (hb : Below w.heap.size w W) => partial96 p L c W (h.row.to hb) 13 hl (by omega) (by omega)
  have CS := fun (v0 : Nat) (W : World) (hb : Below w.heap.size w W) (hv : v0 < 13) (hv0 : 0 < v0) => part98 B p L c v0 W (h.to hb) 13 hl hv (by omega) hv0
  clear h hl
  go_enter Try.func80, Try.ntmps80
  go_wp2
  go_loopw [1, 2, 3, 8, 9] (fun s t r f g wr => ∃ M, Stand L s t r f g M ∧ (M = L → True) ∧ OwnR B wr p M c ∧ w.grownBy wr (p.map (·.block)) ∧ (s = .int .i64 0 → t = .int .i64 13 → wr = w)) (fun s t _ _ _ _ => ((intOf t) - (intOf s)).toNat)
  case atStart => exact ⟨L, .inl ⟨rfl, rfl, rfl, rfl, rfl, rfl⟩, fun _ => trivial, H0.out, World.grownBy.refl _ _, fun _ _ => rfl⟩
  case round =>
    obtain ⟨M, hst, _, hO, hG, hw⟩ := hrel
    rcases hst with ⟨rfl, rfl, rfl, rfl, rfl, rfl⟩ | ⟨a, b, x, y, rfl, rfl, rfl, rfl, rfl, hH⟩
    · have hw := hw rfl rfl
      rw [hw]
      clear hw hO hG
      go_wp2_with (first
        | (go_at_call 93; refine Calls.mono CV ?_; clear CV; rintro e w1 ⟨x, t, rfl, hx, ht, hb1⟩; have HB1 := hidOg hb1; clear hb1; rcases ht with rfl | rfl)
        | (go_at_call 95; refine Calls.mono (CP w1 HB1.out) ?_; clear CP; rintro e w2 ⟨r0, rfl, hr0, hb2⟩; have HB2 := hidOg (HB1.out.trans (hb2.mono HB1.out.size)); have HR0 := hidOg hr0; clear hb2 hr0; cases r0))
      · skip
        go_quiet ((fail))
        go_wp2_with (first
          | (go_at_call 97; refine Calls.mono (CS x _ (below_drewN' HB1.out _) hx.2 hx.1) ?_; rintro e w3 ⟨k, r, N, rfl, hseg, hpt, hO3, hG3⟩; have HSe := hidOg hseg; have HPt := hidOg hpt; have HO3 := hidOg hO3; have HG3 := hidOg (grownBy_trans (grown_any (below_drewN' HB1.out _) _) hG3); have hk13 := hpt.1; have HLN := hidOg (hseg.len.trans HL.out); clear hseg hpt hO3 hG3)
          | (go_at_call_has 80 (Value.int .i64 0); refine Calls.mono (CQ N 0 k _ HLN.out HO3.out (by omega) (by omega) (by omega)) ?_; rintro e w4 ⟨rfl, hS⟩; have HS4 := hidOg hS; clear hS)
          | (go_at_call_has 80 (Value.int .i64 13); refine Calls.mono (CQ N (k + 1) 13 _ HLN.out HO3.out (by omega) (by omega) (by omega)) ?_; rintro e w4 ⟨rfl, hS⟩; have HS4 := hidOg hS; clear hS))
        all_goals
          obtain ⟨O, g1, g2, g3, g4⟩ := HS4.out
          have HO := hidOg g1
          have HU := hidOg g2
          have HW4 := hidOg g3
          have HG4 := hidOg (grownBy_trans HG3.out g4)
          have HLO := hidOg (g1.len.trans HLN.out)
          clear g1 g2 g3 g4 HS4
          go_roundw
          case rel =>
            first
              | exact ⟨O, .inr ⟨k + 1, 13, _, _, by go_num, rfl, rfl, rfl, rfl, by omega, by omega, by omega, HLO.out, fun P h1 h2 => by obtain ⟨s1, s2⟩ := parts_up HPt.out HO.out HU.out h1 h2; exact ⟨HSe.out.trans s1, s2⟩⟩, fun _ => trivial, HW4.out, HG4.out, fun h => by exfalso; simp at h; omega⟩
              | exact ⟨O, .inr ⟨0, k, _, _, rfl, rfl, rfl, rfl, rfl, by omega, by omega, by omega, HLO.out, fun P h1 h2 => by obtain ⟨s1, s2⟩ := parts_up' HPt.out HO.out HU.out h1 h2; exact ⟨HSe.out.trans s1, s2⟩⟩, fun _ => trivial, HW4.out, HG4.out, fun _ h => by exfalso; simp at h; omega⟩
          case measure => simp [intOf]; omega
      · skip
        go_quiet ((fail))
        go_wp2_with (first
          | (go_at_call 97; refine Calls.mono (CS x _ (below_drewN' HB2.out _) hx.2 hx.1) ?_; rintro e w3 ⟨k, r, N, rfl, hseg, hpt, hO3, hG3⟩; have HSe := hidOg hseg; have HPt := hidOg hpt; have HO3 := hidOg hO3; have HG3 := hidOg (grownBy_trans (grown_any (below_drewN' HB2.out _) _) hG3); have hk13 := hpt.1; have HLN := hidOg (hseg.len.trans HL.out); clear hseg hpt hO3 hG3)
          | (go_at_call_has 80 (Value.int .i64 0); refine Calls.mono (CQ N 0 k _ HLN.out HO3.out (by omega) (by omega) (by omega)) ?_; rintro e w4 ⟨rfl, hS⟩; have HS4 := hidOg hS; clear hS)
          | (go_at_call_has 80 (Value.int .i64 13); refine Calls.mono (CQ N (k + 1) 13 _ HLN.out HO3.out (by omega) (by omega) (by omega)) ?_; rintro e w4 ⟨rfl, hS⟩; have HS4 := hidOg hS; clear hS))
        all_goals
          obtain ⟨O, g1, g2, g3, g4⟩ := HS4.out
          have HO := hidOg g1
          have HU := hidOg g2
          have HW4 := hidOg g3
          have HG4 := hidOg (grownBy_trans HG3.out g4)
          have HLO := hidOg (g1.len.trans HLN.out)
          clear g1 g2 g3 g4 HS4
          go_roundw
          case rel =>
            first
              | exact ⟨O, .inr ⟨k + 1, 13, _, _, by go_num, rfl, rfl, rfl, rfl, by omega, by omega, by omega, HLO.out, fun P h1 h2 => by obtain ⟨s1, s2⟩ := parts_up HPt.out HO.out HU.out h1 h2; exact ⟨HSe.out.trans s1, s2⟩⟩, fun _ => trivial, HW4.out, HG4.out, fun h => by exfalso; simp at h; omega⟩
              | exact ⟨O, .inr ⟨0, k, _, _, rfl, rfl, rfl, rfl, rfl, by omega, by omega, by omega, HLO.out, fun P h1 h2 => by obtain ⟨s1, s2⟩ := parts_up' HPt.out HO.out HU.out h1 h2; exact ⟨HSe.out.trans s1, s2⟩⟩, fun _ => trivial, HW4.out, HG4.out, fun _ h => by exfalso; simp at h; omega⟩
          case measure => simp [intOf]; omega
      · refine bodyPost_ret (results_none rfl _ _ _) rfl ?_
        exact ⟨rfl, _, Seg.refl _ _ _, HR0.out trivial, H0.out.to HB2.out, grown_any HB2.out _⟩
    · obtain ⟨h1, h2, h3, h4, h5⟩ := hH
      have HG := hidOg hG
      have HF := hidOg h5
      have C := CI M a b wr h4 hO h1 h2
      have hs : (b : Int) - (a : Int) ≤ 12 := by omega
      clear hw hO hG h5 CI CQ CV CP CS
      go_wp2_with (first | (go_at_call 90; refine Calls.mono C ?_; rintro e w1 ⟨rfl, hS⟩))
      obtain ⟨O, g1, g2, g3, g4⟩ := hS
      obtain ⟨f1, f2⟩ := HF.out O g1 g2
      refine bodyPost_ret (results_none rfl _ _ _) rfl ?_
      exact ⟨rfl, O, f1, f2, g3, grownBy_trans HG.out g4⟩
end Go.Proofs.Ytooaghcjlomcpaa
