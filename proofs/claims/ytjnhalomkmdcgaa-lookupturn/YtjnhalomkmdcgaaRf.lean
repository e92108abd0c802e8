/- The document's Byte, Add, Of. -/
import Derived.Test.YtjnhalomkmdcgaaHaE
namespace Go.Proofs.Ytjnhalomkmdcgaa
open Go.RowKit

theorem bit_of (x k : Nat) : x.testBit k = decide (x / 2 ^ k % 2 = 1) := Nat.testBit_eq_decide_div_mod_eq
theorem xor_bit (x y k : Nat) : (x ^^^ y) / 2 ^ k % 2 = if x / 2 ^ k % 2 = y / 2 ^ k % 2 then 0 else 1 := by
  have h := Nat.testBit_xor x y k
  rw [bit_of, bit_of, bit_of] at h
  have a := Nat.mod_lt (x / 2 ^ k) (show 2 > 0 by omega)
  have b := Nat.mod_lt (y / 2 ^ k) (show 2 > 0 by omega)
  have c := Nat.mod_lt ((x ^^^ y) / 2 ^ k) (show 2 > 0 by omega)
  generalize x / 2 ^ k % 2 = u at *
  generalize y / 2 ^ k % 2 = v at *
  generalize (x ^^^ y) / 2 ^ k % 2 = r at *
  have hu : u = 0 ∨ u = 1 := by omega
  have hv : v = 0 ∨ v = 1 := by omega
  have hr : r = 0 ∨ r = 1 := by omega
  rcases hu with rfl | rfl <;> rcases hv with rfl | rfl <;> rcases hr with rfl | rfl <;> simp at h ⊢
/-- The first k bits, turned. -/
def tuN (x y k : Nat) : Nat := (x ^^^ y) % 2 ^ k
theorem tuN_succ (x y k : Nat) : tuN x y (k + 1) = if x / 2 ^ k % 2 = y / 2 ^ k % 2 then tuN x y k else tuN x y k + 2 ^ k := by
  unfold tuN
  rw [Nat.mod_pow_succ, xor_bit]
  split <;> simp
theorem tuN_lt (x y k : Nat) : tuN x y k < 2 ^ k := Nat.mod_lt _ (Nat.two_pow_pos k)
theorem tuN_all {x y : Nat} (hx : x < 256) (hy : y < 256) : tuN x y 8 = x ^^^ y := Nat.mod_eq_of_lt (Nat.xor_lt_two_pow (n := 8) hx hy)
theorem hAdd_by (h b : Nat) (hb : b < 256) : hAdd h b = (h - h % 256 + tuN (h % 256) b 8) * 1099511628211 % 18446744073709551616 := by
  unfold hAdd
  rw [tuN_all (Nat.mod_lt _ (by omega)) hb]
  have e := xor_split (h / 256) (h % 256) b (Nat.mod_lt _ (by omega)) hb
  rw [Nat.div_add_mod] at e
  have e2 : h - h % 256 = 256 * (h / 256) := by omega
  rw [e, e2]
theorem pow_le {k : Nat} (hk : k ≤ 8) : 2 ^ k ≤ 256 := Nat.pow_le_pow_right (n := 2) (by omega) hk
theorem pow_le7 {k : Nat} (hk : k < 8) : 2 ^ k ≤ 128 := by have := Nat.pow_le_pow_right (n := 2) (i := k) (j := 7) (by omega) (by omega); omega

theorem hAdd_wrap {h low t r : Nat} (hl : low ≤ h) (hr : r = (h - low + t) * 1099511628211 % 18446744073709551616) :
    IntKind.u64.wrap (IntKind.u64.wrap (IntKind.u64.wrap ((h : Int) - (low : Int)) + (t : Int)) * 1099511628211) = (r : Int) := by
  have e1 : (h : Int) - (low : Int) = ((h - low : Nat) : Int) := by omega
  rw [e1, wrapu_nat, ← Int.natCast_add, wrapu_nat]
  have e2 : (1099511628211 : Int) = ((1099511628211 : Nat) : Int) := by simp
  rw [e2, ← Int.natCast_mul, wrapu_nat, hr, Nat.mod_add_mod, Nat.mod_mul_mod]
theorem below_drewN {B : Nat} {a w : World} (h : Below B a w) (n : Nat) : Below B a (w.drewN n) := ⟨h.os, h.tape, h.output, h.size, h.block⟩

set_option maxRecDepth 20000 in
theorem byte20 (h b : Nat) (w : World) (hh : h < 18446744073709551616) (hb : b < 256) :
    Calls Try.prog 80 #[.int .u64 (h : Int), .int .u8 (b : Int)] w fun e w' => e = .returned (.int .u64 (hAdd h b : Nat)) ∧ Below w.heap.size w w' := by
  have HA := hidOg (hAdd_by h b hb)
  have e0 : (h : Int) % 256 = ((h % 256 : Nat) : Int) := by omega
  have hl : h % 256 < 256 := Nat.mod_lt _ (by omega)
  have hle : h % 256 ≤ h := Nat.mod_le _ _
  obtain ⟨low, hlow⟩ : ∃ low, low = h % 256 := ⟨_, rfl⟩
  rw [← hlow] at HA e0 hl hle
  have HH := hidOg hh
  clear hlow hh
  go_enter Try.func80, Try.ntmps80
  go_wp2
  go_loopw [6, 7, 10] (fun t p i wr => ∃ k : Nat, k ≤ 8 ∧ i = .int .i64 k ∧ t = .int .u64 (tuN low b k : Nat) ∧ p = .int .u64 ((2 ^ k : Nat) : Int) ∧ Below w.heap.size w wr) (fun _ _ i _ => 8 - (intOf i).toNat)
  case atStart => exact ⟨0, by omega, rfl, by rw [show tuN low b 0 = 0 by unfold tuN; omega]; rfl, rfl, Below.refl _ _⟩
  case round =>
    obtain ⟨k, hk, rfl, rfl, rfl, hnx⟩ := hrel
    have HX := hidOg hnx
    clear hnx
    by_cases hlt : k < 8
    · have p7 := pow_le7 hlt
      have p0 : 0 < 2 ^ k := Nat.two_pow_pos k
      have HT := hidOg (tuN_succ low b k)
      have t0 := tuN_lt low b k
      have HP : Hid (2 ^ (k + 1) = 2 * 2 ^ k) := by unfold Hid; rw [Nat.pow_succ, Nat.mul_comm]
      obtain ⟨p, hp⟩ : ∃ p, p = 2 ^ k := ⟨_, rfl⟩
      obtain ⟨t, ht⟩ : ∃ t, t = tuN low b k := ⟨_, rfl⟩
      rw [← hp] at p7 p0 HT t0 HP ⊢
      rw [← ht] at HT t0 ⊢
      clear hp ht
      have eL : IntKind.u64.wrap ((low : Int) / (p : Int)) = ((low / p : Nat) : Int) := by
        rw [← Int.natCast_ediv, wrapu_nat, Nat.mod_eq_of_lt (Nat.lt_of_le_of_lt (Nat.div_le_self low p) (by omega))]
      have eB : IntKind.u64.wrap ((b : Int) / (p : Int)) = ((b / p : Nat) : Int) := by
        rw [← Int.natCast_ediv, wrapu_nat, Nat.mod_eq_of_lt (Nat.lt_of_le_of_lt (Nat.div_le_self b p) (by omega))]
      obtain ⟨u, hu⟩ : ∃ u, u = low / p := ⟨_, rfl⟩
      obtain ⟨v, hv⟩ : ∃ v, v = b / p := ⟨_, rfl⟩
      rw [← hu] at eL HT
      rw [← hv] at eB HT
      clear hu hv
      have tm : ∀ x : Nat, (x : Int).tmod 2 = ((x % 2 : Nat) : Int) := fun x => by rw [Int.tmod_eq_emod_of_nonneg (by omega)]; omega
      have eL2 := tm u
      have eB2 := tm v
      have eL3 : (u : Int) % 2 = ((u % 2 : Nat) : Int) := by omega
      have eB3 : (v : Int) % 2 = ((v % 2 : Nat) : Int) := by omega
      clear tm
      obtain ⟨u2, hu2⟩ : ∃ u2, u2 = u % 2 := ⟨_, rfl⟩
      obtain ⟨v2, hv2⟩ : ∃ v2, v2 = v % 2 := ⟨_, rfl⟩
      rw [← hu2] at eL2 eL3 HT
      rw [← hv2] at eB2 eB3 HT
      clear hu2 hv2
      by_cases hq : u2 = v2
      · rw [if_pos hq] at HT
        subst hq
        go_wp2
        go_quiet (fail)
        go_wp2
        go_roundw
        case rel => exact ⟨k + 1, by omega, by go_num, by rw [HT.out], by rw [HP.out]; go_num, below_drewN HX.out _⟩
        case measure => simp [intOf]; omega
      · rw [if_neg hq] at HT
        have e1 : ((u2 : Int) != (v2 : Int)) = true := by simp; omega
        clear hq
        go_wp2
        go_quiet (fail)
        go_wp2
        go_roundw
        case rel => exact ⟨k + 1, by omega, by go_num, by rw [HT.out]; go_num, by rw [HP.out]; go_num, below_drewN HX.out _⟩
        case measure => simp [intOf]; omega
    · obtain rfl : k = 8 := by omega
      have HW := hidOg (hAdd_wrap hle HA.out)
      obtain ⟨t, ht⟩ : ∃ t, t = tuN low b 8 := ⟨_, rfl⟩
      rw [← ht] at HW
      rw [← ht]
      clear ht HA
      go_wp2
      go_ret
      exact ⟨by rw [← HW.out]; rfl, HX.out⟩

/-- What is left of an id, k bytes being taken. -/
theorem byN_next (id k : Nat) : id / 256 ^ k / 256 = id / 256 ^ (k + 1) := by rw [Nat.div_div_eq_div_mul, ← Nat.pow_succ]
set_option maxRecDepth 20000 in
theorem refAdd14 (h id : Nat) (w : World) (hh : h < 18446744073709551616) (hid : id < 18446744073709551616) :
    Calls Try.prog 68 #[.int .u64 (h : Int), .int .u64 (id : Int)] w fun e w' => e = .returned (.int .u64 (hId h id : Nat)) ∧ Below w.heap.size w w' := by
  have HH := hidOg hh
  have HI := hidOg hid
  clear hh hid
  go_enter Try.func68, Try.ntmps68
  go_wp2
  go_loopw [0, 1, 5] (fun v d i wr => ∃ k : Nat, k ≤ 8 ∧ i = .int .i64 k ∧ v = .int .u64 (hAddN h id k : Nat) ∧ d = .int .u64 ((id / 256 ^ k : Nat) : Int) ∧ Below w.heap.size w wr) (fun _ _ i _ => 8 - (intOf i).toNat)
  case atStart => exact ⟨0, by omega, rfl, rfl, by rw [Nat.pow_zero, Nat.div_one], Below.refl _ _⟩
  case round =>
    obtain ⟨k, hk, rfl, rfl, rfl, hnx⟩ := hrel
    have HX := hidOg hnx
    clear hnx
    by_cases hlt : k < 8
    · have CB := fun (W : World) => byte20 (hAddN h id k) (byN id k) W (hAddN_lt HH.out id k) (byN_lt id k)
      have HE : Hid (hAddN h id (k + 1) = hAdd (hAddN h id k) (byN id k)) := rfl
      have HN := hidOg (byN_next id k)
      have hq : id / 256 ^ k < 18446744073709551616 := Nat.lt_of_le_of_lt (Nat.div_le_self _ _) HI.out
      have eb : Hid (byN id k = id / 256 ^ k % 256) := rfl
      have hb := byN_lt id k
      obtain ⟨q, hq'⟩ : ∃ q, q = id / 256 ^ k := ⟨_, rfl⟩
      rw [← hq'] at HN hq eb ⊢
      obtain ⟨x, hx⟩ : ∃ x, x = byN id k := ⟨_, rfl⟩
      obtain ⟨y, hy⟩ : ∃ y, y = hAddN h id k := ⟨_, rfl⟩
      obtain ⟨z, hz⟩ : ∃ z, z = hAdd y x := ⟨_, rfl⟩
      rw [← hx, ← hy, ← hz] at HE CB
      rw [← hx] at eb hb
      rw [← hy]
      have e1 : (q : Int) % 256 = (x : Int) := by rw [eb.out]; omega
      have e2 : IntKind.u8.wrap (x : Int) = (x : Int) := by simp [IntKind.wrap, IntKind.bits, IntKind.signed]; omega
      clear hq' hx hy hz eb
      go_wp2_with (first | (go_at_call 80; refine Calls.mono (CB _) ?_; rintro e w1 ⟨rfl, hb1⟩))
      go_roundw
      case rel => exact ⟨k + 1, by omega, by go_num, by rw [HE.out], by rw [← HN.out]; go_num, HX.out.trans (hb1.mono HX.out.size)⟩
      case measure => simp [intOf]; omega
    · obtain rfl : k = 8 := by omega
      go_wp2
      go_ret
      exact ⟨rfl, HX.out⟩
set_option maxRecDepth 20000 in
theorem refOf11 (p : Option Addr) (l : List Nat) (c : Nat) (w : World) (hS : NRow w.heap.size w p l) (hU : UN l) (hlen : l.length < 1152921504606846976) :
    Calls Try.prog 53 #[.slice p l.length c] w fun e w' => e = .returned (.int .u64 (hOf l : Nat)) ∧ Below w.heap.size w w' := by
  have HS := hidOg hS
  have HU := hidOg hU
  clear hS hU
  go_enter Try.func53, Try.ntmps53
  go_wp2
  go_loopw [3, 8] (fun v i wr => ∃ k : Nat, k ≤ l.length ∧ i = .int .i64 k ∧ v = .int .u64 (adN 14695981039346656037 l k : Nat) ∧ Below w.heap.size w wr) (fun _ i _ => l.length - (intOf i).toNat)
  case atStart => exact ⟨0, Nat.zero_le _, rfl, by rw [show adN 14695981039346656037 l 0 = 14695981039346656037 from rfl]; simp, Below.refl _ _⟩
  case round =>
    obtain ⟨k, hk, rfl, rfl, hnx⟩ := hrel
    have hsz := hnx.size
    have HX := hidOg hnx
    clear hnx
    by_cases hlt : k < l.length
    · obtain ⟨b, off, rfl, hbB, hcs⟩ := (HS.out.below HX.out (Nat.le_refl _)) (by omega)
      have c0 := hcs k hlt
      clear hcs
      have HE := hidOg (adN_succ (h := 14695981039346656037) hlt)
      have T := refAdd14 (adN 14695981039346656037 l k) (nG l k) wr (adN_lt (by decide) l k) (HU.out.at hlt)
      obtain ⟨x, hx⟩ : ∃ x, x = nG l k := ⟨_, rfl⟩
      obtain ⟨q, hq⟩ : ∃ q, q = adN 14695981039346656037 l k := ⟨_, rfl⟩
      obtain ⟨r, hr⟩ : ∃ r, r = hId q x := ⟨_, rfl⟩
      rw [← hx, ← hq, ← hr] at HE T
      rw [← hx] at c0
      rw [← hq]
      clear hr hq hx
      go_wp2_with (first | (go_at_call 68; refine Calls.mono T ?_; rintro e w2 ⟨rfl, hb2⟩))
      go_roundw
      case rel => exact ⟨k + 1, by omega, by go_num, by rw [HE.out], HX.out.trans (hb2.mono hsz)⟩
      case measure => simp [intOf]; omega
    · obtain rfl : k = l.length := by omega
      go_wp2
      go_ret
      exact ⟨by unfold hOf; rw [← adN_all]; rfl, HX.out⟩
end Go.Proofs.Ytjnhalomkmdcgaa
