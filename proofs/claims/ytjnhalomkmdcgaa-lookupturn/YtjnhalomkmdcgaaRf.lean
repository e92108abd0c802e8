/- Rows of ids; added, Of, Add, Back. -/
/- Of, Add, Back. -/
/- The document's Byte, Add, Of. -/
import Derived.Test.YtjnhalomkmdcgaaHaC
namespace Go.Proofs.Ytjnhalomkmdcgaa
open Go.RowKit


theorem bt {a b c : World} (h1 : Below a.heap.size a b) (h2 : Below b.heap.size b c) : Below a.heap.size a c := h1.trans (h2.mono h1.size)
/-- The k-th number of a row. -/
def nG (l : List Nat) (k : Nat) : Nat := l.getD k 0
theorem nG_eq {l : List Nat} {k : Nat} (h : k < l.length) : nG l k = l[k] := by simp [nG, h]
theorem nG_mem {l : List Nat} {k : Nat} (h : k < l.length) : nG l k ∈ l := by rw [nG_eq h]; exact List.getElem_mem h
/-- The slice that begins at p holds the words l, in a block below N. -/
def NRow (N : Nat) (w : World) (p : Option Addr) (l : List Nat) : Prop :=
  0 < l.length → ∃ b off, p = some ⟨b, off, none⟩ ∧ b < N ∧ ∀ k, k < l.length → w.cell? ⟨b, off + k, none⟩ = some (.int .u64 (nG l k : Int))
theorem NRow.below {N M : Nat} {w w' : World} {p : Option Addr} {l : List Nat} (h : NRow N w p l) (hb : Below M w w') (hm : N ≤ M) : NRow N w' p l := by
  intro h0
  obtain ⟨b, off, rfl, hN, hc⟩ := h h0
  exact ⟨b, off, rfl, hN, fun k hk => (hb.cell (p := ⟨b, off + k, none⟩) (by simp; omega)).trans (hc k hk)⟩
theorem NRow.mono {N M : Nat} {w : World} {p : Option Addr} {l : List Nat} (h : NRow N w p l) (hm : N ≤ M) : NRow M w p l := by
  intro h0
  obtain ⟨b, off, rfl, hN, hc⟩ := h h0
  exact ⟨b, off, rfl, by omega, hc⟩
theorem NRow.nil {N : Nat} {w : World} {p : Option Addr} : NRow N w p [] := fun h => by simp at h
theorem NRow.to {w w' : World} {p : Option Addr} {l : List Nat} (h : NRow w.heap.size w p l) (hb : Below w.heap.size w w') : NRow w'.heap.size w' p l :=
  (h.below hb (Nat.le_refl _)).mono hb.size
/-- All of a row are words. -/
def UN (l : List Nat) : Prop := ∀ x ∈ l, x < 18446744073709551616
theorem UN.at {l : List Nat} (h : UN l) {k : Nat} (hk : k < l.length) : nG l k < 18446744073709551616 := h _ (nG_mem hk)
theorem UN.take {l : List Nat} (h : UN l) (n : Nat) : UN (l.take n) := fun x hx => h x (List.mem_of_mem_take hx)
theorem nG_take {l : List Nat} {i k : Nat} (h : k < i) : nG (l.take i) k = nG l k := by
  unfold nG; rw [List.getD_eq_getElem?_getD, List.getD_eq_getElem?_getD, List.getElem?_take_of_lt h]
theorem NRow.take {N : Nat} {w : World} {p : Option Addr} {l : List Nat} (h : NRow N w p l) (i : Nat) : NRow N w p (l.take i) := by
  intro h0
  have hl : (l.take i).length ≤ l.length := by simp; omega
  obtain ⟨b, off, rfl, hN, hc⟩ := h (by omega)
  refine ⟨b, off, rfl, hN, fun k hk => ?_⟩
  rw [nG_take (by simp at hk; omega)]
  exact hc k (by omega)
/-- The hash, the first k ids being added. -/
def adN (h : Nat) (l : List Nat) (k : Nat) : Nat := (l.take k).foldl hId h
theorem adN_succ {h : Nat} {l : List Nat} {k : Nat} (hk : k < l.length) : adN h l (k + 1) = hId (adN h l k) (nG l k) := by
  unfold adN
  rw [List.take_succ_eq_append_getElem hk, List.foldl_append, List.foldl_cons, List.foldl_nil, nG_eq hk]
theorem adN_lt {h : Nat} (hh : h < 18446744073709551616) (l : List Nat) (k : Nat) : adN h l k < 18446744073709551616 := fold_lt _ _ hh
theorem adN_all (h : Nat) (l : List Nat) : adN h l l.length = l.foldl hId h := by unfold adN; rw [List.take_length]

/-- The world behind bytesOf. -/
def wB (w : World) (x : Int) (g : Nat) : World := (w.alloc (.cells #[.int .u64 x] 41)).alloc (.cells #[.func (.func g) #[] #[]] 120)
theorem wB_size (w : World) (x : Int) (g : Nat) : (wB w x g).heap.size = w.heap.size + 2 := by unfold wB; simp
theorem wB_below (w : World) (x : Int) (g : Nat) : Below w.heap.size w (wB w x g) := ((Below.refl _ _).alloc (Nat.le_refl _) _).alloc (by simp) _
theorem wB_c0 (w : World) (x : Int) (g : Nat) : (wB w x g).cell? ⟨w.heap.size, 0, none⟩ = some (.int .u64 x) := by unfold wB; simp
theorem wB_c1 (w : World) (x : Int) (g : Nat) : (wB w x g).cell? ⟨w.heap.size + 1, 0, none⟩ = some (.func (.func g) #[] #[]) := by
  unfold wB; exact World.cell?_alloc_at _ _ _ _ (by simp)
theorem bytesOf24' (x : Int) (g : Nat) (w : World) :
    Calls Try.prog 88 #[.int .u64 x, .func (.func g) #[] #[]] w fun e w' => e = .returned (.func (.func 108) #[] #[.pointer (some ⟨w.heap.size, 0, none⟩), .pointer (some ⟨w.heap.size + 1, 0, none⟩)]) ∧ w' = wB w x g := bytesOf24 x g w
theorem thr_add (h x : Nat) (w : World) (hh : h < 18446744073709551616) (hx : x < 18446744073709551616) :
    Calls Try.prog 87 #[.int .u64 (h : Int), .func (.func 108) #[] #[.pointer (some ⟨w.heap.size, 0, none⟩), .pointer (some ⟨w.heap.size + 1, 0, none⟩)], .func (.func 86) #[] #[]] (wB w x 89) fun e w' => e = .returned (.int .u64 (hId h x : Nat)) ∧ Below w.heap.size w w' := by
  refine (through_add h x w.heap.size (w.heap.size + 1) (wB w x 89) hx hh (wB_c0 w x 89) (by rw [wB_size]; omega) (wB_c1 w x 89) (by rw [wB_size]; omega)).mono ?_
  rintro e w' ⟨rfl, hb⟩
  exact ⟨rfl, bt (wB_below w x 89) hb⟩
set_option maxRecDepth 20000 in
theorem added19 (h : Nat) (p : Option Addr) (l : List Nat) (c : Nat) (w : World) (hh : h < 18446744073709551616) (hS : NRow w.heap.size w p l) (hU : UN l) (hlen : l.length < 1152921504606846976) :
    Calls Try.prog 76 #[.int .u64 (h : Int), .slice p l.length c] w fun e w' => e = .returned (.int .u64 (l.foldl hId h : Nat)) ∧ Below w.heap.size w w' := by
  have HS := hidOg hS
  have HU := hidOg hU
  have HH := hidOg hh
  clear hS hU hh
  go_enter Try.func76, Try.ntmps76
  go_wp2
  go_loopw [0, 10] (fun v i wr => ∃ k : Nat, k ≤ l.length ∧ i = .int .i64 k ∧ v = .int .u64 (adN h l k : Nat) ∧ Below w.heap.size w wr) (fun _ i _ => l.length - (intOf i).toNat)
  case atStart => exact ⟨0, Nat.zero_le _, rfl, rfl, Below.refl _ _⟩
  case round =>
    obtain ⟨k, hk, rfl, rfl, hnx⟩ := hrel
    have hsz := hnx.size
    have HX := hidOg hnx
    clear hnx
    by_cases hlt : k < l.length
    · obtain ⟨b, off, rfl, hbB, hcs⟩ := (HS.out.below HX.out (Nat.le_refl _)) (by omega)
      have c0 := hcs k hlt
      clear hcs
      have HE := hidOg (adN_succ (h := h) hlt)
      have T := thr_add (adN h l k) (nG l k) wr (adN_lt HH.out l k) (HU.out.at hlt)
      obtain ⟨x, hx⟩ : ∃ x, x = nG l k := ⟨_, rfl⟩
      obtain ⟨q, hq⟩ : ∃ q, q = adN h l k := ⟨_, rfl⟩
      obtain ⟨r, hr⟩ : ∃ r, r = hId q x := ⟨_, rfl⟩
      rw [← hx, ← hq, ← hr] at HE T
      rw [← hx] at c0
      rw [← hq]
      clear hr hq hx
      go_wp2_with (first | (go_at_call 88; refine Calls.mono (bytesOf24' (x : Int) 89 _) ?_; rintro e w1 ⟨rfl, hw⟩; rw [hw]; clear hw w1) | (go_at_call 87; refine Calls.mono T ?_; rintro e w2 ⟨rfl, hb2⟩))
      go_roundw
      case rel => exact ⟨k + 1, by omega, by go_num, by rw [HE.out], HX.out.trans (hb2.mono hsz)⟩
      case measure => simp [intOf]; omega
    · obtain rfl : k = l.length := by omega
      go_wp2
      go_ret
      exact ⟨by rw [← adN_all]; rfl, HX.out⟩

end Go.Proofs.Ytjnhalomkmdcgaa
namespace Go.Proofs.Ytjnhalomkmdcgaa
open Go.RowKit
theorem of10 (p : Option Addr) (l : List Nat) (c : Nat) (w : World) (hS : NRow w.heap.size w p l) (hU : UN l) (hlen : l.length < 1152921504606846976) :
    Calls Try.prog 64 #[.slice p l.length c] w fun e w' => e = .returned (.int .u64 (hOf l : Nat)) ∧ Below w.heap.size w w' := by
  have CC := added19 14695981039346656037 p l c w (by decide) hS hU hlen
  have e0 : ((14695981039346656037 : Nat) : Int) = 14695981039346656037 := by simp
  rw [e0] at CC
  have HO : Hid (hOf l = l.foldl hId 14695981039346656037) := rfl
  obtain ⟨r, hr⟩ : ∃ r, r = l.foldl hId 14695981039346656037 := ⟨_, rfl⟩
  rw [← hr] at CC HO
  clear hr hS hU
  go_enter Try.func64, Try.ntmps64
  go_wp2_with (first | (go_at_call 76; refine Calls.mono CC ?_; rintro e w2 ⟨rfl, hb2⟩))
  go_ret
  exact ⟨by rw [HO.out]; rfl, hb2⟩
theorem nrow_one (w : World) (x : Nat) : NRow (w.alloc (.cells #[.int .u64 (x : Int)] 41)).heap.size (w.alloc (.cells #[.int .u64 (x : Int)] 41)) (some ⟨w.heap.size, 0, none⟩) [x] := by
  refine fun _ => ⟨w.heap.size, 0, rfl, by rw [World.size_alloc]; omega, fun k hk => ?_⟩
  obtain rfl : k = 0 := by rw [List.length_singleton] at hk; omega
  have e : nG [x] 0 = x := rfl
  rw [e, World.cell?_alloc_at _ _ _ _ rfl]; simp
theorem added_one (h x : Nat) (w : World) (hh : h < 18446744073709551616) (hx : x < 18446744073709551616) :
    Calls Try.prog 76 #[.int .u64 (h : Int), .slice (some ⟨w.heap.size, 0, none⟩) 1 1] (w.alloc (.cells #[.int .u64 (x : Int)] 41)) fun e w' => e = .returned (.int .u64 (hId h x : Nat)) ∧ Below w.heap.size w w' := by
  have CC := added19 h (some ⟨w.heap.size, 0, none⟩) [x] 1 (w.alloc (.cells #[.int .u64 (x : Int)] 41)) hh (nrow_one w x) (fun y hy => by rw [List.mem_singleton] at hy; rw [hy]; exact hx) (by rw [List.length_singleton]; omega)
  rw [List.foldl_cons, List.foldl_nil, List.length_singleton] at CC
  refine CC.mono ?_
  rintro e w' ⟨rfl, hb⟩
  exact ⟨rfl, below1 hb⟩
end Go.Proofs.Ytjnhalomkmdcgaa
namespace Go.Proofs.Ytjnhalomkmdcgaa
open Go.RowKit

theorem bit_of (x k : Nat) : x.testBit k = decide (x / 2 ^ k % 2 = 1) := Nat.testBit_eq_decide_div_mod_eq
theorem xor_bit (x y k : Nat) : (x ^^^ y) / 2 ^ k % 2 = if x / 2 ^ k % 2 = y / 2 ^ k % 2 then 0 else 1 := by
  have h := Nat.testBit_xor x y k
  rw [bit_of, bit_of, bit_of] at h
  have a := Nat.mod_lt (x / 2 ^ k) (show 2 > 0 by omega)
  have b := Nat.mod_lt (y / 2 ^ k) (show 2 > 0 by omega)
  have c := Nat.mod_lt ((x ^^^ y) / 2 ^ k) (show 2 > 0 by omega)
  generalize x / 2 ^ k % 2 = u at *
  generalize y / 2 ^ k % 2 = v at *
  generalize (x ^^^ y) / 2 ^ k % 2 = r at *
  have hu : u = 0 ∨ u = 1 := by omega
  have hv : v = 0 ∨ v = 1 := by omega
  have hr : r = 0 ∨ r = 1 := by omega
  rcases hu with rfl | rfl <;> rcases hv with rfl | rfl <;> rcases hr with rfl | rfl <;> simp at h ⊢
/-- The first k bits, turned. -/
def tuN (x y k : Nat) : Nat := (x ^^^ y) % 2 ^ k
theorem tuN_succ (x y k : Nat) : tuN x y (k + 1) = if x / 2 ^ k % 2 = y / 2 ^ k % 2 then tuN x y k else tuN x y k + 2 ^ k := by
  unfold tuN
  rw [Nat.mod_pow_succ, xor_bit]
  split <;> simp
theorem tuN_lt (x y k : Nat) : tuN x y k < 2 ^ k := Nat.mod_lt _ (Nat.two_pow_pos k)
theorem tuN_all {x y : Nat} (hx : x < 256) (hy : y < 256) : tuN x y 8 = x ^^^ y := Nat.mod_eq_of_lt (Nat.xor_lt_two_pow (n := 8) hx hy)
theorem hAdd_by (h b : Nat) (hb : b < 256) : hAdd h b = (h - h % 256 + tuN (h % 256) b 8) * 1099511628211 % 18446744073709551616 := by
  unfold hAdd
  rw [tuN_all (Nat.mod_lt _ (by omega)) hb]
  have e := xor_split (h / 256) (h % 256) b (Nat.mod_lt _ (by omega)) hb
  rw [Nat.div_add_mod] at e
  have e2 : h - h % 256 = 256 * (h / 256) := by omega
  rw [e, e2]
theorem pow_le {k : Nat} (hk : k ≤ 8) : 2 ^ k ≤ 256 := Nat.pow_le_pow_right (n := 2) (by omega) hk
theorem pow_le7 {k : Nat} (hk : k < 8) : 2 ^ k ≤ 128 := by have := Nat.pow_le_pow_right (n := 2) (i := k) (j := 7) (by omega) (by omega); omega

theorem hAdd_wrap {h low t r : Nat} (hl : low ≤ h) (hr : r = (h - low + t) * 1099511628211 % 18446744073709551616) :
    IntKind.u64.wrap (IntKind.u64.wrap (IntKind.u64.wrap ((h : Int) - (low : Int)) + (t : Int)) * 1099511628211) = (r : Int) := by
  have e1 : (h : Int) - (low : Int) = ((h - low : Nat) : Int) := by omega
  rw [e1, wrapu_nat, ← Int.natCast_add, wrapu_nat]
  have e2 : (1099511628211 : Int) = ((1099511628211 : Nat) : Int) := by simp
  rw [e2, ← Int.natCast_mul, wrapu_nat, hr, Nat.mod_add_mod, Nat.mod_mul_mod]
theorem below_drewN {B : Nat} {a w : World} (h : Below B a w) (n : Nat) : Below B a (w.drewN n) := ⟨h.os, h.tape, h.output, h.size, h.block⟩

set_option maxRecDepth 20000 in
theorem byte20 (h b : Nat) (w : World) (hh : h < 18446744073709551616) (hb : b < 256) :
    Calls Try.prog 80 #[.int .u64 (h : Int), .int .u8 (b : Int)] w fun e w' => e = .returned (.int .u64 (hAdd h b : Nat)) ∧ Below w.heap.size w w' := by
  have HA := hidOg (hAdd_by h b hb)
  have e0 : (h : Int) % 256 = ((h % 256 : Nat) : Int) := by omega
  have hl : h % 256 < 256 := Nat.mod_lt _ (by omega)
  have hle : h % 256 ≤ h := Nat.mod_le _ _
  obtain ⟨low, hlow⟩ : ∃ low, low = h % 256 := ⟨_, rfl⟩
  rw [← hlow] at HA e0 hl hle
  have HH := hidOg hh
  clear hlow hh
  go_enter Try.func80, Try.ntmps80
  go_wp2
  go_loopw [6, 7, 10] (fun t p i wr => ∃ k : Nat, k ≤ 8 ∧ i = .int .i64 k ∧ t = .int .u64 (tuN low b k : Nat) ∧ p = .int .u64 ((2 ^ k : Nat) : Int) ∧ Below w.heap.size w wr) (fun _ _ i _ => 8 - (intOf i).toNat)
  case atStart => exact ⟨0, by omega, rfl, by rw [show tuN low b 0 = 0 by unfold tuN; omega]; rfl, rfl, Below.refl _ _⟩
  case round =>
    obtain ⟨k, hk, rfl, rfl, rfl, hnx⟩ := hrel
    have HX := hidOg hnx
    clear hnx
    by_cases hlt : k < 8
    · have p7 := pow_le7 hlt
      have p0 : 0 < 2 ^ k := Nat.two_pow_pos k
      have HT := hidOg (tuN_succ low b k)
      have t0 := tuN_lt low b k
      have HP : Hid (2 ^ (k + 1) = 2 * 2 ^ k) := by unfold Hid; rw [Nat.pow_succ, Nat.mul_comm]
      obtain ⟨p, hp⟩ : ∃ p, p = 2 ^ k := ⟨_, rfl⟩
      obtain ⟨t, ht⟩ : ∃ t, t = tuN low b k := ⟨_, rfl⟩
      rw [← hp] at p7 p0 HT t0 HP ⊢
      rw [← ht] at HT t0 ⊢
      clear hp ht
      have eL : IntKind.u64.wrap ((low : Int) / (p : Int)) = ((low / p : Nat) : Int) := by
        rw [← Int.natCast_ediv, wrapu_nat, Nat.mod_eq_of_lt (Nat.lt_of_le_of_lt (Nat.div_le_self low p) (by omega))]
      have eB : IntKind.u64.wrap ((b : Int) / (p : Int)) = ((b / p : Nat) : Int) := by
        rw [← Int.natCast_ediv, wrapu_nat, Nat.mod_eq_of_lt (Nat.lt_of_le_of_lt (Nat.div_le_self b p) (by omega))]
      obtain ⟨u, hu⟩ : ∃ u, u = low / p := ⟨_, rfl⟩
      obtain ⟨v, hv⟩ : ∃ v, v = b / p := ⟨_, rfl⟩
      rw [← hu] at eL HT
      rw [← hv] at eB HT
      clear hu hv
      have tm : ∀ x : Nat, (x : Int).tmod 2 = ((x % 2 : Nat) : Int) := fun x => by rw [Int.tmod_eq_emod_of_nonneg (by omega)]; omega
      have eL2 := tm u
      have eB2 := tm v
      have eL3 : (u : Int) % 2 = ((u % 2 : Nat) : Int) := by omega
      have eB3 : (v : Int) % 2 = ((v % 2 : Nat) : Int) := by omega
      clear tm
      obtain ⟨u2, hu2⟩ : ∃ u2, u2 = u % 2 := ⟨_, rfl⟩
      obtain ⟨v2, hv2⟩ : ∃ v2, v2 = v % 2 := ⟨_, rfl⟩
      rw [← hu2] at eL2 eL3 HT
      rw [← hv2] at eB2 eB3 HT
      clear hu2 hv2
      by_cases hq : u2 = v2
      · rw [if_pos hq] at HT
        subst hq
        go_wp2
        go_quiet (fail)
        go_wp2
        go_roundw
        case rel => exact ⟨k + 1, by omega, by go_num, by rw [HT.out], by rw [HP.out]; go_num, below_drewN HX.out _⟩
        case measure => simp [intOf]; omega
      · rw [if_neg hq] at HT
        have e1 : ((u2 : Int) != (v2 : Int)) = true := by simp; omega
        clear hq
        go_wp2
        go_quiet (fail)
        go_wp2
        go_roundw
        case rel => exact ⟨k + 1, by omega, by go_num, by rw [HT.out]; go_num, by rw [HP.out]; go_num, below_drewN HX.out _⟩
        case measure => simp [intOf]; omega
    · obtain rfl : k = 8 := by omega
      have HW := hidOg (hAdd_wrap hle HA.out)
      obtain ⟨t, ht⟩ : ∃ t, t = tuN low b 8 := ⟨_, rfl⟩
      rw [← ht] at HW
      rw [← ht]
      clear ht HA
      go_wp2
      go_ret
      exact ⟨by rw [← HW.out]; rfl, HX.out⟩

/-- What is left of an id, k bytes being taken. -/
theorem byN_next (id k : Nat) : id / 256 ^ k / 256 = id / 256 ^ (k + 1) := by rw [Nat.div_div_eq_div_mul, ← Nat.pow_succ]
set_option maxRecDepth 20000 in
theorem refAdd14 (h id : Nat) (w : World) (hh : h < 18446744073709551616) (hid : id < 18446744073709551616) :
    Calls Try.prog 68 #[.int .u64 (h : Int), .int .u64 (id : Int)] w fun e w' => e = .returned (.int .u64 (hId h id : Nat)) ∧ Below w.heap.size w w' := by
  have HH := hidOg hh
  have HI := hidOg hid
  clear hh hid
  go_enter Try.func68, Try.ntmps68
  go_wp2
  go_loopw [0, 1, 5] (fun v d i wr => ∃ k : Nat, k ≤ 8 ∧ i = .int .i64 k ∧ v = .int .u64 (hAddN h id k : Nat) ∧ d = .int .u64 ((id / 256 ^ k : Nat) : Int) ∧ Below w.heap.size w wr) (fun _ _ i _ => 8 - (intOf i).toNat)
  case atStart => exact ⟨0, by omega, rfl, rfl, by rw [Nat.pow_zero, Nat.div_one], Below.refl _ _⟩
  case round =>
    obtain ⟨k, hk, rfl, rfl, rfl, hnx⟩ := hrel
    have HX := hidOg hnx
    clear hnx
    by_cases hlt : k < 8
    · have CB := fun (W : World) => byte20 (hAddN h id k) (byN id k) W (hAddN_lt HH.out id k) (byN_lt id k)
      have HE : Hid (hAddN h id (k + 1) = hAdd (hAddN h id k) (byN id k)) := rfl
      have HN := hidOg (byN_next id k)
      have hq : id / 256 ^ k < 18446744073709551616 := Nat.lt_of_le_of_lt (Nat.div_le_self _ _) HI.out
      have eb : Hid (byN id k = id / 256 ^ k % 256) := rfl
      have hb := byN_lt id k
      obtain ⟨q, hq'⟩ : ∃ q, q = id / 256 ^ k := ⟨_, rfl⟩
      rw [← hq'] at HN hq eb ⊢
      obtain ⟨x, hx⟩ : ∃ x, x = byN id k := ⟨_, rfl⟩
      obtain ⟨y, hy⟩ : ∃ y, y = hAddN h id k := ⟨_, rfl⟩
      obtain ⟨z, hz⟩ : ∃ z, z = hAdd y x := ⟨_, rfl⟩
      rw [← hx, ← hy, ← hz] at HE CB
      rw [← hx] at eb hb
      rw [← hy]
      have e1 : (q : Int) % 256 = (x : Int) := by rw [eb.out]; omega
      have e2 : IntKind.u8.wrap (x : Int) = (x : Int) := by simp [IntKind.wrap, IntKind.bits, IntKind.signed]; omega
      clear hq' hx hy hz eb
      go_wp2_with (first | (go_at_call 80; refine Calls.mono (CB _) ?_; rintro e w1 ⟨rfl, hb1⟩))
      go_roundw
      case rel => exact ⟨k + 1, by omega, by go_num, by rw [HE.out], by rw [← HN.out]; go_num, HX.out.trans (hb1.mono HX.out.size)⟩
      case measure => simp [intOf]; omega
    · obtain rfl : k = 8 := by omega
      go_wp2
      go_ret
      exact ⟨rfl, HX.out⟩
set_option maxRecDepth 20000 in
theorem refOf11 (p : Option Addr) (l : List Nat) (c : Nat) (w : World) (hS : NRow w.heap.size w p l) (hU : UN l) (hlen : l.length < 1152921504606846976) :
    Calls Try.prog 53 #[.slice p l.length c] w fun e w' => e = .returned (.int .u64 (hOf l : Nat)) ∧ Below w.heap.size w w' := by
  have HS := hidOg hS
  have HU := hidOg hU
  clear hS hU
  go_enter Try.func53, Try.ntmps53
  go_wp2
  go_loopw [3, 8] (fun v i wr => ∃ k : Nat, k ≤ l.length ∧ i = .int .i64 k ∧ v = .int .u64 (adN 14695981039346656037 l k : Nat) ∧ Below w.heap.size w wr) (fun _ i _ => l.length - (intOf i).toNat)
  case atStart => exact ⟨0, Nat.zero_le _, rfl, by rw [show adN 14695981039346656037 l 0 = 14695981039346656037 from rfl]; simp, Below.refl _ _⟩
  case round =>
    obtain ⟨k, hk, rfl, rfl, hnx⟩ := hrel
    have hsz := hnx.size
    have HX := hidOg hnx
    clear hnx
    by_cases hlt : k < l.length
    · obtain ⟨b, off, rfl, hbB, hcs⟩ := (HS.out.below HX.out (Nat.le_refl _)) (by omega)
      have c0 := hcs k hlt
      clear hcs
      have HE := hidOg (adN_succ (h := 14695981039346656037) hlt)
      have T := refAdd14 (adN 14695981039346656037 l k) (nG l k) wr (adN_lt (by decide) l k) (HU.out.at hlt)
      obtain ⟨x, hx⟩ : ∃ x, x = nG l k := ⟨_, rfl⟩
      obtain ⟨q, hq⟩ : ∃ q, q = adN 14695981039346656037 l k := ⟨_, rfl⟩
      obtain ⟨r, hr⟩ : ∃ r, r = hId q x := ⟨_, rfl⟩
      rw [← hx, ← hq, ← hr] at HE T
      rw [← hx] at c0
      rw [← hq]
      clear hr hq hx
      go_wp2_with (first | (go_at_call 68; refine Calls.mono T ?_; rintro e w2 ⟨rfl, hb2⟩))
      go_roundw
      case rel => exact ⟨k + 1, by omega, by go_num, by rw [HE.out], HX.out.trans (hb2.mono hsz)⟩
      case measure => simp [intOf]; omega
    · obtain rfl : k = l.length := by omega
      go_wp2
      go_ret
      exact ⟨by unfold hOf; rw [← adN_all]; rfl, HX.out⟩
end Go.Proofs.Ytjnhalomkmdcgaa
