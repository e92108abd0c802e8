/- strconv.FormatUint at base 16. -/
import Derived.Test.YtofobpijkceldaaDoorMod
import Derived.Test.YtofobpijkceldaaDoorHex
import Derived.Laws.IdiomStrings
import Derived.Deep.WholeRow
import Derived.Lib.ItoaWalk
namespace Go.Proofs.YtofobpijkceldaaDoor
open Go.RowKit

/-- The table of math/bits that is read at 16. -/
def Tb (w : World) : Prop := w.cell? ⟨3, 15, none⟩ = some (.int .u8 4) ∧ 3 < w.heap.size
theorem Tb.below {n : Nat} {w w' : World} (h : Tb w) (hn : 3 < n) (hb : Below n w w') : Tb w' := ⟨(hb.cell (p := ⟨3, 15, none⟩) (by simpa using hn)).trans h.1, Nat.lt_of_lt_of_le h.2 hb.size⟩
theorem Tb.to {w w' : World} (h : Tb w) (hb : Below w.heap.size w w') : Tb w' := h.below h.2 hb

theorem tz64 (w : World) (h : Tb w) : Calls Tryd.prog 64 #[.int .u64 16] w fun e w' => e = .returned (.int .i64 4) ∧ w' = w := by
  have h1 := h.1
  clear h
  have e1 : bits .and .u64 16 (IntKind.u64.wrap (-16)) = 16 := by decide
  have e2 : IntKind.u64.wrap (16 * 285870213051353865) = 4573923408821661840 := by decide
  have e3 : IntKind.u64.wrap 4573923408821661840 = 4573923408821661840 := by decide
  go_enter Tryd.func64, Tryd.ntmps64
  go_wp2
  go_ret
  exact ⟨rfl, rfl⟩
theorem tz58 (w : World) (h : Tb w) : Calls Tryd.prog 58 #[.int .u64 16] w fun e w' => e = .returned (.int .i64 4) ∧ w' = w := by
  have CC := tz64 w h
  clear h
  go_enter Tryd.func58, Tryd.ntmps58
  go_wp2_with (first | (go_at_call 64; refine Calls.mono CC ?_; rintro e w1 ⟨rfl, rfl⟩))
  go_ret
  exact ⟨rfl, rfl⟩
theorem pow57 (w : World) : Calls Tryd.prog 57 #[.int .i64 16] w fun e w' => e = .returned (.bool true) ∧ w' = w := by
  have e1 : bits .and .i64 16 15 = 0 := by decide
  go_enter Tryd.func57, Tryd.ntmps57
  go_wp2
  go_ret
  exact ⟨rfl, rfl⟩

/-- The 65 places in which a word's digits are laid. -/
def Buf (w : World) (G : Nat) (f : Nat → Int) : Prop := ∀ t, t < 65 → w.cell? ⟨G, t, none⟩ = some (.int .u8 (f t)) ∧ w.frozen? ⟨G, t, none⟩ = false
theorem Buf.set {w : World} {G : Nat} {f : Nat → Int} (h : Buf w G f) (i : Nat) (hi : i < 65) (x : Int) : Buf (w.setCell ⟨G, i, none⟩ (.int .u8 x)) G (fun t => if t = i then x else f t) := by
  intro t ht
  obtain ⟨h1, h2⟩ := h t ht
  obtain ⟨g1, _⟩ := h i hi
  by_cases e : t = i
  · subst e
    refine ⟨by simp only []; rw [if_pos trivial]; exact World.cell?_setCell_same _ _ _ g1, by simp [go_sem, h2]⟩
  · refine ⟨by simp only []; rw [if_neg e, World.cell?_setCell_other _ _ _ _ (by simp)]; exact h1, by simp [go_sem, h2]⟩
theorem buf_new (w : World) (t : TypeId) : Buf (w.alloc (.cells (Array.replicate 65 (.int .u8 0)) t)) w.heap.size (fun _ => 0) := by
  intro k hk
  refine ⟨?_, World.frozen?_alloc_new _ _ _ _⟩
  rw [World.cell?_alloc_at _ _ _ _ rfl]
  simp [hk]
theorem zero91 : ∀ w, (zeroValue 91).run Tryd.prog w = .ok (.agg (Array.replicate 65 (.int .u8 0))) w := (zero_of_info (P := Tryd.prog) (t := 91) (n := 65) (by kernel_rfl)).1
/-- What lies behind place 65 - j. -/
def Tail (f : Nat → Int) (j : Nat) (S : List UInt8) : Prop := ∀ t (h : t < S.length), f (65 - j + t) = (S[t].toNat : Int)
theorem Tail.cons {f : Nat → Int} {j : Nat} {S : List UInt8} (h : Tail f j S) (hl : S.length = j) (hj : j ≤ 15) (b : UInt8) : Tail (fun t => if t = 64 - j then (b.toNat : Int) else f t) (j + 1) (b :: S) := by
  intro t ht
  cases t with
  | zero => simp only []; rw [if_pos (by omega)]; rfl
  | succ t =>
    have ht' : t < S.length := by simpa using ht
    simp only []
    rw [if_neg (by omega), show 65 - (j + 1) + (t + 1) = 65 - j + t by omega]
    exact h t ht'

set_option maxRecDepth 100000 in
set_option maxHeartbeats 4000000 in
theorem bits52 (n : Nat) (hn : n < 18446744073709551616) (w : World) (hT : Tb w) :
    Calls Tryd.prog 52 #[.slice none 0 0, .int .u64 n, .int .i64 16, .bool false, .bool false] w fun e w' => e = .returned (.tuple #[.slice none 0 0, .string ⟨(hexW n).toArray⟩]) ∧ Below w.heap.size w w' := by
  have CT := fun (W : World) (h : Below w.heap.size w W) => tz58 W (hT.to h)
  have CP := fun (W : World) => pow57 W
  have hz := zero91
  have hB1 : Below w.heap.size w (w.alloc (.cells (Array.replicate 65 (.int .u8 0)) 91)) := (Below.refl _ _).alloc (Nat.le_refl _) _
  clear hT
  go_enter Tryd.func52, Tryd.ntmps52
  go_name_bytes S0 hS0
  clear hS0
  go_name_bytes SM hSM
  have eSM : SM = digs := by rw [← hSM]; decide +kernel
  subst eSM
  clear hSM
  go_wp2_with (first | (go_at_call 57; refine Calls.mono (CP _) ?_; rintro e w1 ⟨rfl, hw⟩; rw [hw]; clear hw w1) | (go_at_call 58; refine Calls.mono (CT _ hB1) ?_; rintro e w1 ⟨rfl, hw⟩; rw [hw]; clear hw w1))
  have hBf := buf_new w 91
  go_loopw [1, 13] (fun vu vi wr => ∃ (v j k : Nat) (S : List UInt8) (f : Nat → Int), vu = .int .u64 v ∧ vi = .int .i64 k ∧ k + j = 65 ∧ HexI n v j S ∧ Buf wr w.heap.size f ∧ Tail f j S ∧ Below w.heap.size w wr) (fun vu _ _ => (intOf vu).toNat)
  case atStart => exact ⟨n, 0, 65, [], _, rfl, rfl, rfl, HexI.start hn, hBf, fun t h => by simp at h, hB1⟩
  case round =>
    obtain ⟨v, j, k, S, f, rfl, rfl, hk, hI, hBu, hTl, hbr⟩ := hrel
    clear hBf hB1 CT CP hz
    have hj15 := hI.j15
    have hv64 : v < 18446744073709551616 := by
      have := hI.bd
      have h2 : 16 ^ (16 - j) ≤ 16 ^ 16 := Nat.pow_le_pow_right (by omega) (by omega)
      have h3 : (16 : Nat) ^ 16 = 18446744073709551616 := by decide
      omega
    obtain ⟨m, rfl⟩ : ∃ m, k = m + 1 := ⟨k - 1, by omega⟩
    obtain ⟨c0, f0⟩ := hBu m (by omega)
    have HI := hidOg hI
    have HB := hidOg hBu
    have HT := hidOg hTl
    have HX := hidOg hbr
    have hmj : m = 64 - j := by omega
    have HM := hidOg hmj
    clear hI hBu hTl hbr hmj
    by_cases hv : 16 ≤ v
    · have hj14 := HI.out.j14 hv
      have hv' : (16 : Int) ≤ (v : Int) := by omega
      have ix : ∀ W, (Instr.index 9 (.string digs) (.int .u64 ((v : Int) % 16))).run Tryd.prog W = .ok (.int .u8 ((hexD (v % 16)).toNat : Int)) W := fun W => idx_digs 9 Tryd.underlying9 .u64 _ (v % 16) (by omega) (by omega) W
      have ea := and15 (v : Int) (by omega) (by omega)
      go_wp2
      go_roundw
      case rel => exact ⟨v / 16, j + 1, m, _, _, by go_num, rfl, by omega, HI.out.step hv, HB.out.set m (by omega) _, by rw [HM.out]; exact HT.out.cons HI.out.len (by omega) _, HX.out.setCell (p := ⟨w.heap.size, m, none⟩) (by simp) _⟩
      case measure => simp [intOf]; omega
    · have hv' : ¬ ((16 : Int) ≤ (v : Int)) := by omega
      have ix : ∀ W, (Instr.index 9 (.string digs) (.int .u64 (v : Int))).run Tryd.prog W = .ok (.int .u8 ((hexD v).toNat : Int)) W := fun W => idx_digs 9 Tryd.underlying9 .u64 _ v (by omega) rfl W
      have hcv : (convert 83 9 (.slice (some ⟨w.heap.size, m, none⟩) (hexW n).length (hexW n).length)).run Tryd.prog (wr.setCell ⟨w.heap.size, m, none⟩ (.int .u8 ((hexD v).toNat : Int))) = .ok (.string ⟨(hexW n).toArray⟩) (wr.setCell ⟨w.heap.size, m, none⟩ (.int .u8 ((hexD v).toNat : Int))) := by
        refine run_convert_bytes_back (P := Tryd.prog) _ 83 9 5 ⟨w.heap.size, m, none⟩ _ (hexW n) Tryd.underlying83 Tryd.underlying5 Tryd.underlying9 fun t ht => ?_
        have hE := HI.out.done (by omega)
        have hT := HT.out.cons HI.out.len (by omega) (hexD v)
        have hB := HB.out.set m (by omega) ((hexD v).toNat : Int)
        rw [HM.out] at hB ⊢
        have hlen : (hexW n).length = j + 1 := by rw [hE]; simp [HI.out.len]
        rw [addr_add, (hB (64 - j + t) (by omega)).1]
        have := hT t (by rw [← hE]; exact ht)
        rw [show 65 - (j + 1) + t = 64 - j + t by omega] at this
        rw [this]
        simp only [hE]
      have hlen : (hexW n).length = j + 1 := by rw [HI.out.done (by omega)]; simp [HI.out.len]
      have hsl : ∀ W, (Instr.sliceAt 91 (.pointer (some ⟨w.heap.size, 0, none⟩)) (some (.int .i64 (m : Int))) none none).run Tryd.prog W = .ok (.slice (some ⟨w.heap.size, m, none⟩) (hexW n).length (hexW n).length) W := fun W => by
        have hal : Tryd.prog.arrayLen 91 = 65 := by simp [Program.arrayLen, Tryd.underlying91]
        rw [run_sliceAt_array_l W 91 ⟨w.heap.size, 0, none⟩ (by simp [Program.arrayLen, Program.elem, Tryd.underlying91]) .i64 (m : Int) (by omega) (by rw [hal]; omega), hlen]
        go_simp
        omega
      clear hlen
      go_wp2
      go_ret2
      exact ⟨rfl, HX.out.setCell (p := ⟨w.heap.size, m, none⟩) (by simp) _⟩
theorem fmt46 (n : Nat) (hn : n < 18446744073709551616) (w : World) (hT : Tb w) :
    Calls Tryd.prog 46 #[.int .u64 n, .int .i64 16] w fun e w' => e = .returned (.string ⟨(hexW n).toArray⟩) ∧ Below w.heap.size w w' := by
  have CC := bits52 n hn w hT
  clear hT
  go_enter Tryd.func46, Tryd.ntmps46
  go_wp2_with (first | (go_at_call 52; refine Calls.mono CC ?_; rintro e w1 ⟨rfl, hb⟩))
  go_ret
  exact ⟨rfl, hb⟩
theorem fmt42 (n : Nat) (hn : n < 18446744073709551616) (w : World) (hT : Tb w) :
    Calls Tryd.prog 42 #[.int .u64 n, .int .i64 16] w fun e w' => e = .returned (.string ⟨(hexW n).toArray⟩) ∧ Below w.heap.size w w' := by
  have CC := fmt46 n hn w hT
  clear hT
  go_enter Tryd.func42, Tryd.ntmps42
  go_wp2_with (first | (go_at_call 46; refine Calls.mono CC ?_; rintro e w1 ⟨rfl, hb⟩))
  go_ret
  exact ⟨rfl, hb⟩
end Go.Proofs.YtofobpijkceldaaDoor
