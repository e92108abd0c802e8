/- ColumnRows: what Get, Swap and Set come to, and small calls. -/
import Derived.Test.YtkbikngkhaeakaaBx
import Derived.Test.YtkbikngkhaeakaaTc
import Derived.Test.YtkbikngkhaeakaaRfF
import Derived.Test.YtkbikngkhaeakaaWk
import Derived.Test.YtkbikngkhaeakaaRfE
namespace Go.Proofs.Ytkbikngkhaeakaa
open Go.RowKit

theorem r12b (wd rs : Int) (p : Option Addr) (n c : Nat) (w : World) : Calls Try.prog 12 #[.agg #[.int .i64 wd, .int .i64 rs, .slice p n c]] w fun e w' => e = .returned (.bool (mayB wd rs n)) ∧ Below w.heap.size w w' :=
  (right12 wd rs p n c w).mono fun _ _ ⟨he, hw⟩ => ⟨he, by rw [hw]; exact bal _ _⟩
theorem same0 (q : Option Addr) (k : Nat) (q' : Option Addr) (k' : Nat) (X : World) : Calls Try.prog 14 #[.agg #[.int .i64 0, .int .i64 0, .slice q 0 k], .agg #[.int .i64 0, .int .i64 0, .slice q' 0 k']] X fun e w' => e = .returned (.bool true) ∧ Below X.heap.size X w' := by
  have := refSame14 0 0 q [] k 0 0 q' [] k' X (fun h => by simp at h) (fun h => by simp at h) (by simp)
  rw [samC_refl] at this
  exact this
theorem eq0 (q : Option Addr) (k : Nat) (q' : Option Addr) (k' : Nat) (X : World) : Calls Try.prog 21 #[.slice q 0 k, .slice q' 0 k'] X fun e w' => e = .returned (.bool true) ∧ Below X.heap.size X w' := by
  have := equal21 q [] k q' [] k' X (fun h => by simp at h) (fun h => by simp at h) (by simp)
  rw [samI_refl] at this
  exact this
theorem no_may {wd rs : Int} {L : List Int} (h : mayB wd rs L.length = false) (row : Int) : gA wd rs L row = ([], 180) ∧ sA wd rs L row = (zC, 180) ∧ ∀ v, tA wd rs L row v = (zC, 180) := by
  unfold gA sA tA
  rw [h]
  exact ⟨rfl, rfl, fun _ => rfl⟩
theorem no_row {W R : Nat} {L : List Int} (h : mayB (W : Int) (R : Int) L.length = true) {row : Int} (hr : hasB (R : Int) row = false) : gA (W : Int) (R : Int) L row = ([], 2) ∧ sA (W : Int) (R : Int) L row = (zC, 2) ∧ ∀ v, tA (W : Int) (R : Int) L row v = (zC, 2) := by
  unfold gA sA tA
  rw [h]
  unfold getV getE swpA setA
  simp only [Int.toNat_natCast, hr]
  exact ⟨rfl, rfl, fun _ => rfl⟩
theorem has_nat {R r : Nat} (hr : r < R) : hasB (R : Int) (r : Int) = true := by unfold hasB; simp; omega
theorem is_sw {W R r : Nat} {L : List Int} (h : mayB (W : Int) (R : Int) L.length = true) (hr : r < R) : sA (W : Int) (R : Int) L (r : Int) = (((W : Int), ((R - 1 : Nat) : Int), (swO (chK W R L) r).flatten), 0) := by
  unfold sA
  rw [h]
  unfold swpA
  simp only [Int.toNat_natCast, has_nat hr]
  rfl
theorem is_set {W R r : Nat} {L : List Int} (h : mayB (W : Int) (R : Int) L.length = true) (hr : r < R) (v : List Int) : tA (W : Int) (R : Int) L (r : Int) v = if v.length = W then (((W : Int), (R : Int), ((chK W R L).set r v).flatten), 0) else (zC, 140) := by
  unfold tA
  rw [h]
  unfold setA
  simp only [Int.toNat_natCast, has_nat hr]
  rfl
/-- A row that is owned below a number stays where only what is above it turns. -/
theorem OwnR.by {B N : Nat} {w w' : World} {p : Option Addr} {l : List Int} {c : Nat} (h : OwnR B w p l c) (hb : Be N w w') (hN : w.heap.size ≤ N) : OwnR B w' p l c := h.to (hb.b.mono hN)
theorem rw_len {W R r : Nat} {L : List Int} : ((swO (chK W R L) r).length : Int) = ((R - 1 : Nat) : Int) := by rw [swO_len, chK_len]
theorem get0 {wd rs : Int} {L : List Int} {row E : Int} (hg : gA wd rs L row = ([], E)) (q : Option Addr) (k : Nat) (X : World) (hR : Row X q L k) (hc : k ≤ maxLen) : Calls Try.prog 23 #[.agg #[.int .i64 wd, .int .i64 rs, .slice q L.length k], .int .i64 row] X fun e w' => ∃ q' c', e = .returned (.tuple #[.slice q' 0 c', .int .i64 E]) ∧ OwnR X.heap.size w' q' [] c' ∧ Below X.heap.size X w' := by
  have := get23 wd rs q L k row X hR hc
  rw [hg] at this
  exact this
theorem get1 {wd rs : Int} {L : List Int} {row E : Int} {U : List Int} {W : Nat} (hg : gA wd rs L row = (U, E)) (hU : U.length = W) (q : Option Addr) (k : Nat) (X : World) (hR : Row X q L k) (hc : k ≤ maxLen) : Calls Try.prog 23 #[.agg #[.int .i64 wd, .int .i64 rs, .slice q L.length k], .int .i64 row] X fun e w' => ∃ q' c', e = .returned (.tuple #[.slice q' W c', .int .i64 E]) ∧ OwnR X.heap.size w' q' U c' ∧ Below X.heap.size X w' := by
  have := get23 wd rs q L k row X hR hc
  rw [hg] at this
  subst hU
  exact this
theorem swap0 {wd rs : Int} {L : List Int} {row E : Int} (hg : sA wd rs L row = (zC, E)) (q : Option Addr) (k : Nat) (X : World) (hR : Row X q L k) (hc : k ≤ maxLen) : Calls Try.prog 24 #[.agg #[.int .i64 wd, .int .i64 rs, .slice q L.length k], .int .i64 row] X fun e w' => ∃ q' c', e = .returned (.tuple #[.agg #[.int .i64 0, .int .i64 0, .slice q' 0 c'], .int .i64 E]) ∧ OwnR X.heap.size w' q' [] c' ∧ Below X.heap.size X w' := by
  have := swap24 wd rs q L k row X hR hc
  rw [hg] at this
  exact this
theorem swap1 {wd rs : Int} {L : List Int} {row E a b : Int} {M : List Int} (hg : sA wd rs L row = ((a, b, M), E)) (q : Option Addr) (k : Nat) (X : World) (hR : Row X q L k) (hc : k ≤ maxLen) : Calls Try.prog 24 #[.agg #[.int .i64 wd, .int .i64 rs, .slice q L.length k], .int .i64 row] X fun e w' => ∃ q' c', e = .returned (.tuple #[.agg #[.int .i64 a, .int .i64 b, .slice q' M.length c'], .int .i64 E]) ∧ OwnR X.heap.size w' q' M c' ∧ Below X.heap.size X w' := by
  have := swap24 wd rs q L k row X hR hc
  rw [hg] at this
  exact this
theorem set0 {wd rs : Int} {L : List Int} {row E : Int} {u : List Int} (hg : tA wd rs L row u = (zC, E)) (q : Option Addr) (k : Nat) (pu : Option Addr) (cu : Nat) (X : World) (hR : Row X q L k) (hc : k ≤ maxLen) (hI : IRow .u64 X.heap.size X pu u) : Calls Try.prog 27 #[.agg #[.int .i64 wd, .int .i64 rs, .slice q L.length k], .int .i64 row, .slice pu u.length cu] X fun e w' => ∃ q' c', e = .returned (.tuple #[.agg #[.int .i64 0, .int .i64 0, .slice q' 0 c'], .int .i64 E]) ∧ OwnR X.heap.size w' q' [] c' ∧ Below X.heap.size X w' := by
  have := set27 wd rs q L k row pu u cu X hR hc hI
  rw [hg] at this
  exact this
theorem set1 {wd rs : Int} {L : List Int} {row E a b : Int} {u M : List Int} {W : Nat} (hg : tA wd rs L row u = ((a, b, M), E)) (hu : u.length = W) (q : Option Addr) (k : Nat) (pu : Option Addr) (cu : Nat) (X : World) (hR : Row X q L k) (hc : k ≤ maxLen) (hI : IRow .u64 X.heap.size X pu u) : Calls Try.prog 27 #[.agg #[.int .i64 wd, .int .i64 rs, .slice q L.length k], .int .i64 row, .slice pu W cu] X fun e w' => ∃ q' c', e = .returned (.tuple #[.agg #[.int .i64 a, .int .i64 b, .slice q' M.length c'], .int .i64 E]) ∧ OwnR X.heap.size w' q' M c' ∧ Below X.heap.size X w' := by
  have := set27 wd rs q L k row pu u cu X hR hc hI
  rw [hg] at this
  subst hu
  exact this
/-- The column of rows that are known. -/
theorem of1 {W i1 : Int} {A M : List (List Int)} {F : List Int} (hF : F = A.flatten) (hl : (A.length : Int) = i1) (hn : A.length ≤ 1000) (hf : F.length ≤ 1000) (hM : M = A) (q : Option Addr) (Y : List RR) (d : Nat) (X : World) (hY : lS Y = M) (hR : VRow X.heap.size X q Y) : Calls Try.prog 16 #[.int .i64 W, .slice q Y.length d] X fun e w' => ∃ q' c', e = .returned (.agg #[.int .i64 W, .int .i64 i1, .slice q' F.length c']) ∧ OwnR X.heap.size w' q' F c' ∧ Below X.heap.size X w' := by
  subst hM
  have hyl : Y.length = M.length := by rw [← hY, lS_len]
  have := of16 W q Y d X hR (by omega) (by rw [catN_all, hY, ← hF]; omega)
  rw [hY, ← hF, hyl, hl, ← hyl] at this
  exact this
/-- A box that is written to is no row's block. -/
theorem OwnR.box3 {B K : Nat} {W : World} {q : Option Addr} {l : List Int} {c : Nat} {cs : Array Value} (h : OwnR B W q l c) (hK : W.heap[K]? = some (.cells cs 24 (0, 0))) (x y z : Value) : OwnR B (((W.setCell ⟨K, 0, none⟩ x).setCell ⟨K, 1, none⟩ y).setCell ⟨K, 2, none⟩ z) q l c := by
  have hne : ∀ a, q = some a → a.block ≠ K := by
    intro a ha
    rcases h.o.2 with ⟨e, _⟩ | ⟨G, cap, cur, e, hG, hh, _⟩
    · rw [ha] at e; injection e with e1; cases e1
    · rw [ha] at e
      injection e with e1
      injection e1 with e1
      subst e1
      intro hk
      simp only at hk
      subst hk
      rw [hh] at hK
      injection hK with hK
      injection hK with _ h2
      cases h2
  exact ((h.setCell (a := ⟨K, 0, none⟩) hne x).setCell (a := ⟨K, 1, none⟩) hne y).setCell (a := ⟨K, 2, none⟩) hne z
theorem same1 (a b : Int) (M : List Int) (hM : M.length ≤ 1000) (q : Option Addr) (k : Nat) (q' : Option Addr) (k' : Nat) (X : World) (h1 : IRow .u64 X.heap.size X q M) (h2 : IRow .u64 X.heap.size X q' M) : Calls Try.prog 14 #[.agg #[.int .i64 a, .int .i64 b, .slice q M.length k], .agg #[.int .i64 a, .int .i64 b, .slice q' M.length k']] X fun e w' => e = .returned (.bool true) ∧ Below X.heap.size X w' := by
  have := refSame14 a b q M k a b q' M k' X h1 h2 (by omega)
  rw [samC_refl] at this
  exact this
theorem eq1 {U : List Int} {W : Nat} (hU : U.length = W) (hW : W ≤ 4) (q : Option Addr) (k : Nat) (q' : Option Addr) (k' : Nat) (X : World) (h1 : IRow .u64 X.heap.size X q U) (h2 : IRow .u64 X.heap.size X q' U) : Calls Try.prog 21 #[.slice q W k, .slice q' W k'] X fun e w' => e = .returned (.bool true) ∧ Below X.heap.size X w' := by
  subst hU
  have := equal21 q U k q' U k' X h1 h2 (by omega)
  rw [samI_refl] at this
  exact this
theorem set3far {W : World} {R b i : Nat} {v x y z : Value} (hR : R ≠ b) (h : W.cell? ⟨b, i, none⟩ = some v) : (((W.setCell ⟨R, 0, none⟩ x).setCell ⟨R, 1, none⟩ y).setCell ⟨R, 2, none⟩ z).cell? ⟨b, i, none⟩ = some v := by
  have := set3_other (W := W) (x' := x) (y' := y) (z' := z) hR
  rw [← h]
  simp only [World.cell?, this]
theorem left_len {W R r : Nat} {L : List Int} (hl : L.length = W * R) (hr : r < R) : ((swO (chK W R L) r).flatten).length = W * (R - 1) := by
  have h1 : ∀ x ∈ swO (chK W R L) r, x.length = W := swO_mem (fun x hx => chK_mem hl hx) (by rw [chK_len]; exact hr)
  rw [flat_len h1, swO_len, chK_len]
end Go.Proofs.Ytkbikngkhaeakaa
