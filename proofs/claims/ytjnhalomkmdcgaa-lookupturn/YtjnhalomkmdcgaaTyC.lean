/- Rows of numbers as cells; 'copy' into a row of the call's own; join. -/
import Derived.Test.YtjnhalomkmdcgaaTyB
import Derived.Laws.CopyOwn
import Derived.Laws.IdiomCopy
namespace Go.Proofs.Ytjnhalomkmdcgaa
open Go.RowKit

theorem run_copy_rowK {P : Program} (w : World) (dT sT ty elem : TypeId) (size g o dLen dCap : Nat) (a : Addr) (sLen sCap : Nat) (cur : Array Value) (t : TypeId) (cs : List Value)
    (hu : P.underlying dT = some (.slice elem)) (hs : (P.info? elem).map (·.size) = some size)
    (hg : w.heap[g]? = some (.cells cur t (0, 0))) (hn : cs.length = Nat.min sLen dLen * size)
    (hsrc : ∀ j v, cs[j]? = some v → w.cell? (a.add j) = some v) (hfit : o + cs.length ≤ cur.size) (h1 : ∀ v ∈ cs, v.oneCell' = true) :
    (Builtin.copy_ #[dT, sT] ty #[.slice (some ⟨g, o, none⟩) dLen dCap, .slice (some a) sLen sCap]).run P w =
      .ok (goInt (Nat.min sLen dLen : Nat)) (w.setRow g (cur.toList.take o ++ cs ++ cur.toList.drop (o + cs.length)).toArray) := by
  have hl := run_loadCells_list (P := P) w a cs hsrc
  have hst := run_storeCells_at P g o t cs 0 cur w hg (by simpa using hfit) h1
  cases hq : P.info? elem with
  | none => simp [hq] at hs
  | some i =>
    have hi : i.size = size := by simpa [hq] using hs
    simp [Builtin.copy_, run_underlying hu, Builtin.lenOf, Builtin.firstCells, sizeOf, typeInfo, hq, hi, ← hn, hl, hst]
theorem run_copy_noneK {P : Program} (w : World) (dT sT ty elem : TypeId) (size : Nat) (d a : Option Addr) (dLen dCap sLen sCap : Nat) (hu : P.underlying dT = some (.slice elem)) (hs : (P.info? elem).map (·.size) = some size) (hn : Nat.min sLen dLen = 0) :
    (Builtin.copy_ #[dT, sT] ty #[.slice d dLen dCap, .slice a sLen sCap]).run P w = .ok (goInt 0) w := by
  cases hq : P.info? elem with
  | none => simp [hq] at hs
  | some i =>
    have hl : ∀ (x : Addr), (loadCells x 0).run P w = .ok #[] w := fun x => by simpa using run_loadCells_list (P := P) w x [] (by simp)
    cases d <;> cases a <;> simp [Builtin.copy_, run_underlying hu, Builtin.lenOf, Builtin.firstCells, sizeOf, typeInfo, hq, hn, storeCells, hl]

theorem copyK_ex {P : Program} (w : World) (dT sT ty elem : TypeId) (size : Nat) (hu : P.underlying dT = some (.slice elem)) (hsz : (P.info? elem).map (·.size) = some size)
    (dp sp : Option Addr) (dLen dCap sLen sCap : Nat)
    (g off : Nat) (cur : List Value) (t : TypeId) (hg : w.heap[g]? = some (.cells cur.toArray t (0, 0))) (cs : List Value) (N : Nat) (hN : N = Nat.min sLen dLen) (hn : cs.length = N * size)
    (hpos : 0 < N → dp = some ⟨g, off, none⟩ ∧ ∃ ad, sp = some ad ∧ ∀ j v, cs[j]? = some v → w.cell? (ad.add j) = some v)
    (hfit : off + cs.length ≤ cur.length) (h1 : ∀ v ∈ cs, v.oneCell' = true) (B : Nat) (w0 : World) (hb : Below B w0 w) (hBg : B ≤ g) :
    ∃ w', (Builtin.copy_ #[dT, sT] ty #[.slice dp dLen dCap, .slice sp sLen sCap]).run P w = .ok (goInt (N : Nat)) w' ∧ Hid (w'.heap[g]? = some (.cells (splice cur off cs).toArray t (0, 0))) ∧ Below B w0 w' := by
  by_cases h0 : N = 0
  · have hc : cs.length = 0 := by rw [hn, h0]; simp
    obtain rfl : cs = [] := List.eq_nil_of_length_eq_zero hc
    exact ⟨w, by rw [run_copy_noneK (P := P) w dT sT ty elem size dp sp dLen dCap sLen sCap hu hsz (by omega), h0]; rfl, (show _ = _ by simpa [splice] using hg), hb⟩
  · obtain ⟨rfl, ad, rfl, hsrc⟩ := hpos (by omega)
    have hrun := run_copy_rowK (P := P) w dT sT ty elem size g off dLen dCap ad sLen sCap cur.toArray t cs hu hsz hg (by rw [hn, hN]) hsrc (by simpa using hfit) h1
    exact ⟨_, by rw [hrun, hN], (show _ = _ by simpa [splice] using setRow_heap w g _ _ t _ hg), below_setRow hb hBg _⟩

def cellsI (q : IntKind) (l : List Int) : List Value := l.map (Value.int q)
theorem addr_add (g o i : Nat) : (⟨g, o, none⟩ : Addr).add i = ⟨g, o + i, none⟩ := by unfold Addr.add; split <;> simp_all
theorem cellsI_src {q : IntKind} {w : World} {b off : Nat} {l : List Int} (h : ∀ k, k < l.length → w.cell? ⟨b, off + k, none⟩ = some (.int q (iG l k))) :
    ∀ j v, (cellsI q l)[j]? = some v → w.cell? ((⟨b, off, none⟩ : Addr).add j) = some v := by
  intro j v hj
  have hlt : j < l.length := by have := (List.getElem?_eq_some_iff.1 hj).1; simpa [cellsI] using this
  rw [addr_add, h j hlt, ← hj]
  simp [cellsI, iG, hlt]
theorem cellsI_one (q : IntKind) (l : List Int) : ∀ v ∈ cellsI q l, v.oneCell' = true := by
  intro v h; simp [cellsI] at h; obtain ⟨a, _, rfl⟩ := h; rfl
theorem cellsI_len (q : IntKind) (l : List Int) : (cellsI q l).length = l.length * 1 := by simp [cellsI]
theorem cellsI_append (q : IntKind) (a b : List Int) : cellsI q (a ++ b) = cellsI q a ++ cellsI q b := by simp [cellsI]
theorem srcI {q : IntKind} {N M : Nat} {w w1 : World} {p : Option Addr} {l : List Int} (hS : IRow q N w p l) (hb : Below M w w1) (hm : N ≤ M) (h : 0 < l.length) : ∃ ad, p = some ad ∧ ∀ j v, (cellsI q l)[j]? = some v → w1.cell? (ad.add j) = some v := by
  obtain ⟨b, off, rfl, _, hc⟩ := (hS.below hb hm) h
  exact ⟨_, rfl, cellsI_src hc⟩
theorem made_row {w w1 : World} {t size n : Nat} {zs : List Value} (hown : w1.ownsRow w.heap.size t size (.slice (some ⟨w.heap.size, 0, none⟩) n n) n zs) (hg : w.grownBy w1 none) :
    ∃ Z : List Value, Hid (w1.heap[w.heap.size]? = some (.cells Z.toArray t (0, 0))) ∧ Hid (Z.length = n * size) ∧ Below w.heap.size w w1 := by
  rcases hown.2 with ⟨h', _⟩ | ⟨g', cap', cur, h', _, hc, _, _, hs, _⟩
  · simp at h'
  · simp only [Value.slice.injEq, Option.some.injEq, Addr.mk.injEq, and_true, true_and] at h'
    obtain ⟨rfl, rfl⟩ := h'
    exact ⟨cur.toList, by simpa [Hid] using hc, by simpa [Hid] using hs, (Below.refl _ _).grown hg (Nat.le_refl _) (fun k e => by cases e)⟩
theorem splice_take {α : Type} (Z A B : List α) (h : Z.take A.length = A) : (splice Z A.length B).take (A.length + B.length) = A ++ B := by
  unfold splice
  rw [h, ← List.length_append, ← List.append_assoc, List.take_append_of_le_length (Nat.le_refl _), List.take_length]
theorem irow_heap {w : World} {G t : Nat} {l : List Int} (q : IntKind) (h : w.heap[G]? = some (.cells (cellsI q l).toArray t (0, 0))) : IRow q w.heap.size w (some ⟨G, 0, none⟩) l := by
  intro _
  refine ⟨G, 0, rfl, (Array.getElem?_eq_some_iff.1 h).1, fun k hk => ?_⟩
  simp [World.cell?, h, cellsI, iG, hk]

/-- The k-th of a row of rows: where it lies, what it holds, its room. -/
abbrev RR := Option Addr × List Int × Nat
def rP (R : List RR) (k : Nat) : Option Addr := (R.getD k (none, [], 0)).1
def rL (R : List RR) (k : Nat) : List Int := (R.getD k (none, [], 0)).2.1
def rC (R : List RR) (k : Nat) : Nat := (R.getD k (none, [], 0)).2.2
/-- The first k rows, one behind the other. -/
def catN (R : List RR) : Nat → List Int
  | 0 => []
  | k + 1 => catN R k ++ rL R k
theorem catN_le (R : List RR) {k m : Nat} (h : k ≤ m) : (catN R k).length ≤ (catN R m).length := by
  induction m with
  | zero => obtain rfl : k = 0 := by omega
            exact Nat.le_refl _
  | succ m ih =>
    by_cases e : k = m + 1
    · rw [e]; exact Nat.le_refl _
    · have := ih (by omega); show _ ≤ (catN R m ++ rL R m).length; rw [List.length_append]; omega
/-- A block that holds rows, each of which lies below N. -/
def JRow (N : Nat) (w : World) (B : Nat) (R : List RR) : Prop := ∀ k, k < R.length → w.cell? ⟨B, k, none⟩ = some (.slice (rP R k) (rL R k).length (rC R k)) ∧ IRow .u64 N w (rP R k) (rL R k)
theorem JRow.below {N M : Nat} {w w' : World} {B : Nat} {R : List RR} (h : JRow N w B R) (hb : Below M w w') (hm : N ≤ M) (hB : B < M) : JRow N w' B R :=
  fun k hk => ⟨(hb.cell (p := ⟨B, k, none⟩) hB).trans (h k hk).1, (h k hk).2.below hb hm⟩

theorem Try.info41 : (Try.prog.info? 41).map (fun i => (i.zero, i.size, i.bytes)) = some (some (.int .u64 0), 1, 8) := by kernel_rfl
theorem Try.size41 : (Try.prog.info? 41).map (·.size) = some 1 := by kernel_rfl

end Go.Proofs.Ytjnhalomkmdcgaa
