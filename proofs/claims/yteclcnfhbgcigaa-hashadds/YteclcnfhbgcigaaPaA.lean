/- HashParts: an append to a row that has no room. -/
import Derived.Test.YteclcnfhbgcigaaLa
import Derived.Laws.CopyOwn
import Derived.Laws.IdiomCopy
import Derived.Lib.SliceRun
import Derived.Lib.AppendZeros
namespace Go.Proofs.Yteclcnfhbgcigaa
open Go.RowKit

theorem Try.info27 : (Try.prog.info? 27).map (fun i => (i.zero, i.size, i.bytes)) = some (some (.int .u64 0), 1, 8) := by kernel_rfl
def cellsN (l : List Nat) : List Value := l.map fun (x : Nat) => Value.int .u64 (x : Int)
theorem cellsN_len (l : List Nat) : (cellsN l).length = l.length * 1 := by simp [cellsN]
theorem cellsN_src {w : World} {b off : Nat} {l : List Nat} (h : ∀ k, k < l.length → w.cell? ⟨b, off + k, none⟩ = some (.int .u64 (nG l k : Int))) :
    ∀ j v, (cellsN l)[j]? = some v → w.cell? ((⟨b, off, none⟩ : Addr).add j) = some v := by
  intro j v hj
  have hlt : j < l.length := by have := (List.getElem?_eq_some_iff.1 hj).1; simpa [cellsN] using this
  rw [addr_add, h j hlt, ← hj]
  simp [cellsN, nG, hlt]
theorem srcN {w : World} {a : Addr} {l : List Nat} (hS : NRow w.heap.size w (some a) l) : ∀ j v, (cellsN l)[j]? = some v → w.cell? (a.add j) = some v := by
  intro j v hj
  have hlt : j < l.length := by have := (List.getElem?_eq_some_iff.1 hj).1; simpa [cellsN] using this
  obtain ⟨b, off, e, _, hc⟩ := hS (by omega)
  cases e
  exact cellsN_src hc j v hj
theorem nrow_new (w : World) (l : List Nat) (zs : Array Value) (t : TypeId) : NRow (w.alloc (.cells ((cellsN l).toArray ++ zs) t)).heap.size (w.alloc (.cells ((cellsN l).toArray ++ zs) t)) (some ⟨w.heap.size, 0, none⟩) l := by
  refine fun _ => ⟨w.heap.size, 0, rfl, by rw [World.size_alloc]; omega, fun k hk => ?_⟩
  rw [World.cell?_alloc_at _ _ _ _ rfl]
  have h1 : k < (cellsN l).length := by rw [cellsN_len]; omega
  rw [Nat.zero_add, Array.getElem?_append_left (by simpa using h1)]
  simp [cellsN, nG, hk]
/-- What an append answers. -/
def AppG (W : World) (v : Value) (w' : World) (l : List Nat) : Prop := ∃ p c, v = .slice p l.length c ∧ NRow w'.heap.size w' p l ∧ Below W.heap.size W w'
theorem nrow_none {N : Nat} {w : World} {l : List Nat} (h : NRow N w none l) : l = [] := by
  cases l with
  | nil => rfl
  | cons x t => obtain ⟨b, off, e, _⟩ := h (by simp); cases e
theorem loadNone (a : Addr) (w : World) : (loadCells a 0).run Try.prog w = .ok #[] w := by simpa using run_loadCells_list (P := Try.prog) w a [] (by simp)
theorem append_cut (W : World) (p q : Option Addr) (a b : List Nat) (c : Nat) (ty : TypeId) (hA : NRow W.heap.size W p a) (hB : NRow W.heap.size W q b) (la : a.length ≤ 1000) (lb : b.length ≤ 1000) :
    ∃ v' w', (Builtin.append_ #[23, 23] ty #[.slice p a.length a.length, .slice q b.length c]).run Try.prog W = .ok v' w' ∧ AppG W v' w' (a ++ b) := by
  obtain ⟨i, hi, hz0, hz1, hz2⟩ := info_parts Try.info27
  by_cases h0 : b = []
  · subst h0
    refine ⟨.slice p a.length a.length, W, ?_, p, a.length, by simp, by simpa using hA, Below.refl _ _⟩
    cases p <;> cases q <;> simp [Builtin.append_, run_underlying Try.underlying23, sizeOf, typeInfo, hi, Builtin.lenOf, Builtin.firstCells, loadNone, storeCells]
  · have hb0 : 0 < b.length := List.length_pos_iff.2 h0
    obtain ⟨qa, rfl⟩ : ∃ qa, q = some qa := by
      cases q with
      | none => exact absurd (nrow_none hB) h0
      | some qa => exact ⟨qa, rfl⟩
    have hn : (cellsN b).length = b.length * i.size := by rw [hz1]; exact cellsN_len b
    have hbel : ∀ o, Below W.heap.size W (W.drew.alloc o) := fun o => (below_drew _ W).alloc (Nat.le_refl _) o
    cases p with
    | none =>
      have ha := nrow_none hA
      subst ha
      have hr := run_append_nil (P := Try.prog) W 23 ty 27 i (.int .u64 0) Try.underlying23 hi hz0 qa b.length c (cellsN b) hn (srcN hB) hb0 (by omega) (by rw [hz2]; omega)
      exact ⟨_, _, hr, _, _, rfl, nrow_new W.drew b _ _, hbel _⟩
    | some pa =>
      have hr := run_append_grow (P := Try.prog) W 23 ty 27 i (.int .u64 0) Try.underlying23 hi hz0 pa a.length a.length (cellsN a) (by rw [hz1]; exact cellsN_len a) (srcN hA) qa b.length c (cellsN b) hn (srcN hB) (by omega) (by omega) (growslice_fits (by omega) (by rw [hz2]; omega))
      have e : (cellsN a).toArray ++ (cellsN b).toArray = (cellsN (a ++ b)).toArray := by simp [cellsN]
      rw [e] at hr
      refine ⟨_, _, hr, some ⟨W.heap.size, 0, none⟩, grownCap W (a.length + b.length) a.length 27, by rw [List.length_append], nrow_new W.drew (a ++ b) _ _, hbel _⟩
end Go.Proofs.Yteclcnfhbgcigaa
