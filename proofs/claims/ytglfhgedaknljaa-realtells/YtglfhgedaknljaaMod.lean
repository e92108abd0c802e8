/- Rows of words in memory, their readings, copies of them. -/
import Derived.Test.YtglfhgedaknljaaReB
import Derived.Laws.CopyOwn
import Derived.Laws.IdiomCopy
import Derived.Lib.SliceRun
import Derived.Maps.AppendAt
namespace Go.Proofs.Ytglfhgedaknljaa
open Go.RowKit

theorem below_drewN' {B : Nat} {a w : World} (h : Below B a w) (n : Nat) : Below B a (w.drewN n) := ⟨h.os, h.tape, h.output, h.size, h.block⟩
theorem bcell {W w1 : World} (hb : Below W.heap.size W w1) : (∀ b o, b < W.heap.size → w1.cell? ⟨b, o, none⟩ = W.cell? ⟨b, o, none⟩) ∧ (∀ b o, b < W.heap.size → w1.frozen? ⟨b, o, none⟩ = W.frozen? ⟨b, o, none⟩) :=
  ⟨fun b o h => hb.cell (p := ⟨b, o, none⟩) h, fun b o h => hb.frozen (p := ⟨b, o, none⟩) h⟩
theorem below1 {w w' : World} {a : Obj} (h : Below (w.alloc a).heap.size (w.alloc a) w') : Below w.heap.size w w' :=
  ((Below.refl _ _).alloc (Nat.le_refl _) _).trans (h.mono (by simp))
theorem ret_bool {a b : Bool} (h : a = b) : Ending.returned (.bool a) = .returned (.bool b) := by rw [h]
theorem ret_int {k : IntKind} {a b : Int} (h : a = b) : Ending.returned (.int k a) = .returned (.int k b) := by rw [h]
/-- The k-th number of a row. -/
def iG (l : List Int) (k : Nat) : Int := l.getD k 0
theorem iG_eq {l : List Int} {k : Nat} (h : k < l.length) : iG l k = l[k] := by simp [iG, h]
/-- The slice that begins at p holds the numbers l, of the kind q, in a block below N. -/
def IRow (q : IntKind) (N : Nat) (w : World) (p : Option Addr) (l : List Int) : Prop :=
  0 < l.length → ∃ b off, p = some ⟨b, off, none⟩ ∧ b < N ∧ ∀ k, k < l.length → w.cell? ⟨b, off + k, none⟩ = some (.int q (iG l k))
theorem IRow.below {q : IntKind} {N M : Nat} {w w' : World} {p : Option Addr} {l : List Int} (h : IRow q N w p l) (hb : Below M w w') (hm : N ≤ M) : IRow q N w' p l := by
  intro h0
  obtain ⟨b, off, rfl, hN, hc⟩ := h h0
  exact ⟨b, off, rfl, hN, fun k hk => (hb.cell (p := ⟨b, off + k, none⟩) (by simp; omega)).trans (hc k hk)⟩
theorem IRow.mono {q : IntKind} {N M : Nat} {w : World} {p : Option Addr} {l : List Int} (h : IRow q N w p l) (hm : N ≤ M) : IRow q M w p l := by
  intro h0
  obtain ⟨b, off, rfl, hN, hc⟩ := h h0
  exact ⟨b, off, rfl, by omega, hc⟩
theorem IRow.nil {q : IntKind} {N : Nat} {w : World} {p : Option Addr} : IRow q N w p [] := fun h => by simp at h
theorem IRow.to {q : IntKind} {w w' : World} {p : Option Addr} {l : List Int} (h : IRow q w.heap.size w p l) (hb : Below w.heap.size w w') : IRow q w'.heap.size w' p l :=
  (h.below hb (Nat.le_refl _)).mono hb.size
/-- All of a row are numbers of 64 bits. -/
def U64 (l : List Int) : Prop := ∀ x ∈ l, 0 ≤ x ∧ x < 18446744073709551616
theorem iG_mem {l : List Int} {k : Nat} (h : k < l.length) : iG l k ∈ l := by
  have e : iG l k = l[k] := by simp [iG, h]
  rw [e]; exact List.getElem_mem h
theorem U64.at {l : List Int} (h : U64 l) {k : Nat} (hk : k < l.length) : 0 ≤ iG l k ∧ iG l k < 18446744073709551616 := h _ (iG_mem hk)
def cellsI (q : IntKind) (l : List Int) : List Value := l.map (Value.int q)
theorem addr_add (g o i : Nat) : (⟨g, o, none⟩ : Addr).add i = ⟨g, o + i, none⟩ := by unfold Addr.add; split <;> simp_all
theorem cellsI_src {q : IntKind} {w : World} {b off : Nat} {l : List Int} (h : ∀ k, k < l.length → w.cell? ⟨b, off + k, none⟩ = some (.int q (iG l k))) :
    ∀ j v, (cellsI q l)[j]? = some v → w.cell? ((⟨b, off, none⟩ : Addr).add j) = some v := by
  intro j v hj
  have hlt : j < l.length := by have := (List.getElem?_eq_some_iff.1 hj).1; simpa [cellsI] using this
  rw [addr_add, h j hlt, ← hj]
  simp [cellsI, iG, hlt]
theorem cellsI_one (q : IntKind) (l : List Int) : ∀ v ∈ cellsI q l, v.oneCell' = true := by
  intro v h; simp [cellsI] at h; obtain ⟨a, _, rfl⟩ := h; rfl
theorem cellsI_len (q : IntKind) (l : List Int) : (cellsI q l).length = l.length * 1 := by simp [cellsI]
theorem iG_take {l : List Int} {i k : Nat} (h : k < i) : iG (l.take i) k = iG l k := by
  unfold iG; rw [List.getD_eq_getElem?_getD, List.getD_eq_getElem?_getD, List.getElem?_take_of_lt h]
theorem IRow.take {q : IntKind} {N : Nat} {w : World} {p : Option Addr} {l : List Int} (h : IRow q N w p l) (i : Nat) : IRow q N w p (l.take i) := by
  intro h0
  have hl : (l.take i).length ≤ l.length := by simp; omega
  obtain ⟨b, off, rfl, hN, hc⟩ := h (by omega)
  refine ⟨b, off, rfl, hN, fun k hk => ?_⟩
  rw [iG_take (by simp at hk; omega)]
  exact hc k (by omega)
theorem irow_owns {q : IntKind} {t B : Nat} {w : World} {v : Value} {l : List Int} (h : w.ownsRow B t 1 v l.length (l.map (Value.int q))) :
    ∃ p c, v = .slice p l.length c ∧ IRow q w.heap.size w p l ∧ l.length ≤ c ∧ ((p = none ∧ l = [] ∧ c = 0) ∨ ∃ b off, p = some ⟨b, off, none⟩) := by
  rcases h.2 with ⟨rfl, h0⟩ | ⟨g, cap, cur, rfl, _, hh, h1, _, _, ht⟩
  · obtain rfl : l = [] := List.eq_nil_of_length_eq_zero h0
    exact ⟨none, 0, rfl, IRow.nil, (by simp), .inl ⟨rfl, rfl, rfl⟩⟩
  · refine ⟨some ⟨g, 0, none⟩, cap, rfl, ?_, h1, .inr ⟨g, 0, rfl⟩⟩
    intro _
    refine ⟨g, 0, rfl, (Array.getElem?_eq_some_iff.1 hh).1, fun k hk => ?_⟩
    have e : cur.toList[k]? = (l.map (Value.int q))[k]? := by
      rw [← ht, List.getElem?_take_of_lt (by omega)]
    simp only [World.cell?]
    rw [hh]
    simp only [Array.getElem?_toList] at e
    simp [e, iG, hk]
theorem Try.info26 : (Try.prog.info? 26).map (fun i => (i.zero, i.size, i.bytes)) = some (some (.int .u64 0), 1, 8) := by kernel_rfl
structure InR (w : World) (p : Option Addr) (l : List Int) (c : Nat) : Prop where
  i : IRow .u64 w.heap.size w p l
  r : l.length ≤ c
  u : U64 l
theorem InR.to {w w' : World} {p : Option Addr} {l : List Int} {c : Nat} (h : InR w p l c) (hb : Below w.heap.size w w') : InR w' p l c := ⟨h.i.to hb, h.r, h.u⟩
theorem U64.take {l : List Int} (h : U64 l) (n : Nat) : U64 (l.take n) := fun x hx => h x (List.mem_of_mem_take hx)
/-- A row of at most 40 words that the law goes through. -/
structure Fw (w : World) (p : Option Addr) (l : List Int) (c : Nat) : Prop where
  i : IRow .u64 w.heap.size w p l
  r : l.length ≤ c
  u : U64 l
  n : l.length ≤ 40
theorem Fw.to {w w' : World} {p : Option Addr} {l : List Int} {c : Nat} (h : Fw w p l c) (hb : Below w.heap.size w w') : Fw w' p l c := ⟨h.i.to hb, h.r, h.u, h.n⟩
def Gives (l : List Int) (w : World) (e : Ending) (w' : World) : Prop := ∃ p c, e = .returned (.slice p l.length c) ∧ IRow .u64 w'.heap.size w' p l ∧ l.length ≤ c ∧ Below w.heap.size w w'

set_option maxRecDepth 20000 in
theorem clone30 (p : Option Addr) (l : List Int) (c : Nat) (w : World) (hS : IRow .u64 w.heap.size w p l) (hn : l.length ≤ 1099511627776) :
    Calls Try.prog 30 #[.slice p l.length c] w fun e w' => Gives l w e w' := by
  cases p with
  | none =>
    have h0 : l = [] := by
      cases l with
      | nil => rfl
      | cons x t => obtain ⟨b, off, h, _⟩ := hS (by simp); cases h
    subst h0
    clear hS hn
    have qn := fun (w : World) => Lib.run_eql_slice_nil (P := Try.prog) w 22 _ none 0 c 0 0 Try.underlying22
    go_enter Try.func30, Try.ntmps30
    go_wp2
    go_ret
    exact ⟨none, 0, rfl, IRow.nil, Nat.le_refl _, Below.refl _ _⟩
  | some a =>
    obtain ⟨i0, hi, hz0, hz1, hz2⟩ := info_parts Try.info26
    have ho := World.ownsRow_made (base := w.heap.size) (e := 26) (size := 1) w #[] 0 (Nat.le_refl _) (by unfold maxLen; omega) (by simp)
    have qn := fun (w : World) => Lib.run_eql_slice_nil (P := Try.prog) w 22 _ (some a) l.length c 0 0 Try.underlying22
    have hsrc : ∀ (o : Obj) j u, (cellsI .u64 l)[j]? = some u → (w.alloc o).cell? (a.add j) = some u := by
      intro o j u hj
      have hlt : j < l.length := by have := (List.getElem?_eq_some_iff.1 hj).1; simpa [cellsI] using this
      obtain ⟨b, off, e, _, hc⟩ := hS.to ((Below.refl w.heap.size w).alloc (Nat.le_refl _) o) (by omega)
      cases e
      exact cellsI_src hc j u hj
    have hlen := cellsI_len .u64 l
    have hone := cellsI_one .u64 l
    have HN := hidOg hn
    obtain ⟨n, hn'⟩ : ∃ n, n = l.length := ⟨_, rfl⟩
    have HE := hidOg hn'
    rw [← hn'] at hlen qn hn ⊢
    clear hS hn'
    go_enter Try.func30, Try.ntmps30
    go_wp2_with (first | (at_builtin; refine wpList_append_own _ rfl _ _ 22 rfl w.heap.size 26 i0 (.int .u64 0) 1 8 Try.underlying22 hi hz0 hz1 hz2 rfl (by decide) _ _ _ rfl ho a n c (cellsI .u64 l) rfl hlen (hsrc _) hone (by unfold maxLen; omega) (by omega) (by simp) ?_; intro v' w1 hown hgrow _))
    go_ret
    have hb : Below w.heap.size w w1 := ((Below.refl _ w).alloc (Nat.le_refl _) _).grown hgrow (by simp) (fun k hk => by have h' : w.heap.size = k := Option.some.inj hk; omega)
    rw [HE.out, Nat.zero_add] at hown
    obtain ⟨p', c', rfl, hi', hc', _⟩ := irow_owns hown
    exact ⟨p', c', rfl, hi', hc', hb⟩

set_option maxRecDepth 20000 in
theorem few9 (p : Option Addr) (l : List Int) (c : Nat) (w : World) (h : InR w p l c) :
    Calls Try.prog 9 #[.slice p l.length c] w fun e w' => Gives (l.take 40) w e w' := by
  obtain ⟨n, hn⟩ : ∃ n, n = (l.take 40).length := ⟨_, rfl⟩
  have hl := h.r
  have hn' : (if (40 : Int) < (l.length : Int) then (40 : Int) else (l.length : Int)) = (n : Int) := by rw [hn]; simp only [List.length_take]; split <;> omega
  have hn2 : min (l.length : Int) 40 = (n : Int) := by rw [hn]; simp only [List.length_take]; omega
  have n0 : (0 : Int) ≤ (n : Int) := by omega
  have n1 : (n : Int) ≤ (c : Int) := by omega
  have CC := clone30 p (l.take 40) c w (h.i.take 40) (by simp; omega)
  rw [← hn] at CC
  obtain ⟨m, hm⟩ : ∃ m, m = l.take 40 := ⟨_, rfl⟩
  rw [← hm] at CC ⊢
  clear h hl hn hm
  go_enter Try.func9, Try.ntmps9
  go_wp2_with (first | (go_at_call 30; refine Calls.mono CC ?_; rintro e w1 ⟨p', c', rfl, hr, hc', hb⟩))
  go_ret
  exact ⟨p', c', rfl, hr, hc', hb⟩
end Go.Proofs.Ytglfhgedaknljaa
