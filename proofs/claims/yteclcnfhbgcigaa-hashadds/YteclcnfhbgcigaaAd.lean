/- HashAdds: slices.Clone, slices.Equal, and its walk. -/
import Derived.Test.YteclcnfhbgcigaaRf
import Derived.Test.YteclcnfhbgcigaaPaA
import Derived.Maps.AppendAt
namespace Go.Proofs.Yteclcnfhbgcigaa
open Go.RowKit

theorem nrow_owns {t B : Nat} {w : World} {v : Value} {l : List Nat} (h : w.ownsRow B t 1 v l.length (cellsN l)) :
    ∃ p c, v = .slice p l.length c ∧ NRow w.heap.size w p l := by
  rcases h.2 with ⟨rfl, h0⟩ | ⟨g, cap, cur, rfl, _, hh, h1, _, _, ht⟩
  · obtain rfl : l = [] := List.eq_nil_of_length_eq_zero h0
    exact ⟨none, 0, rfl, NRow.nil⟩
  · refine ⟨some ⟨g, 0, none⟩, cap, rfl, ?_⟩
    intro _
    refine ⟨g, 0, rfl, (Array.getElem?_eq_some_iff.1 hh).1, fun k hk => ?_⟩
    have e : cur.toList[k]? = (cellsN l)[k]? := by
      rw [← ht, List.getElem?_take_of_lt (by omega)]
    simp only [World.cell?]
    rw [hh]
    simp only [Array.getElem?_toList] at e
    simp [e, cellsN, nG, hk]
theorem cellsN_one (l : List Nat) : ∀ v ∈ cellsN l, v.oneCell' = true := by
  intro v h; simp [cellsN] at h; obtain ⟨a, _, rfl⟩ := h; rfl
def Gives (l : List Nat) (w : World) (e : Ending) (w' : World) : Prop := ∃ p c, e = .returned (.slice p l.length c) ∧ NRow w'.heap.size w' p l ∧ Below w.heap.size w w'

set_option maxRecDepth 20000 in
theorem clone9 (p : Option Addr) (l : List Nat) (c : Nat) (w : World) (hS : NRow w.heap.size w p l) (hn : l.length ≤ 1000) :
    Calls Try.prog 9 #[.slice p l.length c] w fun e w' => Gives l w e w' := by
  cases p with
  | none =>
    have h0 := nrow_none hS
    subst h0
    clear hS hn
    have qn := fun (w : World) => Lib.run_eql_slice_nil (P := Try.prog) w 23 _ none 0 c 0 0 Try.underlying23
    go_enter Try.func9, Try.ntmps9
    go_wp2
    go_ret
    exact ⟨none, 0, rfl, NRow.nil, Below.refl _ _⟩
  | some a =>
    obtain ⟨i0, hi, hz0, hz1, hz2⟩ := info_parts Try.info27
    have ho := World.ownsRow_made (base := w.heap.size) (e := 27) (size := 1) w #[] 0 (Nat.le_refl _) (by unfold maxLen; omega) (by simp)
    have qn := fun (w : World) => Lib.run_eql_slice_nil (P := Try.prog) w 23 _ (some a) l.length c 0 0 Try.underlying23
    have hsrc : ∀ (o : Obj) j u, (cellsN l)[j]? = some u → (w.alloc o).cell? (a.add j) = some u := fun o => srcN (hS.to ((Below.refl w.heap.size w).alloc (Nat.le_refl _) o))
    have hlen := cellsN_len l
    have hone := cellsN_one l
    obtain ⟨n, hn'⟩ : ∃ n, n = l.length := ⟨_, rfl⟩
    have HE := hidOg hn'
    rw [← hn'] at hlen qn hn ⊢
    clear hS hn'
    go_enter Try.func9, Try.ntmps9
    go_wp2_with (first | (at_builtin; refine wpList_append_own _ rfl _ _ 23 rfl w.heap.size 27 i0 (.int .u64 0) 1 8 Try.underlying23 hi hz0 hz1 hz2 rfl (by decide) _ _ _ rfl ho a n c (cellsN l) rfl hlen (hsrc _) hone (by unfold maxLen; omega) (by omega) (by simp) ?_; intro v' w1 hown hgrow _))
    go_ret
    have hb : Below w.heap.size w w1 := ((Below.refl _ w).alloc (Nat.le_refl _) _).grown hgrow (by simp) (fun k hk => by have h' : w.heap.size = k := Option.some.inj hk; omega)
    rw [HE.out, Nat.zero_add] at hown
    obtain ⟨p', c', rfl, hi'⟩ := nrow_owns hown
    exact ⟨p', c', rfl, hi', hb⟩
set_option maxRecDepth 20000 in
theorem equal12 (p q : Option Addr) (l : List Nat) (c d : Nat) (w : World) (hS : NRow w.heap.size w p l) (hT : NRow w.heap.size w q l) (hn : l.length ≤ 1000) :
    Calls Try.prog 12 #[.slice p l.length c, .slice q l.length d] w fun e w' => e = .returned (.bool true) ∧ Below w.heap.size w w' := by
  have HS := hidOg hS
  have HT := hidOg hT
  clear hS hT
  go_enter Try.func12, Try.ntmps12
  go_wp2
  go_loopw [13] (fun i wr => ∃ k : Nat, k ≤ l.length ∧ i = .int .i64 k ∧ Below w.heap.size w wr) (fun i _ => l.length - (intOf i).toNat)
  case atStart => exact ⟨0, Nat.zero_le _, rfl, Below.refl _ _⟩
  case round =>
    obtain ⟨k, hk, rfl, hnx⟩ := hrel
    have HX := hidOg hnx
    clear hnx
    by_cases hlt : k < l.length
    · obtain ⟨b, off, rfl, hbB, hcs⟩ := (HS.out.below HX.out (Nat.le_refl _)) (by omega)
      obtain ⟨b', off', rfl, hbB', hcs'⟩ := (HT.out.below HX.out (Nat.le_refl _)) (by omega)
      have c0 := hcs k hlt
      have c1 := hcs' k hlt
      obtain ⟨x, hx⟩ : ∃ x, x = nG l k := ⟨_, rfl⟩
      rw [← hx] at c0 c1
      clear hcs hcs' hx
      go_wp2
      go_quiet (fail)
      go_wp2
      go_roundw
      case rel => exact ⟨k + 1, by omega, by go_num, below_drewN HX.out _⟩
      case measure => simp [intOf]; omega
    · obtain rfl : k = l.length := by omega
      go_wp2
      go_ret
      exact ⟨rfl, HX.out⟩
end Go.Proofs.Yteclcnfhbgcigaa
