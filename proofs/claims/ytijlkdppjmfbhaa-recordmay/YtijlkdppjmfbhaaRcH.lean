/- slices.SortFunc at indexes, by their rows. -/
import Derived.Test.YtijlkdppjmfbhaaShelf
import Derived.Test.YtijlkdppjmfbhaaRcF
import Derived.Sort.Row
namespace Go.Proofs.Ytijlkdppjmfbhaa
open Go.RowKit Go.Sort

theorem sw_heap1 {α : Type} [Inhabited α] (enc : α → Value) (w : World) (blk off m : Nat) (dk : Array α) (os : Array Obj) : w.heap.size ≤ (sortWorld enc w blk off m dk os).heap.size ∧ ∀ b, b ≠ blk → b < w.heap.size → (sortWorld enc w blk off m dk os).heap[b]? = w.heap[b]? := by
  refine ⟨?_, fun b hne hb => ?_⟩
  · unfold sortWorld grow putRow mapBlock Sort.ahead
    show w.heap.size ≤ (w.heap.modify blk _ ++ os).size
    simp
  · unfold sortWorld grow putRow mapBlock Sort.ahead
    show (w.heap.modify blk _ ++ os)[b]? = _
    rw [Array.getElem?_append_left (by simpa using hb), Array.getElem?_modify]
    simp [Ne.symm hne]
set_option maxHeartbeats 1000000 in
theorem cmp57 (p : Option Addr) (l : List Sp) (c R x y : Nat) (w : World) (hE : SRow w.heap.size w p l) (hR : w.heap[R]? = some (.cells #[.slice p l.length c] 24)) (hl : l.length ≤ 1048578) (hb : ∀ k, 0 ≤ (sG l k).2 ∧ (sG l k).2 ≤ 1048578) (hx : x < l.length) (hy : y < l.length) :
    Calls Try.prog 57 #[.int .i64 ((x : Int) + 1), .int .i64 ((y : Int) + 1), .pointer (some ⟨R, 0, none⟩)] w fun e w' => e = .returned (.int .i64 ((sG l x).2 - (sG l y).2)) ∧ ∃ n, w' = w.drewN n := by
  obtain ⟨b, off, rfl, hbN, hcs⟩ := hE (by omega)
  obtain ⟨_, x1⟩ := hcs x hx
  obtain ⟨_, y1⟩ := hcs y hy
  obtain ⟨a0, a1⟩ := hb x
  obtain ⟨b0, b1⟩ := hb y
  have r0 := cell1_heap hR
  obtain ⟨a, ha⟩ : ∃ a, a = (sG l x).2 := ⟨_, rfl⟩
  obtain ⟨d, hd⟩ : ∃ d, d = (sG l y).2 := ⟨_, rfl⟩
  rw [← ha] at x1 a0 a1
  rw [← hd] at y1 b0 b1
  rw [← ha, ← hd]
  obtain ⟨m, hm⟩ : ∃ m, m = l.length := ⟨_, rfl⟩
  rw [← hm] at r0 hx hy hl
  clear hE hcs hb hR ha hd hm
  go_enter Try.func57, Try.ntmps57
  go_wp2
  go_region
  all_goals
    go_wp2
    go_ret
    exact ⟨rfl, 1, rfl⟩
def encF {n : Nat} (k : Fin (n + 1)) : Value := .int .i64 ((k.val : Int) + 1)
def cfF (l : List Sp) {n : Nat} (x y : Fin (n + 1)) : Int := (sG l x.val).2 - (sG l y.val).2
theorem swoF (l : List Sp) (n : Nat) : SWO (ltOf (cfF l (n := n))) where
  irrefl x := by unfold ltOf cfF; simp
  trans x y z h1 h2 := by
    unfold ltOf cfF at *
    simp only [decide_eq_true_eq] at *
    omega
  ntrans x y z h1 h2 := by
    unfold ltOf cfF at *
    simp only [decide_eq_false_iff_not] at *
    omega
theorem cmpLays57 (p : Option Addr) (l : List Sp) (c R n G size : Nat) (w : World) (hn : l.length = n + 1) (hE : SRow w.heap.size w p l) (hR : w.heap[R]? = some (.cells #[.slice p l.length c] 24)) (hl : l.length ≤ 1048578) (hb : ∀ k, 0 ≤ (sG l k).2 ∧ (sG l k).2 ≤ 1048578) (hRG : R ≠ G) (hpG : ∀ a, p = some a → a.block ≠ G) :
    CmpLays1 Try.prog 57 #[.pointer (some ⟨R, 0, none⟩)] (encF (n := n)) (cfF l) G 0 size w := by
  intro m os dk _ x y
  obtain ⟨hs, hh⟩ := sw_heap1 (encF (n := n)) w G 0 m dk os
  have hE' : SRow (sortWorld (encF (n := n)) w G 0 m dk os).heap.size (sortWorld (encF (n := n)) w G 0 m dk os) p l := fun h0 => by
    obtain ⟨b, off, rfl, hbN, hcs⟩ := hE h0
    have e := hh b (hpG _ rfl) hbN
    exact ⟨b, off, rfl, Nat.lt_of_lt_of_le hbN hs, fun k hk => ⟨(cell_heap e _).trans (hcs k hk).1, (cell_heap e _).trans (hcs k hk).2⟩⟩
  have hR' := (hh R hRG (Array.getElem?_eq_some_iff.1 hR).1).trans hR
  refine Calls.mono (cmp57 p l c R x.val y.val _ hE' hR' hl hb (by omega) (by omega)) ?_
  rintro e w' ⟨rfl, q, rfl⟩
  exact ⟨rfl, q, #[], by rw [grow_empty]⟩
/-- A row of indexes that a call owns, as places. -/
theorem holdsF {G : Nat} {w : World} {B c n : Nat} {X : List Int} {D : List (Fin (n + 1))} (hD : D.map (fun k => ((k.val : Int) + 1)) = X) (hX : OwnR B w (some ⟨G, 0, none⟩) X c) : Holds (encF (n := n)) w G 0 D.toArray := by
  intro j hj
  have hj' : j < D.length := by simpa using hj
  have hjX : j < X.length := by rw [← hD]; simpa using hj'
  obtain ⟨b, off, e, _, hcs⟩ := hX.row.i (by omega)
  cases e
  rw [Nat.zero_add]
  have c0 := hcs j hjX
  rw [Nat.zero_add] at c0
  have f0 : w.frozen? ⟨G, j, none⟩ = false := by
    rcases hX.o.2 with ⟨h', _⟩ | ⟨g', cap', cur, h', hb, hc, h1, h2, h3, h4⟩
    · cases h'
    · cases h'; exact fr_heap hc j
  refine ⟨?_, f0⟩
  rw [c0]
  have : iG X j = ((D[j]).val : Int) + 1 := by rw [iG_eq hjX]; subst hD; simp
  rw [this]
  simp [encF, hj']
set_option maxHeartbeats 1000000 in
/-- slices.SortFunc by rows. -/
theorem sort56 (p : Option Addr) (l : List Sp) (c R B G d : Nat) (w : World) (X : List Int) (hX : OwnR B w (some ⟨G, 0, none⟩) X d) (hXn : X.length ≤ 1048578) (hXl : ∀ x ∈ X, ∃ k : Nat, k < l.length ∧ x = (k : Int) + 1) (hE : SRow w.heap.size w p l) (hR : w.heap[R]? = some (.cells #[.slice p l.length c] 24)) (hl : l.length ≤ 1048578) (hl0 : 0 < l.length) (hb : ∀ k, 0 ≤ (sG l k).2 ∧ (sG l k).2 ≤ 1048578) (hRG : R ≠ G) (hpG : ∀ a, p = some a → a.block ≠ G) :
    Calls Try.prog 56 #[.slice (some ⟨G, 0, none⟩) X.length d, .func (.func 57) #[] #[.pointer (some ⟨R, 0, none⟩)]] w fun e w' => e = .returned (.tuple #[]) ∧
      ∃ X' : List Int, X'.Perm X ∧ X'.Pairwise (fun x y => (sG l (x.toNat - 1)).2 ≤ (sG l (y.toNat - 1)).2) ∧ OwnR B w' (some ⟨G, 0, none⟩) X' d ∧ w.heap.size ≤ w'.heap.size ∧ (∀ b, b ≠ G → b < w.heap.size → w'.heap[b]? = w.heap[b]?) ∧ w'.os = w.os ∧ w'.tape = w.tape ∧ w'.output = w.output := by
  obtain ⟨n, hn⟩ : ∃ n, l.length = n + 1 := ⟨l.length - 1, by omega⟩
  have eg : ∀ args w, (callFunc 57 args).run Try.prog w = .ok (.enter 57 args) w := enters_of Try.func57 (by kernel_rfl) rfl
  obtain ⟨D, hD⟩ : ∃ D : List (Fin (n + 1)), D.map (fun k => ((k.val : Int) + 1)) = X := by
    refine ⟨X.attach.map fun x => ⟨x.1.toNat - 1, by obtain ⟨k, hk, e⟩ := hXl x.1 x.2; omega⟩, ?_⟩
    rw [List.map_map]
    conv => rhs; rw [← List.attach_map_subtype_val X]
    refine List.map_congr_left fun x _ => ?_
    obtain ⟨k, hk, e⟩ := hXl x.1 x.2
    simp only [Function.comp]
    omega
  have hlen : D.toArray.size = X.length := by rw [← hD]; simp
  have hGlt : G < w.heap.size := (hX.o.lt G rfl).2
  have h := Any.slices_SortFunc Try.sort1 (encF (n := n)) (fun _ => rfl) (cfF l) (swoF l n) 57 #[.pointer (some ⟨R, 0, none⟩)] G 0 d D.toArray w eg (by rw [hlen]; exact cmpLays57 p l c R n G _ w hn hE hR hl hb hRG hpG) (holdsF hD hX) hGlt (by rw [hlen]; omega)
  change Calls Try.prog 56 _ _ _ at h
  rw [hlen] at h
  refine h.mono ?_
  rintro e w' ⟨rfl, d', m, os, hp, hs, rfl⟩
  obtain ⟨D'⟩ := d'
  obtain ⟨p1, _, p3⟩ := hp
  have hlen' : D'.length = X.length := by have := p1; simp at this; rw [this, ← hD]; simp
  have hperm : D'.Perm D := by
    have e1 : ((⟨D'⟩ : Array (Fin (n + 1))).extract 0 X.length).toList = D' := by simp [← hlen']
    have e2 : (D.toArray.extract 0 X.length).toList = D := by simp [← hlen]
    rw [e1, e2] at p3; exact p3
  obtain ⟨hsz, hh⟩ := sw_heap1 (encF (n := n)) w G 0 m D'.toArray os
  refine ⟨rfl, D'.map (fun k => ((k.val : Int) + 1)), by rw [← hD]; exact hperm.map _, ?_, ⟨?_, by simp; omega⟩, hsz, hh, rfl, rfl, rfl⟩
  · rw [List.pairwise_iff_getElem]
    intro i j hi hj hij
    have hj' : j < D'.length := by simpa using hj
    have hi' : i < D'.length := by omega
    have := hs i j (Nat.zero_le _) hij (by omega)
    simp only [List.getElem_map]
    have e1 : (((D'[i]).val : Int) + 1).toNat - 1 = (D'[i]).val := by omega
    have e2 : (((D'[j]).val : Int) + 1).toNat - 1 = (D'[j]).val := by omega
    rw [e1, e2]
    simp [ltOf, cfF, hj', hi'] at this
    omega
  · rcases hX.o.2 with ⟨h', _⟩ | ⟨g', cap', cur, h', hb, hc, h1, h2, h3, h4⟩
    · cases h'
    · cases h'
      have hlt := (Array.getElem?_eq_some_iff.1 hc).1
      refine ⟨by simp, .inr ⟨G, d, putCells (encF (n := n)) 0 D'.toArray cur, by simp, hb, ?_, by simpa [hlen'] using h1, h2, by simp [putCells, h3], ?_⟩⟩
      · unfold sortWorld grow putRow mapBlock Sort.ahead
        show (w.heap.modify G _ ++ os)[G]? = _
        rw [Array.getElem?_append_left (by simpa using hlt), Array.getElem?_modify, hc]
        simp [onCells]
      · apply List.ext_getElem?
        intro j
        by_cases hj : j < D'.length
        · rw [List.getElem?_take_of_lt (by simpa using hj), Array.getElem?_toList]
          have : j < cur.size := by omega
          simp [putCells, hj, this, encF]
        · rw [List.getElem?_take_eq_none (by simpa using hj), List.getElem?_eq_none (by simp; omega)]
theorem sort_none56 (p : Option Addr) (c : Nat) (fv : Value) (w : World) : Calls Try.prog 56 #[.slice p 0 c, fv] w fun e w' => e = .returned (.tuple #[]) ∧ w' = w := AnyF.slices_SortFunc_none Try.sortE p c fv w
end Go.Proofs.Ytijlkdppjmfbhaa
