/- own: a list, and what comes behind it, in memory of its own. -/
import Derived.Test.YtaglhajlgnjhcaaDoorAlL
namespace Go.Proofs.YtaglhajlgnjhcaaDoor
open Go.RowKit

def cellsS : List (Int × Bool) → List Value
  | [] => []
  | s :: l => .int .i64 s.1 :: .bool s.2 :: cellsS l
def cellsI (q : IntKind) (l : List Int) : List Value := l.map (Value.int q)
theorem cellsS_len (l : List (Int × Bool)) : (cellsS l).length = l.length * 2 := by
  induction l with
  | nil => rfl
  | cons s l ih => simp [cellsS, ih]; omega
theorem cellsS_append (a b : List (Int × Bool)) : cellsS (a ++ b) = cellsS a ++ cellsS b := by
  induction a with
  | nil => rfl
  | cons s l ih => simp [cellsS, ih]
theorem cellsS_one (l : List (Int × Bool)) : ∀ v ∈ cellsS l, v.oneCell' = true := by
  induction l with
  | nil => intro v h; cases h
  | cons s l ih => intro v h; simp [cellsS] at h; rcases h with rfl | rfl | h; { rfl }; { rfl }; { exact ih v h }
theorem cellsS_even (l : List (Int × Bool)) (k : Nat) (hk : k < l.length) : (cellsS l)[k * 2]? = some (.int .i64 (sG l k)) ∧ (cellsS l)[k * 2 + 1]? = some (.bool (sA l k)) := by
  induction l generalizing k with
  | nil => simp at hk
  | cons s l ih =>
    cases k with
    | zero => simp [cellsS, sG, sA]
    | succ k =>
      have := ih k (by simp at hk; omega)
      have e1 : (k + 1) * 2 = k * 2 + 1 + 1 := by omega
      rw [e1]
      simpa [cellsS, sG, sA] using this
theorem addr_add (g o i : Nat) : (⟨g, o, none⟩ : Addr).add i = ⟨g, o + i, none⟩ := by unfold Addr.add; split <;> simp_all
theorem cellsS_src {w : World} {b off : Nat} {l : List (Int × Bool)} (h : ∀ k, k < l.length → w.cell? ⟨b, off + k * 2, none⟩ = some (.int .i64 (sG l k)) ∧ w.cell? ⟨b, off + k * 2 + 1, none⟩ = some (.bool (sA l k))) :
    ∀ j v, (cellsS l)[j]? = some v → w.cell? ((⟨b, off, none⟩ : Addr).add j) = some v := by
  intro j v hj
  have hlt := (List.getElem?_eq_some_iff.1 hj).1
  rw [cellsS_len] at hlt
  rw [addr_add]
  obtain ⟨k, hk⟩ : ∃ k, j = k * 2 ∨ j = k * 2 + 1 := ⟨j / 2, by omega⟩
  rcases hk with rfl | rfl
  · rw [(cellsS_even l k (by omega)).1] at hj; cases hj; exact (h k (by omega)).1
  · rw [(cellsS_even l k (by omega)).2] at hj; cases hj; exact (h k (by omega)).2
theorem cellsI_src {q : IntKind} {w : World} {b off : Nat} {l : List Int} (h : ∀ k, k < l.length → w.cell? ⟨b, off + k, none⟩ = some (.int q (iG l k))) :
    ∀ j v, (cellsI q l)[j]? = some v → w.cell? ((⟨b, off, none⟩ : Addr).add j) = some v := by
  intro j v hj
  have hlt : j < l.length := by have := (List.getElem?_eq_some_iff.1 hj).1; simpa [cellsI] using this
  rw [addr_add, h j hlt, ← hj]
  simp [cellsI, iG, hlt]
theorem cellsI_one (q : IntKind) (l : List Int) : ∀ v ∈ cellsI q l, v.oneCell' = true := by
  intro v h; simp [cellsI] at h; obtain ⟨a, _, rfl⟩ := h; rfl
theorem splice2 {α : Type} (Z A B : List α) (hZ : Z.length = A.length + B.length) : splice (splice Z 0 A) A.length B = A ++ B := by
  unfold splice
  simp only [List.take_zero, List.nil_append, Nat.zero_add]
  rw [List.take_append_of_le_length (Nat.le_refl _), List.take_length, List.drop_append, List.drop_eq_nil_of_le (by omega : A.length ≤ A.length + B.length)]
  rw [List.drop_eq_nil_of_le (by simp; omega)]
  simp
theorem owns_of_heap {w : World} {base g t size n : Nat} {xs : List Value} (h : w.heap[g]? = some (.cells xs.toArray t (0, 0))) (hb : base ≤ g) (hn : n ≤ maxLen) (hx : xs.length = n * size) : w.ownsRow base t size (.slice (some ⟨g, 0, none⟩) n n) n xs :=
  ⟨hx, .inr ⟨g, n, xs.toArray, rfl, hb, h, Nat.le_refl _, hn, by simpa using hx, by simp [← hx]⟩⟩

theorem Tryd.info61 : (Tryd.prog.info? 61).map (fun i => (i.zero, i.size, i.bytes)) = some (some (.agg #[.int .i64 0, .bool false]), 2, 16) := by kernel_rfl
theorem Tryd.size61 : (Tryd.prog.info? 61).map (·.size) = some 2 := by kernel_rfl
theorem Tryd.info3 : (Tryd.prog.info? 3).map (fun i => (i.zero, i.size, i.bytes)) = some (some (.int .i64 0), 1, 8) := by kernel_rfl
theorem Tryd.size3 : (Tryd.prog.info? 3).map (·.size) = some 1 := by kernel_rfl

theorem made_row {w w1 : World} {t size n : Nat} {zs : List Value} (hown : w1.ownsRow w.heap.size t size (.slice (some ⟨w.heap.size, 0, none⟩) n n) n zs) (hg : w.grownBy w1 none) :
    ∃ Z : List Value, Hid (w1.heap[w.heap.size]? = some (.cells Z.toArray t (0, 0))) ∧ Hid (Z.length = n * size) ∧ Below w.heap.size w w1 := by
  rcases hown.2 with ⟨h', _⟩ | ⟨g', cap', cur, h', _, hc, _, _, hs, _⟩
  · simp at h'
  · simp only [Value.slice.injEq, Option.some.injEq, Addr.mk.injEq, and_true, true_and] at h'
    obtain ⟨rfl, rfl⟩ := h'
    exact ⟨cur.toList, by simpa [Hid] using hc, by simpa [Hid] using hs, (Below.refl _ _).grown hg (Nat.le_refl _) (fun k e => by cases e)⟩
theorem srcS {w w1 : World} {p : Option Addr} {l : List (Int × Bool)} (hS : SRow w.heap.size w p l) (hb : Below w.heap.size w w1) (h : 0 < l.length) : ∃ ad, p = some ad ∧ ∀ j v, (cellsS l)[j]? = some v → w1.cell? (ad.add j) = some v := by
  obtain ⟨b, off, rfl, _, hc⟩ := (hS.below hb (Nat.le_refl _)) h
  exact ⟨_, rfl, cellsS_src hc⟩
theorem srcI {q : IntKind} {w w1 : World} {p : Option Addr} {l : List Int} (hS : IRow q w.heap.size w p l) (hb : Below w.heap.size w w1) (h : 0 < l.length) : ∃ ad, p = some ad ∧ ∀ j v, (cellsI q l)[j]? = some v → w1.cell? (ad.add j) = some v := by
  obtain ⟨b, off, rfl, _, hc⟩ := (hS.below hb (Nat.le_refl _)) h
  exact ⟨_, rfl, cellsI_src hc⟩

theorem cellsI_len (q : IntKind) (l : List Int) : (cellsI q l).length = l.length * 1 := by simp [cellsI]
theorem cellsI_append (q : IntKind) (a b : List Int) : cellsI q (a ++ b) = cellsI q a ++ cellsI q b := by simp [cellsI]

set_option maxRecDepth 20000 in
set_option maxHeartbeats 1000000 in
theorem own51n (p : Option Addr) (l : List (Int × Bool)) (c : Nat) (p2 : Option Addr) (c2 : Nat) (w : World) (hS : SRow w.heap.size w p l) (h1 : l.length ≤ 8796093022208) :
    Calls Tryd.prog 51 #[.slice p l.length c, .slice p2 0 c2] w fun e w' => e = .returned (.slice (some ⟨w.heap.size, 0, none⟩) l.length l.length) ∧
      w'.heap[w.heap.size]? = some (.cells (cellsS l).toArray 61 (0, 0)) ∧ Below w.heap.size w w' := by
  obtain ⟨i0, hi, hz0, hz1, hz2⟩ := info_parts Tryd.info61
  have HS := fun (w1 : World) (hb : Below w.heap.size w w1) => srcS hS hb
  have HL : Hid ((cellsS l).length = l.length * 2) := cellsS_len l
  clear hS
  go_enter Tryd.func51, Tryd.ntmps51
  go_wp2_with (first | (at_make; refine wpList_make_full _ rfl _ _ 22 rfl w.heap.size 61 i0 (.agg #[.int .i64 0, .bool false]) 2 Tryd.underlying22 hi hz0 hz1 .i64 .i64 _ _ (l.length) rfl rfl (by omega) (by omega) (by rw [hz2]; omega) (by unfold maxLen; omega) (by simp) ?_; intro w1 hown hgrow; clear hi hz0 hz1 hz2; obtain ⟨Z, HZ, HZl, hb1⟩ := made_row hown hgrow; clear hown hgrow))
  obtain ⟨w2, hr2, HZ2, hb2⟩ := copyK_ex (P := Tryd.prog) w1 22 22 3 61 2 Tryd.underlying22 Tryd.size61 (some ⟨w.heap.size, 0, none⟩) p l.length l.length l.length c w.heap.size 0 Z 61 HZ.out (cellsS l) l.length (by simp) HL.out (fun h => ⟨rfl, HS _ hb1 h⟩) (by rw [HL.out, HZl.out]; simp) (cellsS_one l) w.heap.size w hb1 (Nat.le_refl _)
  rw [hr2]
  clear hr2
  have hr3 := fun (ao : Option Addr) (k k' : Nat) => run_copy_noneK (P := Tryd.prog) w2 22 22 3 61 2 ao p2 k k' 0 c2 Tryd.underlying22 Tryd.size61 (by simp)
  go_wp2
  all_goals
    go_ret
    refine ⟨rfl, ?_, hb2⟩
    rw [HZ2.out]
    have e : splice Z 0 (cellsS l) = cellsS l := by
      have := splice2 Z (cellsS l) [] (by rw [HL.out, HZl.out]; simp)
      unfold splice; simp; rw [HL.out, HZl.out]; omega
    rw [e]

set_option maxRecDepth 20000 in
set_option maxHeartbeats 1000000 in
theorem own51 (p : Option Addr) (l : List (Int × Bool)) (c : Nat) (p2 : Option Addr) (l2 : List (Int × Bool)) (c2 : Nat) (w : World) (hS : SRow w.heap.size w p l) (hS2 : SRow w.heap.size w p2 l2) (h1 : l.length ≤ 8796093022208) (h2 : l2.length ≤ 8796093022208) :
    Calls Tryd.prog 51 #[.slice p l.length c, .slice p2 l2.length c2] w fun e w' => e = .returned (.slice (some ⟨w.heap.size, 0, none⟩) (l ++ l2).length (l ++ l2).length) ∧
      w'.heap[w.heap.size]? = some (.cells (cellsS (l ++ l2)).toArray 61 (0, 0)) ∧ Below w.heap.size w w' := by
  by_cases hz : l2.length = 0
  · have hz' : l2 = [] := List.eq_nil_of_length_eq_zero hz
    subst hz'
    have := own51n p l c p2 c2 w hS h1
    simpa using this
  · obtain ⟨i0, hi, hz0, hz1, hz2⟩ := info_parts Tryd.info61
    have HS := fun (w1 : World) (hb : Below w.heap.size w w1) => srcS hS hb
    have HS2 := fun (w1 : World) (hb : Below w.heap.size w w1) => srcS hS2 hb
    have HL : Hid ((cellsS l).length = l.length * 2) := cellsS_len l
    have HL2 : Hid ((cellsS l2).length = l2.length * 2) := cellsS_len l2
    obtain ⟨xs, hxs⟩ : ∃ xs, xs = cellsS (l ++ l2) := ⟨_, rfl⟩
    have HX : Hid (xs = cellsS l ++ cellsS l2) := hxs.trans (cellsS_append l l2)
    have HN : Hid ((l ++ l2).length = l.length + l2.length) := List.length_append
    rw [← hxs, HN.out]
    clear hS hS2 hxs
    go_enter Tryd.func51, Tryd.ntmps51
    go_wp2_with (first | (at_make; refine wpList_make_full _ rfl _ _ 22 rfl w.heap.size 61 i0 (.agg #[.int .i64 0, .bool false]) 2 Tryd.underlying22 hi hz0 hz1 .i64 .i64 _ _ (l.length + l2.length) rfl rfl (by omega) (by omega) (by rw [hz2]; omega) (by unfold maxLen; omega) (by simp) ?_; intro w1 hown hgrow; clear hi hz0 hz1 hz2; obtain ⟨Z, HZ, HZl, hb1⟩ := made_row hown hgrow; clear hown hgrow))
    obtain ⟨w2, hr2, HZ2, hb2⟩ := copyK_ex (P := Tryd.prog) w1 22 22 3 61 2 Tryd.underlying22 Tryd.size61 (some ⟨w.heap.size, 0, none⟩) p (l.length + l2.length) (l.length + l2.length) l.length c w.heap.size 0 Z 61 HZ.out (cellsS l) l.length (by simp) HL.out (fun h => ⟨rfl, HS _ hb1 h⟩) (by rw [HL.out, HZl.out]; omega) (cellsS_one l) w.heap.size w hb1 (Nat.le_refl _)
    rw [hr2]
    clear hr2
    have HZ2l : Hid ((splice Z 0 (cellsS l)).length = (l.length + l2.length) * 2) := by unfold Hid; rw [length_splice _ _ _ (by rw [HL.out, HZl.out]; omega), HZl.out]
    obtain ⟨w3, hr3, HZ3, hb3⟩ := copyK_ex (P := Tryd.prog) w2 22 22 3 61 2 Tryd.underlying22 Tryd.size61 (some ⟨w.heap.size, l.length * 2, none⟩) p2 l2.length l2.length l2.length c2 w.heap.size (cellsS l).length _ 61 HZ2.out (cellsS l2) l2.length (by simp) HL2.out (fun h => ⟨by rw [HL.out], HS2 _ hb2 h⟩) (by rw [HL.out, HZ2l.out, HL2.out]; omega) (cellsS_one l2) w.heap.size w hb2 (Nat.le_refl _)
    go_wp2
    go_ret
    refine ⟨rfl, ?_, hb3⟩
    rw [HZ3.out, splice2 Z _ _ (by rw [HL.out, HL2.out, HZl.out]; omega), HX.out]

set_option maxRecDepth 20000 in
set_option maxHeartbeats 1000000 in
theorem own55n (p : Option Addr) (l : List (Int)) (c : Nat) (p2 : Option Addr) (c2 : Nat) (w : World) (hS : IRow .i64 w.heap.size w p l) (h1 : l.length ≤ 8796093022208) :
    Calls Tryd.prog 55 #[.slice p l.length c, .slice p2 0 c2] w fun e w' => e = .returned (.slice (some ⟨w.heap.size, 0, none⟩) l.length l.length) ∧
      w'.heap[w.heap.size]? = some (.cells (cellsI .i64 l).toArray 3 (0, 0)) ∧ Below w.heap.size w w' := by
  obtain ⟨i0, hi, hz0, hz1, hz2⟩ := info_parts Tryd.info3
  have HS := fun (w1 : World) (hb : Below w.heap.size w w1) => srcI hS hb
  have HL : Hid ((cellsI .i64 l).length = l.length * 1) := cellsI_len .i64 l
  clear hS
  go_enter Tryd.func55, Tryd.ntmps55
  go_wp2_with (first | (at_make; refine wpList_make_full _ rfl _ _ 23 rfl w.heap.size 3 i0 (.int .i64 0) 1 Tryd.underlying23 hi hz0 hz1 .i64 .i64 _ _ (l.length) rfl rfl (by omega) (by omega) (by rw [hz2]; omega) (by unfold maxLen; omega) (by simp) ?_; intro w1 hown hgrow; clear hi hz0 hz1 hz2; obtain ⟨Z, HZ, HZl, hb1⟩ := made_row hown hgrow; clear hown hgrow))
  obtain ⟨w2, hr2, HZ2, hb2⟩ := copyK_ex (P := Tryd.prog) w1 23 23 3 3 1 Tryd.underlying23 Tryd.size3 (some ⟨w.heap.size, 0, none⟩) p l.length l.length l.length c w.heap.size 0 Z 3 HZ.out (cellsI .i64 l) l.length (by simp) HL.out (fun h => ⟨rfl, HS _ hb1 h⟩) (by rw [HL.out, HZl.out]; simp) (cellsI_one .i64 l) w.heap.size w hb1 (Nat.le_refl _)
  rw [hr2]
  clear hr2
  have hr3 := fun (ao : Option Addr) (k k' : Nat) => run_copy_noneK (P := Tryd.prog) w2 23 23 3 3 1 ao p2 k k' 0 c2 Tryd.underlying23 Tryd.size3 (by simp)
  go_wp2
  all_goals
    go_ret
    refine ⟨rfl, ?_, hb2⟩
    rw [HZ2.out]
    have e : splice Z 0 (cellsI .i64 l) = cellsI .i64 l := by
      have := splice2 Z (cellsI .i64 l) [] (by rw [HL.out, HZl.out]; simp)
      unfold splice; simp; rw [HL.out, HZl.out]; omega
    rw [e]

set_option maxRecDepth 20000 in
set_option maxHeartbeats 1000000 in
theorem own55 (p : Option Addr) (l : List (Int)) (c : Nat) (p2 : Option Addr) (l2 : List (Int)) (c2 : Nat) (w : World) (hS : IRow .i64 w.heap.size w p l) (hS2 : IRow .i64 w.heap.size w p2 l2) (h1 : l.length ≤ 8796093022208) (h2 : l2.length ≤ 8796093022208) :
    Calls Tryd.prog 55 #[.slice p l.length c, .slice p2 l2.length c2] w fun e w' => e = .returned (.slice (some ⟨w.heap.size, 0, none⟩) (l ++ l2).length (l ++ l2).length) ∧
      w'.heap[w.heap.size]? = some (.cells (cellsI .i64 (l ++ l2)).toArray 3 (0, 0)) ∧ Below w.heap.size w w' := by
  by_cases hz : l2.length = 0
  · have hz' : l2 = [] := List.eq_nil_of_length_eq_zero hz
    subst hz'
    have := own55n p l c p2 c2 w hS h1
    simpa using this
  · obtain ⟨i0, hi, hz0, hz1, hz2⟩ := info_parts Tryd.info3
    have HS := fun (w1 : World) (hb : Below w.heap.size w w1) => srcI hS hb
    have HS2 := fun (w1 : World) (hb : Below w.heap.size w w1) => srcI hS2 hb
    have HL : Hid ((cellsI .i64 l).length = l.length * 1) := cellsI_len .i64 l
    have HL2 : Hid ((cellsI .i64 l2).length = l2.length * 1) := cellsI_len .i64 l2
    obtain ⟨xs, hxs⟩ : ∃ xs, xs = cellsI .i64 (l ++ l2) := ⟨_, rfl⟩
    have HX : Hid (xs = cellsI .i64 l ++ cellsI .i64 l2) := hxs.trans (cellsI_append .i64 l l2)
    have HN : Hid ((l ++ l2).length = l.length + l2.length) := List.length_append
    rw [← hxs, HN.out]
    clear hS hS2 hxs
    go_enter Tryd.func55, Tryd.ntmps55
    go_wp2_with (first | (at_make; refine wpList_make_full _ rfl _ _ 23 rfl w.heap.size 3 i0 (.int .i64 0) 1 Tryd.underlying23 hi hz0 hz1 .i64 .i64 _ _ (l.length + l2.length) rfl rfl (by omega) (by omega) (by rw [hz2]; omega) (by unfold maxLen; omega) (by simp) ?_; intro w1 hown hgrow; clear hi hz0 hz1 hz2; obtain ⟨Z, HZ, HZl, hb1⟩ := made_row hown hgrow; clear hown hgrow))
    obtain ⟨w2, hr2, HZ2, hb2⟩ := copyK_ex (P := Tryd.prog) w1 23 23 3 3 1 Tryd.underlying23 Tryd.size3 (some ⟨w.heap.size, 0, none⟩) p (l.length + l2.length) (l.length + l2.length) l.length c w.heap.size 0 Z 3 HZ.out (cellsI .i64 l) l.length (by simp) HL.out (fun h => ⟨rfl, HS _ hb1 h⟩) (by rw [HL.out, HZl.out]; omega) (cellsI_one .i64 l) w.heap.size w hb1 (Nat.le_refl _)
    rw [hr2]
    clear hr2
    have HZ2l : Hid ((splice Z 0 (cellsI .i64 l)).length = (l.length + l2.length) * 1) := by unfold Hid; rw [length_splice _ _ _ (by rw [HL.out, HZl.out]; omega), HZl.out]
    obtain ⟨w3, hr3, HZ3, hb3⟩ := copyK_ex (P := Tryd.prog) w2 23 23 3 3 1 Tryd.underlying23 Tryd.size3 (some ⟨w.heap.size, l.length, none⟩) p2 l2.length l2.length l2.length c2 w.heap.size (cellsI .i64 l).length _ 3 HZ2.out (cellsI .i64 l2) l2.length (by simp) HL2.out (fun h => ⟨by rw [HL.out]; simp, HS2 _ hb2 h⟩) (by rw [HL.out, HZ2l.out, HL2.out]; omega) (cellsI_one .i64 l2) w.heap.size w hb2 (Nat.le_refl _)
    go_wp2
    go_ret
    refine ⟨rfl, ?_, hb3⟩
    rw [HZ3.out, splice2 Z _ _ (by rw [HL.out, HL2.out, HZl.out]; omega), HX.out]
end Go.Proofs.YtaglhajlgnjhcaaDoor
