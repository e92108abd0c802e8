/- slices.Compact of a sorted row of ids. -/
import Derived.Test.YtooaghcjlomcpaaSoA
import Derived.Shelf.SlicesE.Compact
namespace Go.Proofs
open Go.Shelf
def Try.laysE43_ren : Go.Shelf.Ren := ⟨fun | 43 => 43 | n => n, fun | 22 => 22 | 23 => 33 | n => n, fun | n => n⟩
theorem Try.laysE43 : Go.Proofs.SlLaysE.n43 Try.prog Try.laysE43_ren := {
  mixed := by kernel_rfl
  f43 := ⟨Try.f43.name, by decide, Try.func43.trans (congrArg some (by kernel_rfl))⟩
  t0 := Try.underlying0
  a0 := Try.isAgg0
  z0 := Try.sizeOf0
  v0 := Try.zeroValue0
  t3 := Try.underlying3
  a3 := Try.isAgg3
  z3 := Try.sizeOf3
  v3 := Try.zeroValue3
  t4 := Try.underlying4
  a4 := Try.isAgg4
  z4 := Try.sizeOf4
  v4 := Try.zeroValue4
  t22 := Try.underlying22
  a22 := Try.isAgg22
  z22 := Try.sizeOf22
  v22 := Try.zeroValue22
  a23 := Try.isAgg33
  z23 := Try.sizeOf33 }
end Go.Proofs
namespace Go.Proofs.Ytooaghcjlomcpaa
open Go.RowKit Go.Sort

/-- Of a sorted row what stays is each of its ids once, in order. -/
def comL (L : List Int) : List Int := Lib.compactUpTo L.toArray L.length
theorem com_at (L : List Int) (j : Nat) (hj : j < L.length) : L.toArray[j]! = iG L j := by
  simp [iG, hj]
theorem comN_spec (L : List Int) (h : Up L 0 L.length) : ∀ m, m ≤ L.length → SS (Lib.compactUpTo L.toArray m) ∧ ∀ y, y ∈ Lib.compactUpTo L.toArray m ↔ ∃ k, k < m ∧ iG L k = y
  | 0, _ => ⟨by unfold SS Lib.compactUpTo; simp, fun y => by unfold Lib.compactUpTo; simp⟩
  | m + 1, hm => by
    obtain ⟨ih1, ih2⟩ := comN_spec L h m (by omega)
    rw [Lib.compactUpTo_succ]
    by_cases hk : m = 0 ∨ iG L m ≠ iG L (m - 1)
    · have e : Lib.keeps L.toArray m = true := by
        unfold Lib.keeps
        rcases hk with hk | hk
        · simp [hk]
        · rw [com_at L m (by omega), com_at L (m - 1) (by omega)]; simp [hk]
      rw [e, if_pos rfl, com_at L m (by omega)]
      refine ⟨?_, fun y => ?_⟩
      · unfold SS at ih1 ⊢
        rw [List.pairwise_append]
        refine ⟨ih1, by simp, fun a ha b hb => ?_⟩
        obtain ⟨k, k1, rfl⟩ := (ih2 a).1 ha
        obtain rfl : b = iG L m := by simpa using hb
        have h1 := h (m - 1) m (by omega) (by omega) (by omega)
        by_cases e : k = m - 1
        · rw [e]; have : iG L m ≠ iG L (m - 1) := by rcases hk with hk | hk; { omega }; { exact hk }
          omega
        · have h2 := h k (m - 1) (by omega) (by omega) (by omega)
          have : iG L m ≠ iG L (m - 1) := by rcases hk with hk | hk; { omega }; { exact hk }
          omega
      · rw [List.mem_append, ih2]
        constructor
        · rintro (⟨k, k1, k2⟩ | hy)
          · exact ⟨k, by omega, k2⟩
          · exact ⟨m, by omega, by simpa [eq_comm] using hy⟩
        · rintro ⟨k, k1, k2⟩
          by_cases e : k = m
          · right; rw [← k2, e]; simp
          · exact .inl ⟨k, by omega, k2⟩
    · have hm0 : m ≠ 0 := fun e => hk (.inl e)
      have hq : iG L m = iG L (m - 1) := Classical.byContradiction fun e => hk (.inr e)
      have e : Lib.keeps L.toArray m = false := Lib.keeps_neg (by omega) (by rw [com_at L m (by omega), com_at L (m - 1) (by omega)]; exact hq)
      rw [e]
      simp only [Bool.false_eq_true, if_false, List.append_nil]
      refine ⟨ih1, fun y => ?_⟩
      rw [ih2]
      constructor
      · rintro ⟨k, k1, k2⟩; exact ⟨k, by omega, k2⟩
      · rintro ⟨k, k1, k2⟩
        by_cases e : k = m
        · exact ⟨m - 1, by omega, by rw [← hq, ← e]; exact k2⟩
        · exact ⟨k, by omega, k2⟩
theorem com_ss {L : List Int} (h : Up L 0 L.length) : SS (comL L) := (comN_spec L h L.length (Nat.le_refl _)).1
theorem com_mem {L : List Int} (h : Up L 0 L.length) (y : Int) : y ∈ comL L ↔ y ∈ L := ((comN_spec L h L.length (Nat.le_refl _)).2 y).trans mem_iG.symm
theorem comN_len (L : List Int) (m : Nat) : (Lib.compactUpTo L.toArray m).length ≤ m := by
  unfold Lib.compactUpTo
  rw [List.length_map]
  exact Nat.le_trans (List.length_filter_le _ _) (by simp)
theorem com_len (L : List Int) : (comL L).length ≤ L.length := comN_len L _

/-- slices.Compact leaves the row cut. -/
theorem compact43 (B : Nat) (p : Option Addr) (L : List Int) (c : Nat) (w : World) (h : OwnR B w p L c) :
    Calls Try.prog 43 #[.slice p L.length c] w fun e w' => ∃ c', e = .returned (.slice p (comL L).length c') ∧ OwnR B w' p (comL L) c' ∧ w.grownBy w' (p.map (·.block)) := by
  have hl := h.n
  rcases h.o.2 with ⟨he, h0⟩ | ⟨g, cap, cur, he, hbase, hb, h1, h2, h3, h4⟩
  · obtain rfl : L = [] := List.eq_nil_of_length_eq_zero h0
    injection he with e1 e2 e3
    subst e1 e3
    go_enter Try.func43, Try.ntmps43
    go_wp2
    go_ret
    exact ⟨0, rfl, OwnR.nil _ _, World.grownBy.refl _ _⟩
  · injection he with e1 e2 e3
    subst e1 e3
    have hH : Holds (Value.int .u64) w g 0 L.toArray := holds_of_blockU hb (by simpa using h4)
    refine Calls.mono (AnyE.slices_Compact Try.laysE43 (Value.int .u64) (fun _ => rfl) (EqlAt.intD _ _ _) (NeqAt.intD _ _ _) 0 Try.zeroValue33 g 0 c L.toArray w hH (by simp; omega) (by simpa using h1)) ?_
    rintro e w' ⟨rfl, q, rfl⟩
    have hcl := com_len L
    refine ⟨c, rfl, ⟨?_, by omega⟩, grownBy_putU _⟩
    have hlen : (comL L ++ List.replicate (L.length - (comL L).length) 0).length = L.length := by simp; omega
    refine ⟨by simp, .inr ⟨g, c, _, rfl, hbase, heap_putU _ hb, by omega, h2, by simp [putCells, h3], ?_⟩⟩
    have T := take_putCellsU cur (comL L ++ List.replicate (L.length - (comL L).length) 0) (by rw [hlen]; omega)
    rw [hlen] at T
    have T2 := congrArg (List.take (comL L).length) T
    rw [List.take_take, Nat.min_eq_left hcl] at T2
    rw [Nat.mul_one]
    refine Eq.trans T2 ?_
    simp [List.map_append]
end Go.Proofs.Ytooaghcjlomcpaa
