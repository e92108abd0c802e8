/- AllocSees: the document's All. -/
import Derived.Test.YtaglhajlgnjhcaaDoorSeB
import Derived.Test.YtaglhajlgnjhcaaDoorAlU
namespace Go.Proofs.YtaglhajlgnjhcaaDoor
open Go.RowKit

/-- The ids xs lie in v, in memory that is younger than w. -/
structure Av (w wr : World) (xs : List Int) (v : Value) : Prop where
  own : wr.ownsRow (w.heap.size + 1) 41 1 v xs.length (cellsI .u64 xs)
  b : Below w.heap.size w wr
  z : w.heap.size < wr.heap.size
theorem Av.alloc {w wr : World} {xs : List Int} {v : Value} (h : Av w wr xs v) (o : Obj) : Av w (wr.alloc o) xs v :=
  ⟨h.own.alloc o, h.b.alloc (by have := h.z; omega) o, by have := h.z; simp; omega⟩
theorem Av.app {w wr w1 : World} {xs xs' : List Int} {v v' : Value} (h : Av w wr xs v) (hown : w1.ownsRow (w.heap.size + 1) 41 1 v' xs'.length (cellsI .u64 xs')) (hg : wr.grownBy w1 v.ownBlock) : Av w w1 xs' v' :=
  ⟨hown, h.b.grown hg (by have := h.z; omega) (fun k e => by have := (h.own.lt k e).1; omega), Nat.lt_of_lt_of_le h.z hg.size⟩

theorem cell_two_new (w : World) (o : Obj) (x : Value) (t : TypeId) : ∀ j u, [x][j]? = some u → ((w.alloc o).alloc (.cells #[x] t)).cell? ((⟨w.heap.size + 1, 0, none⟩ : Addr).add j) = some u := by
  have h := cell_one_new (w.alloc o) x t
  rw [World.size_alloc] at h
  exact h

set_option maxRecDepth 20000 in
set_option maxHeartbeats 2000000 in
theorem refAll17 (m : Int) (p : Option Addr) (l : List (Int × Bool)) (c : Nat) (q : Option Addr) (n d : Nat) (w : World) (hS : SRow w.heap.size w p l) (hn : l.length ≤ 1048578) (hg : ∀ k, k < l.length → 0 ≤ sG l k ∧ sG l k ≤ 7) :
    Calls Tryd.prog 17 #[.agg #[.int .i64 m, .slice p l.length c, .slice q n d]] w fun e w' => ∃ v, e = .returned v ∧ Av w w' (livN l l.length) v := by
  obtain ⟨i0, hi, hz0, hz1, hz2⟩ := info_parts Tryd.info41
  have HG : Hid (∀ k, k < l.length → 0 ≤ sG l k ∧ sG l k ≤ 7) := hg
  clear hg
  go_enter Tryd.func17, Tryd.ntmps17
  go_wp2
  go_loopw [3, 9] (fun v i wr => ∃ k : Nat, k ≤ l.length ∧ i = .int .i64 k ∧ Av w wr (livN l k) v) (fun _ i _ => l.length - (intOf i).toNat)
  case atStart => exact ⟨0, Nat.zero_le _, rfl, ⟨World.ownsRow_nil _ _ _ _, (Below.refl _ _).alloc (Nat.le_refl _) _, by simp⟩⟩
  case round =>
    obtain ⟨k, hk, rfl, hA⟩ := hrel
    have HA : Hid _ := hA
    have hsz := hA.z
    have hll := livN_len l k
    by_cases hk' : k < l.length
    · obtain ⟨b, off, rfl, hbB, hcs⟩ := (hS.below hA.b (Nat.le_refl _)) (by omega)
      obtain ⟨c0, c1⟩ := hcs k hk'
      clear hcs hA
      obtain ⟨g0, g1⟩ := HG.out k hk'
      have HE := (show Hid (entV ((k : Int) + 1) (sG l k) = (k : Int) + 1 + sG l k * 4294967296) from ent_eq (by omega) (by omega) g0 g1)
      obtain ⟨g, hgg⟩ : ∃ g, g = sG l k := ⟨_, rfl⟩
      rw [← hgg] at c0 g0 g1
      have HGG : Hid (g = sG l k) := hgg
      clear hgg
      have CE := fun (W : World) => entity41 ((k : Int) + 1) g W (by omega) (by omega) g0 (by omega)
      cases hv : sA l k
      · rw [hv] at c1
        have HS : Hid (sA l k = false) := hv
        clear hv
        go_wp2
        go_roundw
        case rel => exact ⟨k + 1, by omega, by go_num, by rw [livN_f HS.out]; exact HA.out.alloc _⟩
        case measure => simp [intOf]; omega
      · rw [hv] at c1
        have HS : Hid (sA l k = true) := hv
        clear hv
        obtain ⟨y, hy⟩ : ∃ y, y = (k : Int) + 1 + g * 4294967296 := ⟨_, rfl⟩
        rw [← hy] at CE
        have HY : Hid (y = (k : Int) + 1 + g * 4294967296) := hy
        clear hy
        go_wp2_with (first | (go_at_call 41; refine Calls.mono (CE _) ?_; rintro e w1 ⟨rfl, rfl⟩) | (at_builtin; refine wpList_append_own _ rfl _ _ 36 rfl (w.heap.size + 1) 41 i0 (.int .u64 0) 1 8 Tryd.underlying36 hi hz0 hz1 hz2 rfl (by decide) _ _ _ rfl ((HA.out.alloc _).alloc _).own ⟨wr.heap.size + 1, 0, none⟩ 1 1 [.int .u64 y] rfl rfl (cell_two_new _ _ _ _) (by simp [Value.oneCell']) (by unfold maxLen; omega) (by omega) (by simp; omega) ?_; intro v' w6 hown6 hgrow6 _))
        go_roundw
        case rel => exact ⟨k + 1, by omega, by go_num, ((HA.out.alloc _).alloc _).app (by rw [livN_t HS.out, HE.out, ← HGG.out, ← HY.out]; simpa [cellsI] using hown6) hgrow6⟩
        case measure => simp [intOf]; omega
    · obtain rfl : k = l.length := by omega
      go_wp2
      go_ret
      exact ⟨_, rfl, HA.out⟩
end Go.Proofs.YtaglhajlgnjhcaaDoor
