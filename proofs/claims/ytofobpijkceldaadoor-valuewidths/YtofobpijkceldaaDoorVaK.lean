/- wakes: the layer does something. -/
import Derived.Test.YtofobpijkceldaaDoorVaJ
import Derived.Test.YtofobpijkceldaaDoorVaF
import Derived.Test.YtofobpijkceldaaDoorVaC
namespace Go.Proofs.YtofobpijkceldaaDoor
open Go.RowKit Go.Shelf

theorem hex1 : hexW 1 = [49] := by rw [hexW_small (by omega)]; decide
theorem hex255 : hexW 255 = [102, 102] := by rw [hexW_big (by omega), hexW_small (by omega)]; decide
theorem txt_wakes : txtV [1, 255] = ⟨#[49, 44, 102, 102]⟩ := by
  have e : texN [1, 255] 2 = [⟨1, by omega⟩, ⟨255, by omega⟩] := by simp [texN, toWd]
  unfold txtV
  simp only [List.length_cons, List.length_nil, Nat.zero_add, Nat.reduceAdd]
  rw [e]
  simp [isW, jn, jnL, hex1, hex255]
theorem prt_a : prts [49, 44, 102, 102] = [[49], [102, 102]] := by
  rw [prts_yes (by decide), show bhd [49, 44, 102, 102] = [102, 102] by decide, prts_no (by decide)]; decide
theorem prt_b : prts [48, 49] = [[48, 49]] := by rw [prts_no (by decide)]; decide
theorem read_a : rdV [49, 44, 102, 102] = [1, 255] ∧ rdE [49, 44, 102, 102] = 0 := by
  have h : rdOk [49, 44, 102, 102] = true := by unfold rdOk; rw [prt_a]; decide
  unfold rdV rdE
  rw [rdL_t h, rdN_t h, prt_a]
  decide
theorem read_b : rdV [48, 49] = [] ∧ rdE [48, 49] = 140 := by
  have h : rdOk [48, 49] = false := by unfold rdOk; rw [prt_b]; decide
  unfold rdV rdE
  rw [rdL_f h, rdN_f h]
  decide
theorem readA (w : World) : Calls Tryd.prog 22 #[.string ⟨#[49, 44, 102, 102]⟩] w fun e w' => ∃ p c, e = .returned (.tuple #[.slice p 2 c, .int .i64 0]) ∧ OwnR w.heap.size w' p [1, 255] c ∧ Below w.heap.size w w' := by
  have := read22 ⟨#[49, 44, 102, 102]⟩ w (by decide)
  rw [show bL ⟨#[49, 44, 102, 102]⟩ = [49, 44, 102, 102] from rfl, read_a.1, read_a.2] at this
  exact this
theorem readB (w : World) : Calls Tryd.prog 22 #[.string ⟨#[48, 49]⟩] w fun e w' => ∃ p c, e = .returned (.tuple #[.slice p 0 c, .int .i64 140]) ∧ Below w.heap.size w w' := by
  have := read22 ⟨#[48, 49]⟩ w (by decide)
  rw [show bL ⟨#[48, 49]⟩ = [48, 49] from rfl, read_b.1, read_b.2] at this
  refine this.mono ?_
  rintro e w' ⟨p, c, rfl, _, hb⟩
  exact ⟨p, c, rfl, hb⟩
/-- A new row. -/
theorem row_new (w : World) (l : List Int) (t : TypeId) : IRow .u64 (w.alloc (.cells (cellsI .u64 l).toArray t)).heap.size (w.alloc (.cells (cellsI .u64 l).toArray t)) (some ⟨w.heap.size, 0, none⟩) l := by
  intro _
  refine ⟨w.heap.size, 0, rfl, by simp, fun k hk => ?_⟩
  rw [World.cell?_alloc_at _ _ _ _ rfl]
  simp [cellsI, iG, hk]
theorem textA (w : World) (hT : Tb w) (t : TypeId) : Calls Tryd.prog 20 #[.slice (some ⟨w.heap.size, 0, none⟩) 2 2] (w.alloc (.cells #[.int .u64 1, .int .u64 255] t)) fun e w' => e = .returned (.tuple #[.string ⟨#[49, 44, 102, 102]⟩, .int .i64 0]) ∧ Below w.heap.size w w' := by
  have hb : Below w.heap.size w (w.alloc (.cells #[.int .u64 1, .int .u64 255] t)) := (Below.refl _ _).alloc (Nat.le_refl _) _
  have := text20 (some ⟨w.heap.size, 0, none⟩) [1, 255] 2 (w.alloc (.cells #[.int .u64 1, .int .u64 255] t)) (hT.to hb) (row_new w [1, 255] t) (by intro x hx; simp at hx; omega)
  rw [txt_wakes, show txtE [1, 255] = 0 by decide] at this
  refine this.mono ?_
  rintro e w' ⟨rfl, hb'⟩
  exact ⟨rfl, hb.trans (hb'.mono (by simp))⟩
def wsW : List Int := [0, 0, 3, 0, 0, 0, 0, 0, 0, 0, 0, 0, 0, 0, 0, 0, 0, 0, 0, 0, 0, 0, 0, 0]
theorem widthA (w : World) : Calls Tryd.prog 26 #[.agg (wsA wsW), .int .i64 3] w fun e w' => e = .returned (.tuple #[.int .i64 3, .int .i64 0]) ∧ Below w.heap.size w w' := by
  have := width26 wsW rfl 3 w
  rw [show wiV wsW 3 = 3 by decide, show wiE wsW 3 = 0 by decide] at this
  exact this
theorem wsW_lit : wsA wsW = #[.int .i64 0, .int .i64 0, .int .i64 3, .int .i64 0, .int .i64 0, .int .i64 0, .int .i64 0, .int .i64 0, .int .i64 0, .int .i64 0, .int .i64 0, .int .i64 0, .int .i64 0, .int .i64 0, .int .i64 0, .int .i64 0, .int .i64 0, .int .i64 0, .int .i64 0, .int .i64 0, .int .i64 0, .int .i64 0, .int .i64 0, .int .i64 0] := rfl
theorem equalA (p : Option Addr) (c : Nat) (B : Nat) (w : World) (t : TypeId) (ho : OwnR B w p [1, 255] c) :
    Calls Tryd.prog 17 #[.slice p 2 c, .slice (some ⟨w.heap.size, 0, none⟩) 2 2] (w.alloc (.cells #[.int .u64 1, .int .u64 255] t)) fun e w' => e = .returned (.bool true) ∧ Below w.heap.size w w' := by
  have hb : Below w.heap.size w (w.alloc (.cells #[.int .u64 1, .int .u64 255] t)) := (Below.refl _ _).alloc (Nat.le_refl _) _
  have := equal17 p [1, 255] c (some ⟨w.heap.size, 0, none⟩) [1, 255] 2 (w.alloc (.cells #[.int .u64 1, .int .u64 255] t)) (ho.row.i.to hb) (row_new w [1, 255] t) (by simp)
  rw [samI_refl] at this
  refine this.mono ?_
  rintro e w' ⟨rfl, hb'⟩
  exact ⟨rfl, hb.trans (hb'.mono (by simp))⟩
theorem compareA (w : World) (t u : TypeId) :
    Calls Tryd.prog 13 #[.slice (some ⟨w.heap.size, 0, none⟩) 1 1, .slice (some ⟨w.heap.size + 1, 0, none⟩) 2 2] ((w.alloc (.cells #[.int .u64 1] t)).alloc (.cells #[.int .u64 1, .int .u64 0] u)) fun e w' => e = .returned (.int .i64 (-1)) ∧ Below w.heap.size w w' := by
  have hb1 : Below w.heap.size w (w.alloc (.cells #[.int .u64 1] t)) := (Below.refl _ _).alloc (Nat.le_refl _) _
  have hb2 : Below (w.alloc (.cells #[.int .u64 1] t)).heap.size (w.alloc (.cells #[.int .u64 1] t)) ((w.alloc (.cells #[.int .u64 1] t)).alloc (.cells #[.int .u64 1, .int .u64 0] u)) := (Below.refl _ _).alloc (Nat.le_refl _) _
  have h1 := (row_new w [1] t).to hb2
  have h2 := row_new (w.alloc (.cells #[.int .u64 1] t)) [1, 0] u
  rw [World.size_alloc w (Obj.cells #[.int .u64 1] t)] at h2
  have := compare13 (some ⟨w.heap.size, 0, none⟩) [1] 1 (some ⟨w.heap.size + 1, 0, none⟩) [1, 0] 2 _ h1 h2 (by simp) (by simp)
  rw [show cmpL [1] [1, 0] = -1 by decide] at this
  refine this.mono ?_
  rintro e w' ⟨rfl, rfl⟩
  exact ⟨rfl, hb1.trans (hb2.mono (by simp))⟩

set_option maxRecDepth 100000 in
set_option maxHeartbeats 4000000 in
theorem wakes9 (w : World) (hT : Tb w) : Calls Tryd.prog 9 #[] w fun e w' => e = .returned (.bool true) ∧ Below w.heap.size w w' := by
  have CT := fun (t : TypeId) => textA w hT t
  have CW := fun (W : World) => widthA W
  rw [wsW_lit] at CW
  clear hT
  go_enter Tryd.func9, Tryd.ntmps9
  go_wp2_with (first
    | (go_at_call 20; refine Calls.mono (CT _) ?_; rintro e w1 ⟨rfl, hb1⟩; have HB1 := hidOg hb1; clear hb1)
    | (go_at_call_has 22 (Value.string ⟨#[49, 44, 102, 102]⟩); refine Calls.mono (readA _) ?_; rintro e w2 ⟨p, c, rfl, ho, hb⟩; have HO := hidOg ho; have HB2 := hidOg (HB1.out.trans (hb.mono HB1.out.size)); clear hb ho)
    | (go_at_call 26; refine Calls.mono (CW _) ?_; rintro e w3 ⟨rfl, hb⟩; have HO3 := hidOg (HO.out.to hb); have HB3 := hidOg (HB2.out.trans (hb.mono HB2.out.size)); clear hb)
    | (go_at_call_has 22 (Value.string ⟨#[48, 49]⟩); refine Calls.mono (readB _) ?_; rintro e w4 ⟨p4, c4, rfl, hb⟩; have HO4 := hidOg (HO3.out.to hb); have HB4 := hidOg (HB3.out.trans (hb.mono HB3.out.size)); clear hb)
    | (go_at_call 17; refine Calls.mono (equalA _ _ _ _ _ HO4.out) ?_; rintro e w5 ⟨rfl, hb⟩; have HB5 := hidOg (HB4.out.trans (hb.mono HB4.out.size)); clear hb)
    | (go_at_call 13; refine Calls.mono (compareA _ _ _) ?_; rintro e w6 ⟨rfl, hb⟩; have HB6 := hidOg (HB5.out.trans (hb.mono HB5.out.size)); clear hb))
  go_ret
  exact ⟨rfl, HB6.out⟩
end Go.Proofs.YtofobpijkceldaaDoor
