/- Give, where all are alive: its loop, and what it answers. -/
import Derived.Test.YtaglhajlgnjhcaaDoorAlT
import Derived.Maps.AppendAt
namespace Go.Proofs.YtaglhajlgnjhcaaDoor
open Go.RowKit

/-- What Give answers where the allocator may be, and all are alive. -/
def gPost (w : World) (m : Int) (l : List (Int × Bool)) (f : List Int) (r : Option (List (Int × Bool) × List Int)) (e : Ending) (w' : World) : Prop :=
  match r with
  | none => e = .returned (.tuple #[.agg #[.int .i64 0, .slice none 0 0, .slice none 0 0], .int .i64 2]) ∧ Below w.heap.size w w'
  | some s => ∃ G H, e = .returned (.tuple #[.agg #[.int .i64 m, .slice (some ⟨G, 0, none⟩) l.length l.length, .slice (some ⟨H, 0, none⟩) (f ++ srt s.2).length (f ++ srt s.2).length], .int .i64 0]) ∧ AOwn w w' G s.1 H (f ++ srt s.2)

theorem Gv.app0 {W0 wr w1 : World} {l : List (Int × Bool)} {left left' : List Int} {v : Value} (h : Gv W0 wr l left v) (hown : w1.ownsRow (W0.heap.size + 1) 3 1 v left'.length (cellsI .i64 left')) (hg : wr.grownBy w1 v.ownBlock) : Gv W0 w1 l left' v := by
  have hlt := (Array.getElem?_eq_some_iff.1 h.g).1
  refine ⟨?_, hown, ?_⟩
  · rw [hg.block W0.heap.size (by omega) ?_]
    · exact h.g
    · rcases h.own.2 with ⟨rfl, _⟩ | ⟨g, cap, cur, rfl, hbase, _⟩
      · simp [Value.ownBlock]
      · simp [Value.ownBlock]; omega
  · refine h.b.grown hg (by omega) ?_
    intro k hk
    rcases h.own.2 with ⟨rfl, _⟩ | ⟨g, cap, cur, rfl, hbase, _⟩
    · simp [Value.ownBlock] at hk
    · simp [Value.ownBlock] at hk; omega
theorem irow_own {w : World} {base : Nat} {v : Value} {l : List Int} (h : w.ownsRow base 3 1 v l.length (cellsI .i64 l)) : ∃ p c, v = .slice p l.length c ∧ IRow .i64 w.heap.size w p l := by
  rcases h.2 with ⟨rfl, h0⟩ | ⟨g, cap, cur, rfl, hbase, hb, _⟩
  · exact ⟨none, 0, by rw [h0], fun hp => by omega⟩
  · refine ⟨_, _, rfl, fun _ => ⟨g, 0, rfl, (Array.getElem?_eq_some_iff.1 hb).1, fun k hk => ?_⟩⟩
    rw [Nat.zero_add, h.cellAt k (by omega)]
    simp [cellsI, iG, hk]
/-- The result's box still holds nothing. -/
theorem Gv.box {W0 wr : World} {l : List (Int × Bool)} {left : List Int} {v : Value} (h : Gv W0 wr l left v) {R : Nat} {o : Obj} (hr : W0.heap[R]? = some o) : wr.heap[R]? = some o :=
  (h.b.block R (Array.getElem?_eq_some_iff.1 hr).1).trans hr
theorem below_set3 {B R : Nat} {w W : World} (h : Below B w W) (hR : B ≤ R) (x y z : Value) : Below B w (((W.setCell ⟨R, 0, none⟩ x).setCell ⟨R, 1, none⟩ y).setCell ⟨R, 2, none⟩ z) :=
  ((h.setCell (p := ⟨R, 0, none⟩) hR _).setCell (p := ⟨R, 1, none⟩) hR _).setCell (p := ⟨R, 2, none⟩) hR _

set_option maxRecDepth 20000 in
set_option maxHeartbeats 4000000 in
theorem give_run (m : Int) (c d : Nat) (qi : Option Addr) (ids : List Int) (ci : Nat) (w : World) (p : Option Addr) (l : List (Int × Bool)) (q : Option Addr) (f : List Int) (h : AIn w p l q f) (hI : IRow .u64 w.heap.size w qi ids) (hid : idsOk ids) (hn : ids.length ≤ 1073741824) (hm : mayB m l f = true) (ha : allLive l ids = true) :
    Calls Tryd.prog 29 #[.agg #[.int .i64 m, .slice p l.length c, .slice q f.length d], .slice qi ids.length ci] w (gPost w m l f (gRun l ids ids.length)) := by
  have l1 := h.ln
  have l2 := h.fn
  have CM := fun (o o' : Obj) => may_in m c d ((h.alloc o).alloc o')
  rw [hm] at CM
  have CE := fun (w1 : World) (hb : Below w.heap.size w w1) (a) (hz) => every49 ids qi ci w.heap.size m p l c q f.length d w1 (bxcap h.s hb a hz) ((hI.below hb (Nat.le_refl _)).mono hb.size) hid (by omega) (by omega)
  rw [ha] at CE
  have CS := fun (w1 : World) (hb : Below w.heap.size w w1) => own51n p l c none 0 w1 (h.below hb).s (by omega)
  have HA : Hid (allLive l ids = true) := ha
  have HI : Hid (IRow .u64 w.heap.size w qi ids) := hI
  have HID : Hid (idsOk ids) := hid
  have HH : Hid (AIn w p l q f) := h
  obtain ⟨i0, hi, hz0, hz1, hz2⟩ := info_parts Tryd.info3
  clear h hm ha hI hid
  go_enter Tryd.func29, Tryd.ntmps29
  go_wp2_with (first | (go_at_call 34; refine Calls.mono (CM _ _) ?_; rintro e w1 ⟨rfl, hb⟩; obtain ⟨⟨a0, a1, a2⟩, hr, hz⟩ := bx3 hb; have hb' := below2 hb) | (go_at_call 49; refine Calls.mono (CE _ hb' ⟨a0, a1, a2⟩ (by omega)) ?_; rintro e w2 ⟨rfl, hb2⟩; have hB2 := hb'.trans (hb2.mono hb'.size); have hs := atW hb2 hr; have e0 := (hb2.cell (p := ⟨w.heap.size, 0, none⟩) (by simp; omega)).trans a0; have e1 := (hb2.cell (p := ⟨w.heap.size, 1, none⟩) (by simp; omega)).trans a1; have e2 := (hb2.cell (p := ⟨w.heap.size, 2, none⟩) (by simp; omega)).trans a2; have zz := hb2.size) | (go_at_call 51; refine Calls.mono (CS _ hB2) ?_; rintro e w3 ⟨rfl, hg3, hb3⟩))
  have HB2 : Hid (Below w.heap.size w w2) := hB2
  have HS : Hid _ := hs
  have HG0 : Hid (Gv w2 w3 l [] (.slice none 0 0)) := ⟨hg3, World.ownsRow_nil _ _ _ _, hb3⟩
  have hzw : w.heap.size + 1 < w2.heap.size := by omega
  clear CM CE CS a0 a1 a2 hr hz hb hb' hb2 hB2 hs hg3 zz
  go_loopw [7, 27] (fun v i wr => ∃ (x : Nat) (l' : List (Int × Bool)) (left : List Int), x ≤ ids.length ∧ i = .int .i64 x ∧ gRun l ids x = some (l', left) ∧ Gv w2 wr l' left v) (fun _ i _ => ids.length - (intOf i).toNat)
  case atStart => exact ⟨0, l, [], Nat.zero_le _, rfl, rfl, HG0.out⟩
  case round =>
    obtain ⟨x, l', left, hx, rfl, hrun, hG⟩ := hrel
    have HR : Hid (gRun l ids x = some (l', left)) := hrun
    have HG : Hid (Gv w2 wr l' left _) := hG
    obtain ⟨hll, hlf⟩ := gRun_len hrun
    dsimp only at hll hlf
    clear hrun hG
    by_cases hx' : x < ids.length
    · obtain ⟨b, off, rfl, hbB, hcs⟩ := HI.out (by omega)
      have c0 := (HG.out.b.cell (p := ⟨b, off + x, none⟩) (by simp; omega)).trans ((HB2.out.cell (p := ⟨b, off + x, none⟩) hbB).trans (hcs x hx'))
      clear hcs
      obtain ⟨x0, x1⟩ := HID.out x hx'
      have hlv := allLive_at HA.out x hx'
      obtain ⟨j, hj, hjl⟩ : ∃ j : Nat, p1 (iG ids x) = (j : Int) + 1 ∧ j < l.length := by
        unfold livesB at hlv
        simp only [Bool.and_eq_true] at hlv
        have h12 : 1 ≤ p1 (iG ids x) ∧ p1 (iG ids x) ≤ (l.length : Int) := by simpa [hasB] using hlv.2.1
        exact ⟨(p1 (iG ids x) - 1).toNat, by omega, by omega⟩
      clear hlv
      have hj' : j < l'.length := by omega
      have CP := fun (w : World) => parts_any (iG ids x) w x0 x1
      rw [hj] at CP
      have HJ : Hid (p1 (iG ids x) = (j : Int) + 1) := hj
      clear hj
      have ej : ((j : Int) + 1 - 1).toNat = j := by omega
      by_cases h2 : (j : Int) + 1 ≤ 2
      · have HX : Hid ((j : Int) + 1 ≤ 2) := h2
        go_wp2_with (first | (go_at_call 52; refine Calls.mono (CP _) ?_; rintro e w4 ⟨rfl, hb4⟩; have HG4 : Hid _ := HG.out.below hb4; obtain ⟨s0, s1, s2, sf, s3⟩ := cells3 (HG4.out.box HS.out)))
        obtain ⟨t0, t1, t2, _, _⟩ := cells3 (set3_heap (x' := .int .i64 0) (y' := .slice none 0 0) (z' := .slice none 0 0) (HG4.out.box HS.out))
        have hnone := gRun_none (l := l) (ids := ids) (k := x + 1) ((gRun_succ HR.out).trans (by unfold gStep; rw [HJ.out, decide_eq_true HX.out]; rfl)) (by omega : x + 1 ≤ ids.length)
        exact bodyPost_ret (v := .tuple #[.agg #[.int .i64 0, .slice none 0 0, .slice none 0 0], .int .i64 2]) (by simp [results, Tryd.results29, go_sem, t0, t1, t2]) rfl (by rw [hnone]; exact ⟨rfl, below_set3 (HB2.out.trans (HG4.out.b.mono HB2.out.size)) (by omega) _ _ _⟩)
      · have HX : Hid (decide ((j : Int) + 1 ≤ 2) = false) := decide_eq_false h2
        cases hsa : sA l' j
        · have HV : Hid (sA l' j = false) := hsa
          go_wp2_with (first | (go_at_call 52; refine Calls.mono (CP _) ?_; rintro e w4 ⟨rfl, hb4⟩; have HG4 : Hid _ := HG.out.below hb4; obtain ⟨s0, s1, s2, sf, s3⟩ := cells3 (HG4.out.box HS.out); obtain ⟨g0, g1, gf, g3⟩ := cellG HG4.out.g j hj'; rw [hsa] at g1))
          obtain ⟨t0, t1, t2, _, _⟩ := cells3 (set3_heap (x' := .int .i64 0) (y' := .slice none 0 0) (z' := .slice none 0 0) (HG4.out.box HS.out))
          have hnone := gRun_none (l := l) (ids := ids) (k := x + 1) ((gRun_succ HR.out).trans (by unfold gStep; rw [HJ.out, HX.out, ej, HV.out]; rfl)) (by omega : x + 1 ≤ ids.length)
          exact bodyPost_ret (v := .tuple #[.agg #[.int .i64 0, .slice none 0 0, .slice none 0 0], .int .i64 2]) (by simp [results, Tryd.results29, go_sem, t0, t1, t2]) rfl (by rw [hnone]; exact ⟨rfl, below_set3 (HB2.out.trans (HG4.out.b.mono HB2.out.size)) (by omega) _ _ _⟩)
        · have HV : Hid (sA l' j = true) := hsa
          have CU := fun (w : World) => usable_any (sG l' j) false w
          cases hu : usB (sG l' j) false
          · rw [hu] at CU
            have HU : Hid (usB (sG l' j) false = false) := hu
            clear hu
            go_wp2_with (first | (go_at_call 52; refine Calls.mono (CP _) ?_; rintro e w4 ⟨rfl, hb4⟩; have HG4 : Hid _ := HG.out.below hb4; obtain ⟨g0, g1, gf, g3⟩ := cellG HG4.out.g j hj'; rw [hsa] at g1) | (go_at_call 53; refine Calls.mono (CU _) ?_; rintro e w5 ⟨rfl, hb5⟩; have HG5 : Hid _ := (HG4.out.set j).below hb5))
            go_roundw
            case rel => exact ⟨x + 1, l'.set j (sG l' j, false), left, by omega, by go_num, (gRun_succ HR.out).trans (by unfold gStep; rw [HJ.out, HX.out, ej, HV.out, HU.out]; simp), HG5.out⟩
            case measure => simp [intOf]; omega
          · rw [hu] at CU
            have HU : Hid (usB (sG l' j) false = true) := hu
            clear hu
            go_wp2_with (first | (go_at_call 52; refine Calls.mono (CP _) ?_; rintro e w4 ⟨rfl, hb4⟩; have HG4 : Hid _ := HG.out.below hb4; obtain ⟨g0, g1, gf, g3⟩ := cellG HG4.out.g j hj'; rw [hsa] at g1) | (go_at_call 53; refine Calls.mono (CU _) ?_; rintro e w5 ⟨rfl, hb5⟩; have HG5 : Hid _ := (HG4.out.set j).below hb5; have hz5 := (Array.getElem?_eq_some_iff.1 HG5.out.g).1) | (at_builtin; refine wpList_append_own _ rfl _ _ 23 rfl (w2.heap.size + 1) 3 i0 (.int .i64 0) 1 8 Tryd.underlying23 hi hz0 hz1 hz2 rfl (by decide) _ _ _ rfl (HG5.out.own.alloc _) ⟨w5.heap.size, 0, none⟩ 1 1 [.int .i64 ((j : Int) + 1)] rfl rfl (cell_one_new _ _ _) (by simp [Value.oneCell']) (by unfold maxLen; omega) (by omega) (by simp; omega) ?_; intro v' w6 hown6 hgrow6 _))
            go_roundw
            case rel => exact ⟨x + 1, l'.set j (sG l' j, false), left ++ [(j : Int) + 1], by omega, by go_num, (gRun_succ HR.out).trans (by unfold gStep; rw [HJ.out, HX.out, ej, HV.out, HU.out]; simp), HG5.out.app (by simpa [cellsI] using hown6) hgrow6⟩
            case measure => simp [intOf]; omega
    · obtain rfl : x = ids.length := by omega
      have CT := sort54 (w2.heap.size + 1) _ left wr HG.out.own (by omega)
      go_wp2_with (first | (go_at_call 54; refine Calls.mono CT ?_; rintro e w5 ⟨rfl, hown5, hg5⟩; have HG5 : Hid _ := HG.out.app0 (left' := srt left) (by rw [srt_len]; exact hown5) hg5))
      clear hown5 hg5 CT
      obtain ⟨p2, c2, hv, hI2⟩ := irow_own HG5.out.own
      subst hv
      have HI2 : Hid (IRow .i64 w5.heap.size w5 p2 (srt left)) := hI2
      clear hI2
      have HBw : Hid (Below w.heap.size w w5) := HB2.out.trans (HG5.out.b.mono HB2.out.size)
      have CI := fun (W : World) (hb : Below w5.heap.size w5 W) => own55 q f d p2 (srt left) c2 W ((HH.out.below (HBw.out.trans (hb.mono HBw.out.size))).i) ((HI2.out.below hb (Nat.le_refl _)).mono hb.size) (by omega) (by rw [srt_len]; omega)
      have hz5 : w2.heap.size < w5.heap.size := (Array.getElem?_eq_some_iff.1 HG5.out.g).1
      have d0 := (HG5.out.b.cell (p := ⟨w.heap.size, 0, none⟩) (by simp; omega)).trans e0
      have d1 := (HG5.out.b.cell (p := ⟨w.heap.size, 1, none⟩) (by simp; omega)).trans e1
      have d2 := (HG5.out.b.cell (p := ⟨w.heap.size, 2, none⟩) (by simp; omega)).trans e2
      clear e0 e1 e2 hi hz0 hz1 hz2
      obtain ⟨s0, s1, s2, sf, s3⟩ := cells3 (HG5.out.box HS.out)
      have hR : w.heap.size + 1 ≠ w.heap.size := by omega
      have HN : Hid ((f ++ srt left).length = f.length + (srt left).length) := List.length_append
      have HQ : Hid (gRun l ids ids.length = some (l', left)) := HR.out
      go_region_held3 (fun w' => w'.cell? ⟨w.heap.size, 0, none⟩ = some (.int .i64 m) ∧ w'.cell? ⟨w.heap.size, 1, none⟩ = some (.slice p l.length c) ∧ w'.cell? ⟨w.heap.size, 2, none⟩ = some (.slice q f.length d)) (first | go_keep | with_reducible exact TT.out _ _ _) (first | (go_at_call 55; refine Calls.mono (CI _ ?_) ?_; exact (Below.refl _ w5).drew; rintro e w6 ⟨rfl, hh6, hb6⟩; have HH6 : Hid _ := hh6; clear hh6; have HB6 : Hid (Below w5.heap.size w5 w6) := ((Below.refl _ _).drew).trans hb6; have HG6 : Hid _ := HG5.out.below HB6.out; obtain ⟨u0, u1, u2, uf, u3⟩ := cells3 (HG6.out.box HS.out); have f0 := (HB6.out.cell (p := ⟨w.heap.size, 0, none⟩) (by simp; omega)).trans d0; have f1 := (HB6.out.cell (p := ⟨w.heap.size, 1, none⟩) (by simp; omega)).trans d1; have f2 := (HB6.out.cell (p := ⟨w.heap.size, 2, none⟩) (by simp; omega)).trans d2; have TT : Hid _ := fun (x y z : Value) => (⟨set3far hR f0, set3far hR f1, set3far hR f2⟩ : (((w6.setCell ⟨w.heap.size + 1, 0, none⟩ x).setCell ⟨w.heap.size + 1, 1, none⟩ y).setCell ⟨w.heap.size + 1, 2, none⟩ z).cell? ⟨w.heap.size, 0, none⟩ = some (.int .i64 m) ∧ (((w6.setCell ⟨w.heap.size + 1, 0, none⟩ x).setCell ⟨w.heap.size + 1, 1, none⟩ y).setCell ⟨w.heap.size + 1, 2, none⟩ z).cell? ⟨w.heap.size, 1, none⟩ = some (.slice p l.length c) ∧ (((w6.setCell ⟨w.heap.size + 1, 0, none⟩ x).setCell ⟨w.heap.size + 1, 1, none⟩ y).setCell ⟨w.heap.size + 1, 2, none⟩ z).cell? ⟨w.heap.size, 2, none⟩ = some (.slice q f.length d))))
      all_goals go_wp2
      obtain ⟨t0, t1, t2, _, _⟩ := cells3 (set3_heap (x' := .int .i64 m) (y' := .slice (some ⟨w2.heap.size, 0, none⟩) l.length l.length) (z' := .slice (some ⟨w5.heap.size, 0, none⟩) (f ++ srt left).length (f ++ srt left).length) (HG6.out.box HS.out))
      have hown : AOwn w (((w6.setCell ⟨w.heap.size + 1, 0, none⟩ (.int .i64 m)).setCell ⟨w.heap.size + 1, 1, none⟩ (.slice (some ⟨w2.heap.size, 0, none⟩) l.length l.length)).setCell ⟨w.heap.size + 1, 2, none⟩ (.slice (some ⟨w5.heap.size, 0, none⟩) (f ++ srt left).length (f ++ srt left).length)) w2.heap.size l' w5.heap.size (f ++ srt left) :=
        ⟨(set3_other (by omega)).trans HG6.out.g, ⟨[], by rw [List.append_nil]; exact (set3_other (by omega)).trans HH6.out⟩, HB2.out.size, by omega, below_set3 (HBw.out.trans (HB6.out.mono HBw.out.size)) (by omega) _ _ _⟩
      rw [HN.out] at t0 t1 t2 hown
      exact bodyPost_ret (v := .tuple #[.agg #[.int .i64 m, .slice (some ⟨w2.heap.size, 0, none⟩) l.length l.length, .slice (some ⟨w5.heap.size, 0, none⟩) (f ++ srt left).length (f ++ srt left).length], .int .i64 0]) (by simp [results, Tryd.results29, go_sem, t0, t1, t2]) rfl (by rw [HQ.out]; refine ⟨_, _, rfl, ?_⟩; exact hown)
end Go.Proofs.YtaglhajlgnjhcaaDoor
