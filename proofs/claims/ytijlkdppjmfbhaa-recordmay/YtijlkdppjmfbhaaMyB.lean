/- RecordMay: the walk. -/
import Derived.Test.YtijlkdppjmfbhaaMyA
import Derived.Deep.RegionHeld3
namespace Go.Proofs.Ytijlkdppjmfbhaa
open Go.RowKit Go.Sort Go.Maps

theorem zb0 {w1 w2 : World} (hb : Below w1.drew.heap.size w1.drew w2) : Below w1.heap.size w1 w2 := (Below.refl _ _).drew.trans hb
theorem yy1 {w1 w2 : World} {o : Obj} (hb : Below (w1.alloc o).heap.size (w1.alloc o) w2) : w2.heap[w1.heap.size]? = some o := atW hb (heap_alloc_new w1 o)
theorem yy2 {w1 w2 : World} {o o' : Obj} (hb : Below ((w1.alloc o).alloc o').heap.size ((w1.alloc o).alloc o') w2) : w2.heap[w1.heap.size]? = some o ∧ w2.heap[w1.heap.size + 1]? = some o' := by
  obtain ⟨h1, h2⟩ := al2 w1 o o'
  exact ⟨atW hb h1, atW hb h2⟩
theorem zz1 {w1 w2 : World} {o : Obj} (hb : Below (w1.alloc o).drew.heap.size (w1.alloc o).drew w2) : w2.heap[w1.heap.size]? = some o := yy1 (zb0 hb)
theorem zz2 {w1 w2 : World} {o o' : Obj} (hb : Below ((w1.alloc o).alloc o').drew.heap.size ((w1.alloc o).alloc o').drew w2) : w2.heap[w1.heap.size]? = some o ∧ w2.heap[w1.heap.size + 1]? = some o' := yy2 (zb0 hb)
set_option maxRecDepth 20000 in
set_option maxHeartbeats 8000000 in
theorem may_walk (p : Option Addr) (l : List Sp) (c : Nat) (q : Option Addr) (m : List Sp) (e0 : Nat) (pn : Option Addr) (N : List Int) (cn : Nat) (ps : Option Addr) (S : List Sp) (cs : Nat) (w : World) (hE : SRow w.heap.size w p l) (hw : wfL l) (hl : l.length ≤ maxLen) (hc : l.length ≤ c) (hF : SRow w.heap.size w q m) (hm : m.length ≤ maxLen) (he : m.length ≤ e0)
    (hN : IRow .i64 w.heap.size w pn N) (hNl : N.length ≤ maxLen) (hS : SRow w.heap.size w ps S) (hSl : S.length ≤ maxLen) (hSw : wfL S) :
    Calls Try.prog 3 #[.agg #[.slice p l.length c, .slice q m.length e0], .slice pn N.length cn, .slice ps S.length cs] w fun e w' => e = .returned (.bool true) ∧ Below w.heap.size w w' := by
  have hb0 := bal w (.cells #[.slice p l.length c, .slice q m.length e0] 25)
  have HB0 := hidOg hb0
  have HP0 := hidOg (blk1 (W := w) (o := .cells #[.slice p l.length c, .slice q m.length e0] 25))
  have CO := fun (W : World) (hb : Below w.heap.size w W) => own9 p l c W (hE.to hb) hl hc
  have CO2 := fun (W : World) (hb : Below w.heap.size w W) => own9 q m e0 W (hF.to hb) hm he
  have hL40 : (l.take 40).length ≤ 40 := by simp; omega
  have hM40 : (m.take 40).length ≤ 40 := by simp; omega
  have hwL := hw.take 40
  obtain ⟨L, hL⟩ : ∃ L, L = l.take 40 := ⟨_, rfl⟩
  obtain ⟨M, hM⟩ : ∃ M, M = m.take 40 := ⟨_, rfl⟩
  rw [← hL] at CO hL40 hwL
  rw [← hM] at CO2 hM40
  have HNN := hidOg hN
  have HSS := hidOg hS
  have HSW := hidOg hSw
  have hNl' : N.length ≤ 9223372036854775807 := by unfold maxLen at hNl; exact hNl
  have hSl' : S.length ≤ 9223372036854775807 := by unfold maxLen at hSl; exact hSl
  clear hE hw hl hc hF hm he hb0 hL hM hN hS hSw hNl hSl
  go_enter Try.func3, Try.ntmps3
  go_wp2_with (first
    | (go_at_call 8; refine Calls.mono (wakes8 _) ?_; rintro e w1 ⟨rfl, hb⟩; have HB1 := hidOg (HB0.out.trans (hb.mono HB0.out.size)); have HP1 := hidOg (atW hb HP0.out); obtain ⟨x0, x1, _⟩ := cell2_heap HP1.out; clear hb))
  obtain ⟨wy, hwy⟩ : ∃ wy, wy = w1.alloc (.cells #[.slice p l.length c] 24) := ⟨_, rfl⟩
  have HBy : Hid (Below w.heap.size w wy) := by rw [hwy]; exact HB1.out.trans ((bal _ _).mono HB1.out.size)
  have HPy : Hid (wy.heap[w.heap.size]? = some (.cells #[.slice p l.length c, .slice q m.length e0] 25)) := by rw [hwy]; exact atW (bal _ _) HP1.out
  have HXy : Hid (wy.heap[w1.heap.size]? = some (.cells #[.slice p l.length c] 24)) := by rw [hwy]; exact blk1
  rw [← hwy]
  clear hwy x0 x1
  obtain ⟨Bx, hBx⟩ : ∃ Bx, Bx = w1.heap.size := ⟨_, rfl⟩
  rw [← hBx] at HXy
  rw [← hBx]
  clear hBx HB0 HP0 HB1 HP1
  have HY0 : Hid (Be wy.heap.size wy wy) := Be.refl (Nat.le_refl _)
  have HK : Hid (∀ Z, Below wy.heap.size wy Z → Z.cell? ⟨Bx, 0, none⟩ = some (.slice p l.length c) ∧ Z.cell? ⟨w.heap.size, 1, none⟩ = some (.slice q m.length e0)) := fun Z hz => ⟨cell1_heap (atW hz HXy.out), (cell2_heap (atW hz HPy.out)).2.1⟩
  have CP := fun (Z : World) (hz : Be wy.heap.size wy Z) => CO Z (HBy.out.trans (hz.b.mono HBy.out.size))
  have CQ := fun (Z : World) (hz : Be wy.heap.size wy Z) => CO2 Z (HBy.out.trans (hz.b.mono HBy.out.size))
  obtain ⟨i0, i1⟩ := HK.out _ HY0.out.b
  go_cut [8, 9] from 28 to 32 (fun s8 s9 wx => ∃ B8 qa da B9 qb db, s8 = .pointer (some ⟨B8, 0, none⟩) ∧ s9 = .pointer (some ⟨B9, 0, none⟩) ∧ KM w (.slice p l.length c) qa L da Bx B8 wx ∧ wx.heap[B9]? = some (.cells #[.slice qb M.length db] 24) ∧ GvS 0 wx qb M db)
  case first =>
    go_region_held3 (fun w' => w'.cell? ⟨Bx, 0, none⟩ = some (.slice p l.length c) ∧ w'.cell? ⟨w.heap.size, 1, none⟩ = some (.slice q m.length e0)) (first | with_reducible exact ⟨k0, k1⟩ | with_reducible exact ⟨j0, j1⟩ | with_reducible exact ⟨i0, i1⟩ | (refine HK.out _ (Be.b ?_); (repeat (first | exact HY0.out | exact HBB.out | exact HAB.out | refine Be.al ?_ _ | refine Be.dr ?_ | refine Be.st ?_ (by first | exact Nat.le_refl _ | exact Nat.le_succ _ | exact sA | exact Nat.le_succ_of_le sA | exact HBB.out.s | exact Nat.le_succ_of_le HBB.out.s | omega | (dsimp only; omega)) _)); done)) (first
      | (go_at_call_has 9 p; refine Calls.mono (CP _ (by (repeat (first | exact HY0.out | exact HAB.out | exact HBB.out | refine Be.al ?_ _ | refine Be.dr ?_)))) ?_; rintro e wA ⟨qa, da, rfl, hg, hb⟩; have HAB : Hid (Be wy.heap.size wy wA) := (show Be wy.heap.size wy wA from Be.to (by (repeat (first | exact HY0.out | exact HAB.out | exact HBB.out | refine Be.al ?_ _ | refine Be.dr ?_))) hb); have HRA : Hid (Be wA.heap.size wA wA) := Be.refl (Nat.le_refl _); have HGA := hidOg (hg.weak (Nat.zero_le _)); (first | (have HZA := hidOg (zz2 hb); have zA0 := cell1_heap HZA.out.1; have zA1 := cell1_heap HZA.out.2; have fA0 := fr_heap HZA.out.1; have fA1 := fr_heap HZA.out.2; have lA0 := (Array.getElem?_eq_some_iff.1 HZA.out.1).1; have lA1 := (Array.getElem?_eq_some_iff.1 HZA.out.2).1) | (have HZA := hidOg (zz1 hb); have zA0 := cell1_heap HZA.out; have fA0 := fr_heap HZA.out; have lA0 := (Array.getElem?_eq_some_iff.1 HZA.out).1) | skip); obtain ⟨j0, j1⟩ := HK.out _ HAB.out.b; have sA := HAB.out.s; clear hg hb)
      | (go_at_call_has 9 q; refine Calls.mono (CQ _ (by (repeat (first | exact HY0.out | exact HAB.out | exact HBB.out | refine Be.al ?_ _ | refine Be.dr ?_)))) ?_; rintro e wB ⟨qb, db, rfl, hg, hb⟩; have HBA : Hid (Be wA.heap.size wA wB) := (show Be wA.heap.size wA wB from Be.to (by (repeat (first | exact HRA.out | refine Be.al ?_ _ | refine Be.dr ?_))) hb); have HBB : Hid (Be wy.heap.size wy wB) := HAB.out.tr HBA.out HAB.out.s; have HGB := hidOg (hg.weak (Nat.zero_le _)); have HGC := hidOg (HGA.out.to HBA.out.b); (first | (have HZB := hidOg (yy2 hb); have zB0 := cell1_heap HZB.out.1; have zB1 := cell1_heap HZB.out.2; have fB0 := fr_heap HZB.out.1; have fB1 := fr_heap HZB.out.2; have lB0 := (Array.getElem?_eq_some_iff.1 HZB.out.1).1; have lB1 := (Array.getElem?_eq_some_iff.1 HZB.out.2).1) | (have HZB := hidOg (yy1 hb); have zB0 := cell1_heap HZB.out; have fB0 := fr_heap HZB.out; have lB0 := (Array.getElem?_eq_some_iff.1 HZB.out).1) | skip); (first | (have HZC := hidOg (And.intro (atW HBA.out.b HZA.out.1) (atW HBA.out.b HZA.out.2)); have zC0 := cell1_heap HZC.out.1; have zC1 := cell1_heap HZC.out.2; have fC0 := fr_heap HZC.out.1; have fC1 := fr_heap HZC.out.2; have lC0 := (Array.getElem?_eq_some_iff.1 HZC.out.1).1; have lC1 := (Array.getElem?_eq_some_iff.1 HZC.out.2).1; clear zA0 zA1 fA0 fA1) | (have HZC := hidOg (atW HBA.out.b HZA.out); have zC0 := cell1_heap HZC.out; have fC0 := fr_heap HZC.out; have lC0 := (Array.getElem?_eq_some_iff.1 HZC.out).1; clear zA0 fA0) | skip); obtain ⟨k0, k1⟩ := HK.out _ HBB.out.b; have sB := HBA.out.s; clear hg hb))
    trace "WAYS"
    all_goals go_wp2
    all_goals go_meet
    all_goals
      refine ⟨_, qa, da, _, qb, db, rfl, rfl, ⟨?_, ?_, ?_, ?_⟩, ?_, ?_⟩
      · refine HBy.out.trans (Below.mono (Be.b (N := wy.heap.size) ?_) HBy.out.size)
        (repeat (first | exact HY0.out | exact HBB.out | exact HAB.out | refine Be.al ?_ _ | refine Be.dr ?_ | refine Be.st ?_ (by first | exact Nat.le_refl _ | exact Nat.le_succ _ | exact sA | exact Nat.le_succ_of_le sA | exact HBB.out.s | exact Nat.le_succ_of_le HBB.out.s | omega | (dsimp only; omega)) _))
      · refine atW (Be.b (N := wy.heap.size) ?_) HXy.out
        (repeat (first | exact HY0.out | exact HBB.out | exact HAB.out | refine Be.al ?_ _ | refine Be.dr ?_ | refine Be.st ?_ (by first | exact Nat.le_refl _ | exact Nat.le_succ _ | exact sA | exact Nat.le_succ_of_le sA | exact HBB.out.s | exact Nat.le_succ_of_le HBB.out.s | omega | (dsimp only; omega)) _))
      · (repeat (first | exact HZC.out.1 | exact HZC.out.2 | exact HZC.out | exact HZB.out.1 | exact HZB.out.2 | exact HZB.out | exact blkS (by first | rfl | simp) | refine set1_heap (a := .slice none 0 0) ?_ _ | refine (heap_setCell_other _ _ _ _ (by first | omega | (simp; done) | (dsimp only; omega) | (simp; omega))).trans ?_ | refine (Below.heap_alloc _ _ _ (by first | exact lC0 | exact lC1 | exact lB0 | exact lB1 | (simp; done) | (simp; omega))).trans ?_))
      · (repeat (first | exact HGC.out | refine GvS.to ?_ (bal _ _) | refine GvS.setT (cs := #[.slice none 0 0]) ?_ (by (repeat (first | exact HZC.out.1 | exact HZC.out.2 | exact HZC.out | exact HZB.out.1 | exact HZB.out.2 | exact HZB.out | exact blkS (by first | rfl | simp) | refine set1_heap (a := .slice none 0 0) ?_ _ | refine (heap_setCell_other _ _ _ _ (by first | omega | (simp; done) | (dsimp only; omega) | (simp; omega))).trans ?_ | refine (Below.heap_alloc _ _ _ (by first | exact lC0 | exact lC1 | exact lB0 | exact lB1 | (simp; done) | (simp; omega))).trans ?_))) _))
      · (repeat (first | exact HZC.out.1 | exact HZC.out.2 | exact HZC.out | exact HZB.out.1 | exact HZB.out.2 | exact HZB.out | exact blkS (by first | rfl | simp) | refine set1_heap (a := .slice none 0 0) ?_ _ | refine (heap_setCell_other _ _ _ _ (by first | omega | (simp; done) | (dsimp only; omega) | (simp; omega))).trans ?_ | refine (Below.heap_alloc _ _ _ (by first | exact lC0 | exact lC1 | exact lB0 | exact lB1 | (simp; done) | (simp; omega))).trans ?_))
      · (repeat (first | exact HGB.out | refine GvS.to ?_ (bal _ _) | refine GvS.setT (cs := #[.slice none 0 0]) ?_ (by (repeat (first | exact HZC.out.1 | exact HZC.out.2 | exact HZC.out | exact HZB.out.1 | exact HZB.out.2 | exact HZB.out | exact blkS (by first | rfl | simp) | refine set1_heap (a := .slice none 0 0) ?_ _ | refine (heap_setCell_other _ _ _ _ (by first | omega | (simp; done) | (dsimp only; omega) | (simp; omega))).trans ?_ | refine (Below.heap_alloc _ _ _ (by first | exact lC0 | exact lC1 | exact lB0 | exact lB1 | (simp; done) | (simp; omega))).trans ?_))) _))
  case rest =>
    obtain ⟨B8, qa, da, B9, qb, db, rfl, rfl, hK, hy9, hg9⟩ := hcut
    have HKM := hidOg hK
    have HY9 := hidOg hy9
    have HG9 := hidOg hg9
    have b8 := cell1_heap hK.y
    clear hK hy9 hg9 i0 i1 CP CQ HK HY0 HXy HPy HBy CO2
    have hl1 : L.length ≤ 1099511627776 := by omega
    have CR := fun (Z : World) (h : KM w (.slice p l.length c) qa L da Bx B8 Z) => refRight10 qa L da Z h.g.i hl1 h.g.r
    have CC := fun (Z : World) (h : KM w (.slice p l.length c) qa L da Bx B8 Z) => check11 qa L da Z h.g.i hwL hl1
    have CS := fun (Z : World) (h : KM w (.slice p l.length c) qa L da Bx B8 Z) (h9 : GvS 0 Z qb M db) => same12 qa L da qb M db Z h.g.i h9.i hl1
    have CF := fun (Z : World) (h : KM w (.slice p l.length c) qa L da Bx B8 Z) (h9 : GvS 0 Z qb M db) => refSame13 qa L da qb M db Z h.g.i h9.i hl1
    have CSL := fun (Z : World) (q' : Option Addr) (d' B' : Nat) (h : KM w (.slice p l.length c) qa L da Bx B8 Z) (h9 : GvS B' Z q' L d') => refSame13 qa L da q' L d' Z h.g.i h9.i hl1
    rw [samS_refl] at CSL
    obtain ⟨v, hv⟩ : ∃ v, v = mayS L := ⟨_, rfl⟩
    have HV := hidOg hv
    rw [← hv] at CR CC
    obtain ⟨er, her⟩ : ∃ er : Int, er = (if v then 0 else 200) := ⟨_, rfl⟩
    rw [← her] at CC
    have HER := hidOg her
    clear her
    obtain ⟨sv, hsv⟩ : ∃ sv, sv = samS L M := ⟨_, rfl⟩
    rw [← hsv] at CS CF
    have hss : (sv != sv) = false := by simp
    clear hv hsv
    go_wp2_with (first
      | (go_at_call 10; refine Calls.mono (CR _ HKM.out) ?_; clear b8; rintro e w3 ⟨rfl, hb⟩; have HK3 := hidOg (HKM.out.to hb); have HZ3 := hidOg (atW hb HY9.out); have HG3 := hidOg (HG9.out.to hb); have b8 := cell1_heap HK3.out.y; clear hb)
      | (go_at_call 11; refine Calls.mono (CC _ HK3.out) ?_; clear b8; rintro e w4 ⟨rfl, hb⟩; have HK4 := hidOg (HK3.out.to hb); have HZ4 := hidOg (atW hb HZ3.out); have HG4 := hidOg (HG3.out.to hb); have b8 := cell1_heap HK4.out.y; have b9 := cell1_heap HZ4.out; have HKd : Hid (KM w (.slice p l.length c) qa L da Bx B8 w4.drew) := HK4.out.to (Below.refl _ _).drew; have HGd : Hid (GvS 0 w4.drew qb M db) := HG4.out.to (Below.refl _ _).drew; have HZd : Hid (w4.drew.heap[B9]? = some (.cells #[.slice qb M.length db] 24)) := HZ4.out; clear hb))
    go_cut [57] from 37 to 57 (fun s57 wx => s57 = .bool false ∧ KM w (.slice p l.length c) qa L da Bx B8 wx)
    case first =>
      cases v
      · have he9 : er = 200 := HER.out
        subst he9
        go_region_held3 (fun w' => w'.cell? ⟨B8, 0, none⟩ = some (.slice qa L.length da) ∧ w'.cell? ⟨B9, 0, none⟩ = some (.slice qb M.length db)) (first | with_reducible exact ⟨b8, b9⟩ | with_reducible exact ⟨x8, x9⟩ | with_reducible exact ⟨y8, y9⟩ | go_keep) (first
          | (go_at_call 12; refine Calls.mono (CS _ HKd.out HGd.out) ?_; rintro e w5 ⟨rfl, hb⟩; have HK5 := hidOg (HKd.out.to hb); have HG5 := hidOg (HGd.out.to hb); have HZ5 := hidOg (atW hb HZd.out); obtain ⟨x8, x9⟩ := (And.intro (cell1_heap HK5.out.y) (cell1_heap HZ5.out)); clear hb)
          | (go_at_call 13; refine Calls.mono (CF _ HK5.out HG5.out) ?_; rintro e w6 ⟨rfl, hb⟩; have HK6 := hidOg (HK5.out.to hb); obtain ⟨y8, y9⟩ := (And.intro (cell1_heap HK6.out.y) (cell1_heap (atW hb HZ5.out))); clear hb))
        all_goals go_wp2
        all_goals go_meet
        all_goals exact ⟨rfl, HK6.out⟩
      · have he9 : er = 0 := HER.out
        subst he9
        first | (go_region_held (fun w' => w'.cell? ⟨B8, 0, none⟩ = some (.slice qa L.length da) ∧ w'.cell? ⟨B9, 0, none⟩ = some (.slice qb M.length db)) (first | with_reducible exact ⟨b8, b9⟩ | with_reducible exact ⟨x8, x9⟩ | with_reducible exact ⟨y8, y9⟩ | go_keep) (first
          | (go_at_call 12; refine Calls.mono (CS _ HKd.out HGd.out) ?_; rintro e w5 ⟨rfl, hb⟩; have HK5 := hidOg (HKd.out.to hb); have HG5 := hidOg (HGd.out.to hb); have HZ5 := hidOg (atW hb HZd.out); obtain ⟨x8, x9⟩ := (And.intro (cell1_heap HK5.out.y) (cell1_heap HZ5.out)); clear hb)
          | (go_at_call 13; refine Calls.mono (CF _ HK5.out HG5.out) ?_; rintro e w6 ⟨rfl, hb⟩; have HK6 := hidOg (HK5.out.to hb); obtain ⟨y8, y9⟩ := (And.intro (cell1_heap HK6.out.y) (cell1_heap (atW hb HZ5.out))); clear hb))) | fail
        all_goals go_wp2
        all_goals go_meet
        all_goals exact ⟨rfl, HK6.out⟩
    case rest =>
      obtain ⟨rfl, hK⟩ := hcut
      have HK2 := hidOg hK
      clear hK CC CS CF hss HKM HY9 HG9 b8 b9 HKd HGd HZd HK3 HK4 HZ3 HZ4 HG3 HG4
      go_wp2
      go_loopw [60] (fun i wr => ∃ k : Nat, k ≤ N.length ∧ i = .int .i64 k ∧ KM w (.slice p l.length c) qa L da Bx B8 wr) (fun i _ => N.length - (intOf i).toNat)
      case atStart => exact ⟨0, Nat.zero_le _, rfl, HK2.out⟩
      case round =>
        obtain ⟨k, hk, rfl, hK⟩ := hrel
        have HKr := hidOg hK
        have b8 := cell1_heap hK.y
        clear hK HK2
        by_cases hlt : k < N.length
        · obtain ⟨b, off, rfl, hbN, hcs⟩ := (HNN.out.to HKr.out.b) (by omega)
          have c0 := hcs k hlt
          obtain ⟨n, hn⟩ : ∃ n, n = iG N k := ⟨_, rfl⟩
          rw [← hn] at c0
          clear hcs hn
          by_cases h8 : k = 8
          · have h8' : ((k : Int) == 8) = true := by simp; omega
            clear h8
            go_wp2
            clear c0 b8 hlt hk h8'
            go_loopw [102] (fun i wr => ∃ k : Nat, k ≤ S.length ∧ i = .int .i64 k ∧ KM w (.slice p l.length c) qa L da Bx B8 wr) (fun i _ => S.length - (intOf i).toNat)
            case atStart => exact ⟨0, Nat.zero_le _, rfl, HKr.out⟩
            case round =>
              clear HKr
              obtain ⟨k, hk, rfl, hK⟩ := hrel
              have HKs := hidOg hK
              clear hK
              by_cases hlt : k < S.length
              · obtain ⟨b, off, rfl, hbN, hcs⟩ := (HSS.out.to HKs.out.b) (by omega)
                obtain ⟨a0, a1⟩ := hcs k hlt
                have hwf := HSW.out.at k
                obtain ⟨⟨y, y2⟩, hy⟩ : ∃ y, y = sG S k := ⟨_, rfl⟩
                rw [← hy] at a0 a1 hwf
                clear hcs hy
                by_cases h8 : k = 8
                · have h8' : ((k : Int) == 8) = true := by simp; omega
                  clear h8 hwf
                  have HKq := hidOg (HKs.out.to (bal wr (.cells #[.int .i64 y, .int .i64 y2] 34)))
                  go_wp2
                  clear a0 a1 HKs
                  obtain ⟨wq, hwq⟩ : ∃ wq, wq = wr.alloc (.cells #[.int .i64 y, .int .i64 y2] 34) := ⟨_, rfl⟩
                  rw [← hwq] at HKq
                  rw [← hwq]
                  clear hwq
                  obtain ⟨b8, bx⟩ := (And.intro (cell1_heap HKq.out.y) (cell1_heap HKq.out.x))
                  have HKd : Hid (KM w (.slice p l.length c) qa L da Bx B8 wq.drew) := HKq.out.to (Below.refl _ _).drew
                  go_region_held3 (fun w' => w'.cell? ⟨B8, 0, none⟩ = some (.slice qa L.length da) ∧ w'.cell? ⟨Bx, 0, none⟩ = some (.slice p l.length c)) (first | with_reducible exact ⟨b8, bx⟩ | with_reducible exact ⟨z8, zx⟩ | with_reducible exact ⟨y8, yx⟩ | go_keep) (first
                    | (go_at_call 9; refine Calls.mono (CO _ HKd.out.b) ?_; rintro e w8 ⟨qz, dz, rfl, hg, hb⟩; have HK8 := hidOg (HKd.out.to hb); have HG8 := hidOg hg; obtain ⟨z8, zx⟩ := (And.intro (cell1_heap HK8.out.y) (cell1_heap HK8.out.x)); clear hg hb)
                    | (go_at_call 13; refine Calls.mono (CSL _ _ _ _ HK8.out HG8.out) ?_; rintro e w9 ⟨rfl, hb⟩; have HK9 := hidOg (HK8.out.to hb); obtain ⟨y8, yx⟩ := (And.intro (cell1_heap HK9.out.y) (cell1_heap HK9.out.x)); clear hb))
                  all_goals go_wp2
                  all_goals go_ret
                  all_goals exact ⟨rfl, HK9.out.b⟩
                · have h8' : ((k : Int) == 8) = false := by simp; omega
                  clear h8
                  have hz := bal wr (.cells #[.int .i64 y, .int .i64 y2] 34)
                  have HKq := hidOg (HKs.out.to hz)
                  have HA0 := hidOg (blk1 (W := wr) (o := .cells #[.int .i64 y, .int .i64 y2] 34))
                  obtain ⟨e0', e1', _⟩ := cell2_heap HA0.out
                  have q8 := cell1_heap HKq.out.y
                  have CW := fun (Z : World) (h : KM w (.slice p l.length c) qa L da Bx B8 Z) => who_wn qa L da y y2 Z h.g.i hwL hl1 hwf
                  have CV := fun (hm : mayS L = true) (Z : World) (h : KM w (.slice p l.length c) qa L da Bx B8 Z) => refWho_wn qa L da y y2 Z h.g.i hm hl1
                  have hW0 : mayS L = false → whoV L (y, y2) = 0 := fun h => by unfold whoV; rw [h]; rfl
                  obtain ⟨x, hx⟩ : ∃ x, x = whoV L (y, y2) := ⟨_, rfl⟩
                  rw [← hx] at CW CV hW0
                  clear hz hx hwf
                  cases v
                  · have hx0 := hW0 HV.out.symm
                    subst hx0
                    clear CV hW0
                    go_wp2_with (first
                      | (go_at_call 19; refine Calls.mono (CW _ HKq.out) ?_; rintro e w4 ⟨rfl, hb⟩; have HK4 := hidOg (HKq.out.to hb); clear hb))
                    go_roundw
                    case rel => exact ⟨k + 1, by omega, by go_num, HK4.out⟩
                    case measure => simp [intOf]; omega
                  · have CV' := CV HV.out.symm
                    clear CV hW0
                    go_wp2_with (first
                      | (go_at_call 19; refine Calls.mono (CW _ HKq.out) ?_; rintro e w4 ⟨rfl, hb⟩; have HK4 := hidOg (HKq.out.to hb); have q9 := cell1_heap HK4.out.y; obtain ⟨g0, g1, _⟩ := cell2_heap (atW hb HA0.out); clear hb)
                      | (go_at_call 20; refine Calls.mono (CV' _ HK4.out) ?_; rintro e w5 ⟨rfl, hb⟩; have HK5 := hidOg (HK4.out.to hb); clear hb))
                    go_roundw
                    case rel => exact ⟨k + 1, by omega, by go_num, HK5.out⟩
                    case measure => simp [intOf]; omega
              · have hge : ¬ ((k : Int) < (S.length : Int)) := by omega
                clear hlt
                go_wp2
                obtain ⟨b8, bx⟩ := (And.intro (cell1_heap HKs.out.y) (cell1_heap HKs.out.x))
                have HKd : Hid (KM w (.slice p l.length c) qa L da Bx B8 wr.drew) := HKs.out.to (Below.refl _ _).drew
                go_region_held3 (fun w' => w'.cell? ⟨B8, 0, none⟩ = some (.slice qa L.length da) ∧ w'.cell? ⟨Bx, 0, none⟩ = some (.slice p l.length c)) (first | with_reducible exact ⟨b8, bx⟩ | with_reducible exact ⟨z8, zx⟩ | with_reducible exact ⟨y8, yx⟩ | go_keep) (first
                  | (go_at_call 9; refine Calls.mono (CO _ HKd.out.b) ?_; rintro e w8 ⟨qz, dz, rfl, hg, hb⟩; have HK8 := hidOg (HKd.out.to hb); have HG8 := hidOg hg; obtain ⟨z8, zx⟩ := (And.intro (cell1_heap HK8.out.y) (cell1_heap HK8.out.x)); clear hg hb)
                  | (go_at_call 13; refine Calls.mono (CSL _ _ _ _ HK8.out HG8.out) ?_; rintro e w9 ⟨rfl, hb⟩; have HK9 := hidOg (HK8.out.to hb); obtain ⟨y8, yx⟩ := (And.intro (cell1_heap HK9.out.y) (cell1_heap HK9.out.x)); clear hb))
                all_goals go_wp2
                all_goals go_ret
                all_goals exact ⟨rfl, HK9.out.b⟩
          · have h8' : ((k : Int) == 8) = false := by simp; omega
            clear h8
            have CA := fun (Z : World) (h : KM w (.slice p l.length c) qa L da Bx B8 Z) => at_wn qa L da n Z h.g.i hwL hl1
            have CAR := fun (hm : mayS L = true) (Z : World) (h : KM w (.slice p l.length c) qa L da Bx B8 Z) => refAt_wn qa L da n Z h.g.i hm hl1
            have CX := fun (Z : World) (h : KM w (.slice p l.length c) qa L da Bx B8 Z) => rows15 qa L da n Z h.g.i hwL hl1
            have hW0 : mayS L = false → wnA L n = (0, 0) := fun h => by unfold wnA; rw [h]; rfl
            obtain ⟨⟨a, bb⟩, hab⟩ : ∃ s, s = wnA L n := ⟨_, rfl⟩
            rw [← hab] at CA CAR hW0
            dsimp only at CA CAR
            clear hab
            cases v
            · have h00 := hW0 HV.out.symm
              injection h00 with h01 h02
              subst h01 h02
              clear CAR hW0
              have CE := fun (Z : World) (q5 : Option Addr) (d5 : Nat) => equal18 q5 [] d5 none [] 0 Z (fun h => by simp at h) (fun h => by simp at h) (by simp)
              rw [samI_refl] at CE
              go_wp2_with (first
                | (go_at_call 14; refine Calls.mono (CA _ HKr.out) ?_; clear b8; rintro e w4 ⟨rfl, hb⟩; have hy := bal w4 (.cells #[.int .i64 0, .int .i64 0] 34); have HK4 := hidOg ((HKr.out.to hb).to hy); have HA4 := hidOg (blk1 (W := w4) (o := .cells #[.int .i64 0, .int .i64 0] 34)); have b8 := cell1_heap HK4.out.y; clear hb hy)
                | (go_at_call 15; refine Calls.mono (CX _ HK4.out) ?_; clear b8; rintro e w5 ⟨q5, X, d5, rfl, hx, ho, hb⟩; obtain rfl := hx.2 HV.out.symm; have hy := bal w5 (.cells #[.int .i64 0, .int .i64 0] 34); have HK5 := hidOg ((HK4.out.to hb).to hy); obtain ⟨m0, m1, _⟩ := cell2_heap (atW hy (atW hb HA4.out)); obtain ⟨m2, m3, _⟩ := cell2_heap (blk1 (W := w5) (o := .cells #[.int .i64 0, .int .i64 0] 34)); clear hb hy hx ho)
                | (go_at_call 18; refine Calls.mono (CE _ _ _) ?_; rintro e w6 ⟨rfl, hb⟩; have HK6 := hidOg (HK5.out.to hb); clear hb))
              go_roundw
              case rel => exact ⟨k + 1, by omega, by go_num, HK6.out⟩
              case measure => simp [intOf]; omega
            · have hmL : mayS L = true := HV.out.symm
              have CAR' := CAR hmL
              have CYR := fun (X : List Int) (hX : AnsR L n X) (Z : World) (h : KM w (.slice p l.length c) qa L da Bx B8 Z) => rows_wn qa L da n X hX Z h.g.i (by omega) hmL
              clear CAR hW0 hmL
              go_wp2_with (first
                | (go_at_call 14; refine Calls.mono (CA _ HKr.out) ?_; clear b8; rintro e w4 ⟨rfl, hb⟩; have hy := bal w4 (.cells #[.int .i64 a, .int .i64 bb] 34); have HK4 := hidOg ((HKr.out.to hb).to hy); have HA4 := hidOg (blk1 (W := w4) (o := .cells #[.int .i64 a, .int .i64 bb] 34)); have b8 := cell1_heap HK4.out.y; clear hb hy)
                | (go_at_call 15; refine Calls.mono (CX _ HK4.out) ?_; clear b8; rintro e w5 ⟨q5, X, d5, rfl, hx, ho, hb⟩; have HX := hidOg hx; have hy := bal w5 (.cells #[.int .i64 0, .int .i64 0] 34); have HK5 := hidOg (HK4.out.to hb); have HK5' := hidOg ((HK4.out.to hb).to hy); have HA5 := hidOg (atW hb HA4.out); have HO5 := hidOg (ho.weak (Nat.zero_le _)); have HW5 := hidOg (blk1 (W := w5) (o := .cells #[.int .i64 0, .int .i64 0] 34)); have b8 := cell1_heap HK5'.out.y; clear hb hy hx ho))
              have CYX := CYR X HX.out
              have hXl : X.length ≤ 1099511627776 := HO5.out.n
              obtain ⟨B4, hB4⟩ : ∃ B4, B4 = w4.heap.size := ⟨_, rfl⟩
              rw [← hB4] at HA5
              rw [← hB4]
              obtain ⟨wz, hwz⟩ : ∃ wz, wz = w5.alloc (.cells #[.int .i64 0, .int .i64 0] 34) := ⟨_, rfl⟩
              have HZ : Hid (Be w5.heap.size w5 wz) := by rw [hwz]; exact (Be.refl (Nat.le_refl _)).al _
              rw [← hwz] at HK5' HW5 b8
              rw [← hwz]
              have hlt5 : w5.heap.size < wz.heap.size := by rw [hwz, World.size_alloc]; exact Nat.lt_succ_self _
              clear hwz hB4 CA CX CYR HX HA4 HK4
              go_cut [18] from 77 to 82 (fun s18 wx => ∃ q6 d6, s18 = .slice q6 X.length d6 ∧ OwnR 0 wx q6 X d6 ∧ OwnR 0 wx q5 X d5 ∧ KM w (.slice p l.length c) qa L da Bx B8 wx ∧ wx.heap[B4]? = some (.cells #[.int .i64 a, .int .i64 bb] 34) ∧ wx.heap[w5.heap.size]? = some (.cells #[.int .i64 a, .int .i64 bb] 34))
              case first =>
                have HKd : Hid (KM w (.slice p l.length c) qa L da Bx B8 wz.drew) := HK5'.out.to (Below.refl _ _).drew
                have HWd : Hid (wz.drew.heap[w5.heap.size]? = some (.cells #[.int .i64 0, .int .i64 0] 34)) := HW5.out
                have HBd : Hid (Be w5.heap.size w5 wz.drew) := HZ.out.dr
                have hlt5d : w5.heap.size < wz.drew.heap.size := hlt5
                go_region_held3 (fun w' => w'.cell? ⟨B8, 0, none⟩ = some (.slice qa L.length da)) (first | with_reducible exact b8 | with_reducible exact x8 | with_reducible exact y8 | exact b8 | exact cell1_heap (HK5.out.to ((HB7.out.st (a := ⟨w5.heap.size, 0, none⟩) (Nat.le_refl _) _).st (a := ⟨w5.heap.size, 1, none⟩) (Nat.le_refl _) _).b).y | go_keep) (first
                  | (go_at_call 16; refine Calls.mono (CAR' _ HKd.out) ?_; rintro e w6 ⟨rfl, hb⟩; have HK6 := hidOg (HKd.out.to hb); have HB6 := hidOg (HBd.out.to hb); have hl6 := Nat.lt_of_lt_of_le hlt5d hb.size; have HW6 := hidOg (atW hb HWd.out); obtain ⟨g0, g1, gf⟩ := cell2_heap HW6.out; have x8 := cell1_heap HK6.out.y; clear hb)
                  | (go_at_call 17; refine Calls.mono (CYX _ HK6.out) ?_; clear g0 g1 gf; rintro e w7 ⟨q6, d6, rfl, ho, hb⟩; have HB7 := hidOg (HB6.out.to hb); have HW7 := hidOg (atW hb HW6.out); obtain ⟨g0, g1, gf⟩ := cell2_heap HW7.out; have HO7 := hidOg ho; have HK7 := hidOg (HK6.out.to hb); have y8 := cell1_heap HK7.out.y; clear hb ho))
                all_goals go_wp2
                all_goals go_meet
                all_goals
                  refine ⟨q6, d6, rfl, ?_, ?_, ?_, ?_, ?_⟩
                  · refine ((HO7.out.setCell (a := ⟨w5.heap.size, 0, none⟩) (fun x hx => ?_) _).setCell (a := ⟨w5.heap.size, 1, none⟩) (fun x hx => ?_) _).weak (Nat.zero_le _)
                    · have := HO7.out.fr x hx; show x.block ≠ w5.heap.size; omega
                    · have := HO7.out.fr x hx; show x.block ≠ w5.heap.size; omega
                  · exact HO5.out.to ((HB7.out.st (a := ⟨w5.heap.size, 0, none⟩) (Nat.le_refl _) _).st (a := ⟨w5.heap.size, 1, none⟩) (Nat.le_refl _) _).b
                  · exact HK5.out.to ((HB7.out.st (a := ⟨w5.heap.size, 0, none⟩) (Nat.le_refl _) _).st (a := ⟨w5.heap.size, 1, none⟩) (Nat.le_refl _) _).b
                  · exact atW ((HB7.out.st (a := ⟨w5.heap.size, 0, none⟩) (Nat.le_refl _) _).st (a := ⟨w5.heap.size, 1, none⟩) (Nat.le_refl _) _).b HA5.out
                  · exact set2_heap HW7.out _ _
              case rest =>
                obtain ⟨q6, d6, rfl, ho6, ho5, hK6, hA6, hW6⟩ := hcut
                have HK6 := hidOg hK6
                have HO6 := hidOg ho6
                have HO5' := hidOg ho5
                obtain ⟨m0, m1, _⟩ := cell2_heap hA6
                obtain ⟨m2, m3, _⟩ := cell2_heap hW6
                have CE := fun (Z : World) (h5 : OwnR 0 Z q5 X d5) (h6 : OwnR 0 Z q6 X d6) => equal18 q5 X d5 q6 X d6 Z h5.row.i h6.row.i h5.n
                rw [samI_refl] at CE
                clear hK6 hA6 hW6 ho6 ho5 HK5 HK5' HA5 HO5 HW5 HZ hlt5 b8 CAR' CYX
                go_wp2_with (first
                  | (go_at_call 18; refine Calls.mono (CE _ HO5'.out HO6.out) ?_; rintro e w8 ⟨rfl, hb⟩; have HK8 := hidOg (HK6.out.to hb); clear hb))
                go_roundw
                case rel => exact ⟨k + 1, by omega, by go_num, HK8.out⟩
                case measure => simp [intOf]; omega
        · have hge : ¬ ((k : Int) < (N.length : Int)) := by omega
          clear hlt hk b8
          go_wp2
          go_loopw [102] (fun i wr => ∃ k : Nat, k ≤ S.length ∧ i = .int .i64 k ∧ KM w (.slice p l.length c) qa L da Bx B8 wr) (fun i _ => S.length - (intOf i).toNat)
          case atStart => exact ⟨0, Nat.zero_le _, rfl, HKr.out⟩
          case round =>
            clear HKr
            obtain ⟨k, hk, rfl, hK⟩ := hrel
            have HKs := hidOg hK
            clear hK
            by_cases hlt : k < S.length
            · obtain ⟨b, off, rfl, hbN, hcs⟩ := (HSS.out.to HKs.out.b) (by omega)
              obtain ⟨a0, a1⟩ := hcs k hlt
              have hwf := HSW.out.at k
              obtain ⟨⟨y, y2⟩, hy⟩ : ∃ y, y = sG S k := ⟨_, rfl⟩
              rw [← hy] at a0 a1 hwf
              clear hcs hy
              by_cases h8 : k = 8
              · have h8' : ((k : Int) == 8) = true := by simp; omega
                clear h8 hwf
                have HKq := hidOg (HKs.out.to (bal wr (.cells #[.int .i64 y, .int .i64 y2] 34)))
                go_wp2
                clear a0 a1 HKs
                obtain ⟨wq, hwq⟩ : ∃ wq, wq = wr.alloc (.cells #[.int .i64 y, .int .i64 y2] 34) := ⟨_, rfl⟩
                rw [← hwq] at HKq
                rw [← hwq]
                clear hwq
                obtain ⟨b8, bx⟩ := (And.intro (cell1_heap HKq.out.y) (cell1_heap HKq.out.x))
                have HKd : Hid (KM w (.slice p l.length c) qa L da Bx B8 wq.drew) := HKq.out.to (Below.refl _ _).drew
                go_region_held3 (fun w' => w'.cell? ⟨B8, 0, none⟩ = some (.slice qa L.length da) ∧ w'.cell? ⟨Bx, 0, none⟩ = some (.slice p l.length c)) (first | with_reducible exact ⟨b8, bx⟩ | with_reducible exact ⟨z8, zx⟩ | with_reducible exact ⟨y8, yx⟩ | go_keep) (first
                  | (go_at_call 9; refine Calls.mono (CO _ HKd.out.b) ?_; rintro e w8 ⟨qz, dz, rfl, hg, hb⟩; have HK8 := hidOg (HKd.out.to hb); have HG8 := hidOg hg; obtain ⟨z8, zx⟩ := (And.intro (cell1_heap HK8.out.y) (cell1_heap HK8.out.x)); clear hg hb)
                  | (go_at_call 13; refine Calls.mono (CSL _ _ _ _ HK8.out HG8.out) ?_; rintro e w9 ⟨rfl, hb⟩; have HK9 := hidOg (HK8.out.to hb); obtain ⟨y8, yx⟩ := (And.intro (cell1_heap HK9.out.y) (cell1_heap HK9.out.x)); clear hb))
                all_goals go_wp2
                all_goals go_ret
                all_goals exact ⟨rfl, HK9.out.b⟩
              · have h8' : ((k : Int) == 8) = false := by simp; omega
                clear h8
                have hz := bal wr (.cells #[.int .i64 y, .int .i64 y2] 34)
                have HKq := hidOg (HKs.out.to hz)
                have HA0 := hidOg (blk1 (W := wr) (o := .cells #[.int .i64 y, .int .i64 y2] 34))
                obtain ⟨e0', e1', _⟩ := cell2_heap HA0.out
                have q8 := cell1_heap HKq.out.y
                have CW := fun (Z : World) (h : KM w (.slice p l.length c) qa L da Bx B8 Z) => who_wn qa L da y y2 Z h.g.i hwL hl1 hwf
                have CV := fun (hm : mayS L = true) (Z : World) (h : KM w (.slice p l.length c) qa L da Bx B8 Z) => refWho_wn qa L da y y2 Z h.g.i hm hl1
                have hW0 : mayS L = false → whoV L (y, y2) = 0 := fun h => by unfold whoV; rw [h]; rfl
                obtain ⟨x, hx⟩ : ∃ x, x = whoV L (y, y2) := ⟨_, rfl⟩
                rw [← hx] at CW CV hW0
                clear hz hx hwf
                cases v
                · have hx0 := hW0 HV.out.symm
                  subst hx0
                  clear CV hW0
                  go_wp2_with (first
                    | (go_at_call 19; refine Calls.mono (CW _ HKq.out) ?_; rintro e w4 ⟨rfl, hb⟩; have HK4 := hidOg (HKq.out.to hb); clear hb))
                  go_roundw
                  case rel => exact ⟨k + 1, by omega, by go_num, HK4.out⟩
                  case measure => simp [intOf]; omega
                · have CV' := CV HV.out.symm
                  clear CV hW0
                  go_wp2_with (first
                    | (go_at_call 19; refine Calls.mono (CW _ HKq.out) ?_; rintro e w4 ⟨rfl, hb⟩; have HK4 := hidOg (HKq.out.to hb); have q9 := cell1_heap HK4.out.y; obtain ⟨g0, g1, _⟩ := cell2_heap (atW hb HA0.out); clear hb)
                    | (go_at_call 20; refine Calls.mono (CV' _ HK4.out) ?_; rintro e w5 ⟨rfl, hb⟩; have HK5 := hidOg (HK4.out.to hb); clear hb))
                  go_roundw
                  case rel => exact ⟨k + 1, by omega, by go_num, HK5.out⟩
                  case measure => simp [intOf]; omega
            · have hge : ¬ ((k : Int) < (S.length : Int)) := by omega
              clear hlt
              go_wp2
              obtain ⟨b8, bx⟩ := (And.intro (cell1_heap HKs.out.y) (cell1_heap HKs.out.x))
              have HKd : Hid (KM w (.slice p l.length c) qa L da Bx B8 wr.drew) := HKs.out.to (Below.refl _ _).drew
              go_region_held3 (fun w' => w'.cell? ⟨B8, 0, none⟩ = some (.slice qa L.length da) ∧ w'.cell? ⟨Bx, 0, none⟩ = some (.slice p l.length c)) (first | with_reducible exact ⟨b8, bx⟩ | with_reducible exact ⟨z8, zx⟩ | with_reducible exact ⟨y8, yx⟩ | go_keep) (first
                | (go_at_call 9; refine Calls.mono (CO _ HKd.out.b) ?_; rintro e w8 ⟨qz, dz, rfl, hg, hb⟩; have HK8 := hidOg (HKd.out.to hb); have HG8 := hidOg hg; obtain ⟨z8, zx⟩ := (And.intro (cell1_heap HK8.out.y) (cell1_heap HK8.out.x)); clear hg hb)
                | (go_at_call 13; refine Calls.mono (CSL _ _ _ _ HK8.out HG8.out) ?_; rintro e w9 ⟨rfl, hb⟩; have HK9 := hidOg (HK8.out.to hb); obtain ⟨y8, yx⟩ := (And.intro (cell1_heap HK9.out.y) (cell1_heap HK9.out.x)); clear hb))
              all_goals go_wp2
              all_goals go_ret
              all_goals exact ⟨rfl, HK9.out.b⟩
end Go.Proofs.Ytijlkdppjmfbhaa
