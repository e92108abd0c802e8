/- seek. -/
import Derived.Test.YtjnhalomkmdcgaaRv
import Derived.Test.YtjnhalomkmdcgaaLuM
import Derived.Sort.CutIn
namespace Go.Proofs.Ytjnhalomkmdcgaa
open Go.RowKit Go.Shelf
attribute [local go_sem] Oper.semAt_some

theorem boxed_put {W : World} {B D : Nat} {t : TypeId} {v : Value} {o : Obj} (h : Boxed W B t v) (hl : W.heap[D]? = some o) (ho : o.isCells = false) (o' : Obj) : Boxed (W.putObj D o') B t v :=
  OwnFrom.putObj (Own.from (boxed_own B t (fun _ : Unit => v)) 0) (s := ()) o' h (Nat.zero_le _) hl ho
/-- What seek keeps in memory, turn by turn. -/
def SkI {m : Nat} (S : Nat) (w4 : World) (L : List En) (t : List Int) (pre : List (Fin m)) (W : World) : Prop :=
  (Boxed W (S + 1 + 1) 3 (.int .i64 (fvI L pre)) ∧ Boxed W (S + 1 + 1 + 1) 4 (.bool false)) ∧ (∀ y ∈ pre, GoX L t y.1) ∧ Below (S + 1 + 1) w4 W
def SkX {m : Nat} (S : Nat) (w4 : World) (L : List En) (t : List Int) (c : Code) (pre : List (Fin m)) (W : World) : Prop :=
  (Boxed W (S + 1 + 1) 3 (.int .i64 (eiF L pre)) ∧ Boxed W (S + 1 + 1 + 1) 4 (.bool (ebF L pre))) ∧ (c = .exit 0 ∧ EP L t pre) ∧ Below (S + 1 + 1) w4 W
theorem ski_own {m : Nat} (S : Nat) (w4 : World) (L : List En) (t : List Int) (B : Nat) (h1 : S + 1 + 1 ≤ w4.heap.size) (h2 : S + 1 + 1 ≤ B) : OwnFrom B (SkI (m := m) S w4 L t) :=
  OwnFrom.and (OwnFrom.and (Own.from (boxed_own (S + 1 + 1) 3 (fun pre : List (Fin m) => Value.int .i64 (fvI L pre))) _) (Own.from (boxed_own (S + 1 + 1 + 1) 4 (fun _ => Value.bool false)) _))
    (OwnFrom.and (ownFrom_pure B (fun pre : List (Fin m) => ∀ y ∈ pre, GoX L t y.1)) (ownFrom_below h1 h2))
theorem skx_own {m : Nat} (S : Nat) (w4 : World) (L : List En) (t : List Int) (c : Code) (B : Nat) (h1 : S + 1 + 1 ≤ w4.heap.size) (h2 : S + 1 + 1 ≤ B) : OwnFrom B (SkX (m := m) S w4 L t c) :=
  OwnFrom.and (OwnFrom.and (Own.from (boxed_own (S + 1 + 1) 3 (fun pre : List (Fin m) => Value.int .i64 (eiF L pre))) _) (Own.from (boxed_own (S + 1 + 1 + 1) 4 (fun pre : List (Fin m) => Value.bool (ebF L pre))) _))
    (OwnFrom.and (ownFrom_pure B (fun pre : List (Fin m) => c = .exit 0 ∧ EP L t pre)) (ownFrom_below h1 h2))
theorem boxed_drew {W : World} {B : Nat} {t : TypeId} {v : Value} (h : Boxed W B t v) (n : Nat) : Boxed (W.drewN n) B t v := h

set_option maxRecDepth 100000 in
set_option maxHeartbeats 4000000 in
theorem seek40 (p : Option Addr) (L : List En) (c : Nat) (q : Option Addr) (t : List Int) (d : Nat) (w : World) (hE : ERow w.heap.size w p L) (hT : TRow w.heap.size w q t d) (hm : 0 < L.length) (hm2 : L.length ≤ 1000000) (hB : LB L) (ht : t.length ≤ 1000)
    (hst : ST L) (hf : ∃ k, k < L.length ∧ (gE L k).1 = 0) :
    Calls Try.prog 40 #[.slice p L.length c, .slice q t.length d] w fun e w' => ∃ (i : Nat) (b : Bool), e = .returned (.tuple #[.int .i64 (i : Int), .bool b]) ∧ SkR L t i b ∧ Below w.heap.size w w' := by
  refine (callsIn_wide (n := 4)).1 ?_
  refine callsIn_of_wp_marks Try.func40 rfl trivial ?_ rfl
  simp only [Try.ntmps40, List.size_toArray, List.length_cons, List.length_nil, Nat.reduceAdd, Nat.reduceSub, Array.replicate_succ, Array.replicate_zero, List.push_toArray, List.append_toArray, List.nil_append, List.cons_append]
  have h64 : Fence.wide.fn 64 := trivial
  have h63 : Fence.wide.fn 63 := trivial
  have h38 : Fence.wide.fn 38 := trivial
  obtain ⟨b, off, rfl, hbN, hcs⟩ := hE hm
  have HF := hidOg hf
  have HST := hidOg hst
  have HCS := hidOg hcs
  clear hE hcs
  have HT := hidOg hT
  have HLB := hidOg hB
  clear hf hst hT hB
  gi_wp2
  apply wpIn_scope_straight
  gi_wp2
  apply wpIn_label
  gi_wp2
  obtain ⟨w4, hw4⟩ : ∃ w4, w4 = (((w.alloc (.cells #[.slice (some ⟨b, off, none⟩) L.length c] 22)).alloc (.cells #[.slice q t.length d] 34)).alloc (.cells #[.int .i64 (-1)] 3)).alloc (.cells #[.bool false] 4) := ⟨_, rfl⟩
  rw [← hw4]
  have s4 : w4.heap.size = w.heap.size + 4 := by rw [hw4]; simp
  have B4 : Below w.heap.size w w4 := by rw [hw4]; exact ((((Below.refl _ w).alloc (Nat.le_refl _) _).alloc (by simp) _).alloc (by simp; omega) _).alloc (by simp; omega) _
  have c0 : w4.cell? ⟨w.heap.size, 0, none⟩ = some (.slice (some ⟨b, off, none⟩) L.length c) := by rw [hw4]; simp [go_sem]
  have c1 : w4.cell? ⟨w.heap.size + 1, 0, none⟩ = some (.slice q t.length d) := by rw [hw4]; simp [go_sem]
  have b2 : Boxed w4 (w.heap.size + 1 + 1) 3 (.int .i64 (-1)) := by
    have := (Boxed.new ((w.alloc (.cells #[.slice (some ⟨b, off, none⟩) L.length c] 22)).alloc (.cells #[.slice q t.length d] 34)) 3 (.int .i64 (-1))).alloc (.cells #[.bool false] 4); rw [World.size_alloc, World.size_alloc] at this; rw [hw4]; exact this
  have b3 : Boxed w4 (w.heap.size + 1 + 1 + 1) 4 (.bool false) := by
    have := Boxed.new (((w.alloc (.cells #[.slice (some ⟨b, off, none⟩) L.length c] 22)).alloc (.cells #[.slice q t.length d] 34)).alloc (.cells #[.int .i64 (-1)] 3)) 4 (.bool false); rw [World.size_alloc, World.size_alloc, World.size_alloc] at this; rw [hw4]; exact this
  clear hw4
  have HT4 := hidOg ((HT.out.below B4 (Nat.le_refl _)).mono B4.size)
  have CO := fun (W : World) (hb : Below w4.heap.size w4 W) => of64 q t d W (((HT4.out.below hb (Nat.le_refl _)).mono hb.size).i) HT4.out.u ht
  obtain ⟨hh, hhh⟩ : ∃ hh, hh = hsT t := ⟨_, rfl⟩
  rw [← hhh] at CO
  have HHH := hidOg hhh
  clear hhh
  have b0 : w4.cell? ⟨w.heap.size, 0, none⟩ = some (.slice (some ⟨b, off, none⟩) L.length c) ∧ w.heap.size < w4.heap.size := ⟨c0, by omega⟩
  gi_cut [11] from 7 (fun s wx => ∃ B, s = .func (.func 74) #[] #[.pointer (some ⟨B + 1, 0, none⟩), .pointer (some ⟨B, 0, none⟩)] ∧ w4.heap.size ≤ B ∧ wx.heap.size = B + 2 ∧ wx.cell? ⟨B, 0, none⟩ = some (.int .u64 (hh : Int)) ∧ wx.cell? ⟨B + 1, 0, none⟩ = some (.int .i64 (L.length : Int)) ∧ Below w4.heap.size w4 wx)
  case first =>
    gi_region_with (first | (gi_at_call 64; refine (callsIn_wide.2 (CO _ (below_drew _ _))).mono ?_; rintro e w1 ⟨rfl, hb1⟩; have c0' := (hb1.cell (p := ⟨w.heap.size, 0, none⟩) b0.2).trans c0) | (gi_at_call 63; refine (callsIn_wide.2 (turns63 _ _ _)).mono ?_; rintro e w2 ⟨rfl, rfl⟩))
    all_goals
      gi_wp2
      gi_meet
      case rel => exact ⟨w1.heap.size, rfl, hb1.size, by simp, by simp [go_sem], by simp [go_sem], (((below_drew _ _).trans hb1).alloc hb1.size _).alloc (by simp; have := hb1.size; simp at this; omega) _⟩
  case rest =>
    obtain ⟨B, rfl, hB4, sz, ch, cm, BW⟩ := hcut
    have b2' : Boxed wc (w.heap.size + 1 + 1) 3 (.int .i64 (-1)) := (BW.block _ (by omega)).trans b2
    have b3' : Boxed wc (w.heap.size + 1 + 1 + 1) 4 (.bool false) := (BW.block _ (by omega)).trans b3
    have hst := turns_stops 3 (by omega) (B + 1) B (w.heap.size + 1 + 1) hh L.length hm hm2 wc cm (by omega) ch (by omega)
    have h0 : SkI (m := L.length) w.heap.size w4 L t [] wc := ⟨⟨b2', b3'⟩, by simp, BW.mono (by omega)⟩
    clear b2' b3' b2 b3 CO b0 ch cm
    gi_wp2
    refine wpIn_rangeFunc_ownG rfl (by omega) (gf := 74) (lb := #[.pointer (some ⟨B + 1, 0, none⟩), .pointer (some ⟨B, 0, none⟩)]) rfl trivial (enters_of Try.func74 (by kernel_rfl) rfl)
      hst (fun h k => h.trans k) (keb_b (by omega) (by omega) (by omega)) (Below.refl _ _) (fun _ => rfl)
      (SkI w.heap.size w4 L t) (SkX w.heap.size w4 L t) (ski_own w.heap.size w4 L t _ (by omega) (by omega)) (fun c => skx_own w.heap.size w4 L t c _ (by omega) (by omega)) h0
      (fun x => { tmps := #[.slice (some ⟨b, off, none⟩) L.length c, .slice q t.length d, .pointer (some ⟨w.heap.size, 0, none⟩), .pointer (some ⟨w.heap.size + 1, 0, none⟩), .pointer (some ⟨w.heap.size + 1 + 1, 0, none⟩), .pointer (some ⟨w.heap.size + 1 + 1 + 1, 0, none⟩), .int .i64 (x.1 : Int), u7, u8, u9, u10, .func (.func 74) #[] #[.pointer (some ⟨B + 1, 0, none⟩), .pointer (some ⟨B, 0, none⟩)], .int .i64 (x.1 : Int), u13, u14, u15, u16, u17, u18, u19, u20, u21, u22, u23, u24, u25, u26, u27, u28, u29, u30, u31, u32, u33, u34, u35, u36, u37, u38], defers := [] }) ?assign ?body ?done ?stop
    case assign =>
      intro l x W K hK
      gi_wp2
      exact hK
    case body =>
      rintro yl pre x W ⟨⟨ba, bt⟩, hgo, hBw⟩ hlt
      have hbsz := hBw.size
      have cS : W.cell? ⟨w.heap.size, 0, none⟩ = some (.slice (some ⟨b, off, none⟩) L.length c) := (hBw.cell (p := ⟨w.heap.size, 0, none⟩) (by simp; omega)).trans c0
      have cT : W.cell? ⟨w.heap.size + 1, 0, none⟩ = some (.slice q t.length d) := (hBw.cell (p := ⟨w.heap.size + 1, 0, none⟩) (by simp)).trans c1
      have BW0 : Below w.heap.size w W := B4.trans (hBw.mono (by omega))
      obtain ⟨k0, ⟨qx, cx, k1, hTx⟩, _⟩ := HCS.out x.1 x.2
      have k0' := (BW0.cell (p := ⟨b, off + x.1 * 3, none⟩) hbN).trans k0
      have k1' := (BW0.cell (p := ⟨b, off + x.1 * 3 + 1, none⟩) hbN).trans k1
      have ca := ba.cell
      have fa := ba.frozen
      have ct := bt.cell
      have ft := bt.frozen
      have nab : w.heap.size + 1 + 1 ≠ w.heap.size + 1 + 1 + 1 := by omega
      have hx2 : x.1 < L.length := x.2
      have hst0 := HST.out x.1 x.2
      have hl0 := HLB.out x.1 x.2
      have CCf := fun (W' : World) (hb : Below w.heap.size w W') => compare38 qx (gE L x.1).2.1 cx q t d W' ((hTx.i.below hb (Nat.le_refl _)).mono hb.size) ((HT.out.i.below hb (Nat.le_refl _)).mono hb.size) hl0 ht
      have HGO := hidOg hgo
      have HBw := hidOg hBw
      have HBA := hidOg ba
      have HBT := hidOg bt
      have HBW0 := hidOg BW0
      obtain ⟨fv, hfv⟩ : ∃ fv, fv = fvI L pre := ⟨_, rfl⟩
      have HFV := hidOg hfv
      rw [← hfv] at ca
      clear hfv hgo hBw BW0 k0 k1 hTx hl0 ba bt hlt hst h0 c0 c1 B4 BW
      have hk1 : KeB (w.heap.size + 1 + 1) (B + 1) B W (W.setCell ⟨w.heap.size + 1 + 1, 0, none⟩ (.int .i64 (x.1 : Int))) := (KeB.refl _ _ _ W).setCell (a := ⟨w.heap.size + 1 + 1, 0, none⟩) (Nat.le_refl _) (by simp; omega) (by simp; omega) _
      have HK1 := hidOg hk1
      clear hk1
      rcases hst0 with e | e | e
      · have HEP : Hid (EP L t (pre ++ [x])) := ⟨pre, x, rfl, HGO.out, .inr e⟩
        have E2 : Hid (ebF L (pre ++ [x]) = false) := by unfold Hid; rw [ebF_snoc, e]; rfl
        have E1 : Hid (eiF L (pre ++ [x]) = fvI L (pre ++ [x])) := by unfold Hid; rw [eiF_snoc, e]; rfl
        have EN : Hid ((gE L x.1).1 ≠ 1) := by unfold Hid; rw [e]; decide
        rw [e] at k0'
        clear e CCf
        by_cases hm1 : fv = -1
        · have EV : Hid (fvI L (pre ++ [x]) = (x.1 : Int)) := fvI_new EN.out (HFV.out ▸ hm1)
          rw [hm1] at ca
          clear hm1
          gi_wp2
          exact ⟨(KeepsOthers.setCell _ _ _).from _, ⟨by rw [E1.out, EV.out]; exact HBA.out.set _, by rw [E2.out]; exact HBT.out.other (Ne.symm nab) _⟩, ⟨rfl, HEP.out⟩, HBw.out.setCell (p := ⟨w.heap.size + 1 + 1, 0, none⟩) (by simp) _⟩
        · have EV : Hid (fvI L (pre ++ [x]) = fvI L pre) := fvI_old (fun h => hm1 (HFV.out.trans h))
          have hm1' : (fv == -1) = false := by simpa using hm1
          clear hm1
          gi_wp2
          exact ⟨KeepsFrom.refl _ _, ⟨by rw [E1.out, EV.out]; exact HBA.out, by rw [E2.out]; exact HBT.out⟩, ⟨rfl, HEP.out⟩, HBw.out⟩
      · obtain ⟨r, hr⟩ : ∃ r, r = cmpL (gE L x.1).2.1 t := ⟨_, rfl⟩
        rw [← hr] at CCf
        have HR := hidOg hr
        obtain ⟨la, hla⟩ : ∃ la, la = (gE L x.1).2.1.length := ⟨_, rfl⟩
        rw [← hla] at CCf k1'
        have HX1 := hidOg e
        rw [e] at k0'
        clear hr hla e
        by_cases hr0 : r = 0
        · have hty : Hid ((gE L x.1).2.1 = t) := (cmp_eq _ _).1 (HR.out ▸ hr0)
          have HEP : Hid (EP L t (pre ++ [x])) := ⟨pre, x, rfl, HGO.out, .inl ⟨HX1.out, hty.out⟩⟩
          have E2 : Hid (ebF L (pre ++ [x]) = true) := by unfold Hid; rw [ebF_snoc, HX1.out]; rfl
          have E1 : Hid (eiF L (pre ++ [x]) = (x.1 : Int)) := by unfold Hid; rw [eiF_snoc, HX1.out]; rfl
          subst hr0
          gi_wp2
          gi_region_with (first | (gi_at_call 38; refine (callsIn_wide.2 (CCf _ (HBW0.out.trans (below_drew _ _)))).mono ?_; rintro e w1 ⟨rfl, hw⟩; rw [hw]; clear hw w1))
          all_goals
            gi_wp2
            exact ⟨((KeepsOthers.drew _).trans ((KeepsOthers.setCell _ _ _).trans (KeepsOthers.setCell _ _ _))).from _, ⟨by rw [E1.out]; exact (Boxed.set _ (boxed_drew HBA.out 1)).other nab _, by rw [E2.out]; exact ((boxed_drew HBT.out 1).other (Ne.symm nab) _).set _⟩, ⟨rfl, HEP.out⟩, ((HBw.out.trans (below_drew _ _)).setCell (p := ⟨w.heap.size + 1 + 1, 0, none⟩) (by simp) _).setCell (p := ⟨w.heap.size + 1 + 1 + 1, 0, none⟩) (by simp) _⟩
        · have hty : Hid (GoX L t x.1) := ⟨by rw [HX1.out]; decide, fun h => hr0 (HR.out.trans ((cmp_eq _ _).2 h.2))⟩
          have HGO2 : Hid (∀ y ∈ pre ++ [x], GoX L t y.1) := fun y hy => by
            rcases List.mem_append.1 hy with h | h
            · exact HGO.out y h
            · rw [List.mem_singleton.1 h]; exact hty.out
          have EV : Hid (fvI L (pre ++ [x]) = fvI L pre) := fvI_used HX1.out
          have hr0' : (r == 0) = false := by simpa using hr0
          clear hr0
          gi_wp2
          gi_region_with (first | (gi_at_call 38; refine (callsIn_wide.2 (CCf _ (HBW0.out.trans (below_drew _ _)))).mono ?_; rintro e w1 ⟨rfl, hw⟩; rw [hw]; clear hw w1))
          all_goals
            gi_wp2
            exact ⟨(KeepsOthers.drew _).from _, ⟨below_drew _ _, rfl, rfl⟩, ⟨by rw [EV.out]; exact boxed_drew HBA.out 1, boxed_drew HBT.out 1⟩, HGO2.out, HBw.out.trans (below_drew _ _)⟩
      · have hty : Hid (GoX L t x.1) := ⟨by rw [e]; decide, fun h => by rw [e] at h; exact absurd h.1 (by decide)⟩
        have HGO2 : Hid (∀ y ∈ pre ++ [x], GoX L t y.1) := fun y hy => by
          rcases List.mem_append.1 hy with h | h
          · exact HGO.out y h
          · rw [List.mem_singleton.1 h]; exact hty.out
        have EN : Hid ((gE L x.1).1 ≠ 1) := by unfold Hid; rw [e]; decide
        rw [e] at k0'
        clear e CCf
        by_cases hm1 : fv = -1
        · have EV : Hid (fvI L (pre ++ [x]) = (x.1 : Int)) := fvI_new EN.out (HFV.out ▸ hm1)
          rw [hm1] at ca
          clear hm1
          gi_wp2
          exact ⟨(KeepsOthers.setCell _ _ _).from _, HK1.out, ⟨by rw [EV.out]; exact HBA.out.set _, HBT.out.other (Ne.symm nab) _⟩, HGO2.out, HBw.out.setCell (p := ⟨w.heap.size + 1 + 1, 0, none⟩) (by simp) _⟩
        · have EV : Hid (fvI L (pre ++ [x]) = fvI L pre) := fvI_old (fun h => hm1 (HFV.out.trans h))
          have hm1' : (fv == -1) = false := by simpa using hm1
          clear hm1
          gi_wp2
          exact ⟨KeepsFrom.refl _ _, KeB.refl _ _ _ _, ⟨by rw [EV.out]; exact HBA.out, HBT.out⟩, HGO2.out, HBw.out⟩
    case done =>
      rintro D ys W hD rfl ⟨_, hgo, _⟩ hK
      exact (all_go_not HF.out (HHH.out ▸ hgo)).elim
    case stop =>
      rintro D c pre W hD ⟨k, hk, rfl⟩ ⟨⟨ba, bt⟩, ⟨rfl, hep⟩, hBw⟩ hK
      rw [HHH.out] at ba bt hep
      obtain ⟨i, ei, hsk⟩ := skr_of hk rfl hep
      rw [ei] at ba
      generalize ebF L (tsF (hsT t) L.length hm k) = bb at bt hsk
      have HSK := hidOg hsk
      have HK := hidOg hK
      have ca := ba.cell
      have fa := ba.frozen
      have ct := bt.cell
      have ft := bt.frozen
      have nab : w.heap.size + 1 + 1 ≠ w.heap.size + 1 + 1 + 1 := by omega
      clear hsk hep hst h0
      gi_wp2
      gi_region
      gi_wp2
      rw [Exit.noGoto_ret]
      have q1 : Boxed ((W.setCell ⟨w.heap.size + 1 + 1, 0, none⟩ (.int .i64 (i : Int))).setCell ⟨w.heap.size + 1 + 1 + 1, 0, none⟩ (.bool bb)).drew (w.heap.size + 1 + 1) 3 (.int .i64 (i : Int)) := boxed_drew ((ba.set _).other nab _) 1
      have q2 : Boxed ((W.setCell ⟨w.heap.size + 1 + 1, 0, none⟩ (.int .i64 (i : Int))).setCell ⟨w.heap.size + 1 + 1 + 1, 0, none⟩ (.bool bb)).drew (w.heap.size + 1 + 1 + 1) 4 (.bool bb) := boxed_drew ((bt.other (Ne.symm nab) _).set _) 1
      have q3 : ((W.setCell ⟨w.heap.size + 1 + 1, 0, none⟩ (.int .i64 (i : Int))).setCell ⟨w.heap.size + 1 + 1 + 1, 0, none⟩ (.bool bb)).drew.heap[D]? = some (.deferred (some [])) := by
        show ((W.setCell ⟨w.heap.size + 1 + 1, 0, none⟩ (.int .i64 (i : Int))).setCell ⟨w.heap.size + 1 + 1 + 1, 0, none⟩ (.bool bb)).heap[D]? = _
        rw [Below.heap_setCell _ _ _ D (by simp; omega), Below.heap_setCell _ _ _ D (by simp; omega)]; exact HK.out
      have q6 : Below w.heap.size w ((W.setCell ⟨w.heap.size + 1 + 1, 0, none⟩ (.int .i64 (i : Int))).setCell ⟨w.heap.size + 1 + 1 + 1, 0, none⟩ (.bool bb)).drew :=
        (B4.trans (((hBw.setCell (p := ⟨w.heap.size + 1 + 1, 0, none⟩) (by simp) _).setCell (p := ⟨w.heap.size + 1 + 1 + 1, 0, none⟩) (by simp) _).mono (by omega))).trans (below_drew _ _)
      generalize ((W.setCell ⟨w.heap.size + 1 + 1, 0, none⟩ (.int .i64 (i : Int))).setCell ⟨w.heap.size + 1 + 1 + 1, 0, none⟩ (.bool bb)).drew = W2 at q1 q2 q3 q6 ⊢
      refine ⟨by simp, .inl ⟨_, _, rfl, run_takeDeferred q3, ?_⟩⟩
      have g1 := fun o' => (boxed_put q1 q3 rfl o').cell
      have g2 := fun o' => (boxed_put q2 q3 rfl o').cell
      exact ⟨.tuple #[.int .i64 (i : Int), .bool bb], by simp [results, Try.results40, go_sem, g1, g2], i, bb, rfl, HSK.out, q6.trans (belowK_b (w := w) (Nat.le_refl _) W2 D _ _ (by omega) q3 rfl rfl)⟩
end Go.Proofs.Ytjnhalomkmdcgaa
