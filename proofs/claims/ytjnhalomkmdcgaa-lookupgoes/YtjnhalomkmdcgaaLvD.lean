/- The document's answer: With, Without, All. -/
import Derived.Test.YtjnhalomkmdcgaaLvA
namespace Go.Proofs.Ytjnhalomkmdcgaa
open Go.RowKit
attribute [local go_sem ↓] app_hide

/-- Entries of a row that a call owns; their types below N. -/
structure OnR (N S : Nat) (X : List Ep) (q : Option Addr) (c : Nat) (W : World) : Prop where
  r : W.ownsRow S 39 3 (.slice q X.length c) X.length (cellsE X)
  t : ∀ x ∈ X, TRow N W x.2.1.1 x.2.1.2.1 x.2.1.2.2
theorem OnR.below {N S : Nat} {X : List Ep} {q : Option Addr} {c : Nat} {W W' : World} (h : OnR N S X q c W) (hb : Below W.heap.size W W') (hN : N ≤ W.heap.size) : OnR N S X q c W' := ⟨owns_below h.r hb, fun x hx => (h.t x hx).below hb hN⟩
theorem OnR.nil (N S : Nat) (W : World) : OnR N S [] none 0 W := ⟨World.ownsRow_nil _ _ _ _, fun x hx => by simp at hx⟩
theorem onr_step {N S : Nat} {X : List Ep} {q : Option Addr} {c : Nat} {W : World} (h : OnR N S X q c W) (hX : X.length ≤ 100000) (hNS : N ≤ S) (hS : S ≤ W.heap.size) (x : Ep) (lx : Nat) (hlx : lx = x.2.1.2.1.length) (hO : TRow N W x.2.1.1 x.2.1.2.1 x.2.1.2.2) :
    ∃ q' c' w', (Builtin.append_ #[22, 22] 22 #[.slice q X.length c, .slice (some ⟨W.heap.size, 0, none⟩) 1 1]).run Try.prog (W.alloc (.cells #[.int .i64 x.1, .slice x.2.1.1 lx x.2.1.2.2, .int .i64 x.2.2] 39)) = .ok (.slice q' (X.length + 1) c') w' ∧
      OnR N S (X ++ [x]) q' c' w' ∧ Below S W w' ∧ (∀ D, D < W.heap.size → (∀ a, q = some a → a.block ≠ D) → w'.heap[D]? = W.heap[D]?) := by
  subst hlx
  obtain ⟨i0, hi0, hz0, hz1, hz2⟩ := info_parts Try.info39
  obtain ⟨s, ⟨p, l, d⟩, n⟩ := x
  obtain ⟨v', w2, hrun, hown', hgrow, _⟩ := run_append_own (P := Try.prog) (W.alloc (.cells #[.int .i64 s, .slice p l.length d, .int .i64 n] 39)) S 22 22 39 i0 (.agg #[.int .i64 0, .slice none 0 0, .int .i64 0]) 3 40 Try.underlying22 hi0 hz0 hz1 hz2 rfl (by decide) _ X.length _ (h.r.alloc _) ⟨W.heap.size, 0, none⟩ 1 1 (cellsE [(s, (p, l, d), n)]) rfl (by
    intro j u hj
    rw [addr_add, World.cell?_alloc_at _ _ _ _ rfl]
    have hj3 : j < 3 := by have := (List.getElem?_eq_some_iff.1 hj).1; simpa [cellsE] using this
    rcases (show j = 0 ∨ j = 1 ∨ j = 2 by omega) with rfl | rfl | rfl <;> simpa [cellsE] using hj) (cellsE_one _) (by unfold maxLen; omega) (by omega) (by simp; omega)
  obtain ⟨g', cap', rfl⟩ := ownsRow_succ hown'
  have hbel : Below S W w2 := by
    refine ((Below.refl S W).alloc hS _).grown hgrow (by simp; omega) fun j ej => ?_
    rcases h.r.2 with ⟨hn, _⟩ | ⟨g, cap, cur, hn, hb, _, _⟩
    · rw [hn] at ej; simp [Value.ownBlock] at ej
    · rw [hn] at ej
      obtain rfl : g = j := by simpa [Value.ownBlock] using ej
      exact hb
  refine ⟨_, _, w2, hrun, ⟨?_, fun y hy => ?_⟩, hbel, fun D hD hq => ?_⟩
  · rw [cellsE_append, List.length_append]; exact hown'
  · rcases List.mem_append.1 hy with hy | hy
    · exact (h.t y hy).below hbel hNS
    · rw [List.mem_singleton.1 hy]; exact hO.below hbel hNS
  · rw [hgrow.block D (by simp; omega) (by
      rw [ownBlock_slice]
      cases q with
      | none => simp
      | some a => simp; exact fun e => hq a rfl e.symm), Below.heap_alloc _ _ _ hD]
/-- A row of entries that a call answers. -/
def AnsR (L' : List En) (w : World) (e : Ending) (w' : World) : Prop := ∃ p' c', e = .returned (.slice p' L'.length c') ∧ ERow w'.heap.size w' p' L' ∧ Below w.heap.size w w'
theorem OnR.ans {N S : Nat} {X : List Ep} {q : Option Addr} {c : Nat} {w W : World} {L : List En} (h : OnR N S X q c W) (hX : X.map eOf = L) (hb : Below w.heap.size w W) (hN : N ≤ W.heap.size) : AnsR L w (.returned (.slice q X.length c)) W := by
  obtain ⟨p', c', e, hr, _⟩ := erow_owns (N := W.heap.size) h.r (fun x hx => (h.t x hx).mono hN) (Nat.le_refl _)
  cases e
  exact ⟨q, c, by rw [← hX, List.length_map], by rw [← hX]; exact hr, hb⟩
theorem drop_gE {L : List En} {k : Nat} (h : k < L.length) : L.drop k = gE L k :: L.drop (k + 1) := by rw [List.drop_eq_getElem_cons h, ← gE_eq h]
/-- What is still to be laid. -/
def reW (L : List En) (x : En) (laid : Bool) (k : Nat) : List En := if laid then L.drop k else wiL cmpL (L.drop k) x
theorem reW_t {L : List En} {x : En} {k : Nat} (h : k < L.length) : reW L x true k = gE L k :: reW L x true (k + 1) := by unfold reW; simp only [if_true]; exact drop_gE h
theorem reW_lt {L : List En} {x : En} {k : Nat} (h : k < L.length) (hc : cmpL x.2.1 (gE L k).2.1 < 0) : reW L x false k = x :: gE L k :: reW L x true (k + 1) := by
  unfold reW; simp only [if_true]
  rw [if_neg (by decide), drop_gE h]
  unfold wiL; rw [if_pos hc]
theorem reW_ge {L : List En} {x : En} {k : Nat} (h : k < L.length) (hc : ¬ cmpL x.2.1 (gE L k).2.1 < 0) : reW L x false k = gE L k :: reW L x false (k + 1) := by
  unfold reW
  rw [if_neg (by decide), if_neg (by decide), drop_gE h]
  rw [wiL, if_neg hc]
set_option maxRecDepth 20000 in
set_option maxHeartbeats 4000000 in
theorem with22 (p : Option Addr) (L : List En) (c : Nat) (s n : Int) (q : Option Addr) (t : List Int) (d : Nat) (w : World) (hE : ERow w.heap.size w p L) (hm : L.length ≤ 1000) (hB : LB L) (hT : TRow w.heap.size w q t d) (ht : t.length ≤ 1000) :
    Calls Try.prog 22 #[.slice p L.length c, .agg #[.int .i64 s, .slice q t.length d, .int .i64 n]] w fun e w' => AnsR (wiL cmpL L (s, t, n)) w e w' := by
  obtain ⟨v, hv⟩ : ∃ v, v = wiL cmpL L (s, t, n) := ⟨_, rfl⟩
  rw [← hv]
  have HV := hidOg hv
  have HLB := hidOg hB
  have HEr := hidOg hE
  have HTr := hidOg hT
  have HTL := hidOg ht
  obtain ⟨m, hm'⟩ : ∃ m, m = L.length := ⟨_, rfl⟩
  have HM := hidOg hm'
  obtain ⟨lt, hlt0⟩ : ∃ lt, lt = t.length := ⟨_, rfl⟩
  have HLT := hidOg hlt0
  rw [← hm'] at hm ⊢
  rw [← hlt0]
  clear hv hm' hE hB hT ht hlt0
  go_enter Try.func22, Try.ntmps22
  go_wp2
  have bw : Below w.heap.size w (w.alloc (.cells #[.int .i64 s, .slice q lt d, .int .i64 n] 39)) := (Below.refl _ _).alloc (Nat.le_refl _) _
  have sw : (w.alloc (.cells #[.int .i64 s, .slice q lt d, .int .i64 n] 39)).heap.size = w.heap.size + 1 := by simp
  have HK : Hid (∀ W, Below (w.heap.size + 1) (w.alloc (.cells #[.int .i64 s, .slice q lt d, .int .i64 n] 39)) W → Below w.heap.size w W ∧ W.cell? ⟨w.heap.size, 0, none⟩ = some (.int .i64 s) ∧ W.cell? ⟨w.heap.size, 1, none⟩ = some (.slice q lt d) ∧ W.cell? ⟨w.heap.size, 2, none⟩ = some (.int .i64 n)) := fun W hb => by
    have hz := heap3_cell ((hb.block w.heap.size (by simp)).trans (World.alloc_heap_new w _))
    exact ⟨bw.trans (hb.mono (by omega)), hz.1, hz.2.1, hz.2.2.1⟩
  generalize (w.alloc (.cells #[.int .i64 s, .slice q lt d, .int .i64 n] 39)) = wb at HK sw ⊢
  have HSW := hidOg sw
  clear bw sw
  go_loopw [5, 6, 11] (fun o f i wr => ∃ (k : Nat) (X : List Ep) (q' : Option Addr) (c' : Nat) (b : Bool), k ≤ m ∧ i = .int .i64 k ∧ o = .slice q' X.length c' ∧ f = .bool b ∧ v = X.map eOf ++ reW L (s, t, n) b k ∧ X.length ≤ 2 * k ∧ OnR w.heap.size (w.heap.size + 1) X q' c' wr ∧ Below (w.heap.size + 1) wb wr) (fun _ _ i _ => m - (intOf i).toNat)
  case atStart => exact ⟨0, [], none, 0, false, Nat.zero_le _, rfl, rfl, rfl, HV.out, Nat.le_refl _, OnR.nil _ _ _, Below.refl _ _⟩
  case round =>
    obtain ⟨k, X, q', c', bl, hk, rfl, rfl, rfl, hX, hXl, hO, hBw⟩ := hrel
    have HX := hidOg hX
    have HO := hidOg hO
    have HB := hidOg hBw
    obtain ⟨hbw, x0, x1, x2⟩ := HK.out _ hBw
    have HBw := hidOg hbw
    have hsz : w.heap.size + 1 ≤ wr.heap.size := by have := hBw.size; have := HSW.out; omega
    clear hX hO hBw
    by_cases hlt2 : k < m
    · obtain ⟨b, off, rfl, hbN, hcs⟩ := HEr.out (by have := HM.out; omega)
      obtain ⟨k0, ⟨qx, cx, k1, hTx⟩, k2⟩ := hcs k (by have := HM.out; omega)
      have k0' := (hbw.cell (p := ⟨b, off + k * 3, none⟩) hbN).trans k0
      have k1' := (hbw.cell (p := ⟨b, off + k * 3 + 1, none⟩) hbN).trans k1
      have k2' := (hbw.cell (p := ⟨b, off + k * 3 + 2, none⟩) hbN).trans k2
      have hlb := HLB.out k (by have := HM.out; omega)
      have r1 := reW_t (x := (s, t, n)) (show k < L.length by rw [← HM.out]; exact hlt2)
      have r2 := reW_lt (x := (s, t, n)) (show k < L.length by rw [← HM.out]; exact hlt2)
      have r3 := reW_ge (x := (s, t, n)) (show k < L.length by rw [← HM.out]; exact hlt2)
      obtain ⟨y, hy⟩ : ∃ y, y = gE L k := ⟨_, rfl⟩
      rw [← hy] at k0' k1' k2' hTx hlb r1 r2 r3
      obtain ⟨s1, t1, n1⟩ := y
      simp only at k0' k1' k2' hlb r2 r3
      have CC := fun (W : World) (hb : Below w.heap.size w W) => compare22 q t d qx t1 cx W ((HTr.out.i.below hb (Nat.le_refl _)).mono hb.size) ((hTx.i.below hb (Nat.le_refl _)).mono hb.size) (by have := HTL.out; omega) (by omega)
      rw [← HLT.out] at CC
      obtain ⟨l1, hl1⟩ : ∃ l1, l1 = t1.length := ⟨_, rfl⟩
      have HL1 := hidOg hl1
      rw [← hl1] at k1' hlb CC
      have HTx := hidOg hTx
      have HR1 := hidOg r1
      have HR2 := hidOg r2
      have HR3 := hidOg r3
      have HBal := hidOg (hbw.trans (bal_lt (.cells #[.int .i64 s1, .slice qx l1 cx, .int .i64 n1] 39) hbw.size))
      have HO1 := hidOg (HO.out.below (bal_lt (.cells #[.int .i64 s1, .slice qx l1 cx, .int .i64 n1] 39) (Nat.le_refl _)) hbw.size)
      have hB1 : Below (w.heap.size + 1) wb (wr.alloc (.cells #[.int .i64 s1, .slice qx l1 cx, .int .i64 n1] 39)) := HB.out.trans (bal_lt _ hsz)
      have HB1 := hidOg hB1
      obtain ⟨_, z0, z1, z2⟩ := HK.out _ hB1
      have hq' : Hid (∀ a, q' = some a → a.block ≠ wr.heap.size) := fun a ha => by
        have := (HO.out.r.lt a.block (by rw [ha]; rfl)).2; omega
      clear hcs k0 k1 k2 hTx hbw hl1 r1 r2 r3 hy hB1
      have hY : TRow w.heap.size (wr.alloc (.cells #[.int .i64 s1, .slice qx l1 cx, .int .i64 n1] 39)) qx t1 cx := HTx.out.below HBal.out (Nat.le_refl _)
      have hXn : X.length ≤ 100000 := by omega
      cases bl
      · by_cases hc : cmpL t t1 < 0
        · obtain ⟨q2, c2, w2, hrun1, hO2, hb2, hD2⟩ := onr_step HO1.out hXn (by omega) (by simp; omega) (s, (q, t, d), n) lt HLT.out (HTr.out.below HBal.out (Nat.le_refl _))
          have hs2 := hb2.size
          simp only [World.size_alloc] at hs2
          have hw2 : Below w.heap.size w w2 := HBal.out.trans (hb2.mono (by omega))
          obtain ⟨y0, y1, y2, _⟩ := heap3_cell ((hD2 wr.heap.size (by simp) hq'.out).trans (World.alloc_heap_new wr _))
          obtain ⟨q3, c3, w3, hrun2, hO3, hb3, _⟩ := onr_step hO2 (by rw [List.length_append]; simp; omega) (by omega) (by omega) (s1, (qx, t1, cx), n1) l1 HL1.out (HTx.out.below hw2 (Nat.le_refl _))
          simp only [World.size_alloc] at hrun1
          rw [List.length_append, show ([(s, (q, t, d), n)] : List Ep).length = 1 from rfl] at hrun2
          rw [app_hide] at hrun1 hrun2
          have HO3 := hidOg hO3
          have HB3 := hidOg ((HB1.out.trans hb2).trans hb3)
          obtain ⟨cm, hcm⟩ : ∃ cm, cm = cmpL t t1 := ⟨_, rfl⟩
          rw [← hcm] at CC
          have hcm0 : (cm : Int) < 0 := by rw [hcm]; exact hc
          have HRx : Hid (v = (X ++ [(s, (q, t, d), n)] ++ [(s1, (qx, t1, cx), n1)]).map eOf ++ reW L (s, t, n) true (k + 1)) := by
            unfold Hid; rw [HX.out, HR2.out hc]; simp [eOf]
          clear hO2 hb2 hD2 hO3 hb3 hY hc hcm hw2
          go_wp2_with (first | (go_at_call 43; refine Calls.mono (CC _ HBal.out) ?_; rintro e w9 ⟨rfl, hw9⟩; rw [hw9]; clear hw9 w9))
          go_roundw
          case rel => exact ⟨k + 1, _, q3, c3, true, by omega, by go_num, by simp, rfl, HRx.out, by simp; omega, HO3.out, HB3.out⟩
          case measure => simp [intOf]; omega
        · obtain ⟨q2, c2, w2, hrun1, hO2, hb2, hD2⟩ := onr_step HO1.out hXn (by omega) (by simp; omega) (s1, (qx, t1, cx), n1) l1 HL1.out hY
          simp only [World.size_alloc] at hrun1
          rw [app_hide] at hrun1
          have HO3 := hidOg hO2
          have HB3 := hidOg (HB1.out.trans hb2)
          obtain ⟨cm, hcm⟩ : ∃ cm, cm = cmpL t t1 := ⟨_, rfl⟩
          rw [← hcm] at CC
          have hcm0 : ¬ (cm : Int) < 0 := by rw [hcm]; exact hc
          have HRx : Hid (v = (X ++ [(s1, (qx, t1, cx), n1)]).map eOf ++ reW L (s, t, n) false (k + 1)) := by
            unfold Hid; rw [HX.out, HR3.out hc]; simp [eOf]
          clear hO2 hb2 hD2 hY hc hcm
          go_wp2_with (first | (go_at_call 43; refine Calls.mono (CC _ HBal.out) ?_; rintro e w9 ⟨rfl, hw9⟩; rw [hw9]; clear hw9 w9))
          go_roundw
          case rel => exact ⟨k + 1, _, q2, c2, false, by omega, by go_num, by simp, rfl, HRx.out, by simp; omega, HO3.out, HB3.out⟩
          case measure => simp [intOf]; omega
      · obtain ⟨q2, c2, w2, hrun1, hO2, hb2, hD2⟩ := onr_step HO1.out hXn (by omega) (by simp; omega) (s1, (qx, t1, cx), n1) l1 HL1.out hY
        simp only [World.size_alloc] at hrun1
        rw [app_hide] at hrun1
        have HO3 := hidOg hO2
        have HB3 := hidOg (HB1.out.trans hb2)
        have HRx : Hid (v = (X ++ [(s1, (qx, t1, cx), n1)]).map eOf ++ reW L (s, t, n) true (k + 1)) := by
          unfold Hid; rw [HX.out, HR1.out]; simp [eOf]
        clear hO2 hb2 hD2 hY CC
        go_wp2
        go_roundw
        case rel => exact ⟨k + 1, _, q2, c2, true, by omega, by go_num, by simp, rfl, HRx.out, by simp; omega, HO3.out, HB3.out⟩
        case measure => simp [intOf]; omega
    · obtain rfl : k = m := by omega
      have hdr : L.drop k = [] := by rw [HM.out, List.drop_length]
      have hXn : X.length ≤ 100000 := by omega
      cases bl
      · obtain ⟨q2, c2, w2, hrun1, hO2, hb2, hD2⟩ := onr_step HO.out hXn (by omega) hsz (s, (q, t, d), n) lt HLT.out (HTr.out.below hbw (Nat.le_refl _))
        rw [app_hide] at hrun1
        have hs2 := hb2.size
        have HA : Hid (AnsR v w (.returned (.slice q2 (X ++ [(s, (q, t, d), n)]).length c2)) w2) := hO2.ans (by
          have := HX.out
          unfold reW at this
          rw [hdr] at this
          rw [this]; simp [eOf, wiL]) (hbw.trans (hb2.mono (by omega))) (by omega)
        rw [List.length_append, show ([(s, (q, t, d), n)] : List Ep).length = 1 from rfl] at HA
        clear hO2 hb2 hD2
        go_wp2
        go_ret
        exact HA.out
      · have HA : Hid (AnsR v w (.returned (.slice q' X.length c')) wr) := HO.out.ans (by
          have := HX.out
          unfold reW at this
          rw [hdr] at this
          rw [this]; simp) hbw hbw.size
        go_wp2
        go_ret
        exact HA.out
end Go.Proofs.Ytjnhalomkmdcgaa
