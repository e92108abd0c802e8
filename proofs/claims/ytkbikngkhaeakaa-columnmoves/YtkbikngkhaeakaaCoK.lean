/- Get, Swap, Set, Push, Move, New, Check. -/
import Derived.Test.YtkbikngkhaeakaaCoJ
namespace Go.Proofs.Ytkbikngkhaeakaa
open Go.RowKit

theorem cv_of {wd rs : Int} {p : Option Addr} {l : List Int} {c : Nat} {w : World} (hm : mayB wd rs l.length = true) (hR : Row w p l c) (hc : c ≤ maxLen) : ∃ W R : Nat, wd = W ∧ rs = R ∧ CV w W R p l c := by
  obtain ⟨h0, h1, h2, h3, h4⟩ := mayB_t hm
  obtain ⟨W, rfl⟩ : ∃ W : Nat, wd = W := ⟨wd.toNat, by omega⟩
  obtain ⟨R, rfl⟩ : ∃ R : Nat, rs = R := ⟨rs.toNat, by omega⟩
  exact ⟨W, R, rfl, rfl, hR, by exact_mod_cast h4, by omega, by omega, hc⟩
/-- What Get, Swap, Set, Push answer, of whatever column. -/
def gA (wd rs : Int) (l : List Int) (row : Int) : List Int × Int := if mayB wd rs l.length then (getV wd.toNat rs.toNat l row, getE rs.toNat row) else ([], 180)
def sA (wd rs : Int) (l : List Int) (row : Int) : CA × Int := if mayB wd rs l.length then swpA wd.toNat rs.toNat l row else (zC, 180)
def tA (wd rs : Int) (l : List Int) (row : Int) (v : List Int) : CA × Int := if mayB wd rs l.length then setA wd.toNat rs.toNat l row v else (zC, 180)
def pA (wd rs : Int) (l : List Int) (V : List RR) : CA × Int := if mayB wd rs l.length then pshA wd.toNat rs.toNat l V else (zC, 180)
def mA (wd rs : Int) (l : List Int) (wd2 rs2 : Int) (l2 : List Int) (row : Int) : CA × CA × Int := if mayB wd rs l.length && mayB wd2 rs2 l2.length then mvA wd.toNat rs.toNat l wd2.toNat rs2.toNat l2 row else (zC, zC, 180)

set_option maxRecDepth 20000 in
set_option maxHeartbeats 1000000 in
theorem get23 (wd rs : Int) (p : Option Addr) (l : List Int) (c : Nat) (row : Int) (w : World) (hR : Row w p l c) (hc : c ≤ maxLen) :
    Calls Try.prog 23 #[.agg #[.int .i64 wd, .int .i64 rs, .slice p l.length c], .int .i64 row] w fun e w' => AnsV (gA wd rs l row).1 (gA wd rs l row).2 w e w' := by
  obtain ⟨h1, h2, h3⟩ := al3 w (.cells #[.int .i64 wd, .int .i64 rs, .slice p l.length c] 24) (.cells #[.int .i64 row] 3) (.cells #[.int .i64 wd, .int .i64 rs, .slice p l.length c] 24)
  have KE : Hid (Be w.heap.size w (((w.alloc (.cells #[.int .i64 wd, .int .i64 rs, .slice p l.length c] 24)).alloc (.cells #[.int .i64 row] 3)).alloc (.cells #[.int .i64 wd, .int .i64 rs, .slice p l.length c] 24))) := (((Be.refl (Nat.le_refl _)).al _).al _).al _
  have hlm : l.length ≤ maxLen := Nat.le_trans hR.r hc
  have CG := guard40 (w.heap.size + 2) (wd, rs, p, l, c) ⟨w.heap.size, 0, none⟩ ⟨w.heap.size + 1, 0, none⟩ (getV wd.toNat rs.toNat l row) (getE rs.toNat row) _ h3 hlm (fun hm X hb => by
    obtain ⟨W, R, rfl, rfl, hcv⟩ := cv_of hm hR hc
    exact get41 w.heap.size (w.heap.size + 1) W R p l c row X (hcv.to (KE.out.tr hb KE.out.s).b) (B2.to ⟨h1, cell1_heap h2⟩ hb.b))
  have e1 : (if mC (wd, rs, p, l, c) then getV wd.toNat rs.toNat l row else []) = (gA wd rs l row).1 := by
    unfold gA; show (if mayB wd rs l.length then _ else _) = _; split <;> rfl
  have e2 : (if mC (wd, rs, p, l, c) then getE rs.toNat row else 180) = (gA wd rs l row).2 := by
    unfold gA; show (if mayB wd rs l.length then _ else _) = _; split <;> rfl
  rw [e1, e2] at CG
  obtain ⟨v, hv⟩ : ∃ v, v = (gA wd rs l row).1 := ⟨_, rfl⟩
  obtain ⟨er, her⟩ : ∃ er, er = (gA wd rs l row).2 := ⟨_, rfl⟩
  rw [← hv, ← her] at CG
  rw [← hv, ← her]
  clear hR h1 h2 h3 e1 e2 hv her hlm
  go_enter Try.func23, Try.ntmps23
  go_wp2_with (first | (go_at_call 40; refine Calls.mono CG ?_; rintro e w1 ⟨q', c', rfl, ho, hb⟩))
  go_ret2
  exact ⟨q', c', rfl, ho.weak KE.out.s, (KE.out.to hb).b⟩
set_option maxRecDepth 20000 in
set_option maxHeartbeats 1000000 in
theorem swap24 (wd rs : Int) (p : Option Addr) (l : List Int) (c : Nat) (row : Int) (w : World) (hR : Row w p l c) (hc : c ≤ maxLen) :
    Calls Try.prog 24 #[.agg #[.int .i64 wd, .int .i64 rs, .slice p l.length c], .int .i64 row] w fun e w' => AnsC (sA wd rs l row) w e w' := by
  obtain ⟨h1, h2, h3, h4⟩ := al4 w (.cells #[.int .i64 wd, .int .i64 rs, .slice p l.length c] 24) (.cells #[.int .i64 row] 3) oZ (.cells #[.int .i64 wd, .int .i64 rs, .slice p l.length c] 24)
  have KE : Hid (Be w.heap.size w ((((w.alloc (.cells #[.int .i64 wd, .int .i64 rs, .slice p l.length c] 24)).alloc (.cells #[.int .i64 row] 3)).alloc oZ).alloc (.cells #[.int .i64 wd, .int .i64 rs, .slice p l.length c] 24))) := (((((Be.refl (Nat.le_refl _)).al _).al _).al _).al _)
  have hlm : l.length ≤ maxLen := Nat.le_trans hR.r hc
  have CG := guard45 (w.heap.size + 3) (wd, rs, p, l, c) ⟨w.heap.size, 0, none⟩ ⟨w.heap.size + 1, 0, none⟩ (swpA wd.toNat rs.toNat l row) _ h4 hlm (fun hm X hb => by
    obtain ⟨W, R, rfl, rfl, hcv⟩ := cv_of hm hR hc
    exact swap45 w.heap.size (w.heap.size + 1) W R p l c row X (hcv.to (KE.out.tr hb KE.out.s).b) (B2.to ⟨h1, cell1_heap h2⟩ hb.b))
  have e1 : (if mC (wd, rs, p, l, c) then swpA wd.toNat rs.toNat l row else (zC, 180)) = sA wd rs l row := rfl
  rw [e1] at CG
  obtain ⟨a, ha⟩ : ∃ a, a = sA wd rs l row := ⟨_, rfl⟩
  rw [← ha] at CG
  rw [← ha]
  have zE := hidOg h3
  clear hR h1 h2 h3 h4 e1 ha hlm
  go_enter Try.func24, Try.ntmps24
  go_wp2_with (first | (go_at_call 44; refine Calls.mono CG ?_; rintro e w1 ⟨q', c', rfl, ho, hb⟩; obtain ⟨y0, y1, y2, yf⟩ := heap3_cell ((hb.block (w.heap.size + 2) (by simp)).trans zE.out); have HO := hidOg ho; have HX : Hid (Be w.heap.size w w1) := KE.out.to hb; clear ho hb))
  refine bodyPost_ret (v := .tuple #[.agg #[.int .i64 a.1.1, .int .i64 a.1.2.1, .slice q' a.1.2.2.length c'], .int .i64 a.2]) (by simp [results, Try.results24, go_sem, y0, y1, y2]) rfl ⟨q', c', rfl, ?_, set3 HX.out.b (by omega) _ _ _⟩
  exact (HO.out.set3 (B := w.heap.size + 2) (by simp) _ _ _).weak KE.out.s
set_option maxRecDepth 20000 in
set_option maxHeartbeats 1000000 in
theorem set27 (wd rs : Int) (p : Option Addr) (l : List Int) (c : Nat) (row : Int) (q : Option Addr) (v : List Int) (d : Nat) (w : World) (hR : Row w p l c) (hc : c ≤ maxLen) (hI : IRow .u64 w.heap.size w q v) :
    Calls Try.prog 27 #[.agg #[.int .i64 wd, .int .i64 rs, .slice p l.length c], .int .i64 row, .slice q v.length d] w fun e w' => AnsC (tA wd rs l row v) w e w' := by
  obtain ⟨h1, h2, h3, h4, h5⟩ := al5 w (.cells #[.int .i64 wd, .int .i64 rs, .slice p l.length c] 24) (.cells #[.int .i64 row] 3) (.cells #[.slice q v.length d] 38) oZ (.cells #[.int .i64 wd, .int .i64 rs, .slice p l.length c] 24)
  have KE : Hid (Be w.heap.size w (((((w.alloc (.cells #[.int .i64 wd, .int .i64 rs, .slice p l.length c] 24)).alloc (.cells #[.int .i64 row] 3)).alloc (.cells #[.slice q v.length d] 38)).alloc oZ).alloc (.cells #[.int .i64 wd, .int .i64 rs, .slice p l.length c] 24))) := ((((((Be.refl (Nat.le_refl _)).al _).al _).al _).al _).al _)
  have hlm : l.length ≤ maxLen := Nat.le_trans hR.r hc
  have CG := guard47 (w.heap.size + 4) (wd, rs, p, l, c) ⟨w.heap.size, 0, none⟩ ⟨w.heap.size + 1, 0, none⟩ ⟨w.heap.size + 2, 0, none⟩ (setA wd.toNat rs.toNat l row v) _ h5 hlm (fun hm X hb => by
    obtain ⟨W, R, rfl, rfl, hcv⟩ := cv_of hm hR hc
    exact set47 w.heap.size (w.heap.size + 1) (w.heap.size + 2) W R p l c row q v d X (hcv.to (KE.out.tr hb KE.out.s).b) (B2.to ⟨h1, cell1_heap h2⟩ hb.b) (cell1_heap (hb.blk (by simp <;> omega) h3)) ((hI.below (KE.out.tr hb KE.out.s).b (Nat.le_refl _)).mono (KE.out.tr hb KE.out.s).s))
  have e1 : (if mC (wd, rs, p, l, c) then setA wd.toNat rs.toNat l row v else (zC, 180)) = tA wd rs l row v := rfl
  rw [e1] at CG
  obtain ⟨a, ha⟩ : ∃ a, a = tA wd rs l row v := ⟨_, rfl⟩
  rw [← ha] at CG
  rw [← ha]
  have zE := hidOg h4
  clear hR h1 h2 h3 h4 h5 e1 ha hlm hI
  go_enter Try.func27, Try.ntmps27
  go_wp2_with (first | (go_at_call 44; refine Calls.mono CG ?_; rintro e w1 ⟨q', c', rfl, ho, hb⟩; obtain ⟨y0, y1, y2, yf⟩ := heap3_cell ((hb.block (w.heap.size + 3) (by simp)).trans zE.out); have HO := hidOg ho; have HX : Hid (Be w.heap.size w w1) := KE.out.to hb; clear ho hb))
  refine bodyPost_ret (v := .tuple #[.agg #[.int .i64 a.1.1, .int .i64 a.1.2.1, .slice q' a.1.2.2.length c'], .int .i64 a.2]) (by simp [results, Try.results27, go_sem, y0, y1, y2]) rfl ⟨q', c', rfl, ?_, set3 HX.out.b (by omega) _ _ _⟩
  exact (HO.out.set3 (B := w.heap.size + 3) (by simp) _ _ _).weak KE.out.s
set_option maxRecDepth 20000 in
set_option maxHeartbeats 1000000 in
theorem push29 (wd rs : Int) (p : Option Addr) (l : List Int) (c : Nat) (q : Option Addr) (V : List RR) (d : Nat) (w : World) (hR : Row w p l c) (hc : c ≤ maxLen) (hV : VRow w.heap.size w q V) (hn : V.length ≤ 1000) :
    Calls Try.prog 29 #[.agg #[.int .i64 wd, .int .i64 rs, .slice p l.length c], .slice q V.length d] w fun e w' => AnsC (pA wd rs l V) w e w' := by
  obtain ⟨h1, h2, h3, h4⟩ := al4 w (.cells #[.int .i64 wd, .int .i64 rs, .slice p l.length c] 24) (.cells #[.slice q V.length d] 35) oZ (.cells #[.int .i64 wd, .int .i64 rs, .slice p l.length c] 24)
  have KE : Hid (Be w.heap.size w ((((w.alloc (.cells #[.int .i64 wd, .int .i64 rs, .slice p l.length c] 24)).alloc (.cells #[.slice q V.length d] 35)).alloc oZ).alloc (.cells #[.int .i64 wd, .int .i64 rs, .slice p l.length c] 24))) := (((((Be.refl (Nat.le_refl _)).al _).al _).al _).al _)
  have hlm : l.length ≤ maxLen := Nat.le_trans hR.r hc
  have CG := guard50 (w.heap.size + 3) (wd, rs, p, l, c) ⟨w.heap.size, 0, none⟩ ⟨w.heap.size + 1, 0, none⟩ (pshA wd.toNat rs.toNat l V) _ h4 hlm (fun hm X hb => by
    obtain ⟨W, R, rfl, rfl, hcv⟩ := cv_of hm hR hc
    exact push50 w.heap.size (w.heap.size + 1) W R p l c q V d X (hcv.to (KE.out.tr hb KE.out.s).b) (hb.blk (by simp <;> omega) h1) (cell1_heap (hb.blk (by simp <;> omega) h2)) ((hV.below (KE.out.tr hb KE.out.s).b (Nat.le_refl _)).mono (KE.out.tr hb KE.out.s).s) hn)
  have e1 : (if mC (wd, rs, p, l, c) then pshA wd.toNat rs.toNat l V else (zC, 180)) = pA wd rs l V := rfl
  rw [e1] at CG
  obtain ⟨a, ha⟩ : ∃ a, a = pA wd rs l V := ⟨_, rfl⟩
  rw [← ha] at CG
  rw [← ha]
  have zE := hidOg h3
  clear hR h1 h2 h3 h4 e1 ha hlm hV hn
  go_enter Try.func29, Try.ntmps29
  go_wp2_with (first | (go_at_call 44; refine Calls.mono CG ?_; rintro e w1 ⟨q', c', rfl, ho, hb⟩; obtain ⟨y0, y1, y2, yf⟩ := heap3_cell ((hb.block (w.heap.size + 2) (by simp)).trans zE.out); have HO := hidOg ho; have HX : Hid (Be w.heap.size w w1) := KE.out.to hb; clear ho hb))
  refine bodyPost_ret (v := .tuple #[.agg #[.int .i64 a.1.1, .int .i64 a.1.2.1, .slice q' a.1.2.2.length c'], .int .i64 a.2]) (by simp [results, Try.results29, go_sem, y0, y1, y2]) rfl ⟨q', c', rfl, ?_, set3 HX.out.b (by omega) _ _ _⟩
  exact (HO.out.set3 (B := w.heap.size + 2) (by simp) _ _ _).weak KE.out.s
theorem new15 (n : Int) (w : World) : Calls Try.prog 15 #[.int .i64 n] w fun e w' => AnsC (if isW n then ((n, 0, []), 0) else (zC, 2)) w e w' := by
  have CI := fun (X : World) => isWidth36 n X
  cases h : isW n
  · rw [h] at CI
    clear h
    go_enter Try.func15, Try.ntmps15
    go_wp2_with (first | (go_at_call 36; refine Calls.mono (CI _) ?_; rintro e w1 ⟨rfl, hw⟩; rw [hw]; clear hw w1))
    exact bodyPost_ret (v := .tuple #[.agg #[.int .i64 0, .int .i64 0, .slice none 0 0], .int .i64 2]) (by simp [results, Try.results15, go_sem]) rfl ⟨none, 0, rfl, OwnR.nil _ _, bal _ _⟩
  · rw [h] at CI
    clear h
    go_enter Try.func15, Try.ntmps15
    go_wp2_with (first | (go_at_call 36; refine Calls.mono (CI _) ?_; rintro e w1 ⟨rfl, hw⟩; rw [hw]; clear hw w1))
    refine bodyPost_ret (v := .tuple #[.agg #[.int .i64 n, .int .i64 0, .slice none 0 0], .int .i64 0]) (by simp [results, Try.results15, go_sem]) rfl ⟨none, 0, rfl, OwnR.nil _ _, ?_⟩
    first | exact bal _ _ | exact set3 (bal _ _) (Nat.le_refl _) _ _ _
def chkE (wd rs : Int) (l : List Int) : Int := if mayB wd rs l.length then 0 else 180
set_option maxRecDepth 20000 in
theorem check11 (wd rs : Int) (p : Option Addr) (l : List Int) (c : Nat) (w : World) (hl : l.length ≤ maxLen) :
    Calls Try.prog 11 #[.agg #[.int .i64 wd, .int .i64 rs, .slice p l.length c]] w fun e w' => e = .returned (.int .i64 (chkE wd rs l)) ∧ Below w.heap.size w w' := by
  obtain ⟨h1, h2⟩ := al2 w (.cells #[.int .i64 wd, .int .i64 rs, .slice p l.length c] 24) (.cells #[.int .i64 wd, .int .i64 rs, .slice p l.length c] 24)
  have KE : Hid (Be w.heap.size w ((w.alloc (.cells #[.int .i64 wd, .int .i64 rs, .slice p l.length c] 24)).alloc (.cells #[.int .i64 wd, .int .i64 rs, .slice p l.length c] 24))) := ((Be.refl (Nat.le_refl _)).al _).al _
  have CM := mayBe1 (w.heap.size + 1) (wd, rs, p, l, c) _ h2 hl
  have e0 : mC (wd, rs, p, l, c) = mayB wd rs l.length := rfl
  rw [e0] at CM
  cases hm : mayB wd rs l.length
  all_goals
    first | have E : Hid (chkE wd rs l = 180) := by unfold Hid chkE; rw [hm]; rfl | have E : Hid (chkE wd rs l = 0) := by unfold Hid chkE; rw [hm]; rfl
    rw [hm] at CM
    clear hm h1 h2 hl e0
    go_enter Try.func11, Try.ntmps11
    go_wp2_with (first | (go_at_call 34; refine Calls.mono CM ?_; rintro e w1 ⟨rfl, hb⟩))
    go_ret
    exact ⟨ret_int E.out.symm, (KE.out.to hb).b⟩
end Go.Proofs.Ytkbikngkhaeakaa
