/- Move. -/
import Derived.Test.YtkbikngkhaeakaaCoK
namespace Go.Proofs.Ytkbikngkhaeakaa
open Go.RowKit

/-- A call that hands back two columns, and an error. -/
def AnsM (r : CA × CA × Int) (w : World) (e : Ending) (w' : World) : Prop := ∃ q1 c1 q2 c2, e = .returned (.tuple #[.agg #[.int .i64 r.1.1, .int .i64 r.1.2.1, .slice q1 r.1.2.2.length c1], .agg #[.int .i64 r.2.1.1, .int .i64 r.2.1.2.1, .slice q2 r.2.1.2.2.length c2], .int .i64 r.2.2]) ∧ OwnR w.heap.size w' q1 r.1.2.2 c1 ∧ OwnR w.heap.size w' q2 r.2.1.2.2 c2 ∧ Apart q1 q2 ∧ Below w.heap.size w w'
theorem al6 (w : World) (o1 o2 o3 o4 o5 o6 : Obj) : ((((((w.alloc o1).alloc o2).alloc o3).alloc o4).alloc o5).alloc o6).heap[w.heap.size]? = some o1 ∧ ((((((w.alloc o1).alloc o2).alloc o3).alloc o4).alloc o5).alloc o6).heap[w.heap.size + 1]? = some o2 ∧ ((((((w.alloc o1).alloc o2).alloc o3).alloc o4).alloc o5).alloc o6).heap[w.heap.size + 2]? = some o3 ∧ ((((((w.alloc o1).alloc o2).alloc o3).alloc o4).alloc o5).alloc o6).heap[w.heap.size + 3]? = some o4 ∧ ((((((w.alloc o1).alloc o2).alloc o3).alloc o4).alloc o5).alloc o6).heap[w.heap.size + 4]? = some o5 ∧ ((((((w.alloc o1).alloc o2).alloc o3).alloc o4).alloc o5).alloc o6).heap[w.heap.size + 5]? = some o6 := by
  obtain ⟨h1, h2, h3, h4, h5⟩ := al5 w o1 o2 o3 o4 o5
  refine ⟨(Below.heap_alloc _ _ _ (by simp <;> omega)).trans h1, (Below.heap_alloc _ _ _ (by simp <;> omega)).trans h2, (Below.heap_alloc _ _ _ (by simp <;> omega)).trans h3, (Below.heap_alloc _ _ _ (by simp <;> omega)).trans h4, (Below.heap_alloc _ _ _ (by simp)).trans h5, ?_⟩
  have := heap_alloc_new (((((w.alloc o1).alloc o2).alloc o3).alloc o4).alloc o5) o6
  rw [World.size_alloc, World.size_alloc, World.size_alloc, World.size_alloc, World.size_alloc] at this; exact this
set_option maxRecDepth 20000 in
set_option maxHeartbeats 4000000 in
theorem move30 (wd rs : Int) (p : Option Addr) (l : List Int) (c : Nat) (wd2 rs2 : Int) (p2 : Option Addr) (l2 : List Int) (c2 : Nat) (row : Int) (w : World) (hR : Row w p l c) (hc : c ≤ maxLen) (hR2 : Row w p2 l2 c2) (hc2 : c2 ≤ maxLen) :
    Calls Try.prog 30 #[.agg #[.int .i64 wd, .int .i64 rs, .slice p l.length c], .agg #[.int .i64 wd2, .int .i64 rs2, .slice p2 l2.length c2], .int .i64 row] w fun e w' => AnsM (mA wd rs l wd2 rs2 l2 row) w e w' := by
  obtain ⟨h1, h2, h3, h4, h5, h6⟩ := al6 w (.cells #[.int .i64 wd, .int .i64 rs, .slice p l.length c] 24) (.cells #[.int .i64 wd2, .int .i64 rs2, .slice p2 l2.length c2] 24) (.cells #[.int .i64 row] 3) oZ oZ (.cells #[.int .i64 wd, .int .i64 rs, .slice p l.length c, .int .i64 wd2, .int .i64 rs2, .slice p2 l2.length c2] 24)
  have KE : Hid (Be w.heap.size w ((((((w.alloc (.cells #[.int .i64 wd, .int .i64 rs, .slice p l.length c] 24)).alloc (.cells #[.int .i64 wd2, .int .i64 rs2, .slice p2 l2.length c2] 24)).alloc (.cells #[.int .i64 row] 3)).alloc oZ).alloc oZ).alloc (.cells #[.int .i64 wd, .int .i64 rs, .slice p l.length c, .int .i64 wd2, .int .i64 rs2, .slice p2 l2.length c2] 24))) := ((((((Be.refl (Nat.le_refl _)).al _).al _).al _).al _).al _).al _
  have hlm : l.length ≤ maxLen := Nat.le_trans hR.r hc
  have hlm2 : l2.length ≤ maxLen := Nat.le_trans hR2.r hc2
  have CG := guard53 (w.heap.size + 5) (wd, rs, p, l, c) (wd2, rs2, p2, l2, c2) ⟨w.heap.size, 0, none⟩ ⟨w.heap.size + 2, 0, none⟩ ⟨w.heap.size + 1, 0, none⟩ (mvA wd.toNat rs.toNat l wd2.toNat rs2.toNat l2 row).1 (mvA wd.toNat rs.toNat l wd2.toNat rs2.toNat l2 row).2.1 (mvA wd.toNat rs.toNat l wd2.toNat rs2.toNat l2 row).2.2 _ h6 hlm hlm2 (fun hm X hb => by
    rw [Bool.and_eq_true] at hm
    obtain ⟨W, R, rfl, rfl, hcv⟩ := cv_of hm.1 hR hc
    obtain ⟨W2, R2, rfl, rfl, hcv2⟩ := cv_of hm.2 hR2 hc2
    exact move54 w.heap.size (w.heap.size + 2) (w.heap.size + 1) W R W2 R2 p l c row p2 l2 c2 X (hcv.to (KE.out.tr hb KE.out.s).b) (hcv2.to (KE.out.tr hb KE.out.s).b) (B2.to ⟨h1, cell1_heap h3⟩ hb.b) (hb.blk (by simp <;> omega) h2))
  have e1 : (if (mC (wd, rs, p, l, c) && mC (wd2, rs2, p2, l2, c2)) then (mvA wd.toNat rs.toNat l wd2.toNat rs2.toNat l2 row).1 else zC) = (mA wd rs l wd2 rs2 l2 row).1 := by
    unfold mA; show (if (mayB wd rs l.length && mayB wd2 rs2 l2.length) then _ else _) = _; split <;> rfl
  have e2 : (if (mC (wd, rs, p, l, c) && mC (wd2, rs2, p2, l2, c2)) then (mvA wd.toNat rs.toNat l wd2.toNat rs2.toNat l2 row).2.1 else zC) = (mA wd rs l wd2 rs2 l2 row).2.1 := by
    unfold mA; show (if (mayB wd rs l.length && mayB wd2 rs2 l2.length) then _ else _) = _; split <;> rfl
  have e3 : (if (mC (wd, rs, p, l, c) && mC (wd2, rs2, p2, l2, c2)) then (mvA wd.toNat rs.toNat l wd2.toNat rs2.toNat l2 row).2.2 else 180) = (mA wd rs l wd2 rs2 l2 row).2.2 := by
    unfold mA; show (if (mayB wd rs l.length && mayB wd2 rs2 l2.length) then _ else _) = _; split <;> rfl
  rw [e1, e2, e3] at CG
  obtain ⟨r, hr⟩ : ∃ r, r = mA wd rs l wd2 rs2 l2 row := ⟨_, rfl⟩
  rw [← hr] at CG
  rw [← hr]
  obtain ⟨a, b, er⟩ := r
  simp only at CG
  have H4 := hidOg h4
  have H5 := hidOg h5
  clear hR hR2 h1 h2 h3 h4 h5 h6 e1 e2 e3 hr hlm hlm2
  go_enter Try.func30, Try.ntmps30
  go_wp2_with (first | (go_at_call 53; refine Calls.mono CG ?_; rintro e w1 ⟨q1, c1, q2, c2, rfl, ho1, ho2, hA, hb⟩; have y3 := (hb.block (w.heap.size + 3) (by simp <;> omega)).trans H4.out; have y4 := (hb.block (w.heap.size + 4) (by simp <;> omega)).trans H5.out; have HO1 := hidOg ho1; have HO2 := hidOg ho2; have HA := hidOg hA; have HX : Hid (Be w.heap.size w w1) := KE.out.to hb; have HS : Hid (w.heap.size + 6 ≤ w1.heap.size) := Nat.le_trans (by simp) hb.size; clear ho1 ho2 hA hb))
  obtain ⟨wE, hE⟩ : ∃ wE, wE = w1.alloc (.cells #[.int .i64 a.1, .int .i64 a.2.1, .slice q1 a.2.2.length c1, .int .i64 b.1, .int .i64 b.2.1, .slice q2 b.2.2.length c2] 78) := ⟨_, rfl⟩
  obtain ⟨z0, z1, z2, z3, z4, z5, zf⟩ := heap6_cell (W := wE) (B := w1.heap.size) (by rw [hE]; exact heap_alloc_new _ _)
  have hs := HS.out
  obtain ⟨K1, hK1⟩ : ∃ K1, K1 = w.heap.size + 1 + 1 + 1 := ⟨_, rfl⟩
  obtain ⟨K2, hK2⟩ : ∃ K2, K2 = w.heap.size + 1 + 1 + 1 + 1 := ⟨_, rfl⟩
  obtain ⟨u0, u1, u2, uf⟩ := heap3_cell (W := wE) (B := K1) (by rw [hE, hK1]; exact (Below.heap_alloc _ _ _ (by omega)).trans y3)
  obtain ⟨v0, v1, v2, vf⟩ := heap3_cell (W := wE) (B := K2) (by rw [hE, hK2]; exact (Below.heap_alloc _ _ _ (by omega)).trans y4)
  have KW : Hid (Be w.heap.size w wE) := by rw [hE]; exact HX.out.al _
  have HP1 : Hid (OwnR (w.heap.size + 6) wE q1 a.2.2 c1) := by rw [hE]; exact (HO1.out.weak (by simp)).to (bal _ _)
  have HP2 : Hid (OwnR (w.heap.size + 6) wE q2 b.2.2 c2) := by rw [hE]; exact (HO2.out.weak (by simp)).to (bal _ _)
  rw [← hE]
  rw [← hK2, ← hK1]
  have n1 : w1.heap.size ≠ K1 := by omega
  have n2 : w1.heap.size ≠ K2 := by omega
  have n3 : K1 ≠ K2 := by omega
  have HK : Hid (K1 < w.heap.size + 6 ∧ K2 < w.heap.size + 6 ∧ w.heap.size ≤ K1 ∧ w.heap.size ≤ K2) := ⟨by omega, by omega, by omega, by omega⟩
  clear hE y3 y4 HO1 HO2 HX HS hs hK1 hK2
  go_region
  all_goals
    go_wp2
    obtain ⟨k1, k2, k3, k4⟩ := HK.out
    refine bodyPost_ret (v := .tuple #[.agg #[.int .i64 a.1, .int .i64 a.2.1, .slice q1 a.2.2.length c1], .agg #[.int .i64 b.1, .int .i64 b.2.1, .slice q2 b.2.2.length c2], .int .i64 er]) (by simp [results, Try.results30, go_sem, u0, u1, u2, v0, v1, v2]) rfl ⟨q1, c1, q2, c2, rfl, ?_, ?_, HA.out, ?_⟩
    · exact ((((HP1.out.set3 (B := K1) k1 _ _ _).set3 (B := K2) k2 _ _ _)).to ((Below.refl _ _).drew)).weak (by omega)
    · exact ((((HP2.out.set3 (B := K1) k1 _ _ _).set3 (B := K2) k2 _ _ _)).to ((Below.refl _ _).drew)).weak (by omega)
    · exact (set3 (set3 KW.out.b k3 _ _ _) k4 _ _ _).drew
end Go.Proofs.Ytkbikngkhaeakaa
