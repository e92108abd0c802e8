/- The closures of Set, Push. -/
import Derived.Test.YtkbikngkhaeakaaCoG
namespace Go.Proofs.Ytkbikngkhaeakaa
open Go.RowKit

def setA (W R : Nat) (l : List Int) (row : Int) (v : List Int) : CA × Int := if hasB (R : Int) row then (if v.length = W then (((W : Int), (R : Int), ((chK W R l).set row.toNat v).flatten), 0) else (zC, 140)) else (zC, 2)
def pshA (W R : Nat) (l : List Int) (V : List RR) : CA × Int := if fitB (W : Int) V then (if roomB (R : Int) V.length then (((W : Int), ((R + V.length : Nat) : Int), l ++ (lS V).flatten), 0) else (zC, 6)) else (zC, 140)
theorem fitB1 (W : Nat) (q : Option Addr) (v : List Int) (d : Nat) : fitB (W : Int) [(q, v, d)] = decide (v.length = W) := by
  unfold fitB
  rw [decide_eq_decide]
  exact ⟨fun h => by have := h 0 (by simp); simp [rL] at this; exact_mod_cast this, fun h k hk => by
    obtain rfl : k = 0 := by simpa using hk
    simp [rL]; exact_mod_cast h⟩
theorem set_words {W R : Nat} {l v : List Int} (hl : l.length = W * R) {r : Nat} (hr : r < R) : ((chK W R l).set r v).flatten = wdK l (W : Int) 0 (r : Int) ++ v ++ wdK l (W : Int) ((r : Int) + 1) (R : Int) := by
  rw [flat_set (fun x hx => chK_mem hl hx) (by rw [chK_len]; exact hr), flat_chK hl]
  have h1 := wdK_nat l W 0 r
  simp only [Nat.zero_mul, List.drop_zero, Nat.sub_zero] at h1
  have h2 := wdK_nat l W (r + 1) R
  rw [show ((r + 1 : Nat) : Int) = (r : Int) + 1 from by push_cast; rfl] at h2
  rw [h2, List.take_of_length_le (l := l.drop ((r + 1) * W)) (by rw [List.length_drop, hl, Nat.mul_comm R W]; exact Nat.le_refl _)]
  rw [← h1]; rfl
theorem vrow1 {X : World} {B : Nat} {q : Option Addr} {v : List Int} {d : Nat} (h : X.cell? ⟨B, 0, none⟩ = some (.slice q v.length d)) (hI : IRow .u64 X.heap.size X q v) : VRow X.heap.size X (some ⟨B, 0, none⟩) [(q, v, d)] := fun _ => ⟨B, 0, rfl, World.block_lt_of_cell? _ _ h, fun k hk => by
  obtain rfl : k = 0 := by simpa using hk
  exact ⟨h, hI⟩⟩
theorem vrow2 {X : World} {B : Nat} {q : Option Addr} {v : List Int} {d : Nat} {q2 : Option Addr} {v2 : List Int} {d2 : Nat} (h : X.cell? ⟨B, 0, none⟩ = some (.slice q v.length d)) (h2 : X.cell? ⟨B, 1, none⟩ = some (.slice q2 v2.length d2)) (hI : IRow .u64 X.heap.size X q v) (hI2 : IRow .u64 X.heap.size X q2 v2) : VRow X.heap.size X (some ⟨B, 0, none⟩) [(q, v, d), (q2, v2, d2)] := fun _ => ⟨B, 0, rfl, World.block_lt_of_cell? _ _ h, fun k hk => by
  rcases (show k = 0 ∨ k = 1 by simp at hk; omega) with rfl | rfl
  · exact ⟨h, hI⟩
  · exact ⟨h2, hI2⟩⟩
set_option maxRecDepth 20000 in
set_option maxHeartbeats 4000000 in
theorem set47 (Bc Br Bv W R : Nat) (p : Option Addr) (l : List Int) (c : Nat) (row : Int) (q : Option Addr) (v : List Int) (d : Nat) (w : World) (hC : CV w W R p l c) (hB : B2 w Bc Br W R p l c row) (hv : w.cell? ⟨Bv, 0, none⟩ = some (.slice q v.length d)) (hI : IRow .u64 w.heap.size w q v) :
    Calls Try.prog 47 #[.pointer (some ⟨Bc, 0, none⟩), .pointer (some ⟨Br, 0, none⟩), .pointer (some ⟨Bv, 0, none⟩)] w fun e w' => AnsC (setA W R l row v) w e w' := by
  have hrm := hC.rm
  have hbv := World.block_lt_of_cell? _ _ hv
  have CH := fun (X : World) => hasRow42 (W : Int) (R : Int) p l.length c row X
  have KE : Hid (Be w.heap.size w (w.alloc oZ)) := (Be.refl (Nat.le_refl _)).al _
  obtain ⟨a0, a1, a2, a3⟩ := hB.k KE.out.b
  have KF : Hid (Be w.heap.size w ((w.alloc oZ).alloc (.cells #[.int .i64 (W : Int), .int .i64 (R : Int), .slice p l.length c] 24))) := KE.out.al _
  obtain ⟨b0, b1, b2, b3⟩ := hB.k KF.out.b
  have b4 := (KF.out.b.cell (p := ⟨Bv, 0, none⟩) hbv).trans hv
  cases hh : hasB (R : Int) row
  · have E1 : setA W R l row v = (zC, 2) := by unfold setA; rw [hh]; rfl
    rw [E1]
    rw [hh] at CH
    clear hC hB hh E1
    go_enter Try.func47, Try.ntmps47
    go_wp2_with (first | (go_at_call 42; refine Calls.mono (CH _) ?_; rintro e w1 ⟨rfl, hw⟩; rw [hw]; clear hw w1))
    exact bodyPost_ret (v := .tuple #[.agg #[.int .i64 0, .int .i64 0, .slice none 0 0], .int .i64 2]) (by simp [results, Try.results47, go_sem]) rfl ⟨none, 0, rfl, OwnR.nil _ _, KF.out.b⟩
  · obtain ⟨h0, h1⟩ := hasB_t hh
    rw [hh] at CH
    have KG : Hid (Be w.heap.size w (((w.alloc oZ).alloc (.cells #[.int .i64 (W : Int), .int .i64 (R : Int), .slice p l.length c] 24)).alloc (.cells #[.slice q v.length d] 38))) := KF.out.al _
    have CF : Calls Try.prog 48 #[.agg #[.int .i64 (W : Int), .int .i64 (R : Int), .slice p l.length c], .slice (some ⟨w.heap.size + 2, 0, none⟩) 1 1] (((w.alloc oZ).alloc (.cells #[.int .i64 (W : Int), .int .i64 (R : Int), .slice p l.length c] 24)).alloc (.cells #[.slice q v.length d] 38)) fun e w' => e = .returned (.bool (decide (v.length = W))) ∧ w' = (((w.alloc oZ).alloc (.cells #[.int .i64 (W : Int), .int .i64 (R : Int), .slice p l.length c] 24)).alloc (.cells #[.slice q v.length d] 38)).alloc (.cells #[.int .i64 (W : Int), .int .i64 (R : Int), .slice p l.length c] 24) := by
      have := fit48 (W : Int) (R : Int) p l.length c (some ⟨w.heap.size + 2, 0, none⟩) [(q, v, d)] 1 _ (vrow1 (B := w.heap.size + 2) (X := (((w.alloc oZ).alloc (.cells #[.int .i64 (W : Int), .int .i64 (R : Int), .slice p l.length c] 24)).alloc (.cells #[.slice q v.length d] 38))) (by simp [go_sem]) ((hI.below KG.out.b (Nat.le_refl _)).mono KG.out.s)) (by unfold maxLen; simp)
      rw [fitB1] at this
      exact this
    have KH : Hid (Be w.heap.size w ((((w.alloc oZ).alloc (.cells #[.int .i64 (W : Int), .int .i64 (R : Int), .slice p l.length c] 24)).alloc (.cells #[.slice q v.length d] 38)).alloc (.cells #[.int .i64 (W : Int), .int .i64 (R : Int), .slice p l.length c] 24))) := KG.out.al _
    by_cases hw : v.length = W
    · have E1 : setA W R l row v = (((W : Int), (R : Int), ((chK W R l).set row.toNat v).flatten), 0) := by unfold setA; rw [hh, if_pos rfl, if_pos hw]
      rw [E1]
      rw [decide_eq_true hw] at CF
      obtain ⟨r, hr⟩ : ∃ r : Nat, row = (r : Int) := ⟨row.toNat, by omega⟩
      subst hr
      have hrR : r < R := by omega
      rw [show ((r : Int)).toNat = r from rfl]
      have O1 : OkCut (W : Int) l.length 0 (r : Int) := hC.ok (f := 0) (e := r) (by omega) (by omega)
      have O2 : OkCut (W : Int) l.length ((r : Int) + 1) (R : Int) := by
        have := hC.ok (f := r + 1) (e := R) (by omega) (by omega)
        push_cast at this; exact this
      have hl1 := wdK_len O1
      have hl2 := wdK_len O2
      have hlen := hC.len
      rw [set_words hC.n hrR]
      obtain ⟨wE, hE⟩ : ∃ wE, wE = (((w.alloc oZ).alloc (.cells #[.int .i64 (W : Int), .int .i64 (R : Int), .slice p l.length c] 24)).alloc (.cells #[.slice q v.length d] 38)).alloc (.cells #[.int .i64 (W : Int), .int .i64 (R : Int), .slice p l.length c] 24) := ⟨_, rfl⟩
      have LE : Hid (Be w.heap.size w wE) := by rw [hE]; exact KH.out
      have sE : wE.heap.size = w.heap.size + 4 := by rw [hE]; simp
      have KS2 : w.heap.size + 1 ≤ wE.heap.size := by omega
      have KS : w.heap.size ≤ wE.heap.size := by omega
      have zE : wE.heap[w.heap.size]? = some oZ := by
        rw [hE]
        exact (Below.heap_alloc _ _ _ (by simp; omega)).trans ((Below.heap_alloc _ _ _ (by simp; omega)).trans ((Below.heap_alloc _ _ _ (by simp)).trans (heap_alloc_new _ _)))
      have KB : Hid (∀ X, Be w.heap.size wE X → X.cell? ⟨Bc, 0, none⟩ = some (.int .i64 (W : Int)) ∧ X.cell? ⟨Bc, 1, none⟩ = some (.int .i64 (R : Int)) ∧ X.cell? ⟨Bc, 2, none⟩ = some (.slice p l.length c) ∧ X.cell? ⟨Br, 0, none⟩ = some (.int .i64 (r : Int)) ∧ X.cell? ⟨Bv, 0, none⟩ = some (.slice q v.length d)) := fun X hb => by
        have hX : Below w.heap.size w X := LE.out.b.trans hb.b
        obtain ⟨x0, x1, x2, x3⟩ := hB.k hX
        exact ⟨x0, x1, x2, x3, (hX.cell (p := ⟨Bv, 0, none⟩) hbv).trans hv⟩
      have CC : Hid (∀ f e X, Be w.heap.size wE X → OkCut (W : Int) l.length f e → Calls Try.prog 43 #[.agg #[.int .i64 (W : Int), .int .i64 (R : Int), .slice p l.length c], .int .i64 f, .int .i64 e] X fun en w' => en = .returned (.slice (cpK p W f e) (cnK W f e) (cnK W f e)) ∧ w' = X.alloc (.cells #[.int .i64 (W : Int), .int .i64 (R : Int), .slice p l.length c] 24)) := fun f e X hb hok =>
        cutK _ _ p l c f e X (hC.to (LE.out.b.trans hb.b)).r hC.cm hok
      have CL : Hid (∀ X B, Be (w.heap.size + 1) wE X → (X.cell? ⟨B, 0, none⟩ = some (.slice q v.length d) ∧ X.cell? ⟨B, 1, none⟩ = some (.slice (cpK p (W : Int) ((r : Int) + 1) (R : Int)) (cnK (W : Int) ((r : Int) + 1) (R : Int)) (cnK (W : Int) ((r : Int) + 1) (R : Int)))) → Calls Try.prog 49 #[.int .i64 (W : Int), .int .i64 (R : Int), .slice (cpK p (W : Int) 0 (r : Int)) (cnK (W : Int) 0 (r : Int)) (cnK (W : Int) 0 (r : Int)), .slice (some ⟨B, 0, none⟩) 2 2] X fun e w' => GivesC (W : Int) (R : Int) (wdK l (W : Int) 0 (r : Int) ++ v ++ wdK l (W : Int) ((r : Int) + 1) (R : Int)) X e w') := fun X B hb hcs => by
        have hX : Be w.heap.size w X := LE.out.tr hb (Nat.le_succ _)
        have hIX := (hC.to hX.b).r.i
        have hIV := (hI.below hX.b (Nat.le_refl _)).mono hX.s
        have h1 := laid49 (W : Int) (R : Int) (cpK p (W : Int) 0 (r : Int)) (wdK l (W : Int) 0 (r : Int)) (cnK (W : Int) 0 (r : Int)) (some ⟨B, 0, none⟩) [(q, v, d), (cpK p (W : Int) ((r : Int) + 1) (R : Int), wdK l (W : Int) ((r : Int) + 1) (R : Int), cnK (W : Int) ((r : Int) + 1) (R : Int))] 2 X (hIX.cutK _ _ _) (vrow2 hcs.1 (by rw [hl2]; exact hcs.2) hIV (hIX.cutK _ _ _)) (by simp) (by
          simp only [catF, catN, rL, List.length_append, List.length_cons, List.length_nil, List.getD_cons_zero, List.getD_cons_succ]
          have := hC.w4
          unfold wdK; simp; omega)
        rw [hl1] at h1
        simpa [catF, catN, rL] using h1
      obtain ⟨m, hm⟩ : ∃ m, m = wdK l (W : Int) 0 (r : Int) ++ v ++ wdK l (W : Int) ((r : Int) + 1) (R : Int) := ⟨_, rfl⟩
      rw [← hm] at CL
      rw [← hm]
      obtain ⟨n0, hn0⟩ : ∃ n0, n0 = l.length := ⟨_, rfl⟩
      obtain ⟨nv, hnv⟩ : ∃ nv, nv = v.length := ⟨_, rfl⟩
      rw [← hn0] at O1 O2 CC KB hE CH CF a2 b0 b1 b2 b3 b4
      rw [← hnv] at KB CL hE CF b4
      have hw1 : IntKind.i64.wrap ((r : Int) + 1) = (r : Int) + 1 := by rw [IntKind.wrap_i64]; omega
      have HW := LE
      clear hC hI hv hB E1 hl1 hl2 hm hn0 hnv hlen hw hh KE KF KG KH
      go_enter Try.func47, Try.ntmps47
      go_wp2_with (first | (go_at_call 42; refine Calls.mono (CH _) ?_; rintro e w1 ⟨rfl, hw⟩; rw [hw]; clear hw w1) | (go_at_call 48; refine Calls.mono CF ?_; rintro e w1 ⟨rfl, hw⟩; rw [hw]; clear hw w1))
      rw [← hE]
      clear hE CF CH
      go_region_held3 (fun w' => w'.cell? ⟨Bc, 0, none⟩ = some (.int .i64 (W : Int)) ∧ w'.cell? ⟨Bc, 1, none⟩ = some (.int .i64 (R : Int)) ∧ w'.cell? ⟨Bc, 2, none⟩ = some (.slice p n0 c) ∧ w'.cell? ⟨Br, 0, none⟩ = some (.int .i64 (r : Int)) ∧ w'.cell? ⟨Bv, 0, none⟩ = some (.slice q nv d)) (first | exact KB.out _ HX.out | exact KB.out _ (HX.out.st3 (Nat.le_refl _) _ _ _) | (refine KB.out _ ?_; repeat (first | exact Be.refl KS | refine Be.al ?_ _ | refine Be.dr ?_)))
        (first | (go_at_call 43; refine Calls.mono (CC.out _ _ _ ?_ ?_) ?_; (repeat (first | exact Be.refl KS | refine Be.al ?_ _ | refine Be.dr ?_)); (first | with_reducible exact O1 | with_reducible exact O2); rintro e w1 ⟨rfl, hw⟩; rw [hw]; clear hw w1) | (go_at_call 49; refine Calls.mono (CL.out _ _ ?_ ?_) ?_; (repeat (first | exact Be.refl KS2 | refine Be.al ?_ _ | refine Be.dr ?_)); (exact ⟨by simp [go_sem, sE], by simp [go_sem, sE]⟩); rintro e w1 ⟨q', c', rfl, ho, hb⟩; have HX2 : Hid (Be (w.heap.size + 1) wE w1) := Be.to (by (repeat (first | exact Be.refl KS2 | refine Be.al ?_ _ | refine Be.dr ?_))) hb; have HX : Hid (Be w.heap.size wE w1) := HX2.out.le (Nat.le_succ _); obtain ⟨y0, y1, y2, yf⟩ := heap3_cell (HX2.out.blk (Nat.lt_succ_self _) zE); have HO : Hid (OwnR (w.heap.size + 1) w1 q' m c') := ho.weak (Be.s (w := wE) (by (repeat (first | exact Be.refl KS2 | refine Be.al ?_ _ | refine Be.dr ?_)))); clear ho hb))
      all_goals
        go_wp2
        refine bodyPost_ret (v := .tuple #[.agg #[.int .i64 (W : Int), .int .i64 (R : Int), .slice q' m.length c'], .int .i64 0]) (by simp [results, Try.results47, go_sem, y0, y1, y2]) rfl ⟨q', c', rfl, ?_, ?_⟩
        · exact (HO.out.set3 (B := w.heap.size) (by omega) _ _ _).weak (by omega)
        · exact set3 (HW.out.b.trans HX.out.b) (Nat.le_refl _) _ _ _
    · have E1 : setA W R l row v = (zC, 140) := by unfold setA; rw [hh, if_pos rfl, if_neg hw]
      rw [E1]
      rw [decide_eq_false hw] at CF
      clear hC hB hh E1
      go_enter Try.func47, Try.ntmps47
      go_wp2_with (first | (go_at_call 42; refine Calls.mono (CH _) ?_; rintro e w1 ⟨rfl, hw⟩; rw [hw]; clear hw w1) | (go_at_call 48; refine Calls.mono CF ?_; rintro e w1 ⟨rfl, hw⟩; rw [hw]; clear hw w1))
      exact bodyPost_ret (v := .tuple #[.agg #[.int .i64 0, .int .i64 0, .slice none 0 0], .int .i64 140]) (by simp [results, Try.results47, go_sem]) rfl ⟨none, 0, rfl, OwnR.nil _ _, KH.out.b⟩
set_option maxRecDepth 20000 in
set_option maxHeartbeats 2000000 in
theorem push50 (Bc Bl W R : Nat) (p : Option Addr) (l : List Int) (c : Nat) (q : Option Addr) (V : List RR) (d : Nat) (w : World) (hC : CV w W R p l c) (hBc : w.heap[Bc]? = some (.cells #[.int .i64 (W : Int), .int .i64 (R : Int), .slice p l.length c] 24 (0, 0))) (hv : w.cell? ⟨Bl, 0, none⟩ = some (.slice q V.length d)) (hV : VRow w.heap.size w q V) (hn : V.length ≤ 1000) :
    Calls Try.prog 50 #[.pointer (some ⟨Bc, 0, none⟩), .pointer (some ⟨Bl, 0, none⟩)] w fun e w' => AnsC (pshA W R l V) w e w' := by
  have hrm := hC.rm
  have hbv := World.block_lt_of_cell? _ _ hv
  have hbc := (Array.getElem?_eq_some_iff.1 hBc).1
  have KE : Hid (Be w.heap.size w (w.alloc oZ)) := (Be.refl (Nat.le_refl _)).al _
  have KF : Hid (Be w.heap.size w ((w.alloc oZ).alloc (.cells #[.int .i64 (W : Int), .int .i64 (R : Int), .slice p l.length c] 24))) := KE.out.al _
  have KG : Hid (Be w.heap.size w (((w.alloc oZ).alloc (.cells #[.int .i64 (W : Int), .int .i64 (R : Int), .slice p l.length c] 24)).alloc (.cells #[.int .i64 (W : Int), .int .i64 (R : Int), .slice p l.length c] 24))) := KF.out.al _
  have KK : ∀ X, Be w.heap.size w X → X.cell? ⟨Bc, 0, none⟩ = some (.int .i64 (W : Int)) ∧ X.cell? ⟨Bc, 1, none⟩ = some (.int .i64 (R : Int)) ∧ X.cell? ⟨Bc, 2, none⟩ = some (.slice p l.length c) ∧ X.cell? ⟨Bl, 0, none⟩ = some (.slice q V.length d) := fun X hb => by
    obtain ⟨x0, x1, x2⟩ := hb.box hbc hBc
    exact ⟨x0, x1, x2, (hb.b.cell (p := ⟨Bl, 0, none⟩) hbv).trans hv⟩
  obtain ⟨a0, a1, a2, a3⟩ := KK _ KE.out
  obtain ⟨b0, b1, b2, b3⟩ := KK _ KF.out
  obtain ⟨d0, d1, d2, d3⟩ := KK _ KG.out
  have CF := fit48 (W : Int) (R : Int) p l.length c q V d (w.alloc oZ) (hV.to (bal _ _)) (by unfold maxLen; omega)
  have CR := hasRoom51 (W : Int) (R : Int) p l.length c V.length ((w.alloc oZ).alloc (.cells #[.int .i64 (W : Int), .int .i64 (R : Int), .slice p l.length c] 24)) (by omega) (by omega)
  cases hf : fitB (W : Int) V
  · have E1 : pshA W R l V = (zC, 140) := by unfold pshA; rw [hf]; rfl
    rw [E1]
    rw [hf] at CF
    clear hC hBc hV hv hf E1
    go_enter Try.func50, Try.ntmps50
    go_wp2_with (first | (go_at_call 48; refine Calls.mono CF ?_; rintro e w1 ⟨rfl, hw⟩; rw [hw]; clear hw w1))
    exact bodyPost_ret (v := .tuple #[.agg #[.int .i64 0, .int .i64 0, .slice none 0 0], .int .i64 140]) (by simp [results, Try.results50, go_sem]) rfl ⟨none, 0, rfl, OwnR.nil _ _, KF.out.b⟩
  · rw [hf] at CF
    cases hr : roomB (R : Int) V.length
    · have E1 : pshA W R l V = (zC, 6) := by unfold pshA; rw [hf, hr]; rfl
      rw [E1]
      rw [hr] at CR
      clear hC hBc hV hv hf hr E1
      go_enter Try.func50, Try.ntmps50
      go_wp2_with (first | (go_at_call 48; refine Calls.mono CF ?_; rintro e w1 ⟨rfl, hw⟩; rw [hw]; clear hw w1) | (go_at_call 51; refine Calls.mono CR ?_; rintro e w1 ⟨rfl, hw⟩; rw [hw]; clear hw w1))
      exact bodyPost_ret (v := .tuple #[.agg #[.int .i64 0, .int .i64 0, .slice none 0 0], .int .i64 6]) (by simp [results, Try.results50, go_sem]) rfl ⟨none, 0, rfl, OwnR.nil _ _, KG.out.b⟩
    · have E1 : pshA W R l V = (((W : Int), ((R + V.length : Nat) : Int), l ++ (lS V).flatten), 0) := by unfold pshA; rw [hf, hr]; rfl
      rw [E1]
      rw [hr] at CR
      have hfit : ∀ x ∈ lS V, x.length = W := fun x hx => by
        obtain ⟨k, hk, rfl⟩ := List.getElem_of_mem hx
        rw [lS_len] at hk
        have h1 : decide (∀ k, k < V.length → ((rL V k).length : Int) = (W : Int)) = true := hf
        have := (of_decide_eq_true h1) k hk
        rw [lS_at hk]; exact_mod_cast this
      have hlen := hC.len
      have hw4 := hC.w4
      have CP := pushed52 W R p l c q V d _ (hC.to KG.out.b) ((hV.below KG.out.b (Nat.le_refl _)).mono KG.out.s) hn (by
        unfold catF
        rw [catN_all, List.length_append, flat_len hfit, lS_len]
        have := Nat.mul_le_mul hw4 hn
        omega)
      have e1 : catF l V V.length = l ++ (lS V).flatten := by unfold catF; rw [catN_all]
      rw [e1] at CP
      obtain ⟨m, hm⟩ : ∃ m, m = l ++ (lS V).flatten := ⟨_, rfl⟩
      obtain ⟨N, hN⟩ : ∃ N, N = R + V.length := ⟨_, rfl⟩
      rw [← hm, ← hN] at CP
      rw [← hm, ← hN]
      have zE : ((((w.alloc oZ).alloc (.cells #[.int .i64 (W : Int), .int .i64 (R : Int), .slice p l.length c] 24)).alloc (.cells #[.int .i64 (W : Int), .int .i64 (R : Int), .slice p l.length c] 24))).heap[w.heap.size]? = some oZ :=
        (Below.heap_alloc _ _ _ (by simp; omega)).trans ((Below.heap_alloc _ _ _ (by simp)).trans (heap_alloc_new _ _))
      clear hC hBc hV hv hf hr E1 hfit hlen hw4 e1 hm hN
      go_enter Try.func50, Try.ntmps50
      go_wp2_with (first | (go_at_call 48; refine Calls.mono CF ?_; rintro e w1 ⟨rfl, hw⟩; rw [hw]; clear hw w1) | (go_at_call 51; refine Calls.mono CR ?_; rintro e w1 ⟨rfl, hw⟩; rw [hw]; clear hw w1) | (go_at_call 52; refine Calls.mono CP ?_; rintro e w1 ⟨q', c', rfl, ho, hb⟩; obtain ⟨y0, y1, y2, yf⟩ := heap3_cell ((hb.block w.heap.size (by simp; omega)).trans zE); have HO := hidOg ho; have HX : Hid (Be w.heap.size w w1) := KG.out.to hb; clear ho hb))
      refine bodyPost_ret (v := .tuple #[.agg #[.int .i64 (W : Int), .int .i64 (N : Int), .slice q' m.length c'], .int .i64 0]) (by simp [results, Try.results50, go_sem, y0, y1, y2]) rfl ⟨q', c', rfl, ?_, set3 HX.out.b (Nat.le_refl _) _ _ _⟩
      exact (HO.out.set3 (B := w.heap.size) (by simp; omega) _ _ _).weak (by simp; omega)
end Go.Proofs.Ytkbikngkhaeakaa
