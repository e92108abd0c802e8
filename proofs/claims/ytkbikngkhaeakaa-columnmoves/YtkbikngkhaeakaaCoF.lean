/- swappedOut. -/
import Derived.Test.YtkbikngkhaeakaaCoE
namespace Go.Proofs.Ytkbikngkhaeakaa
open Go.RowKit

set_option maxRecDepth 20000 in
set_option maxHeartbeats 2000000 in
theorem swapped46 (W R r : Nat) (p : Option Addr) (l : List Int) (c : Nat) (w : World) (hC : CV w W R p l c) (hr : r < R) :
    Calls Try.prog 46 #[.agg #[.int .i64 (W : Int), .int .i64 (R : Int), .slice p l.length c], .int .i64 (r : Int)] w fun e w' => GivesC (W : Int) ((R - 1 : Nat) : Int) (swO (chK W R l) r).flatten w e w' := by
  obtain ⟨L, hL⟩ : ∃ L, L = R - 1 := ⟨_, rfl⟩
  rw [← hL]
  have hL1 : (R : Int) - 1 = (L : Int) := by omega
  have hlen := hC.len
  have hrm := hC.rm
  obtain ⟨wE, hE⟩ : ∃ wE, wE = (w.alloc (.cells #[.int .i64 (W : Int), .int .i64 (R : Int), .slice p l.length c] 24)).alloc oZ := ⟨_, rfl⟩
  have bE : Below w.heap.size w wE := by rw [hE]; exact ((bal _ _)).trans ((bal _ _).mono (by simp))
  have sE : wE.heap.size = w.heap.size + 2 := by rw [hE]; simp
  have zE : wE.heap[w.heap.size + 1]? = some oZ := by
    rw [hE]
    have := heap_alloc_new (w.alloc (.cells #[.int .i64 (W : Int), .int .i64 (R : Int), .slice p l.length c] 24)) oZ
    rw [World.size_alloc] at this; exact this
  have xE : wE.heap[w.heap.size]? = some (.cells #[.int .i64 (W : Int), .int .i64 (R : Int), .slice p l.length c] 24 (0, 0)) := by
    rw [hE]; exact (Below.heap_alloc _ _ _ (by simp)).trans (heap_alloc_new w _)
  have KB : Hid (∀ X, Be (w.heap.size + 1) wE X → X.cell? ⟨w.heap.size, 0, none⟩ = some (.int .i64 (W : Int)) ∧ X.cell? ⟨w.heap.size, 1, none⟩ = some (.int .i64 (R : Int)) ∧ X.cell? ⟨w.heap.size, 2, none⟩ = some (.slice p l.length c)) := fun X hb => hb.box (by omega) xE
  have CC : Hid (∀ f e X, Be (w.heap.size + 1) wE X → OkCut (W : Int) l.length f e → Calls Try.prog 43 #[.agg #[.int .i64 (W : Int), .int .i64 (R : Int), .slice p l.length c], .int .i64 f, .int .i64 e] X fun en w' => en = .returned (.slice (cpK p W f e) (cnK W f e) (cnK W f e)) ∧ w' = X.alloc (.cells #[.int .i64 (W : Int), .int .i64 (R : Int), .slice p l.length c] 24)) := fun f e X hb hok =>
    cutK _ _ p l c f e X ((hC.to (bE.trans (hb.b.mono (by omega)))).r) hC.cm hok
  have KS : w.heap.size + 1 ≤ wE.heap.size := by omega
  have KS2 : w.heap.size + 2 ≤ wE.heap.size := by omega
  by_cases he : r = L
  · have hO := hC.ok (f := 0) (e := L) (by omega) (by omega)
    have O1 : OkCut (W : Int) l.length 0 (L : Int) := hO
    have CL : Hid (∀ X, Be (w.heap.size + 1) wE X → Calls Try.prog 49 #[.int .i64 (W : Int), .int .i64 (L : Int), .slice (cpK p (W : Int) 0 (L : Int)) (cnK (W : Int) 0 (L : Int)) (cnK (W : Int) 0 (L : Int)), .slice none 0 0] X fun e w' => GivesC (W : Int) (L : Int) (wdK l (W : Int) 0 (L : Int)) X e w') := fun X hb => by
      have h1 := laid49 (W : Int) (L : Int) (cpK p (W : Int) 0 (L : Int)) (wdK l (W : Int) 0 (L : Int)) (cnK (W : Int) 0 (L : Int)) none [] 0 X ((hC.to (bE.trans (hb.b.mono (by omega)))).r.i.cutK _ _ _) VRow.nil (by simp) (by
        simp only [catF, catN, List.append_nil, List.length_nil]
        unfold wdK; simp; omega)
      rw [wdK_len O1] at h1
      simpa only [catF, catN, List.append_nil, List.length_nil] using h1
    have E : (swO (chK W R l) r).flatten = wdK l (W : Int) 0 (L : Int) := by
      rw [he, hL, sw_last hC.n (by omega), ← hL]
      have := wdK_nat l W 0 L
      simp only [Nat.zero_mul, List.drop_zero, Nat.sub_zero] at this
      exact this.symm
    rw [E]
    have hlw := wdK_len O1
    obtain ⟨m, hm⟩ : ∃ m, m = wdK l (W : Int) 0 (L : Int) := ⟨_, rfl⟩
    rw [← hm] at CL
    rw [← hm]
    obtain ⟨n0, hn0⟩ : ∃ n0, n0 = l.length := ⟨_, rfl⟩
    rw [← hn0] at O1 CC KB hE
    rw [← hn0]
    subst he
    clear hC hO E hlw hm hn0 hlen hL
    go_enter Try.func46, Try.ntmps46
    go_wp2
    rw [← hE]
    clear hE
    go_region_held3 (fun w' => w'.cell? ⟨w.heap.size, 0, none⟩ = some (.int .i64 (W : Int)) ∧ w'.cell? ⟨w.heap.size, 1, none⟩ = some (.int .i64 (R : Int)) ∧ w'.cell? ⟨w.heap.size, 2, none⟩ = some (.slice p n0 c)) (first | exact KB.out _ HX.out | exact KB.out _ (HX.out.st3 (Nat.le_refl _) _ _ _) | (refine KB.out _ ?_; repeat (first | exact Be.refl KS | refine Be.al ?_ _ | refine Be.dr ?_)))
      (first | (go_at_call 43; refine Calls.mono (CC.out _ _ _ ?_ ?_) ?_; (repeat (first | exact Be.refl KS | refine Be.al ?_ _ | refine Be.dr ?_)); (with_reducible exact O1); rintro e w1 ⟨rfl, hw⟩; rw [hw]; clear hw w1) | (go_at_call 49; refine Calls.mono (CL.out _ ?_) ?_; (repeat (first | exact Be.refl KS | refine Be.al ?_ _ | refine Be.dr ?_)); rintro e w1 ⟨q', c', rfl, ho, hb⟩; have HX2 : Hid (Be (w.heap.size + 2) wE w1) := Be.to (by repeat (first | exact Be.refl KS2 | refine Be.al ?_ _ | refine Be.dr ?_)) hb; have HX : Hid (Be (w.heap.size + 1) wE w1) := HX2.out.le (Nat.le_succ _); obtain ⟨y0, y1, y2, yf⟩ := heap3_cell (HX2.out.blk (Nat.lt_succ_self _) zE); have HO : Hid (OwnR (w.heap.size + 2) w1 q' m c') := ho.weak (Be.s (w := wE) (by repeat (first | exact Be.refl KS2 | refine Be.al ?_ _ | refine Be.dr ?_))); clear ho hb))
    all_goals
      go_wp2
      refine bodyPost_ret (v := .agg #[.int .i64 (W : Int), .int .i64 (r : Int), .slice q' m.length c']) (by simp [results, Try.results46, go_sem, y0, y1, y2]) rfl ⟨q', c', rfl, ?_, ?_⟩
      · exact (HO.out.set3 (B := w.heap.size + 1) (by omega) _ _ _).weak (by omega)
      · exact set3 (bE.trans (HX2.out.b.mono (by omega))) (by omega) _ _ _
  · have O1 : OkCut (W : Int) l.length 0 (r : Int) := hC.ok (f := 0) (e := r) (by omega) (by omega)
    have O2 : OkCut (W : Int) l.length (L : Int) (R : Int) := hC.ok (by omega) (by omega)
    have O3 : OkCut (W : Int) l.length ((r : Int) + 1) (L : Int) := by
      have := hC.ok (f := r + 1) (e := L) (by omega) (by omega)
      push_cast at this; exact this
    have hl1 := wdK_len O1
    have hl2 := wdK_len O2
    have hl3 := wdK_len O3
    have E : (swO (chK W R l) r).flatten = wdK l (W : Int) 0 (r : Int) ++ wdK l (W : Int) (L : Int) (R : Int) ++ wdK l (W : Int) ((r : Int) + 1) (L : Int) := by
      rw [sw_mid hC.n (by omega), ← hL, wdK_nat, show ((r : Int) + 1) = ((r + 1 : Nat) : Int) from by push_cast; rfl, wdK_nat]
      have := wdK_nat l W 0 r
      simp only [Nat.zero_mul, List.drop_zero, Nat.sub_zero] at this
      rw [← this]; rfl
    have CL : Hid (∀ X B, Be (w.heap.size + 2) wE X → (X.cell? ⟨B, 0, none⟩ = some (.slice (cpK p (W : Int) (L : Int) (R : Int)) (cnK (W : Int) (L : Int) (R : Int)) (cnK (W : Int) (L : Int) (R : Int))) ∧ X.cell? ⟨B, 1, none⟩ = some (.slice (cpK p (W : Int) ((r : Int) + 1) (L : Int)) (cnK (W : Int) ((r : Int) + 1) (L : Int)) (cnK (W : Int) ((r : Int) + 1) (L : Int)))) → Calls Try.prog 49 #[.int .i64 (W : Int), .int .i64 (L : Int), .slice (cpK p (W : Int) 0 (r : Int)) (cnK (W : Int) 0 (r : Int)) (cnK (W : Int) 0 (r : Int)), .slice (some ⟨B, 0, none⟩) 2 2] X fun e w' => GivesC (W : Int) (L : Int) (wdK l (W : Int) 0 (r : Int) ++ wdK l (W : Int) (L : Int) (R : Int) ++ wdK l (W : Int) ((r : Int) + 1) (L : Int)) X e w') := fun X B hb hcs => by
      have hI := (hC.to (bE.trans (hb.b.mono (by omega)))).r.i
      have h1 := laid49 (W : Int) (L : Int) (cpK p (W : Int) 0 (r : Int)) (wdK l (W : Int) 0 (r : Int)) (cnK (W : Int) 0 (r : Int)) (some ⟨B, 0, none⟩) [(cpK p (W : Int) (L : Int) (R : Int), wdK l (W : Int) (L : Int) (R : Int), cnK (W : Int) (L : Int) (R : Int)), (cpK p (W : Int) ((r : Int) + 1) (L : Int), wdK l (W : Int) ((r : Int) + 1) (L : Int), cnK (W : Int) ((r : Int) + 1) (L : Int))] 2 X (hI.cutK _ _ _) (fun _ => ⟨B, 0, rfl, World.block_lt_of_cell? _ _ hcs.1, fun k hk => by
        rcases (show k = 0 ∨ k = 1 by simp at hk; omega) with rfl | rfl
        · refine ⟨?_, hI.cutK _ _ _⟩
          show X.cell? ⟨B, 0, none⟩ = some (.slice _ (wdK l (W : Int) (L : Int) (R : Int)).length _)
          rw [hl2]; exact hcs.1
        · refine ⟨?_, hI.cutK _ _ _⟩
          show X.cell? ⟨B, 0 + 1, none⟩ = some (.slice _ (wdK l (W : Int) ((r : Int) + 1) (L : Int)).length _)
          rw [hl3]; exact hcs.2⟩) (by simp) (by
        simp only [catF, catN, rL, List.length_append, List.length_cons, List.length_nil, List.getD_cons_zero, List.getD_cons_succ]
        unfold wdK; simp; omega)
      rw [hl1] at h1
      simpa [catF, catN, rL] using h1
    rw [E]
    obtain ⟨m, hm⟩ : ∃ m, m = wdK l (W : Int) 0 (r : Int) ++ wdK l (W : Int) (L : Int) (R : Int) ++ wdK l (W : Int) ((r : Int) + 1) (L : Int) := ⟨_, rfl⟩
    rw [← hm] at CL
    rw [← hm]
    obtain ⟨n0, hn0⟩ : ∃ n0, n0 = l.length := ⟨_, rfl⟩
    rw [← hn0] at O1 O2 O3 CC KB hE
    rw [← hn0]
    have hne : ((r : Int) == (L : Int)) = false := by simp; omega
    have hrl : r + 1 ≤ L := by omega
    have hw1 : IntKind.i64.wrap ((r : Int) + 1) = (r : Int) + 1 := by rw [IntKind.wrap_i64]; omega
    clear hC E hl1 hl2 hl3 hm hn0 hlen hL he
    go_enter Try.func46, Try.ntmps46
    go_wp2
    rw [← hE]
    clear hE
    go_region_held3 (fun w' => w'.cell? ⟨w.heap.size, 0, none⟩ = some (.int .i64 (W : Int)) ∧ w'.cell? ⟨w.heap.size, 1, none⟩ = some (.int .i64 (R : Int)) ∧ w'.cell? ⟨w.heap.size, 2, none⟩ = some (.slice p n0 c)) (first | exact KB.out _ HX.out | exact KB.out _ (HX.out.st3 (Nat.le_refl _) _ _ _) | (refine KB.out _ ?_; repeat (first | exact Be.refl KS | refine Be.al ?_ _ | refine Be.dr ?_)))
      (first | (go_at_call 43; refine Calls.mono (CC.out _ _ _ ?_ ?_) ?_; (repeat (first | exact Be.refl KS | refine Be.al ?_ _ | refine Be.dr ?_)); (first | with_reducible exact O1 | with_reducible exact O2 | with_reducible exact O3); rintro e w1 ⟨rfl, hw⟩; rw [hw]; clear hw w1) | (go_at_call 49; refine Calls.mono (CL.out _ _ ?_ ?_) ?_; (repeat (first | exact Be.refl KS2 | refine Be.al ?_ _ | refine Be.dr ?_)); (exact ⟨by simp [go_sem, sE], by simp [go_sem, sE]⟩); rintro e w1 ⟨q', c', rfl, ho, hb⟩; have HX2 : Hid (Be (w.heap.size + 2) wE w1) := Be.to (by repeat (first | exact Be.refl KS2 | refine Be.al ?_ _ | refine Be.dr ?_)) hb; have HX : Hid (Be (w.heap.size + 1) wE w1) := HX2.out.le (Nat.le_succ _); obtain ⟨y0, y1, y2, yf⟩ := heap3_cell (HX2.out.blk (Nat.lt_succ_self _) zE); have HO : Hid (OwnR (w.heap.size + 2) w1 q' m c') := ho.weak (Be.s (w := wE) (by repeat (first | exact Be.refl KS2 | refine Be.al ?_ _ | refine Be.dr ?_))); clear ho hb))
    all_goals
      go_wp2
      refine bodyPost_ret (v := .agg #[.int .i64 (W : Int), .int .i64 (L : Int), .slice q' m.length c']) (by simp [results, Try.results46, go_sem, y0, y1, y2]) rfl ⟨q', c', rfl, ?_, ?_⟩
      · exact (HO.out.set3 (B := w.heap.size + 1) (by omega) _ _ _).weak (by omega)
      · exact set3 (bE.trans (HX2.out.b.mono (by omega))) (by omega) _ _ _
end Go.Proofs.Ytkbikngkhaeakaa
