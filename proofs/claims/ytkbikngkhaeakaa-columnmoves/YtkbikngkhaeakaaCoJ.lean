/- guarded. -/
import Derived.Test.YtkbikngkhaeakaaCoI
namespace Go.Proofs.Ytkbikngkhaeakaa
open Go.RowKit

theorem B2.to {w X : World} {Bc Br : Nat} {W R : Nat} {p : Option Addr} {l : List Int} {c : Nat} {row : Int} (h : B2 w Bc Br W R p l c row) (hb : Below w.heap.size w X) : B2 X Bc Br W R p l c row :=
  ⟨(hb.block Bc (Array.getElem?_eq_some_iff.1 h.c).1).trans h.c, (h.k hb).2.2.2⟩
set_option maxRecDepth 20000 in
set_option maxHeartbeats 1000000 in
theorem guard40 (B : Nat) (col : Col) (p1 p2 : Addr) (v : List Int) (er : Int) (w : World) (hB : w.heap[B]? = some (.cells #[.int .i64 col.1, .int .i64 col.2.1, .slice col.2.2.1 col.2.2.2.1.length col.2.2.2.2] 24 (0, 0))) (hl : col.2.2.2.1.length ≤ maxLen)
    (HC : mC col = true → ∀ X, Be w.heap.size w X → Calls Try.prog 41 #[.pointer (some p1), .pointer (some p2)] X fun e w' => AnsV v er X e w') :
    Calls Try.prog 40 #[.func (.func 41) #[] #[.pointer (some p1), .pointer (some p2)], .slice (some ⟨B, 0, none⟩) 1 1] w fun e w' => AnsV (if mC col then v else []) (if mC col then er else 180) w e w' := by
  have CM := mayBe1 B col w hB hl
  cases hm : mC col
  · rw [hm] at CM
    clear HC hm hB
    go_enter Try.func40, Try.ntmps40
    go_wp2_with (first | (go_at_call 34; refine Calls.mono CM ?_; rintro e w1 ⟨rfl, hb⟩))
    go_ret2
    exact ⟨none, 0, rfl, OwnR.nil _ _, hb⟩
  · rw [hm] at CM
    have HCC := hidOg (HC hm)
    clear HC hm hB
    go_enter Try.func40, Try.ntmps40
    go_wp2_with (first | (go_at_call 34; refine Calls.mono CM ?_; rintro e w1 ⟨rfl, hb⟩; have HB : Hid (Be w.heap.size w w1) := ⟨hb, hb.size⟩; clear hb) | (go_at_call 41; refine Calls.mono (HCC.out _ HB.out) ?_; rintro e w2 ⟨q', c', rfl, ho, hb⟩))
    go_ret2
    exact ⟨q', c', rfl, ho.weak HB.out.s, (HB.out.to hb).b⟩
set_option maxRecDepth 20000 in
set_option maxHeartbeats 1000000 in
theorem guard45 (B : Nat) (col : Col) (p1 p2 : Addr) (a : CA × Int) (w : World) (hB : w.heap[B]? = some (.cells #[.int .i64 col.1, .int .i64 col.2.1, .slice col.2.2.1 col.2.2.2.1.length col.2.2.2.2] 24 (0, 0))) (hl : col.2.2.2.1.length ≤ maxLen)
    (HC : mC col = true → ∀ X, Be w.heap.size w X → Calls Try.prog 45 #[.pointer (some p1), .pointer (some p2)] X fun e w' => AnsC a X e w') :
    Calls Try.prog 44 #[.func (.func 45) #[] #[.pointer (some p1), .pointer (some p2)], .slice (some ⟨B, 0, none⟩) 1 1] w fun e w' => AnsC (if mC col then a else (zC, 180)) w e w' := by
  have KE : Hid (Be w.heap.size w (w.alloc oZ)) := (Be.refl (Nat.le_refl _)).al _
  have CM := mayBe1 B col (w.alloc oZ) (KE.out.blk (Array.getElem?_eq_some_iff.1 hB).1 hB) hl
  have zE : (w.alloc oZ).heap[w.heap.size]? = some oZ := heap_alloc_new _ _
  cases hm : mC col
  · rw [hm] at CM
    clear HC hm hB
    go_enter Try.func44, Try.ntmps44
    go_wp2_with (first | (go_at_call 34; refine Calls.mono CM ?_; rintro e w1 ⟨rfl, hb⟩; obtain ⟨y0, y1, y2, yf⟩ := heap3_cell ((hb.block w.heap.size (by simp)).trans zE); obtain ⟨z0, z1, z2, zf⟩ := heap3_cell (((bal w1 oZ).block w.heap.size (Nat.lt_of_lt_of_le (by simp) hb.size)).trans ((hb.block w.heap.size (by simp)).trans zE)); have HX : Hid (Be w.heap.size w w1) := KE.out.to hb; clear hb))
    exact bodyPost_ret (v := .tuple #[.agg #[.int .i64 0, .int .i64 0, .slice none 0 0], .int .i64 180]) (by simp [results, Try.results44, go_sem, z0, z1, z2]) rfl ⟨none, 0, rfl, OwnR.nil _ _, set3 (HX.out.al _).b (Nat.le_refl _) _ _ _⟩
  · rw [hm] at CM
    have HCC := hidOg (HC hm)
    clear HC hm hB
    go_enter Try.func44, Try.ntmps44
    go_wp2_with (first | (go_at_call 34; refine Calls.mono CM ?_; rintro e w1 ⟨rfl, hb⟩; have HB1 := hidOg hb; have HX : Hid (Be w.heap.size w w1) := KE.out.to hb; clear hb) | (go_at_call 45; refine Calls.mono (HCC.out _ HX.out) ?_; rintro e w2 ⟨q', c', rfl, ho, hb⟩; obtain ⟨y0, y1, y2, yf⟩ := heap3_cell ((hb.block w.heap.size (Nat.lt_of_lt_of_le (by simp) HB1.out.size)).trans ((HB1.out.block w.heap.size (by simp)).trans zE)); have HO := hidOg ho; have HX2 : Hid (Be w.heap.size w w2) := HX.out.to hb; clear ho hb))
    refine bodyPost_ret (v := .tuple #[.agg #[.int .i64 a.1.1, .int .i64 a.1.2.1, .slice q' a.1.2.2.length c'], .int .i64 a.2]) (by simp [results, Try.results44, go_sem, y0, y1, y2]) rfl ⟨q', c', rfl, ?_, set3 HX2.out.b (Nat.le_refl _) _ _ _⟩
    exact (HO.out.set3 (B := w.heap.size) (Nat.lt_of_lt_of_le (by simp) HB1.out.size) _ _ _).weak (Nat.le_of_lt (Nat.lt_of_lt_of_le (by simp) HB1.out.size))
set_option maxRecDepth 20000 in
set_option maxHeartbeats 1000000 in
theorem guard47 (B : Nat) (col : Col) (p1 p2 p3 : Addr) (a : CA × Int) (w : World) (hB : w.heap[B]? = some (.cells #[.int .i64 col.1, .int .i64 col.2.1, .slice col.2.2.1 col.2.2.2.1.length col.2.2.2.2] 24 (0, 0))) (hl : col.2.2.2.1.length ≤ maxLen)
    (HC : mC col = true → ∀ X, Be w.heap.size w X → Calls Try.prog 47 #[.pointer (some p1), .pointer (some p2), .pointer (some p3)] X fun e w' => AnsC a X e w') :
    Calls Try.prog 44 #[.func (.func 47) #[] #[.pointer (some p1), .pointer (some p2), .pointer (some p3)], .slice (some ⟨B, 0, none⟩) 1 1] w fun e w' => AnsC (if mC col then a else (zC, 180)) w e w' := by
  have KE : Hid (Be w.heap.size w (w.alloc oZ)) := (Be.refl (Nat.le_refl _)).al _
  have CM := mayBe1 B col (w.alloc oZ) (KE.out.blk (Array.getElem?_eq_some_iff.1 hB).1 hB) hl
  have zE : (w.alloc oZ).heap[w.heap.size]? = some oZ := heap_alloc_new _ _
  cases hm : mC col
  · rw [hm] at CM
    clear HC hm hB
    go_enter Try.func44, Try.ntmps44
    go_wp2_with (first | (go_at_call 34; refine Calls.mono CM ?_; rintro e w1 ⟨rfl, hb⟩; obtain ⟨y0, y1, y2, yf⟩ := heap3_cell ((hb.block w.heap.size (by simp)).trans zE); obtain ⟨z0, z1, z2, zf⟩ := heap3_cell (((bal w1 oZ).block w.heap.size (Nat.lt_of_lt_of_le (by simp) hb.size)).trans ((hb.block w.heap.size (by simp)).trans zE)); have HX : Hid (Be w.heap.size w w1) := KE.out.to hb; clear hb))
    exact bodyPost_ret (v := .tuple #[.agg #[.int .i64 0, .int .i64 0, .slice none 0 0], .int .i64 180]) (by simp [results, Try.results44, go_sem, z0, z1, z2]) rfl ⟨none, 0, rfl, OwnR.nil _ _, set3 (HX.out.al _).b (Nat.le_refl _) _ _ _⟩
  · rw [hm] at CM
    have HCC := hidOg (HC hm)
    clear HC hm hB
    go_enter Try.func44, Try.ntmps44
    go_wp2_with (first | (go_at_call 34; refine Calls.mono CM ?_; rintro e w1 ⟨rfl, hb⟩; have HB1 := hidOg hb; have HX : Hid (Be w.heap.size w w1) := KE.out.to hb; clear hb) | (go_at_call 47; refine Calls.mono (HCC.out _ HX.out) ?_; rintro e w2 ⟨q', c', rfl, ho, hb⟩; obtain ⟨y0, y1, y2, yf⟩ := heap3_cell ((hb.block w.heap.size (Nat.lt_of_lt_of_le (by simp) HB1.out.size)).trans ((HB1.out.block w.heap.size (by simp)).trans zE)); have HO := hidOg ho; have HX2 : Hid (Be w.heap.size w w2) := HX.out.to hb; clear ho hb))
    refine bodyPost_ret (v := .tuple #[.agg #[.int .i64 a.1.1, .int .i64 a.1.2.1, .slice q' a.1.2.2.length c'], .int .i64 a.2]) (by simp [results, Try.results44, go_sem, y0, y1, y2]) rfl ⟨q', c', rfl, ?_, set3 HX2.out.b (Nat.le_refl _) _ _ _⟩
    exact (HO.out.set3 (B := w.heap.size) (Nat.lt_of_lt_of_le (by simp) HB1.out.size) _ _ _).weak (Nat.le_of_lt (Nat.lt_of_lt_of_le (by simp) HB1.out.size))
set_option maxRecDepth 20000 in
set_option maxHeartbeats 1000000 in
theorem guard50 (B : Nat) (col : Col) (p1 p2 : Addr) (a : CA × Int) (w : World) (hB : w.heap[B]? = some (.cells #[.int .i64 col.1, .int .i64 col.2.1, .slice col.2.2.1 col.2.2.2.1.length col.2.2.2.2] 24 (0, 0))) (hl : col.2.2.2.1.length ≤ maxLen)
    (HC : mC col = true → ∀ X, Be w.heap.size w X → Calls Try.prog 50 #[.pointer (some p1), .pointer (some p2)] X fun e w' => AnsC a X e w') :
    Calls Try.prog 44 #[.func (.func 50) #[] #[.pointer (some p1), .pointer (some p2)], .slice (some ⟨B, 0, none⟩) 1 1] w fun e w' => AnsC (if mC col then a else (zC, 180)) w e w' := by
  have KE : Hid (Be w.heap.size w (w.alloc oZ)) := (Be.refl (Nat.le_refl _)).al _
  have CM := mayBe1 B col (w.alloc oZ) (KE.out.blk (Array.getElem?_eq_some_iff.1 hB).1 hB) hl
  have zE : (w.alloc oZ).heap[w.heap.size]? = some oZ := heap_alloc_new _ _
  cases hm : mC col
  · rw [hm] at CM
    clear HC hm hB
    go_enter Try.func44, Try.ntmps44
    go_wp2_with (first | (go_at_call 34; refine Calls.mono CM ?_; rintro e w1 ⟨rfl, hb⟩; obtain ⟨y0, y1, y2, yf⟩ := heap3_cell ((hb.block w.heap.size (by simp)).trans zE); obtain ⟨z0, z1, z2, zf⟩ := heap3_cell (((bal w1 oZ).block w.heap.size (Nat.lt_of_lt_of_le (by simp) hb.size)).trans ((hb.block w.heap.size (by simp)).trans zE)); have HX : Hid (Be w.heap.size w w1) := KE.out.to hb; clear hb))
    exact bodyPost_ret (v := .tuple #[.agg #[.int .i64 0, .int .i64 0, .slice none 0 0], .int .i64 180]) (by simp [results, Try.results44, go_sem, z0, z1, z2]) rfl ⟨none, 0, rfl, OwnR.nil _ _, set3 (HX.out.al _).b (Nat.le_refl _) _ _ _⟩
  · rw [hm] at CM
    have HCC := hidOg (HC hm)
    clear HC hm hB
    go_enter Try.func44, Try.ntmps44
    go_wp2_with (first | (go_at_call 34; refine Calls.mono CM ?_; rintro e w1 ⟨rfl, hb⟩; have HB1 := hidOg hb; have HX : Hid (Be w.heap.size w w1) := KE.out.to hb; clear hb) | (go_at_call 50; refine Calls.mono (HCC.out _ HX.out) ?_; rintro e w2 ⟨q', c', rfl, ho, hb⟩; obtain ⟨y0, y1, y2, yf⟩ := heap3_cell ((hb.block w.heap.size (Nat.lt_of_lt_of_le (by simp) HB1.out.size)).trans ((HB1.out.block w.heap.size (by simp)).trans zE)); have HO := hidOg ho; have HX2 : Hid (Be w.heap.size w w2) := HX.out.to hb; clear ho hb))
    refine bodyPost_ret (v := .tuple #[.agg #[.int .i64 a.1.1, .int .i64 a.1.2.1, .slice q' a.1.2.2.length c'], .int .i64 a.2]) (by simp [results, Try.results44, go_sem, y0, y1, y2]) rfl ⟨q', c', rfl, ?_, set3 HX2.out.b (Nat.le_refl _) _ _ _⟩
    exact (HO.out.set3 (B := w.heap.size) (Nat.lt_of_lt_of_le (by simp) HB1.out.size) _ _ _).weak (Nat.le_of_lt (Nat.lt_of_lt_of_le (by simp) HB1.out.size))
set_option maxRecDepth 20000 in
set_option maxHeartbeats 1000000 in
theorem guard53 (B : Nat) (col col2 : Col) (p1 p2 p3 : Addr) (a b : CA) (er : Int) (w : World) (hB : w.heap[B]? = some (.cells #[.int .i64 col.1, .int .i64 col.2.1, .slice col.2.2.1 col.2.2.2.1.length col.2.2.2.2, .int .i64 col2.1, .int .i64 col2.2.1, .slice col2.2.2.1 col2.2.2.2.1.length col2.2.2.2.2] 24 (0, 0))) (hl : col.2.2.2.1.length ≤ maxLen) (hl2 : col2.2.2.2.1.length ≤ maxLen)
    (HC : (mC col && mC col2) = true → ∀ X, Be w.heap.size w X → Calls Try.prog 54 #[.pointer (some p1), .pointer (some p2), .pointer (some p3)] X fun e w' => AnsP a b er X e w') :
    Calls Try.prog 53 #[.func (.func 54) #[] #[.pointer (some p1), .pointer (some p2), .pointer (some p3)], .slice (some ⟨B, 0, none⟩) 2 2] w fun e w' => AnsP (if (mC col && mC col2) then a else zC) (if (mC col && mC col2) then b else zC) (if (mC col && mC col2) then er else 180) w e w' := by
  have KE : Hid (Be w.heap.size w (w.alloc oZ2)) := (Be.refl (Nat.le_refl _)).al _
  have CM := mayBe2 B col col2 (w.alloc oZ2) (KE.out.blk (Array.getElem?_eq_some_iff.1 hB).1 hB) hl hl2
  have zE : (w.alloc oZ2).heap[w.heap.size]? = some oZ2 := heap_alloc_new _ _
  cases hm : (mC col && mC col2)
  · rw [hm] at CM
    clear HC hm hB
    go_enter Try.func53, Try.ntmps53
    go_wp2_with (first | (go_at_call 34; refine Calls.mono CM ?_; rintro e w1 ⟨rfl, hb⟩; obtain ⟨y0, y1, y2, y3, y4, y5, yf⟩ := heap6_cell ((hb.block w.heap.size (by simp)).trans zE); obtain ⟨z0, z1, z2, z3, z4, z5, zf⟩ := heap6_cell (((bal w1 oZ2).block w.heap.size (Nat.lt_of_lt_of_le (by simp) hb.size)).trans ((hb.block w.heap.size (by simp)).trans zE)); have HX : Hid (Be w.heap.size w w1) := KE.out.to hb; clear hb))
    exact bodyPost_ret (v := .tuple #[.agg #[.int .i64 0, .int .i64 0, .slice none 0 0, .int .i64 0, .int .i64 0, .slice none 0 0], .int .i64 180]) (by simp [results, Try.results53, go_sem, z0, z1, z2, z3, z4, z5]) rfl ⟨none, 0, none, 0, rfl, OwnR.nil _ _, OwnR.nil _ _, (fun x y h => by cases h), ((HX.out.al _).st6 (Nat.le_refl _) _ _ _ _ _ _).b⟩
  · rw [hm] at CM
    have HCC := hidOg (HC hm)
    clear HC hm hB
    go_enter Try.func53, Try.ntmps53
    go_wp2_with (first | (go_at_call 34; refine Calls.mono CM ?_; rintro e w1 ⟨rfl, hb⟩; have HB1 := hidOg hb; have HX : Hid (Be w.heap.size w w1) := KE.out.to hb; clear hb) | (go_at_call 54; refine Calls.mono (HCC.out _ HX.out) ?_; rintro e w2 ⟨q1, c1, q2, c2, rfl, ho1, ho2, hA, hb⟩; obtain ⟨y0, y1, y2, y3, y4, y5, yf⟩ := heap6_cell ((hb.block w.heap.size (Nat.lt_of_lt_of_le (by simp) HB1.out.size)).trans ((HB1.out.block w.heap.size (by simp)).trans zE)); have HO1 := hidOg ho1; have HO2 := hidOg ho2; have HA := hidOg hA; have HX2 : Hid (Be w.heap.size w w2) := HX.out.to hb; clear ho1 ho2 hA hb))
    refine bodyPost_ret (v := .tuple #[.agg #[.int .i64 a.1, .int .i64 a.2.1, .slice q1 a.2.2.length c1, .int .i64 b.1, .int .i64 b.2.1, .slice q2 b.2.2.length c2], .int .i64 er]) (by simp [results, Try.results53, go_sem, y0, y1, y2, y3, y4, y5]) rfl ⟨q1, c1, q2, c2, rfl, ?_, ?_, HA.out, (HX2.out.st6 (Nat.le_refl _) _ _ _ _ _ _).b⟩
    · exact (HO1.out.set6 (B := w.heap.size) (Nat.lt_of_lt_of_le (by simp) HB1.out.size) _ _ _ _ _ _).weak (Nat.le_of_lt (Nat.lt_of_lt_of_le (by simp) HB1.out.size))
    · exact (HO2.out.set6 (B := w.heap.size) (Nat.lt_of_lt_of_le (by simp) HB1.out.size) _ _ _ _ _ _).weak (Nat.le_of_lt (Nat.lt_of_lt_of_le (by simp) HB1.out.size))
end Go.Proofs.Ytkbikngkhaeakaa
