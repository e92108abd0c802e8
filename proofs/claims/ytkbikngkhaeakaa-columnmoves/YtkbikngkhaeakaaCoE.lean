/- What stays below a block; cut by numbers; a column that may be; pushed; the words of a column without a row. -/
import Derived.Test.YtkbikngkhaeakaaCoD
namespace Go.Proofs.Ytkbikngkhaeakaa
open Go.RowKit

/-- All below N is as it was in w. -/
structure Be (N : Nat) (w X : World) : Prop where
  b : Below N w X
  s : N ≤ X.heap.size
section
variable {N : Nat} {w X Y : World}
theorem Be.refl (h : N ≤ w.heap.size) : Be N w w := ⟨Below.refl _ _, h⟩
theorem Be.le {M : Nat} (h : Be N w X) (hm : M ≤ N) : Be M w X := ⟨h.b.mono hm, Nat.le_trans hm h.s⟩
theorem Be.tr {M : Nat} {Z : World} (h : Be N w X) (g : Be M X Z) (hm : N ≤ M) : Be N w Z := ⟨h.b.trans (g.b.mono hm), Nat.le_trans hm g.s⟩
theorem Be.al (h : Be N w X) (o : Obj) : Be N w (X.alloc o) := ⟨h.b.alloc h.s o, by simp; exact Nat.le_trans h.s (by omega)⟩
theorem Be.dr (h : Be N w X) : Be N w X.drew := ⟨h.b.drew, h.s⟩
theorem Be.to (h : Be N w X) (hb : Below X.heap.size X Y) : Be N w Y := ⟨h.b.trans (hb.mono h.s), Nat.le_trans h.s hb.size⟩
theorem Be.st (h : Be N w X) {a : Addr} (ha : N ≤ a.block) (v : Value) : Be N w (X.setCell a v) := ⟨h.b.setCell ha v, by have := ((Below.refl 0 X).setCell (p := a) (Nat.zero_le _) v).size; exact Nat.le_trans h.s this⟩
theorem Be.st3 (h : Be N w X) {B : Nat} (hB : N ≤ B) (a b c : Value) : Be N w (((X.setCell ⟨B, 0, none⟩ a).setCell ⟨B, 1, none⟩ b).setCell ⟨B, 2, none⟩ c) := ((h.st (a := ⟨B, 0, none⟩) hB a).st (a := ⟨B, 1, none⟩) hB b).st (a := ⟨B, 2, none⟩) hB c
theorem Be.blk (h : Be N w X) {k : Nat} (hk : k < N) {o : Obj} (ho : w.heap[k]? = some o) : X.heap[k]? = some o := (h.b.block k hk).trans ho
theorem Be.box (h : Be N w X) {k : Nat} (hk : k < N) {a b c : Value} {t : TypeId} (ho : w.heap[k]? = some (.cells #[a, b, c] t (0, 0))) : X.cell? ⟨k, 0, none⟩ = some a ∧ X.cell? ⟨k, 1, none⟩ = some b ∧ X.cell? ⟨k, 2, none⟩ = some c := by
  obtain ⟨h0, h1, h2, _⟩ := heap3_cell (h.blk hk ho)
  exact ⟨h0, h1, h2⟩
end

section
variable (w : World) (o1 o2 o3 o4 : Obj)
theorem al2 : ((w.alloc o1).alloc o2).heap[w.heap.size]? = some o1 ∧ ((w.alloc o1).alloc o2).heap[w.heap.size + 1]? = some o2 := by
  refine ⟨(Below.heap_alloc _ _ _ (by simp)).trans (heap_alloc_new _ _), ?_⟩
  have := heap_alloc_new (w.alloc o1) o2
  rw [World.size_alloc] at this; exact this
theorem al3 : (((w.alloc o1).alloc o2).alloc o3).heap[w.heap.size]? = some o1 ∧ (((w.alloc o1).alloc o2).alloc o3).heap[w.heap.size + 1]? = some o2 ∧ (((w.alloc o1).alloc o2).alloc o3).heap[w.heap.size + 2]? = some o3 := by
  obtain ⟨h1, h2⟩ := al2 w o1 o2
  refine ⟨(Below.heap_alloc _ _ _ (by simp <;> omega)).trans h1, (Below.heap_alloc _ _ _ (by simp)).trans h2, ?_⟩
  have := heap_alloc_new ((w.alloc o1).alloc o2) o3
  rw [World.size_alloc, World.size_alloc] at this; exact this
theorem al4 : ((((w.alloc o1).alloc o2).alloc o3).alloc o4).heap[w.heap.size]? = some o1 ∧ ((((w.alloc o1).alloc o2).alloc o3).alloc o4).heap[w.heap.size + 1]? = some o2 ∧ ((((w.alloc o1).alloc o2).alloc o3).alloc o4).heap[w.heap.size + 2]? = some o3 ∧ ((((w.alloc o1).alloc o2).alloc o3).alloc o4).heap[w.heap.size + 3]? = some o4 := by
  obtain ⟨h1, h2, h3⟩ := al3 w o1 o2 o3
  refine ⟨(Below.heap_alloc _ _ _ (by simp <;> omega)).trans h1, (Below.heap_alloc _ _ _ (by simp <;> omega)).trans h2, (Below.heap_alloc _ _ _ (by simp)).trans h3, ?_⟩
  have := heap_alloc_new (((w.alloc o1).alloc o2).alloc o3) o4
  rw [World.size_alloc, World.size_alloc, World.size_alloc] at this; exact this
end
theorem al5 (w : World) (o1 o2 o3 o4 o5 : Obj) : (((((w.alloc o1).alloc o2).alloc o3).alloc o4).alloc o5).heap[w.heap.size]? = some o1 ∧ (((((w.alloc o1).alloc o2).alloc o3).alloc o4).alloc o5).heap[w.heap.size + 1]? = some o2 ∧ (((((w.alloc o1).alloc o2).alloc o3).alloc o4).alloc o5).heap[w.heap.size + 2]? = some o3 ∧ (((((w.alloc o1).alloc o2).alloc o3).alloc o4).alloc o5).heap[w.heap.size + 3]? = some o4 ∧ (((((w.alloc o1).alloc o2).alloc o3).alloc o4).alloc o5).heap[w.heap.size + 4]? = some o5 := by
  obtain ⟨h1, h2, h3, h4⟩ := al4 w o1 o2 o3 o4
  refine ⟨(Below.heap_alloc _ _ _ (by simp <;> omega)).trans h1, (Below.heap_alloc _ _ _ (by simp <;> omega)).trans h2, (Below.heap_alloc _ _ _ (by simp <;> omega)).trans h3, (Below.heap_alloc _ _ _ (by simp)).trans h4, ?_⟩
  have := heap_alloc_new ((((w.alloc o1).alloc o2).alloc o3).alloc o4) o5
  rw [World.size_alloc, World.size_alloc, World.size_alloc, World.size_alloc] at this; exact this
theorem cell1_heap {W : World} {B : Nat} {a : Value} {t : TypeId} (h : W.heap[B]? = some (.cells #[a] t (0, 0))) : W.cell? ⟨B, 0, none⟩ = some a := by simp [World.cell?, h]
def OkCut (W : Int) (n : Nat) (f e : Int) : Prop := ∃ a b : Nat, (a : Int) = f * W ∧ (b : Int) = e * W ∧ a ≤ b ∧ b ≤ n
def cpK (p : Option Addr) (W f e : Int) : Option Addr := cutP p (f * W).toNat (e * W).toNat
def cnK (W f e : Int) : Nat := (e * W).toNat - (f * W).toNat
/-- The words of the rows from one to ahead of another. -/
def wdK (l : List Int) (W f e : Int) : List Int := (l.drop (f * W).toNat).take ((e * W).toNat - (f * W).toNat)
theorem wdK_len {l : List Int} {W f e : Int} (h : OkCut W l.length f e) : (wdK l W f e).length = cnK W f e := by
  obtain ⟨a, b, ha, hb, hab, hbn⟩ := h
  unfold wdK cnK
  rw [← ha, ← hb]
  simp; omega
theorem cutK (wd rs : Int) (p : Option Addr) (l : List Int) (c : Nat) (f e : Int) (w : World) (hR : Row w p l c) (hcm : c ≤ maxLen) (h : OkCut wd l.length f e) :
    Calls Try.prog 43 #[.agg #[.int .i64 wd, .int .i64 rs, .slice p l.length c], .int .i64 f, .int .i64 e] w fun en w' => en = .returned (.slice (cpK p wd f e) (cnK wd f e) (cnK wd f e)) ∧ w' = w.alloc (.cells #[.int .i64 wd, .int .i64 rs, .slice p l.length c] 24) := by
  obtain ⟨a, b, ha, hb, hab, hbn⟩ := h
  have := cut43 wd rs p l.length c f e a b w ha hb hab (by have := hR.r; omega) hcm (by
    rcases hR.a with ⟨h1, _, h3⟩ | h
    · exact .inl ⟨h1, h3⟩
    · exact .inr h)
  unfold cpK cnK
  rw [← ha, ← hb]
  exact this
theorem IRow.cutK {q : IntKind} {N : Nat} {w : World} {p : Option Addr} {l : List Int} (h : IRow q N w p l) (W f e : Int) : IRow q N w (cpK p W f e) (wdK l W f e) := h.cut _ _

/-- A column that may be, in memory. -/
structure CV (w : World) (W R : Nat) (p : Option Addr) (l : List Int) (c : Nat) : Prop where
  r : Row w p l c
  n : l.length = W * R
  w4 : W ≤ 4
  rm : R ≤ 1048578
  cm : c ≤ maxLen
theorem CV.to {w w' : World} {W R : Nat} {p : Option Addr} {l : List Int} {c : Nat} (h : CV w W R p l c) (hb : Below w.heap.size w w') : CV w' W R p l c := ⟨h.r.to hb, h.n, h.w4, h.rm, h.cm⟩
theorem CV.ok {w : World} {W R : Nat} {p : Option Addr} {l : List Int} {c : Nat} (h : CV w W R p l c) {f e : Nat} (h1 : f ≤ e) (h2 : e ≤ R) : OkCut (W : Int) l.length (f : Int) (e : Int) := by
  refine ⟨f * W, e * W, by push_cast; rfl, by push_cast; rfl, Nat.mul_le_mul_right W h1, ?_⟩
  rw [h.n, Nat.mul_comm W R]; exact Nat.mul_le_mul_right W h2
theorem wdK_nat (l : List Int) (W f e : Nat) : wdK l (W : Int) (f : Int) (e : Int) = (l.drop (f * W)).take (e * W - f * W) := by
  unfold wdK
  rw [show ((f : Int) * (W : Int)).toNat = f * W from by rw [← Int.natCast_mul]; rfl, show ((e : Int) * (W : Int)).toNat = e * W from by rw [← Int.natCast_mul]; rfl]
/-- A row's value. -/
theorem wdK_row (l : List Int) (W r : Nat) : wdK l (W : Int) (r : Int) ((r : Int) + 1) = (l.drop (r * W)).take W := by
  rw [show ((r : Int) + 1) = ((r + 1 : Nat) : Int) from by push_cast; rfl, wdK_nat, Nat.succ_mul, Nat.add_sub_cancel_left]
theorem CV.len {w : World} {W R : Nat} {p : Option Addr} {l : List Int} {c : Nat} (h : CV w W R p l c) : l.length ≤ 4194312 := by
  rw [h.n]; have := h.w4; have := h.rm
  exact Nat.le_trans (Nat.mul_le_mul h.w4 h.rm) (by omega)

set_option maxRecDepth 20000 in
set_option maxHeartbeats 1000000 in
theorem pushed52 (W R : Nat) (p : Option Addr) (l : List Int) (c : Nat) (q : Option Addr) (V : List RR) (d : Nat) (w : World) (hC : CV w W R p l c) (hV : VRow w.heap.size w q V) (hv : V.length ≤ 1000) (ht : (catF l V V.length).length ≤ 1099511627776) :
    Calls Try.prog 52 #[.agg #[.int .i64 (W : Int), .int .i64 (R : Int), .slice p l.length c], .slice q V.length d] w fun e w' => GivesC (W : Int) ((R + V.length : Nat) : Int) (catF l V V.length) w e w' := by
  have hrm := hC.rm
  obtain ⟨n0, hn0⟩ : ∃ n0, n0 = l.length := ⟨_, rfl⟩
  obtain ⟨N, hN⟩ : ∃ N, N = V.length := ⟨_, rfl⟩
  obtain ⟨wE, hE⟩ : ∃ wE, wE = (w.alloc (.cells #[.int .i64 (W : Int), .int .i64 (R : Int), .slice p l.length c] 24)).alloc oZ := ⟨_, rfl⟩
  have bE : Below w.heap.size w wE := by rw [hE]; exact ((bal _ _)).trans ((bal _ _).mono (by simp))
  have sE : wE.heap.size = w.heap.size + 2 := by rw [hE]; simp
  have zE : wE.heap[w.heap.size + 1]? = some oZ := by
    rw [hE]
    have := heap_alloc_new (w.alloc (.cells #[.int .i64 (W : Int), .int .i64 (R : Int), .slice p l.length c] 24)) oZ
    rw [World.size_alloc] at this; exact this
  have CL := laid49 (W : Int) ((R : Int) + (N : Int)) p l c q V d wE (hC.r.i.to bE) (hV.to bE) hv ht
  obtain ⟨m, hm⟩ : ∃ m, m = catF l V V.length := ⟨_, rfl⟩
  have e1 : ((R + V.length : Nat) : Int) = (R : Int) + (N : Int) := by rw [hN]; push_cast; rfl
  rw [e1]
  rw [← hm, ← hN, ← hn0] at CL
  rw [← hN] at hv
  rw [← hm, ← hN, ← hn0]
  rw [← hn0] at hE
  have HB := hidOg bE
  clear hC hV ht hm hN hn0 e1 bE
  go_enter Try.func52, Try.ntmps52
  go_wp2_with (first | (go_at_call 49; rw [← hE]; refine Calls.mono CL ?_; rintro e w1 ⟨q', c', rfl, ho, hb⟩; obtain ⟨y0, y1, y2, yf⟩ := heap3_cell ((hb.block (w.heap.size + 1) (by omega)).trans zE); have HO := hidOg ho; have HB1 := hidOg hb; clear ho hb zE))
  refine bodyPost_ret (v := .agg #[.int .i64 (W : Int), .int .i64 ((R : Int) + (N : Int)), .slice q' m.length c']) (by simp [results, Try.results52, go_sem, y0, y1, y2]) rfl ⟨q', c', rfl, ?_, ?_⟩
  · exact (HO.out.set3 (B := w.heap.size + 1) (by omega) _ _ _).weak (by omega)
  · exact set3 (HB.out.trans (HB1.out.mono (by omega))) (by omega) _ _ _

/-- A column's words without a row. -/
theorem swO_eq {rows : List (List Int)} {k : Nat} (hk : k + 1 < rows.length) : swO rows k = rows.take k ++ [rows[rows.length - 1]'(by omega)] ++ (rows.drop (k + 1)).take (rows.length - 1 - (k + 1)) := by
  apply List.ext_getElem
  · rw [swO_len]; simp; omega
  · intro i h1 h2
    have h3 : i < rows.length - 1 := by rw [swO_len] at h1; exact h1
    rw [swO_at h3]
    by_cases e : i = k
    · rw [if_pos e]; subst e
      rw [List.getElem_append_left (by simp; omega), List.getElem_append_right (by simp; omega)]
      simp
    · rw [if_neg e]
      by_cases h : i < k
      · rw [List.getElem_append_left (by simp; omega), List.getElem_append_left (by simp; omega)]; simp
      · rw [List.getElem_append_right (by simp; omega)]
        simp only [List.getElem_take, List.getElem_drop]
        congr 1
        simp; omega
theorem sw_last {W R : Nat} {l : List Int} (hl : l.length = W * R) (hR : 0 < R) : (swO (chK W R l) (R - 1)).flatten = l.take ((R - 1) * W) := by
  have h1 := @swO_last Int (chK W R l)
  rw [chK_len] at h1
  rw [h1, List.dropLast_eq_take, chK_len, flat_take (fun r hr => chK_mem hl hr) (by rw [chK_len]; omega), flat_chK hl]
theorem flat_mid {W : Nat} {rows : List (List Int)} (h : ∀ r ∈ rows, r.length = W) {a b : Nat} (hab : a ≤ b) (hb : b ≤ rows.length) : ((rows.drop a).take (b - a)).flatten = (rows.flatten.drop (a * W)).take (b * W - a * W) := by
  rw [flat_take (fun r hr => h r (List.mem_of_mem_drop hr)) (by simp; omega), flat_drop h (by omega), Nat.sub_mul]
theorem sw_mid {W R r : Nat} {l : List Int} (hl : l.length = W * R) (hr : r + 1 < R) : (swO (chK W R l) r).flatten = l.take (r * W) ++ (l.drop ((R - 1) * W)).take (R * W - (R - 1) * W) ++ (l.drop ((r + 1) * W)).take ((R - 1) * W - (r + 1) * W) := by
  have hm : ∀ x ∈ chK W R l, x.length = W := fun x hx => chK_mem hl hx
  have hc := chK_len W R l
  rw [swO_eq (by rw [hc]; exact hr), List.flatten_append, List.flatten_append, flat_take hm (by rw [hc]; omega), flat_chK hl]
  have e1 : [((chK W R l)[(chK W R l).length - 1]'(by rw [hc]; omega))] = ((chK W R l).drop (R - 1)).take (R - (R - 1)) := by
    apply List.ext_getElem
    · simp [hc]; omega
    · intro i h1 h2
      have : i = 0 := by simpa using h1
      subst this
      simp [hc]
  rw [e1, flat_mid hm (by omega) (by rw [hc]; exact Nat.le_refl _), hc, flat_mid hm (by omega) (by rw [hc]; omega), flat_chK hl]
end Go.Proofs.Ytkbikngkhaeakaa
