/- record: At, Rows, Who, Check, Same. -/
import Derived.Test.YtijlkdppjmfbhaaRcI
import Derived.Test.YtijlkdppjmfbhaaRcB
import Derived.Test.YtijlkdppjmfbhaaRcG
namespace Go.Proofs.Ytijlkdppjmfbhaa
open Go.RowKit Go.Sort Go.Maps

theorem mayS_bd {l : List Sp} (h : mayS l = true) : l.length ≤ 1048578 ∧ (l.length = 0 ∨ ¬ sG l (l.length - 1) = (0, 0)) ∧ GoodQ l (plN l l.length) := by
  unfold mayS at h
  simp at h
  refine ⟨h.1, ?_, h.2.2⟩
  rcases h.2.1 with h | h
  · exact .inl (by simpa using h)
  · exact .inr h
theorem plN_mem {l : List Sp} {k : Nat} : k ∈ plN l l.length ↔ k < l.length ∧ ¬ sG l k = (0, 0) := by
  unfold plN; rw [List.mem_filter, List.mem_range]; simp
theorem mayS_rows {l : List Sp} (h : mayS l = true) (k : Nat) : 0 ≤ (sG l k).2 ∧ (sG l k).2 ≤ 1048578 := by
  obtain ⟨_, _, h3⟩ := mayS_bd h
  by_cases hk : k < l.length ∧ ¬ sG l k = (0, 0)
  · have := h3.1 k (plN_mem.2 hk)
    unfold plB at this; simp at this; exact this.2.2
  · by_cases hz : sG l k = (0, 0)
    · rw [hz]; simp
    · have hn : ¬ k < l.length := fun h => hk ⟨h, hz⟩
      have : sG l k = (0, 0) := by unfold sG; rw [List.getD_eq_getElem?_getD, List.getElem?_eq_none (by omega)]; rfl
      exact absurd this hz
theorem set2_heap {W : World} {B : Nat} {a b : Value} {t : TypeId} (h : W.heap[B]? = some (.cells #[a, b] t (0, 0))) (x y : Value) : ((W.setCell ⟨B, 0, none⟩ x).setCell ⟨B, 1, none⟩ y).heap[B]? = some (.cells #[x, y] t (0, 0)) := by
  simp [setCell_eq, mapBlock, Array.getElem?_modify, h, onCells]
theorem set2_size (W : World) (B : Nat) (x y : Value) : ((W.setCell ⟨B, 0, none⟩ x).setCell ⟨B, 1, none⟩ y).heap.size = W.heap.size := by simp [setCell_eq, mapBlock]
theorem al2b (w : World) (o1 o2 : Obj) : Below w.heap.size w ((w.alloc o1).alloc o2) := (bal w o1).trans ((bal _ o2).mono (bal w o1).size)
theorem al3b (w : World) (o1 o2 o3 : Obj) : Below w.heap.size w (((w.alloc o1).alloc o2).alloc o3) := (al2b w o1 o2).trans ((bal _ o3).mono (al2b w o1 o2).size)
theorem check11 (p : Option Addr) (l : List Sp) (c : Nat) (w : World) (hE : SRow w.heap.size w p l) (hw : wfL l) (hl : l.length ≤ 1099511627776) :
    Calls Try.prog 11 #[.agg #[.slice p l.length c]] w fun e w' => e = .returned (.int .i64 (if mayS l then 0 else 200)) ∧ Below w.heap.size w w' := by
  have CW := whoStands33 p l c (w.alloc (.cells #[.slice p l.length c] 24)) (hE.to (bal _ _)) hw hl
  unfold AnsW at CW
  obtain ⟨v, hv⟩ : ∃ v, v = mayS l := ⟨_, rfl⟩
  rw [← hv] at CW
  rw [← hv]
  clear hE hw hv
  have HB := hidOg (bal w (.cells #[.slice p l.length c] 24))
  cases v
  all_goals
    go_enter Try.func11, Try.ntmps11
    go_wp2_with (first | (go_at_call 33; refine Calls.mono CW ?_; rintro e w1 ⟨m, rfl, _, hb⟩; have HB1 := hidOg hb; clear hb))
    go_ret
    exact ⟨rfl, HB.out.trans (HB1.out.mono HB.out.size)⟩
theorem same12 (p : Option Addr) (l : List Sp) (c : Nat) (q : Option Addr) (r : List Sp) (d : Nat) (w : World) (hE : SRow w.heap.size w p l) (hF : SRow w.heap.size w q r) (hl : l.length ≤ 1099511627776) :
    Calls Try.prog 12 #[.agg #[.slice p l.length c], .agg #[.slice q r.length d]] w fun e w' => e = .returned (.bool (samS l r)) ∧ Below w.heap.size w w' := by
  have hb := al2b w (.cells #[.slice p l.length c] 24) (.cells #[.slice q r.length d] 24)
  have CE := equal34 p l c q r d _ (hE.to hb) (hF.to hb) hl
  have HB := hidOg hb
  clear hE hF hb
  go_enter Try.func12, Try.ntmps12
  go_wp2_with (first | (go_at_call 34; refine Calls.mono CE ?_; rintro e w1 ⟨rfl, hb⟩; have HB1 := hidOg hb; clear hb))
  go_ret
  exact ⟨rfl, HB.out.trans (HB1.out.mono HB.out.size)⟩
/-! At -/
theorem at36 (R I : Nat) (m : Value) (p : Option Addr) (l : List Sp) (c : Nat) (i : Int) (w : World) (hE : SRow w.heap.size w p l) (hl : l.length ≤ 1099511627776) (hR : w.heap[R]? = some (.cells #[.slice p l.length c] 24)) (hI : w.heap[I]? = some (.cells #[.int .i64 i] 3)) :
    Calls Try.prog 36 #[m, .pointer (some ⟨R, 0, none⟩), .pointer (some ⟨I, 0, none⟩)] w fun e w' => e = .returned (.tuple #[vS (fiA l i).1, .int .i64 (fiA l i).2]) ∧ Below w.heap.size w w' := by
  have hb := bal w (.cells #[.int .i64 0, .int .i64 0] 34)
  have CF := find37 p l c i _ (hE.to hb) hl
  have r0 := cell1_heap (atW hb hR)
  have i0 := cell1_heap (atW hb hI)
  have HB := hidOg hb
  have HN := hidOg (blk1 (W := w) (o := .cells #[.int .i64 0, .int .i64 0] 34))
  obtain ⟨⟨⟨a, d⟩, er⟩, hA⟩ : ∃ A, A = fiA l i := ⟨_, rfl⟩
  rw [← hA] at CF
  rw [← hA]
  clear hE hR hI hb hA
  go_enter Try.func36, Try.ntmps36
  go_wp2_with (first | (go_at_call 37; refine Calls.mono CF ?_; rintro e w1 ⟨rfl, hb⟩; have z1 := atW hb HN.out; obtain ⟨y0, y1, yf⟩ := cell2_heap z1; have HB1 := hidOg hb; clear hb))
  refine bodyPost_ret (v := .tuple #[vS (a, d), .int .i64 er]) (by simp [results, Try.results36, go_sem, y0, y1]) rfl ⟨rfl, ?_⟩
  exact ((HB.out.trans (HB1.out.mono HB.out.size)).setCell (p := ⟨w.heap.size, 0, none⟩) (Nat.le_refl _) _).setCell (p := ⟨w.heap.size, 1, none⟩) (Nat.le_refl _) _
def gaA (l : List Sp) (i : Int) : Sp × Int := if mayS l then fiA l i else ((0, 0), 200)
theorem guarded35 (R I : Nat) (p : Option Addr) (l : List Sp) (c : Nat) (i : Int) (w : World) (hE : SRow w.heap.size w p l) (hw : wfL l) (hl : l.length ≤ 1099511627776) (hR : w.heap[R]? = some (.cells #[.slice p l.length c] 24)) (hI : w.heap[I]? = some (.cells #[.int .i64 i] 3)) :
    Calls Try.prog 35 #[.agg #[.slice p l.length c], .func (.func 36) #[] #[.pointer (some ⟨R, 0, none⟩), .pointer (some ⟨I, 0, none⟩)]] w fun e w' => e = .returned (.tuple #[vS (gaA l i).1, .int .i64 (gaA l i).2]) ∧ Below w.heap.size w w' := by
  have hb := al2b w (.cells #[.slice p l.length c] 24) (.cells #[.int .i64 0, .int .i64 0] 34)
  obtain ⟨q0, q1⟩ := al2 w (.cells #[.slice p l.length c] 24) (.cells #[.int .i64 0, .int .i64 0] 34)
  have s2 : ((w.alloc (.cells #[.slice p l.length c] 24)).alloc (.cells #[.int .i64 0, .int .i64 0] 34)).heap.size = w.heap.size + 2 := by simp
  have CW := whoStands33 p l c _ (hE.to hb) hw hl
  have CA := fun (W : World) (hb : Below w.heap.size w W) (m : Value) => at36 R I m p l c i W (hE.to hb) hl (atW hb hR) (atW hb hI)
  have HB := hidOg hb
  have HN := hidOg q1
  have HS2 := hidOg s2
  have HG : Hid (gaA l i = if mayS l then fiA l i else ((0, 0), 200)) := rfl
  unfold AnsW at CW
  obtain ⟨v, hv⟩ : ∃ v, v = mayS l := ⟨_, rfl⟩
  rw [← hv] at CW HG
  clear hE hw hR hI hb q0 q1 hv s2
  cases v
  · have E : Hid (gaA l i = ((0, 0), 200)) := HG.out
    rw [E.out]
    clear CA
    go_enter Try.func35, Try.ntmps35
    go_wp2_with (first | (go_at_call 33; refine Calls.mono CW ?_; rintro e w1 ⟨m, rfl, _, hb⟩; have z1 := atW hb HN.out; obtain ⟨y0, y1, yf⟩ := cell2_heap z1; have HZ1 := hidOg z1; have HB1 := hidOg hb; have hlt : w.heap.size + 1 < w1.heap.size := (by have := hb.size; rw [HS2.out] at this; omega); clear hb z1))
    have F1 := set2_heap HZ1.out (.int .i64 0) (.int .i64 0)
    obtain ⟨f0, f1, _⟩ := cell2_heap (atW (bal _ (.cells #[.int .i64 0, .int .i64 0] 34)) F1)
    refine bodyPost_ret (v := .tuple #[vS (0, 0), .int .i64 200]) (by simp [results, Try.results35, go_sem, f0, f1]) rfl ⟨rfl, ?_⟩
    exact ((((HB.out.trans (HB1.out.mono HB.out.size)).setCell (p := ⟨w.heap.size + 1, 0, none⟩) (Nat.le_succ _) _).setCell (p := ⟨w.heap.size + 1, 1, none⟩) (Nat.le_succ _) _)).alloc (by rw [set2_size]; omega) _
  · have E : Hid (gaA l i = fiA l i) := HG.out
    rw [E.out]
    obtain ⟨⟨⟨a, d⟩, er⟩, hA⟩ : ∃ A, A = fiA l i := ⟨_, rfl⟩
    rw [← hA] at CA
    rw [← hA]
    clear hA E HG
    go_enter Try.func35, Try.ntmps35
    go_wp2_with (first
      | (go_at_call 33; refine Calls.mono CW ?_; rintro e w1 ⟨m, rfl, _, hb⟩; have z1 := atW hb HN.out; have HB1 := hidOg (HB.out.trans (hb.mono HB.out.size)); have HZ1 := hidOg z1; clear hb z1)
      | (go_at_call 36; refine Calls.mono (CA _ HB1.out _) ?_; rintro e w2 ⟨rfl, hb⟩; obtain ⟨y0, y1, yf⟩ := cell2_heap (atW hb HZ1.out); have HB2 := hidOg (HB1.out.trans (hb.mono HB1.out.size)); clear hb))
    refine bodyPost_ret (v := .tuple #[vS (a, d), .int .i64 er]) (by simp [results, Try.results35, go_sem, y0, y1]) rfl ⟨rfl, ?_⟩
    exact (HB2.out.setCell (p := ⟨w.heap.size + 1, 0, none⟩) (Nat.le_succ _) _).setCell (p := ⟨w.heap.size + 1, 1, none⟩) (Nat.le_succ _) _
theorem at14 (p : Option Addr) (l : List Sp) (c : Nat) (i : Int) (w : World) (hE : SRow w.heap.size w p l) (hw : wfL l) (hl : l.length ≤ 1099511627776) :
    Calls Try.prog 14 #[.agg #[.slice p l.length c], .int .i64 i] w fun e w' => e = .returned (.tuple #[vS (gaA l i).1, .bool ((gaA l i).2 == 0)]) ∧ Below w.heap.size w w' := by
  have hb := al3b w (.cells #[.slice p l.length c] 24) (.cells #[.int .i64 i] 3) (.cells #[.int .i64 0, .int .i64 0] 34)
  obtain ⟨q0, q1, q2⟩ := al3 w (.cells #[.slice p l.length c] 24) (.cells #[.int .i64 i] 3) (.cells #[.int .i64 0, .int .i64 0] 34)
  have s2 : (((w.alloc (.cells #[.slice p l.length c] 24)).alloc (.cells #[.int .i64 i] 3)).alloc (.cells #[.int .i64 0, .int .i64 0] 34)).heap.size = w.heap.size + 3 := by simp
  have CG := guarded35 w.heap.size (w.heap.size + 1) p l c i _ (hE.to hb) hw hl q0 q1
  have HB := hidOg hb
  have HN := hidOg q2
  have HS2 := hidOg s2
  obtain ⟨⟨⟨a, d⟩, er⟩, hA⟩ : ∃ A, A = gaA l i := ⟨_, rfl⟩
  rw [← hA] at CG
  rw [← hA]
  have hx := cell1_heap q0
  clear hE hw hb q0 q1 q2 s2 hA
  go_enter Try.func14, Try.ntmps14
  go_wp2_with (first | (go_at_call 35; refine Calls.mono CG ?_; rintro e w1 ⟨rfl, hb⟩; have z1 := atW hb HN.out; have hlt : w.heap.size + 1 + 1 < w1.heap.size := (by have := hb.size; rw [HS2.out] at this; omega); obtain ⟨y0, y1, yf⟩ := cell2_heap z1; have HZ1 := hidOg z1; have HB1 := hidOg (HB.out.trans (hb.mono HB.out.size)); clear hb z1))
  have F1 := set2_heap HZ1.out (.int .i64 a) (.int .i64 d)
  obtain ⟨f0, f1, _⟩ := cell2_heap (atW (bal _ (.cells #[.int .i64 a, .int .i64 d] 34)) F1)
  refine bodyPost_ret (v := .tuple #[vS (a, d), .bool (er == 0)]) (by simp [results, Try.results14, go_sem, f0, f1]) rfl ⟨rfl, ?_⟩
  exact ((HB1.out.setCell (p := ⟨w.heap.size + 1 + 1, 0, none⟩) (by simp; omega) _).setCell (p := ⟨w.heap.size + 1 + 1, 1, none⟩) (by simp; omega) _).alloc (by rw [set2_size]; omega) _
/-! Rows -/
/-- What Rows answers: X. -/
def AnsR (l : List Sp) (t : Int) (X : List Int) : Prop := (mayS l = true → IsRows l t X) ∧ (mayS l = false → X = [])
theorem rows39 (R I : Nat) (m : Value) (p : Option Addr) (l : List Sp) (c : Nat) (t : Int) (w : World) (hm : mayS l = true) (hE : SRow w.heap.size w p l) (hR : w.heap[R]? = some (.cells #[.slice p l.length c] 24)) (hI : w.heap[I]? = some (.cells #[.int .i64 t] 3)) :
    Calls Try.prog 39 #[m, .pointer (some ⟨R, 0, none⟩), .pointer (some ⟨I, 0, none⟩)] w fun e w' => ∃ q X d, e = .returned (.tuple #[.slice q (X : List Int).length d, .int .i64 0]) ∧ IsRows l t X ∧ OwnR w.heap.size w' q X d ∧ Below w.heap.size w w' := by
  have CF := inOrder40 p l c t w hE (mayS_bd hm).1 (mayS_rows hm)
  have r0 := cell1_heap hR
  have i0 := cell1_heap hI
  clear hE hR hI
  go_enter Try.func39, Try.ntmps39
  go_wp2_with (first | (go_at_call 40; refine Calls.mono CF ?_; rintro e w1 ⟨q, X, d, rfl, hx, ho, hb⟩; have HX := hidOg hx; have HO := hidOg ho; have HB1 := hidOg hb; clear hx ho hb))
  exact bodyPost_ret (v := .tuple #[.slice q X.length d, .int .i64 0]) (by simp [results, Try.results39, go_sem]) rfl ⟨q, X, d, rfl, HX.out, HO.out, HB1.out⟩
theorem guarded38 (R I : Nat) (p : Option Addr) (l : List Sp) (c : Nat) (t : Int) (w : World) (hE : SRow w.heap.size w p l) (hw : wfL l) (hl : l.length ≤ 1099511627776) (hR : w.heap[R]? = some (.cells #[.slice p l.length c] 24)) (hI : w.heap[I]? = some (.cells #[.int .i64 t] 3)) :
    Calls Try.prog 38 #[.agg #[.slice p l.length c], .func (.func 39) #[] #[.pointer (some ⟨R, 0, none⟩), .pointer (some ⟨I, 0, none⟩)]] w fun e w' => ∃ q X d er, e = .returned (.tuple #[.slice q (X : List Int).length d, .int .i64 er]) ∧ AnsR l t X ∧ OwnR w.heap.size w' q X d ∧ Below w.heap.size w w' := by
  have hb := bal w (.cells #[.slice p l.length c] 24)
  have CW := whoStands33 p l c _ (hE.to hb) hw hl
  have CA := fun (W : World) (hb : Below w.heap.size w W) (hm : mayS l = true) (m : Value) => rows39 R I m p l c t W hm (hE.to hb) (atW hb hR) (atW hb hI)
  have HB := hidOg hb
  unfold AnsW at CW
  cases hv : mayS l
  · have HV := hidOg hv
    rw [hv] at CW
    clear hE hw hR hI hb hv CA
    go_enter Try.func38, Try.ntmps38
    go_wp2_with (first | (go_at_call 33; refine Calls.mono CW ?_; rintro e w1 ⟨m, rfl, _, hb⟩; have HB1 := hidOg hb; clear hb))
    refine bodyPost_ret (v := .tuple #[.slice none 0 0, .int .i64 200]) (by simp [results, Try.results38, go_sem]) rfl ⟨none, [], 0, 200, rfl, ⟨fun h => (by rw [HV.out] at h; cases h), fun _ => rfl⟩, OwnR.nil _ _, HB.out.trans (HB1.out.mono HB.out.size)⟩
  · have HV := hidOg hv
    have CB := fun (W : World) (hb : Below w.heap.size w W) (m : Value) => CA W hb hv m
    rw [hv] at CW
    clear hE hw hR hI hb hv CA
    go_enter Try.func38, Try.ntmps38
    go_wp2_with (first
      | (go_at_call 33; refine Calls.mono CW ?_; rintro e w1 ⟨m, rfl, _, hb⟩; have HB1 := hidOg (HB.out.trans (hb.mono HB.out.size)); clear hb)
      | (go_at_call 39; refine Calls.mono (CB _ HB1.out _) ?_; rintro e w2 ⟨q, X, d, rfl, hx, ho, hb⟩; have HX := hidOg hx; have HO := hidOg (ho.weak HB1.out.size); have HB2 := hidOg (HB1.out.trans (hb.mono HB1.out.size)); clear hx ho hb))
    exact bodyPost_ret (v := .tuple #[.slice q X.length d, .int .i64 0]) (by simp [results, Try.results38, go_sem]) rfl ⟨q, X, d, 0, rfl, ⟨fun _ => HX.out, fun h => (by rw [HV.out] at h; cases h)⟩, HO.out, HB2.out⟩
theorem rows15 (p : Option Addr) (l : List Sp) (c : Nat) (t : Int) (w : World) (hE : SRow w.heap.size w p l) (hw : wfL l) (hl : l.length ≤ 1099511627776) :
    Calls Try.prog 15 #[.agg #[.slice p l.length c], .int .i64 t] w fun e w' => ∃ q X d, e = .returned (.slice q (X : List Int).length d) ∧ AnsR l t X ∧ OwnR w.heap.size w' q X d ∧ Below w.heap.size w w' := by
  have hb := al2b w (.cells #[.slice p l.length c] 24) (.cells #[.int .i64 t] 3)
  obtain ⟨q0, q1⟩ := al2 w (.cells #[.slice p l.length c] 24) (.cells #[.int .i64 t] 3)
  have CG := guarded38 w.heap.size (w.heap.size + 1) p l c t _ (hE.to hb) hw hl q0 q1
  have HB := hidOg hb
  clear hE hw hb q0 q1
  go_enter Try.func15, Try.ntmps15
  go_wp2_with (first | (go_at_call 38; refine Calls.mono CG ?_; rintro e w1 ⟨q, X, d, er, rfl, hx, ho, hb⟩; have HX := hidOg hx; have HO := hidOg (ho.weak HB.out.size); have HB2 := hidOg (HB.out.trans (hb.mono HB.out.size)); clear hx ho hb))
  go_ret
  exact ⟨q, X, d, rfl, HX.out, HO.out, HB2.out⟩
/-! Who -/
theorem who42 (S b n m : Nat) (u : Sp → Int) (s : Sp) (w : World) (hM : MapS w b n m u) (hs : wfS s) (hS : w.heap[S]? = some (.cells #[.int .i64 s.1, .int .i64 s.2] 34)) :
    Calls Try.prog 42 #[.map (some b), .pointer (some ⟨S, 0, none⟩)] w fun e w' => e = .returned (.tuple #[.int .i64 (u s), .int .i64 (if u s = 0 then 4 else 0)]) ∧ w' = w := by
  obtain ⟨y0, y1, _⟩ := cell2_heap hS
  have hlk := hM.look hs
  obtain ⟨v, hv⟩ : ∃ v, v = u s := ⟨_, rfl⟩
  rw [← hv] at hlk
  rw [← hv]
  obtain ⟨a, d⟩ := s
  clear hM hs hS hv
  by_cases h0 : v = 0
  · subst h0
    rw [if_pos rfl]
    go_enter Try.func42, Try.ntmps42
    go_wp2
    exact bodyPost_ret (v := .tuple #[.int .i64 0, .int .i64 4]) (by simp [results, Try.results42, go_sem]) rfl ⟨rfl, rfl⟩
  · rw [if_neg h0]
    have hd : (v == 0) = false := by simpa using h0
    go_enter Try.func42, Try.ntmps42
    go_wp2
    exact bodyPost_ret (v := .tuple #[.int .i64 v, .int .i64 0]) (by simp [results, Try.results42, go_sem]) rfl ⟨rfl, rfl⟩
/-- Who stands there; 0: nobody. -/
def whoV (l : List Sp) (s : Sp) : Int := if mayS l then whF l (plN l l.length) s else 0
theorem guarded41 (S : Nat) (p : Option Addr) (l : List Sp) (c : Nat) (s : Sp) (w : World) (hE : SRow w.heap.size w p l) (hw : wfL l) (hl : l.length ≤ 1099511627776) (hs : wfS s) (hS : w.heap[S]? = some (.cells #[.int .i64 s.1, .int .i64 s.2] 34)) :
    Calls Try.prog 41 #[.agg #[.slice p l.length c], .func (.func 42) #[] #[.pointer (some ⟨S, 0, none⟩)]] w fun e w' => ∃ er, e = .returned (.tuple #[.int .i64 (whoV l s), .int .i64 er]) ∧ (er = 0 ↔ whoV l s ≠ 0) ∧ Below w.heap.size w w' := by
  have hb := bal w (.cells #[.slice p l.length c] 24)
  have CW := whoStands33 p l c _ (hE.to hb) hw hl
  have CA := fun (W : World) (hb : Below w.heap.size w W) (b n : Nat) (hM : MapS W b n n (whF l (plN l l.length))) => who42 S b n n _ s W hM hs (atW hb hS)
  have HB := hidOg hb
  unfold AnsW at CW
  cases hv : mayS l
  · have E : Hid (whoV l s = 0) := by unfold Hid whoV; rw [hv]; rfl
    rw [hv] at CW
    rw [E.out]
    clear hE hw hS hb hv CA E
    go_enter Try.func41, Try.ntmps41
    go_wp2_with (first | (go_at_call 33; refine Calls.mono CW ?_; rintro e w1 ⟨m, rfl, _, hb⟩; have HB1 := hidOg hb; clear hb))
    exact bodyPost_ret (v := .tuple #[.int .i64 0, .int .i64 200]) (by simp [results, Try.results41, go_sem]) rfl ⟨200, rfl, by simp, HB.out.trans (HB1.out.mono HB.out.size)⟩
  · have E : Hid (whoV l s = whF l (plN l l.length) s) := by unfold Hid whoV; rw [hv]; rfl
    rw [hv] at CW
    obtain ⟨u, hu⟩ : ∃ u, u = whF l (plN l l.length) := ⟨_, rfl⟩
    rw [← hu] at CW CA E
    rw [E.out]
    obtain ⟨v, hvv⟩ : ∃ v, v = u s := ⟨_, rfl⟩
    rw [← hvv] at CA
    rw [← hvv]
    obtain ⟨er, her⟩ : ∃ er, er = (if v = 0 then (4 : Int) else 0) := ⟨_, rfl⟩
    rw [← her] at CA
    have HER : Hid (er = 0 ↔ v ≠ 0) := by
      unfold Hid; rw [her]
      by_cases h : v = 0 <;> simp [h]
    clear hE hw hS hb hv E hu hvv her
    go_enter Try.func41, Try.ntmps41
    go_wp2_with (first
      | (go_at_call 33; refine Calls.mono CW ?_; rintro e w1 ⟨m, rfl, hm, hb⟩; obtain ⟨b, n, rfl, hmap, _⟩ := hm rfl; have HM := hidOg hmap; have HB1 := hidOg (HB.out.trans (hb.mono HB.out.size)); clear hb hm hmap)
      | (go_at_call 42; refine Calls.mono (CA _ HB1.out _ _ HM.out) ?_; rintro e w2 ⟨rfl, hw⟩; rw [hw]; clear hw w2))
    exact bodyPost_ret (v := .tuple #[.int .i64 v, .int .i64 er]) (by simp [results, Try.results41, go_sem]) rfl ⟨_, rfl, HER.out, HB1.out⟩
theorem who19 (p : Option Addr) (l : List Sp) (c : Nat) (s : Sp) (w : World) (hE : SRow w.heap.size w p l) (hw : wfL l) (hl : l.length ≤ 1099511627776) (hs : wfS s) :
    Calls Try.prog 19 #[.agg #[.slice p l.length c], .agg #[.int .i64 s.1, .int .i64 s.2]] w fun e w' => e = .returned (.tuple #[.int .i64 (whoV l s), .bool (!decide (whoV l s = 0))]) ∧ Below w.heap.size w w' := by
  have hb := al2b w (.cells #[.slice p l.length c] 24) (.cells #[.int .i64 s.1, .int .i64 s.2] 34)
  obtain ⟨q0, q1⟩ := al2 w (.cells #[.slice p l.length c] 24) (.cells #[.int .i64 s.1, .int .i64 s.2] 34)
  have CG := guarded41 (w.heap.size + 1) p l c s _ (hE.to hb) hw hl hs q1
  have HB := hidOg hb
  obtain ⟨a, d⟩ := s
  obtain ⟨v, hv⟩ : ∃ v, v = whoV l (a, d) := ⟨_, rfl⟩
  rw [← hv] at CG
  rw [← hv]
  clear hE hw hb q0 q1 hs hv
  go_enter Try.func19, Try.ntmps19
  go_wp2_with (first | (go_at_call 41; refine Calls.mono CG ?_; rintro e w1 ⟨er, rfl, her, hb⟩; have HE := hidOg her; have HB2 := hidOg (HB.out.trans (hb.mono HB.out.size)); clear her hb))
  refine bodyPost_ret (v := .tuple #[.int .i64 v, .bool (er == 0)]) (by simp [results, Try.results19, go_sem]) rfl ⟨?_, HB2.out⟩
  have : (er == 0) = !decide (v = 0) := by
    rw [Bool.eq_iff_iff]; simp; exact HE.out
  rw [this]
end Go.Proofs.Ytijlkdppjmfbhaa
