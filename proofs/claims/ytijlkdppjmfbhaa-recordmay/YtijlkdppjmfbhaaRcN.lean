/- record: Drop, Swap. -/
import Derived.Test.YtijlkdppjmfbhaaRcL
import Derived.Test.YtijlkdppjmfbhaaRcE
namespace Go.Proofs.Ytijlkdppjmfbhaa
open Go.RowKit Go.Sort Go.Maps

def drA (l : List Sp) (i : Int) : List Sp × Int := if fiB l i then (cutL ((extS l i.toNat).set (i.toNat - 1) (0, 0)), 0) else ([], 4)
theorem fiB_ex {l : List Sp} {i : Int} (h : fiB l i = true) : ∃ k : Nat, i = (k : Int) + 1 ∧ k < l.length ∧ ¬ sG l k = (0, 0) := by
  unfold fiB at h
  simp only [Bool.and_eq_true, decide_eq_true_eq, Bool.not_eq_true', decide_eq_false_iff_not] at h
  refine ⟨i.toNat - 1, by omega, by omega, h.2.2⟩
set_option maxHeartbeats 2000000 in
theorem drop49 (R I : Nat) (m : Value) (p : Option Addr) (l : List Sp) (c : Nat) (i : Int) (w : World) (hE : SRow w.heap.size w p l) (hl : l.length ≤ 1048578) (hR : w.heap[R]? = some (.cells #[.slice p l.length c] 24)) (hI : w.heap[I]? = some (.cells #[.int .i64 i] 3)) :
    Calls Try.prog 49 #[m, .pointer (some ⟨R, 0, none⟩), .pointer (some ⟨I, 0, none⟩)] w fun e w' => AnsG (drA l i).1 (drA l i).2 w e w' := by
  have hb0 := bal w (.cells #[.slice none 0 0] 24)
  have HB0 := hidOg hb0
  have HN := hidOg (blk1 (W := w) (o := .cells #[.slice none 0 0] 24))
  have HS0 : Hid ((w.alloc (.cells #[.slice none 0 0] 24)).heap.size = w.heap.size + 1) := by unfold Hid; simp
  have i0 := cell1_heap (atW hb0 hI)
  have r0 := cell1_heap (atW hb0 hR)
  have CF := find37 p l c i _ (hE.to hb0) (by omega)
  cases hf : fiB l i
  · have E : Hid (drA l i = ([], 4)) := by unfold Hid drA; rw [hf]; rfl
    have e2 : fiA l i = ((0, 0), 4) := by unfold fiA; rw [hf]; rfl
    rw [e2] at CF
    rw [E.out]
    clear hE hR hI hb0 hf E e2
    go_enter Try.func49, Try.ntmps49
    go_wp2_with (first | (go_at_call 37; refine Calls.mono CF ?_; rintro e w1 ⟨rfl, hb⟩; have z1 := atW hb HN.out; have y1 := cell1_heap z1; have f1 := fr_heap z1; have HZ1 := hidOg z1; have HB1 := hidOg (HB0.out.trans (hb.mono HB0.out.size)); have hlt : w.heap.size < w1.heap.size := (by have := hb.size; rw [HS0.out] at this; omega); clear hb z1))
    have hc0 : (w1.setCell ⟨w.heap.size, 0, none⟩ (.slice none 0 0)).heap[w.heap.size]? = some (.cells #[.slice none 0 0] 24) := set1_heap HZ1.out _
    have f0 := cell1_heap (atW (bal _ (.cells #[.int .i64 0, .int .i64 0] 34)) hc0)
    exact bodyPost_ret (v := .tuple #[.agg #[.slice none 0 0], .int .i64 4]) (by simp [results, Try.results49, go_sem, f0]) rfl (AnsG.no ((HB1.out.setCell (p := ⟨w.heap.size, 0, none⟩) (Nat.le_refl _) _).alloc (by rw [set1_size]; omega) _))
  · obtain ⟨k, rfl, hk, hs⟩ := fiB_ex hf
    have hk1 : ((k : Int) + 1).toNat = k + 1 := by omega
    have E : Hid (drA l ((k : Int) + 1) = (cutL ((extS l (k + 1)).set k (0, 0)), 0)) := by unfold Hid drA; rw [hf, if_pos rfl, hk1, Nat.add_sub_cancel]
    have e2 : fiA l ((k : Int) + 1) = (sG l k, 0) := by unfold fiA; rw [hf, if_pos rfl, hk1, Nat.add_sub_cancel]
    rw [e2] at CF
    have CH := fun (W : World) (hb : Below w.heap.size w W) => chD I p l c k W (hE.to hb) (by omega) (by omega) (atW hb hI)
    have HCE : Hid (∀ W, Below w.heap.size w W → W.cell? ⟨I, 0, none⟩ = some (.int .i64 ((k : Int) + 1)) ∧ W.cell? ⟨R, 0, none⟩ = some (.slice p l.length c)) := fun W hb => ⟨cell1_heap (atW hb hI), cell1_heap (atW hb hR)⟩
    rw [E.out]
    obtain ⟨⟨a, d⟩, hs2⟩ : ∃ s, s = sG l k := ⟨_, rfl⟩
    rw [← hs2] at CF
    obtain ⟨X, hX⟩ : ∃ X, X = cutL ((extS l (k + 1)).set k (0, 0)) := ⟨_, rfl⟩
    rw [← hX] at CH
    rw [← hX]
    have HCH := hidOg CH
    clear hE hR hI hb0 hf E e2 hs hs2 hX CH hk1
    go_enter Try.func49, Try.ntmps49
    go_wp2_with (first
      | (go_at_call 37; refine Calls.mono CF ?_; rintro e w1 ⟨rfl, hb⟩; have z1 := atW (hb.trans ((bal w1 (.cells #[.int .i64 a, .int .i64 d] 34)).mono hb.size)) HN.out; have HZ1 := hidOg z1; have hb1 := (HB0.out.trans (hb.mono HB0.out.size)); have hb2 := hb1.trans ((bal w1 (.cells #[.int .i64 a, .int .i64 d] 34)).mono hb1.size); obtain ⟨c1, c2⟩ := HCE.out _ hb2; have HB1 := hidOg hb2; have HLT : Hid (w.heap.size + 1 ≤ (w1.alloc (.cells #[.int .i64 a, .int .i64 d] 34)).heap.size) := (by have h1 := hb.size; rw [HS0.out] at h1; unfold Hid; rw [World.size_alloc]; omega); clear hb z1 hb1 hb2)
      | (go_at_call 46; refine Calls.mono (HCH.out _ HB1.out) ?_; rintro e w2 ⟨q, dd, rfl, hg, hb⟩; have z2 := atW hb HZ1.out; have y2 := cell1_heap z2; have f2 := fr_heap z2; have HG := hidOg (hg.weak HLT.out); have HB2 := hidOg (HB1.out.trans (hb.mono HB1.out.size)); clear hb hg z2))
    exact bodyPost_ret (v := .tuple #[.agg #[.slice q X.length dd], .int .i64 0]) (by simp [results, Try.results49, go_sem, y2]) rfl ⟨q, dd, rfl, (HG.out.setC (Nat.lt_succ_self _) _).weak (Nat.le_succ _), HB2.out.setCell (p := ⟨w.heap.size, 0, none⟩) (Nat.le_refl _) _⟩
/-- Drop, whatever records. -/
def drR (l : List Sp) (i : Int) : List Sp × Int := if mayS l then drA l i else ([], 200)
set_option maxHeartbeats 1000000 in
theorem drop43 (R I : Nat) (p : Option Addr) (l : List Sp) (c : Nat) (i : Int) (w : World) (hE : SRow w.heap.size w p l) (hw : wfL l) (hl : l.length ≤ 1099511627776) (hR : w.heap[R]? = some (.cells #[.slice p l.length c] 24)) (hI : w.heap[I]? = some (.cells #[.int .i64 i] 3)) :
    Calls Try.prog 43 #[.agg #[.slice p l.length c], .func (.func 49) #[] #[.pointer (some ⟨R, 0, none⟩), .pointer (some ⟨I, 0, none⟩)]] w fun e w' => AnsG (drR l i).1 (drR l i).2 w e w' := by
  have CA := fun (W : World) (hb : Below w.heap.size w W) (hm : mayS l = true) (mv : Value) => drop49 R I mv p l c i W (hE.to hb) (mayS_bd hm).1 (atW hb hR) (atW hb hI)
  obtain ⟨A, hA⟩ : ∃ A, A = drA l i := ⟨_, rfl⟩
  have HR : Hid (drR l i = if mayS l then A else ([], 200)) := by rw [hA]; rfl
  rw [← hA] at CA
  have CW := whoStands33 p l c _ (hE.to (al2b w (.cells #[.slice p l.length c] 24) (.cells #[.slice none 0 0] 24))) hw hl
  obtain ⟨q0, q1⟩ := al2 w (.cells #[.slice p l.length c] 24) (.cells #[.slice none 0 0] 24)
  have HB := hidOg (al2b w (.cells #[.slice p l.length c] 24) (.cells #[.slice none 0 0] 24))
  have HN := hidOg q1
  have HS2 : Hid (((w.alloc (.cells #[.slice p l.length c] 24)).alloc (.cells #[.slice none 0 0] 24)).heap.size = w.heap.size + 2) := by unfold Hid; simp
  have hx := cell1_heap q0
  unfold AnsW at CW
  obtain ⟨v, hv⟩ : ∃ v, v = mayS l := ⟨_, rfl⟩
  rw [← hv] at CW HR CA
  clear hE hw hR hI q0 q1 hv hA
  cases v
  · have E : Hid (drR l i = ([], 200)) := HR.out
    rw [E.out]
    clear CA
    go_enter Try.func43, Try.ntmps43
    go_wp2_with (first | (go_at_call 33; refine Calls.mono CW ?_; rintro e w1 ⟨m, rfl, _, hb⟩; have z1 := atW hb HN.out; have y0 := cell1_heap z1; have yf := fr_heap z1; have HZ1 := hidOg z1; have HB1 := hidOg (HB.out.trans (hb.mono HB.out.size)); have hlt : w.heap.size + 1 < w1.heap.size := (by have := hb.size; rw [HS2.out] at this; omega); clear hb z1))
    have hbb := (HB1.out.setCell (p := ⟨w.heap.size + 1, 0, none⟩) (Nat.le_succ _) (.slice none 0 0))
    have hc0 : (w1.setCell ⟨w.heap.size + 1, 0, none⟩ (.slice none 0 0)).heap[w.heap.size + 1]? = some (.cells #[.slice none 0 0] 24) := set1_heap HZ1.out _
    have f0 := cell1_heap (atW (bal _ (.cells #[.slice none 0 0] 24)) hc0)
    exact bodyPost_ret (v := .tuple #[.agg #[.slice none 0 0], .int .i64 200]) (by simp [results, Try.results43, go_sem, f0]) rfl (AnsG.no (hbb.alloc (by rw [set1_size]; omega) _))
  · have E : Hid (drR l i = A) := HR.out
    rw [E.out]
    clear E HR
    obtain ⟨X, er⟩ := A
    have CB := fun (W : World) (hb : Below w.heap.size w W) (mv : Value) => CA W hb rfl mv
    clear CA
    go_enter Try.func43, Try.ntmps43
    go_wp2_with (first
      | (go_at_call 33; refine Calls.mono CW ?_; rintro e w1 ⟨m, rfl, hm, hb⟩; have z1 := atW hb HN.out; have HZ1 := hidOg z1; have HB1 := hidOg (HB.out.trans (hb.mono HB.out.size)); have HLT : Hid (w.heap.size + 1 + 1 ≤ w1.heap.size) := (by have := hb.size; rw [HS2.out] at this; exact this); clear hb z1 hm)
      | (go_at_call 49; refine Calls.mono (CB _ HB1.out _) ?_; rintro e w2 ⟨q, dd, rfl, hg, hb⟩; have z2 := atW hb HZ1.out; have y2 := cell1_heap z2; have f2 := fr_heap z2; have HG := hidOg hg; have HB2 := hidOg (HB1.out.trans (hb.mono HB1.out.size)); clear hb hg z2))
    exact bodyPost_ret (v := .tuple #[.agg #[.slice q X.length dd], .int .i64 er]) (by simp [results, Try.results43, go_sem, y2]) rfl ⟨q, dd, rfl, ((HG.out.weak (B' := w.heap.size + 2) HLT.out).setC (by omega) _).weak (by omega), HB2.out.setCell (p := ⟨w.heap.size + 1, 0, none⟩) (by simp) _⟩
theorem drop23 (p : Option Addr) (l : List Sp) (c : Nat) (i : Int) (w : World) (hE : SRow w.heap.size w p l) (hw : wfL l) (hl : l.length ≤ 1099511627776) :
    Calls Try.prog 23 #[.agg #[.slice p l.length c], .int .i64 i] w fun e w' => AnsG (drR l i).1 (drR l i).2 w e w' := by
  obtain ⟨q0, q1, q2⟩ := al3 w (.cells #[.slice p l.length c] 24) (.cells #[.int .i64 i] 3) (.cells #[.slice none 0 0] 24)
  have hb := al3b w (.cells #[.slice p l.length c] 24) (.cells #[.int .i64 i] 3) (.cells #[.slice none 0 0] 24)
  have s4 : (((w.alloc (.cells #[.slice p l.length c] 24)).alloc (.cells #[.int .i64 i] 3)).alloc (.cells #[.slice none 0 0] 24)).heap.size = w.heap.size + 3 := by simp
  have CG := drop43 w.heap.size (w.heap.size + 1) p l c i _ (hE.to hb) hw hl q0 q1
  have HB := hidOg hb
  have HN := hidOg q2
  have HS4 := hidOg s4
  have hx := cell1_heap q0
  obtain ⟨⟨X, er⟩, hA⟩ : ∃ A, A = drR l i := ⟨_, rfl⟩
  rw [← hA] at CG
  rw [← hA]
  clear hE hw hb q0 q1 q2 s4 hA
  go_enter Try.func23, Try.ntmps23
  go_wp2_with (first | (go_at_call 43; refine Calls.mono CG ?_; rintro e w1 ⟨q, dd, rfl, hg, hb⟩; have z1 := atW hb HN.out; have y1 := cell1_heap z1; have f1 := fr_heap z1; have HG := hidOg hg; have HB1 := hidOg (HB.out.trans (hb.mono HB.out.size)); clear hb hg z1))
  exact bodyPost_ret (v := .tuple #[.agg #[.slice q X.length dd], .int .i64 er]) (by simp [results, Try.results23, go_sem, y1]) rfl ⟨q, dd, rfl, ((HG.out.weak (B' := w.heap.size + 3) (by rw [HS4.out]; exact Nat.le_refl _)).setC (by omega) _).weak (by omega), HB1.out.setCell (p := ⟨w.heap.size + 1 + 1, 0, none⟩) (by simp; omega) _⟩
/-! Swap -/
def swA (l : List Sp) (i last : Int) : List Sp × Int :=
  if fiB l i then
    if abB l (sG l (i.toNat - 1)).1 last then ([], 2) else if whF l (plN l l.length) ((sG l (i.toNat - 1)).1, last) = 0 then ([], 2)
    else (cutL (((extS l i.toNat).set ((whF l (plN l l.length) ((sG l (i.toNat - 1)).1, last)).toNat - 1) (sG l (i.toNat - 1))).set (i.toNat - 1) (0, 0)), 0)
  else ([], 4)
theorem whF_ex {l : List Sp} {pre : List Nat} {s : Sp} (h : whF l pre s ≠ 0) : ∃ j, j ∈ pre ∧ sG l j = s ∧ whF l pre s = (j : Int) + 1 := by
  unfold whF at h ⊢
  cases hf : pre.find? (fun k => decide (sG l k = s)) with
  | none => rw [hf] at h; exact absurd rfl h
  | some k => exact ⟨k, List.mem_of_find?_eq_some hf, by simpa using List.find?_some hf, rfl⟩
end Go.Proofs.Ytijlkdppjmfbhaa
