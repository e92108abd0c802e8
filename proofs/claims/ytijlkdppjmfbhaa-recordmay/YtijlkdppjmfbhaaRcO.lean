/- record: Swap. -/
import Derived.Test.YtijlkdppjmfbhaaRcN
namespace Go.Proofs.Ytijlkdppjmfbhaa
open Go.RowKit Go.Sort Go.Maps

set_option maxHeartbeats 4000000 in
theorem swap51 (R I L b n m : Nat) (p : Option Addr) (l : List Sp) (c : Nat) (i last : Int) (w : World) (hE : SRow w.heap.size w p l) (hw : wfL l) (hl : l.length ≤ 1048578) (hla : wfI last) (hM : MapS w b n m (whF l (plN l l.length))) (hR : w.heap[R]? = some (.cells #[.slice p l.length c] 24)) (hI : w.heap[I]? = some (.cells #[.int .i64 i] 3)) (hL : w.heap[L]? = some (.cells #[.int .i64 last] 3)) :
    Calls Try.prog 51 #[.map (some b), .pointer (some ⟨R, 0, none⟩), .pointer (some ⟨I, 0, none⟩), .pointer (some ⟨L, 0, none⟩)] w fun e w' => AnsG (swA l i last).1 (swA l i last).2 w e w' := by
  have hb0 := bal w (.cells #[.slice none 0 0] 24)
  have HB0 := hidOg hb0
  have HN := hidOg (blk1 (W := w) (o := .cells #[.slice none 0 0] 24))
  have HS0 : Hid ((w.alloc (.cells #[.slice none 0 0] 24)).heap.size = w.heap.size + 1) := by unfold Hid; simp
  have i0 := cell1_heap (atW hb0 hI)
  have r0 := cell1_heap (atW hb0 hR)
  have CF := find37 p l c i _ (hE.to hb0) (by omega)
  cases hf : fiB l i
  · have E : Hid (swA l i last = ([], 4)) := by unfold Hid swA; rw [hf]; rfl
    have e2 : fiA l i = ((0, 0), 4) := by unfold fiA; rw [hf]; rfl
    rw [e2] at CF
    rw [E.out]
    clear hE hR hI hL hM hb0 hf E e2
    go_enter Try.func51, Try.ntmps51
    go_wp2_with (first | (go_at_call 37; refine Calls.mono CF ?_; rintro e w1 ⟨rfl, hb⟩; have z1 := atW hb HN.out; have y1 := cell1_heap z1; have f1 := fr_heap z1; have HZ1 := hidOg z1; have HB1 := hidOg (HB0.out.trans (hb.mono HB0.out.size)); have hlt : w.heap.size < w1.heap.size := (by have := hb.size; rw [HS0.out] at this; omega); clear hb z1))
    have hc0 : (w1.setCell ⟨w.heap.size, 0, none⟩ (.slice none 0 0)).heap[w.heap.size]? = some (.cells #[.slice none 0 0] 24) := set1_heap HZ1.out _
    have f0 := cell1_heap (atW (bal _ (.cells #[.int .i64 0, .int .i64 0] 34)) hc0)
    exact bodyPost_ret (v := .tuple #[.agg #[.slice none 0 0], .int .i64 4]) (by simp [results, Try.results51, go_sem, f0]) rfl (AnsG.no ((HB1.out.setCell (p := ⟨w.heap.size, 0, none⟩) (Nat.le_refl _) _).alloc (by rw [set1_size]; omega) _))
  · obtain ⟨k, rfl, hk, hs⟩ := fiB_ex hf
    have hk1 : ((k : Int) + 1).toNat = k + 1 := by omega
    have e2 : fiA l ((k : Int) + 1) = (sG l k, 0) := by unfold fiA; rw [hf, if_pos rfl, hk1, Nat.add_sub_cancel]
    rw [e2] at CF
    have HSW : Hid (swA l ((k : Int) + 1) last = if abB l (sG l k).1 last then ([], 2) else if whF l (plN l l.length) ((sG l k).1, last) = 0 then ([], 2) else (cutL (((extS l (k + 1)).set ((whF l (plN l l.length) ((sG l k).1, last)).toNat - 1) (sG l k)).set k (0, 0)), 0)) := by
      unfold Hid swA; rw [hf, if_pos rfl, hk1, Nat.add_sub_cancel]
    have CAB := fun (W : World) (hb : Below w.heap.size w W) => hasAbove52 p l c (sG l k).1 last W (hE.to hb) (by omega)
    have hwk := hw.at k
    have hat : ∀ W, Below w.heap.size w W → (Instr.lookup 59 (.map (some b)) (.agg #[.int .i64 (sG l k).1, .int .i64 last]) false).run Try.prog W = .ok (.int .i64 (whF l (plN l l.length) ((sG l k).1, last))) W := fun W hb => (hM.to hb).look (s := ((sG l k).1, last)) ⟨hwk.1, hla⟩
    have hwx := fun h => whF_ex (l := l) (pre := plN l l.length) (s := ((sG l k).1, last)) h
    have hmem := fun j => (plN_mem (l := l) (k := j)).1
    have CH := fun (S F : Nat) (j : Nat) (hj : j < l.length) (W : World) (hb : Below w.heap.size w W) hF hS => chS S F I p l c k j (sG l k) W (hE.to hb) (by omega) (by omega) (by omega) (atW hb hI) hF hS
    have HCE : Hid (∀ W, Below w.heap.size w W → W.cell? ⟨I, 0, none⟩ = some (.int .i64 ((k : Int) + 1)) ∧ W.cell? ⟨R, 0, none⟩ = some (.slice p l.length c) ∧ W.cell? ⟨L, 0, none⟩ = some (.int .i64 last)) := fun W hb => ⟨cell1_heap (atW hb hI), cell1_heap (atW hb hR), cell1_heap (atW hb hL)⟩
    obtain ⟨⟨a, d⟩, hs2⟩ : ∃ s, s = sG l k := ⟨_, rfl⟩
    rw [← hs2] at CF HSW CAB hat hwx CH
    obtain ⟨v, hv⟩ : ∃ v, v = whF l (plN l l.length) (a, last) := ⟨_, rfl⟩
    have hv' : whF l (plN l l.length) ((a, d).1, last) = v := hv.symm
    rw [hv'] at HSW hat hwx
    obtain ⟨ab, hab⟩ : ∃ ab, ab = abB l a last := ⟨_, rfl⟩
    have hab' : abB l (a, d).1 last = ab := hab.symm
    rw [hab'] at HSW CAB
    have HAT := hidOg hat
    dsimp only at CAB HAT
    have HCAB := hidOg CAB
    clear hE hR hI hL hM hb0 hf e2 hs hs2 hk1 hat hv hv' hab hab' hwk CAB hw
    -- behind find: the box of the spot
    have ARM : Hid (∀ w1, Below (w.alloc (.cells #[.slice none 0 0] 24)).heap.size (w.alloc (.cells #[.slice none 0 0] 24)) w1 → (Below w.heap.size w (w1.alloc (.cells #[.int .i64 a, .int .i64 d] 34)) ∧ (w1.alloc (.cells #[.int .i64 a, .int .i64 d] 34)).heap[w.heap.size]? = some (.cells #[.slice none 0 0] 24) ∧ (w1.alloc (.cells #[.int .i64 a, .int .i64 d] 34)).heap[w1.heap.size]? = some (.cells #[.int .i64 a, .int .i64 d] 34)) ∧ w.heap.size + 1 ≤ w1.heap.size) := fun w1 hb => by
      have hb1 := HB0.out.trans (hb.mono HB0.out.size)
      have hbx := bal w1 (.cells #[.int .i64 a, .int .i64 d] 34)
      exact ⟨⟨hb1.trans (hbx.mono hb1.size), atW hbx (atW hb HN.out), blk1⟩, by have h1 := hb.size; rw [HS0.out] at h1; exact h1⟩
    cases ab
    · by_cases h0 : v = 0
      · have E : Hid (swA l ((k : Int) + 1) last = ([], 2)) := HSW.out.trans (if_pos h0)
        rw [E.out]
        clear HSW E CH hwx hmem
        subst h0
        go_enter Try.func51, Try.ntmps51
        go_wp2_with (first
          | (go_at_call 37; refine Calls.mono CF ?_; rintro e w1 ⟨rfl, hb⟩; obtain ⟨⟨hb1, z1, z2⟩, hlt⟩ := ARM.out _ hb; obtain ⟨c1, c2, c3⟩ := HCE.out _ hb1; obtain ⟨y0, y1, _⟩ := cell2_heap z2; have HB1 := hidOg hb1; have HZ1 := hidOg z1; have HZ2 := hidOg z2; have HLT := hidOg hlt; clear hb hb1 z1 z2 hlt)
          | (go_at_call 52; refine Calls.mono (HCAB.out _ HB1.out) ?_; rintro e w2 ⟨rfl, hb⟩; have hb2 := HB1.out.trans (hb.mono HB1.out.size); obtain ⟨c1, c2, c3⟩ := HCE.out _ hb2; have z2 := atW hb HZ2.out; obtain ⟨y0, y1, _⟩ := cell2_heap z2; have hlk := HAT.out _ hb2; have z1 := atW hb HZ1.out; have x1 := cell1_heap z1; have xf := fr_heap z1; have HB2 := hidOg hb2; have HZ12 := hidOg z1; have hlw : w.heap.size < w2.heap.size := (Array.getElem?_eq_some_iff.1 z1).1; clear hb hb2 z1 z2))
        have hc0 : (w2.setCell ⟨w.heap.size, 0, none⟩ (.slice none 0 0)).heap[w.heap.size]? = some (.cells #[.slice none 0 0] 24) := set1_heap HZ12.out _
        have f0 := cell1_heap (atW (bal _ (.cells #[.int .i64 0] 3)) hc0)
        exact bodyPost_ret (v := .tuple #[.agg #[.slice none 0 0], .int .i64 2]) (by simp [results, Try.results51, go_sem, f0]) rfl (AnsG.no ((HB2.out.setCell (p := ⟨w.heap.size, 0, none⟩) (Nat.le_refl _) _).alloc (by rw [set1_size]; omega) _))
      · obtain ⟨j, hj, _, hvj⟩ := hwx h0
        have hjl := (hmem j hj).1
        have hj1 : v.toNat - 1 = j := by omega
        have hvj' : v = (j : Int) + 1 := hvj
        have E : Hid (swA l ((k : Int) + 1) last = (cutL (((extS l (k + 1)).set j (a, d)).set k (0, 0)), 0)) := by
          have e := HSW.out.trans (if_neg h0)
          rw [hj1] at e; exact e
        have CI := fun (S F : Nat) (W : World) (hb : Below w.heap.size w W) hF hS => CH S F j hjl W hb hF hS
        have hd0 : (v == 0) = false := by simpa using h0
        rw [E.out]
        obtain ⟨X, hX⟩ : ∃ X, X = cutL (((extS l (k + 1)).set j (a, d)).set k (0, 0)) := ⟨_, rfl⟩
        rw [← hX] at CI
        rw [← hX]
        rw [← hvj'] at CI
        have HCI := hidOg CI
        clear HSW E CH hwx hmem hj hjl hj1 hvj hvj' hX h0 CI
        go_enter Try.func51, Try.ntmps51
        go_wp2_with (first
          | (go_at_call 37; refine Calls.mono CF ?_; rintro e w1 ⟨rfl, hb⟩; obtain ⟨⟨hb1, z1, z2⟩, hlt⟩ := ARM.out _ hb; obtain ⟨c1, c2, c3⟩ := HCE.out _ hb1; obtain ⟨y0, y1, _⟩ := cell2_heap z2; have HB1 := hidOg hb1; have HZ1 := hidOg z1; have HZ2 := hidOg z2; have HLT := hidOg hlt; clear hb hb1 z1 z2 hlt)
          | (go_at_call 52; refine Calls.mono (HCAB.out _ HB1.out) ?_; rintro e w2 ⟨rfl, hb⟩; have hb2 := HB1.out.trans (hb.mono HB1.out.size); obtain ⟨c1, c2, c3⟩ := HCE.out _ hb2; have z2 := atW hb HZ2.out; obtain ⟨y0, y1, _⟩ := cell2_heap z2; have hlk := HAT.out _ hb2; have hbx := bal w2 (.cells #[.int .i64 v] 3); have HB2 := hidOg (hb2.trans (hbx.mono hb2.size)); have HZ12 := hidOg (atW hbx (atW hb HZ1.out)); have HZ22 := hidOg (atW hbx z2); obtain ⟨d1, d2, d3⟩ := HCE.out _ HB2.out; have HLT2 : Hid (w.heap.size + 1 ≤ (w2.alloc (.cells #[.int .i64 v] 3)).heap.size) := (Array.getElem?_eq_some_iff.1 HZ12.out).1; clear hb hb2 z2 hbx)
          | (go_at_call 46; refine Calls.mono (HCI.out _ _ _ HB2.out blk1 HZ22.out) ?_; rintro e w3 ⟨q, dd, rfl, hg, hb⟩; have z3 := atW hb HZ12.out; have x3 := cell1_heap z3; have xf := fr_heap z3; have HG := hidOg (hg.weak HLT2.out); have HB3 := hidOg (HB2.out.trans (hb.mono HB2.out.size)); clear hb hg z3))
        exact bodyPost_ret (v := .tuple #[.agg #[.slice q X.length dd], .int .i64 0]) (by simp [results, Try.results51, go_sem, x3]) rfl ⟨q, dd, rfl, (HG.out.setC (Nat.lt_succ_self _) _).weak (Nat.le_succ _), HB3.out.setCell (p := ⟨w.heap.size, 0, none⟩) (Nat.le_refl _) _⟩
    · have E : Hid (swA l ((k : Int) + 1) last = ([], 2)) := HSW.out
      rw [E.out]
      clear HSW E CH hwx hmem
      go_enter Try.func51, Try.ntmps51
      go_wp2_with (first
        | (go_at_call 37; refine Calls.mono CF ?_; rintro e w1 ⟨rfl, hb⟩; obtain ⟨⟨hb1, z1, z2⟩, hlt⟩ := ARM.out _ hb; obtain ⟨c1, c2, c3⟩ := HCE.out _ hb1; obtain ⟨y0, y1, _⟩ := cell2_heap z2; have HB1 := hidOg hb1; have HZ1 := hidOg z1; have HZ2 := hidOg z2; have HLT := hidOg hlt; clear hb hb1 z1 z2 hlt)
        | (go_at_call 52; refine Calls.mono (HCAB.out _ HB1.out) ?_; rintro e w2 ⟨rfl, hb⟩; have hb2 := HB1.out.trans (hb.mono HB1.out.size); have z1 := atW hb HZ1.out; have x1 := cell1_heap z1; have xf := fr_heap z1; have HB2 := hidOg hb2; clear hb hb2 z1))
      exact bodyPost_ret (v := .tuple #[.agg #[.slice none 0 0], .int .i64 2]) (by simp [results, Try.results51, go_sem, x1]) rfl (AnsG.no (HB2.out.setCell (p := ⟨w.heap.size, 0, none⟩) (Nat.le_refl _) _))
/-- Swap, whatever records. -/
def swR (l : List Sp) (i last : Int) : List Sp × Int := if mayS l then swA l i last else ([], 200)
set_option maxHeartbeats 1000000 in
theorem swap43 (R I L : Nat) (p : Option Addr) (l : List Sp) (c : Nat) (i last : Int) (w : World) (hE : SRow w.heap.size w p l) (hw : wfL l) (hl : l.length ≤ 1099511627776) (hla : wfI last) (hR : w.heap[R]? = some (.cells #[.slice p l.length c] 24)) (hI : w.heap[I]? = some (.cells #[.int .i64 i] 3)) (hL : w.heap[L]? = some (.cells #[.int .i64 last] 3)) :
    Calls Try.prog 43 #[.agg #[.slice p l.length c], .func (.func 51) #[] #[.pointer (some ⟨R, 0, none⟩), .pointer (some ⟨I, 0, none⟩), .pointer (some ⟨L, 0, none⟩)]] w fun e w' => AnsG (swR l i last).1 (swR l i last).2 w e w' := by
  have CA := fun (W : World) (hb : Below w.heap.size w W) (hm : mayS l = true) (b n : Nat) (hM : MapS W b n n (whF l (plN l l.length))) => swap51 R I L b n n p l c i last W (hE.to hb) hw (mayS_bd hm).1 hla hM (atW hb hR) (atW hb hI) (atW hb hL)
  obtain ⟨A, hA⟩ : ∃ A, A = swA l i last := ⟨_, rfl⟩
  have HR : Hid (swR l i last = if mayS l then A else ([], 200)) := by rw [hA]; rfl
  rw [← hA] at CA
  have CW := whoStands33 p l c _ (hE.to (al2b w (.cells #[.slice p l.length c] 24) (.cells #[.slice none 0 0] 24))) hw hl
  obtain ⟨q0, q1⟩ := al2 w (.cells #[.slice p l.length c] 24) (.cells #[.slice none 0 0] 24)
  have HB := hidOg (al2b w (.cells #[.slice p l.length c] 24) (.cells #[.slice none 0 0] 24))
  have HN := hidOg q1
  have HS2 : Hid (((w.alloc (.cells #[.slice p l.length c] 24)).alloc (.cells #[.slice none 0 0] 24)).heap.size = w.heap.size + 2) := by unfold Hid; simp
  have hx := cell1_heap q0
  unfold AnsW at CW
  obtain ⟨v, hv⟩ : ∃ v, v = mayS l := ⟨_, rfl⟩
  rw [← hv] at CW HR CA
  clear hE hw hR hI hL q0 q1 hv hA
  cases v
  · have E : Hid (swR l i last = ([], 200)) := HR.out
    rw [E.out]
    clear CA
    go_enter Try.func43, Try.ntmps43
    go_wp2_with (first | (go_at_call 33; refine Calls.mono CW ?_; rintro e w1 ⟨m, rfl, _, hb⟩; have z1 := atW hb HN.out; have y0 := cell1_heap z1; have yf := fr_heap z1; have HZ1 := hidOg z1; have HB1 := hidOg (HB.out.trans (hb.mono HB.out.size)); have hlt : w.heap.size + 1 < w1.heap.size := (by have := hb.size; rw [HS2.out] at this; omega); clear hb z1))
    have hbb := (HB1.out.setCell (p := ⟨w.heap.size + 1, 0, none⟩) (Nat.le_succ _) (.slice none 0 0))
    have hc0 : (w1.setCell ⟨w.heap.size + 1, 0, none⟩ (.slice none 0 0)).heap[w.heap.size + 1]? = some (.cells #[.slice none 0 0] 24) := set1_heap HZ1.out _
    have f0 := cell1_heap (atW (bal _ (.cells #[.slice none 0 0] 24)) hc0)
    exact bodyPost_ret (v := .tuple #[.agg #[.slice none 0 0], .int .i64 200]) (by simp [results, Try.results43, go_sem, f0]) rfl (AnsG.no (hbb.alloc (by rw [set1_size]; omega) _))
  · have E : Hid (swR l i last = A) := HR.out
    rw [E.out]
    clear E HR
    obtain ⟨X, er⟩ := A
    have CB := fun (W : World) (hb : Below w.heap.size w W) (b n : Nat) (hM : MapS W b n n (whF l (plN l l.length))) => CA W hb rfl b n hM
    clear CA
    go_enter Try.func43, Try.ntmps43
    go_wp2_with (first
      | (go_at_call 33; refine Calls.mono CW ?_; rintro e w1 ⟨m, rfl, hm, hb⟩; obtain ⟨b, n, rfl, hmap, _⟩ := hm rfl; have z1 := atW hb HN.out; have HM := hidOg hmap; have HZ1 := hidOg z1; have HB1 := hidOg (HB.out.trans (hb.mono HB.out.size)); have HLT : Hid (w.heap.size + 1 + 1 ≤ w1.heap.size) := (by have := hb.size; rw [HS2.out] at this; exact this); clear hb z1 hm hmap)
      | (go_at_call 51; refine Calls.mono (CB _ HB1.out _ _ HM.out) ?_; rintro e w2 ⟨q, dd, rfl, hg, hb⟩; have z2 := atW hb HZ1.out; have y2 := cell1_heap z2; have f2 := fr_heap z2; have HG := hidOg hg; have HB2 := hidOg (HB1.out.trans (hb.mono HB1.out.size)); clear hb hg z2))
    exact bodyPost_ret (v := .tuple #[.agg #[.slice q X.length dd], .int .i64 er]) (by simp [results, Try.results43, go_sem, y2]) rfl ⟨q, dd, rfl, ((HG.out.weak (B' := w.heap.size + 2) HLT.out).setC (by omega) _).weak (by omega), HB2.out.setCell (p := ⟨w.heap.size + 1, 0, none⟩) (by simp) _⟩
theorem swap25 (p : Option Addr) (l : List Sp) (c : Nat) (i last : Int) (w : World) (hE : SRow w.heap.size w p l) (hw : wfL l) (hl : l.length ≤ 1099511627776) (hla : wfI last) :
    Calls Try.prog 25 #[.agg #[.slice p l.length c], .int .i64 i, .int .i64 last] w fun e w' => AnsG (swR l i last).1 (swR l i last).2 w e w' := by
  obtain ⟨q0, q1, q2, q3⟩ := al4 w (.cells #[.slice p l.length c] 24) (.cells #[.int .i64 i] 3) (.cells #[.int .i64 last] 3) (.cells #[.slice none 0 0] 24)
  have hb : Below w.heap.size w ((((w.alloc (.cells #[.slice p l.length c] 24)).alloc (.cells #[.int .i64 i] 3)).alloc (.cells #[.int .i64 last] 3)).alloc (.cells #[.slice none 0 0] 24)) := (al3b w _ _ _).alloc (by simp; omega) _
  have s4 : ((((w.alloc (.cells #[.slice p l.length c] 24)).alloc (.cells #[.int .i64 i] 3)).alloc (.cells #[.int .i64 last] 3)).alloc (.cells #[.slice none 0 0] 24)).heap.size = w.heap.size + 4 := by simp
  have CG := swap43 w.heap.size (w.heap.size + 1) (w.heap.size + 1 + 1) p l c i last _ (hE.to hb) hw hl hla q0 q1 q2
  have HB := hidOg hb
  have HN := hidOg q3
  have HS4 := hidOg s4
  have hx := cell1_heap q0
  obtain ⟨⟨X, er⟩, hA⟩ : ∃ A, A = swR l i last := ⟨_, rfl⟩
  rw [← hA] at CG
  rw [← hA]
  clear hE hw hb q0 q1 q2 q3 s4 hA
  go_enter Try.func25, Try.ntmps25
  go_wp2_with (first | (go_at_call 43; refine Calls.mono CG ?_; rintro e w1 ⟨q, dd, rfl, hg, hb⟩; have z1 := atW hb HN.out; have y1 := cell1_heap z1; have f1 := fr_heap z1; have HG := hidOg hg; have HB1 := hidOg (HB.out.trans (hb.mono HB.out.size)); clear hb hg z1))
  exact bodyPost_ret (v := .tuple #[.agg #[.slice q X.length dd], .int .i64 er]) (by simp [results, Try.results25, go_sem, y1]) rfl ⟨q, dd, rfl, ((HG.out.weak (B' := w.heap.size + 4) (by rw [HS4.out]; exact Nat.le_refl _)).setC (by omega) _).weak (by omega), HB1.out.setCell (p := ⟨w.heap.size + 1 + 1 + 1, 0, none⟩) (by simp; omega) _⟩
end Go.Proofs.Ytijlkdppjmfbhaa
