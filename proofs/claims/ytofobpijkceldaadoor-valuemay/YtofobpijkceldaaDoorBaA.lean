/- ValueBack: its walk. -/
import Derived.Test.YtofobpijkceldaaDoorBaM
import Derived.Test.YtofobpijkceldaaDoorOrA
namespace Go.Proofs.YtofobpijkceldaaDoor
open Go.RowKit Go.Shelf

theorem txt_size {l : List Int} (h : isW l.length = true) : (txtV l).size ≤ 1000 := by
  have h4 := (isW_t h).2
  unfold txtV
  rw [h]
  simp only [if_true]
  split
  · decide
  · have a := jn_size (texN l l.length)
    have b := texN_len l l.length
    omega
theorem beq_self_bytes (t : ByteArray) : (t.toList == t.toList) = true := by simp
/-- What the walk keeps: a row of its own, the table. -/
structure Bk (w W : World) (q : Option Addr) (l : List Int) (c : Nat) : Prop where
  a : OwnR w.heap.size W q l c
  t : Tb W
  bel : Below w.heap.size w W
theorem Bk.to {w W W' : World} {q : Option Addr} {l : List Int} {c : Nat} (h : Bk w W q l c) (hb : Below W.heap.size W W') : Bk w W' q l c := ⟨h.a.to hb, h.t.to hb, h.bel.trans (hb.mono h.bel.size)⟩
theorem Bk.next {w W W' : World} {q q' : Option Addr} {l l' : List Int} {c c' : Nat} (h : Bk w W q l c) (ho : OwnR W.heap.size W' q' l' c') (hb : Below W.heap.size W W') : Bk w W' q' l' c' := ⟨ho.weak h.bel.size, h.t.to hb, h.bel.trans (hb.mono h.bel.size)⟩

set_option maxRecDepth 100000 in
set_option maxHeartbeats 8000000 in
theorem back_gg (p : Option Addr) (l : List Int) (c : Nat) (s : ByteArray) (hs : s.size ≤ maxLen) (w : World) (hT : Tb w) (hx : InR w p l c) (hg : isW (l.take 8).length = true)
    (hr : rdE (bL (s.extract 0 (min s.size 120))) = 0) :
    Calls Tryd.prog 6 #[.slice p l.length c, .string s] w fun e w' => e = .returned (.bool true) ∧ Below w.heap.size w w' := by
  unfold maxLen at hs
  have hU : U64 (l.take 8) := hx.u.take 8
  have CK := wakes9 w hT
  have CA := fun (W : World) (h : InR W p l c) => own10r p l c W h
  have HI := hidOg hx
  have HTb := hidOg hT
  obtain ⟨n, hn⟩ : ∃ n, n = min s.size 120 := ⟨_, rfl⟩
  have hn1 : (if (120 : Int) < (s.size : Int) then (120 : Int) else (s.size : Int)) = (n : Int) := by split <;> omega
  have hn2 : min (s.size : Int) 120 = (n : Int) := by omega
  have n0 : (0 : Int) ≤ (n : Int) := by omega
  have n1 : (n : Int) ≤ (s.size : Int) := by omega
  rw [← hn] at hr
  obtain ⟨t, ht⟩ : ∃ t, s.extract 0 n = t := ⟨_, rfl⟩
  rw [ht] at hr
  have hts : t.size < 1152921504606846976 := by rw [← ht]; simp; omega
  have CR2 := fun (W : World) => read22 t W hts
  obtain ⟨la, hla⟩ : ∃ la, la = l.take 8 := ⟨_, rfl⟩
  rw [← hla] at CA hU hg
  have hl8 : la.length ≤ 8 := by rw [hla]; simp; omega
  obtain ⟨T1, hT1⟩ : ∃ T1, T1 = txtV la := ⟨_, rfl⟩
  have CT1 := fun (W : World) (q : Option Addr) (d : Nat) (h : Bk w W q la d) => text20 q la d W h.t h.a.row.i hU
  rw [← hT1] at CT1
  have e1 : txtE la = 0 := by unfold txtE; rw [hg]; rfl
  have e2 := read_text hg hU
  rw [← hT1] at e2
  have h4 := (isW_t hg).2
  have hT1s : T1.size < 1152921504606846976 := by have := txt_size hg; rw [hT1]; omega
  have CR1 := fun (W : World) => read22 T1 W hT1s
  simp only [e2.1, e2.2] at CR1
  have CC1 := fun (W : World) (q : Option Addr) (d : Nat) => check12 q la.length d W
  have e3 : chkE la.length = 0 := by unfold chkE; rw [hg]; rfl
  simp only [e3] at CC1
  have e4 := samI_refl la
  rw [e1] at CT1
  clear e1 e2 e3 hT1s
  have f1 := text_read t hr
  have hU2 : U64 (rdV (bL t)) := rdV_u _
  rw [hr] at CR2
  have CT2 := fun (W : World) (q : Option Addr) (d : Nat) (h : Bk w W q (rdV (bL t)) d) => text20 q (rdV (bL t)) d W h.t h.a.row.i hU2
  simp only [f1.1, f1.2.1] at CT2
  have CC2 := fun (W : World) (q : Option Addr) (d : Nat) => check12 q (rdV (bL t)).length d W
  have f3 : chkE (rdV (bL t)).length = 0 := by unfold chkE; rw [f1.2.2]; rfl
  simp only [f3] at CC2
  obtain ⟨lv, hlv⟩ : ∃ lv, lv = rdV (bL t) := ⟨_, rfl⟩
  simp only [← hlv] at CR2 CT2 CC2
  have hbs := beq_self_bytes t
  clear f1 hU2 f3 hlv
  clear hr hg hU hla hT1 hn hT hx hts
  go_enter Tryd.func6, Tryd.ntmps6
  go_wp2_with (first
    | (go_at_call 9; refine Calls.mono CK ?_; rintro e w1 ⟨rfl, hb⟩; have HB := hidOg hb; clear hb)
    | (go_at_call 10; refine Calls.mono (CA _ (HI.out.to HB.out)) ?_; rintro e w2 ⟨qa, ca, rfl, ho, hb⟩; have H := hidOg (show Bk w w2 qa la ca from ⟨ho.weak HB.out.size, HTb.out.to (HB.out.trans (hb.mono HB.out.size)), HB.out.trans (hb.mono HB.out.size)⟩); clear hb ho)
    | (go_at_call_has 20 la; refine Calls.mono (CT1 _ _ _ H.out) ?_; rintro e w3 ⟨rfl, hb⟩; have H := hidOg (H.out.to hb); clear hb)
    | (go_at_call_has 22 T1; refine Calls.mono (CR1 _) ?_; rintro e w4 ⟨q4, c4, rfl, ho, hb⟩; have H4 := hidOg ho; have H := hidOg (H.out.to hb); clear hb ho)
    | (go_at_call_has 15 la; refine Calls.mono (same15 _ _ _ _ _ _ _ H4.out.row.i H.out.a.row.i (by omega)) ?_; rintro e w5 ⟨rfl, hb⟩; have H := hidOg (H.out.to hb); clear hb)
    | (go_at_call_has 12 la; refine Calls.mono (CC1 _ _ _) ?_; rintro e w6 ⟨rfl, hw⟩; rw [hw]; clear hw w6)
    | (go_at_call_has 22 t; refine Calls.mono (CR2 _) ?_; rintro e w7 ⟨q7, c7, rfl, ho, hb⟩; have H7 := hidOg (H.out.next ho hb); clear hb ho)
    | (go_at_call_has 20 lv; refine Calls.mono (CT2 _ _ _ H7.out) ?_; rintro e w8 ⟨rfl, hb⟩; have H7 := hidOg (H7.out.to hb); clear hb)
    | (go_at_call_has 12 lv; refine Calls.mono (CC2 _ _ _) ?_; rintro e w9 ⟨rfl, hw⟩; rw [hw]; clear hw w9))
  go_ret
  exact ⟨rfl, H7.out.bel⟩

set_option maxRecDepth 100000 in
set_option maxHeartbeats 8000000 in
theorem back_gn (p : Option Addr) (l : List Int) (c : Nat) (s : ByteArray) (hs : s.size ≤ maxLen) (w : World) (hT : Tb w) (hx : InR w p l c) (hg : isW (l.take 8).length = true)
    (hr : rdE (bL (s.extract 0 (min s.size 120))) ≠ 0) :
    Calls Tryd.prog 6 #[.slice p l.length c, .string s] w fun e w' => e = .returned (.bool true) ∧ Below w.heap.size w w' := by
  unfold maxLen at hs
  have hU : U64 (l.take 8) := hx.u.take 8
  have CK := wakes9 w hT
  have CA := fun (W : World) (h : InR W p l c) => own10r p l c W h
  have HI := hidOg hx
  have HTb := hidOg hT
  obtain ⟨n, hn⟩ : ∃ n, n = min s.size 120 := ⟨_, rfl⟩
  have hn1 : (if (120 : Int) < (s.size : Int) then (120 : Int) else (s.size : Int)) = (n : Int) := by split <;> omega
  have hn2 : min (s.size : Int) 120 = (n : Int) := by omega
  have n0 : (0 : Int) ≤ (n : Int) := by omega
  have n1 : (n : Int) ≤ (s.size : Int) := by omega
  rw [← hn] at hr
  obtain ⟨t, ht⟩ : ∃ t, s.extract 0 n = t := ⟨_, rfl⟩
  rw [ht] at hr
  have hts : t.size < 1152921504606846976 := by rw [← ht]; simp; omega
  have CR2 := fun (W : World) => read22 t W hts
  obtain ⟨la, hla⟩ : ∃ la, la = l.take 8 := ⟨_, rfl⟩
  rw [← hla] at CA hU hg
  have hl8 : la.length ≤ 8 := by rw [hla]; simp; omega
  obtain ⟨T1, hT1⟩ : ∃ T1, T1 = txtV la := ⟨_, rfl⟩
  have CT1 := fun (W : World) (q : Option Addr) (d : Nat) (h : Bk w W q la d) => text20 q la d W h.t h.a.row.i hU
  rw [← hT1] at CT1
  have e1 : txtE la = 0 := by unfold txtE; rw [hg]; rfl
  have e2 := read_text hg hU
  rw [← hT1] at e2
  have h4 := (isW_t hg).2
  have hT1s : T1.size < 1152921504606846976 := by have := txt_size hg; rw [hT1]; omega
  have CR1 := fun (W : World) => read22 T1 W hT1s
  simp only [e2.1, e2.2] at CR1
  have CC1 := fun (W : World) (q : Option Addr) (d : Nat) => check12 q la.length d W
  have e3 : chkE la.length = 0 := by unfold chkE; rw [hg]; rfl
  simp only [e3] at CC1
  have e4 := samI_refl la
  rw [e1] at CT1
  clear e1 e2 e3 hT1s
  have f1 := read_no t hr
  rw [f1.1, f1.2] at CR2
  clear f1
  clear hr hg hU hla hT1 hn hT hx hts
  go_enter Tryd.func6, Tryd.ntmps6
  go_wp2_with (first
    | (go_at_call 9; refine Calls.mono CK ?_; rintro e w1 ⟨rfl, hb⟩; have HB := hidOg hb; clear hb)
    | (go_at_call 10; refine Calls.mono (CA _ (HI.out.to HB.out)) ?_; rintro e w2 ⟨qa, ca, rfl, ho, hb⟩; have H := hidOg (show Bk w w2 qa la ca from ⟨ho.weak HB.out.size, HTb.out.to (HB.out.trans (hb.mono HB.out.size)), HB.out.trans (hb.mono HB.out.size)⟩); clear hb ho)
    | (go_at_call_has 20 la; refine Calls.mono (CT1 _ _ _ H.out) ?_; rintro e w3 ⟨rfl, hb⟩; have H := hidOg (H.out.to hb); clear hb)
    | (go_at_call_has 22 T1; refine Calls.mono (CR1 _) ?_; rintro e w4 ⟨q4, c4, rfl, ho, hb⟩; have H4 := hidOg ho; have H := hidOg (H.out.to hb); clear hb ho)
    | (go_at_call_has 15 la; refine Calls.mono (same15 _ _ _ _ _ _ _ H4.out.row.i H.out.a.row.i (by omega)) ?_; rintro e w5 ⟨rfl, hb⟩; have H := hidOg (H.out.to hb); clear hb)
    | (go_at_call_has 12 la; refine Calls.mono (CC1 _ _ _) ?_; rintro e w6 ⟨rfl, hw⟩; rw [hw]; clear hw w6)
    | (go_at_call_has 22 t; refine Calls.mono (CR2 _) ?_; rintro e w7 ⟨q7, c7, rfl, ho, hb⟩; have H7 := hidOg (H.out.next ho hb); clear hb ho))
  go_ret
  exact ⟨rfl, H7.out.bel⟩

set_option maxRecDepth 100000 in
set_option maxHeartbeats 8000000 in
theorem back_ng (p : Option Addr) (l : List Int) (c : Nat) (s : ByteArray) (hs : s.size ≤ maxLen) (w : World) (hT : Tb w) (hx : InR w p l c) (hg : isW (l.take 8).length = false)
    (hr : rdE (bL (s.extract 0 (min s.size 120))) = 0) :
    Calls Tryd.prog 6 #[.slice p l.length c, .string s] w fun e w' => e = .returned (.bool true) ∧ Below w.heap.size w w' := by
  unfold maxLen at hs
  have hU : U64 (l.take 8) := hx.u.take 8
  have CK := wakes9 w hT
  have CA := fun (W : World) (h : InR W p l c) => own10r p l c W h
  have HI := hidOg hx
  have HTb := hidOg hT
  obtain ⟨n, hn⟩ : ∃ n, n = min s.size 120 := ⟨_, rfl⟩
  have hn1 : (if (120 : Int) < (s.size : Int) then (120 : Int) else (s.size : Int)) = (n : Int) := by split <;> omega
  have hn2 : min (s.size : Int) 120 = (n : Int) := by omega
  have n0 : (0 : Int) ≤ (n : Int) := by omega
  have n1 : (n : Int) ≤ (s.size : Int) := by omega
  rw [← hn] at hr
  obtain ⟨t, ht⟩ : ∃ t, s.extract 0 n = t := ⟨_, rfl⟩
  rw [ht] at hr
  have hts : t.size < 1152921504606846976 := by rw [← ht]; simp; omega
  have CR2 := fun (W : World) => read22 t W hts
  obtain ⟨la, hla⟩ : ∃ la, la = l.take 8 := ⟨_, rfl⟩
  rw [← hla] at CA hU hg
  have hl8 : la.length ≤ 8 := by rw [hla]; simp; omega
  obtain ⟨T1, hT1⟩ : ∃ T1, T1 = txtV la := ⟨_, rfl⟩
  have CT1 := fun (W : World) (q : Option Addr) (d : Nat) (h : Bk w W q la d) => text20 q la d W h.t h.a.row.i hU
  rw [← hT1] at CT1
  have e1 : txtE la = 140 := by unfold txtE; rw [hg]; rfl
  rw [e1] at CT1
  clear e1
  have f1 := text_read t hr
  have hU2 : U64 (rdV (bL t)) := rdV_u _
  rw [hr] at CR2
  have CT2 := fun (W : World) (q : Option Addr) (d : Nat) (h : Bk w W q (rdV (bL t)) d) => text20 q (rdV (bL t)) d W h.t h.a.row.i hU2
  simp only [f1.1, f1.2.1] at CT2
  have CC2 := fun (W : World) (q : Option Addr) (d : Nat) => check12 q (rdV (bL t)).length d W
  have f3 : chkE (rdV (bL t)).length = 0 := by unfold chkE; rw [f1.2.2]; rfl
  simp only [f3] at CC2
  obtain ⟨lv, hlv⟩ : ∃ lv, lv = rdV (bL t) := ⟨_, rfl⟩
  simp only [← hlv] at CR2 CT2 CC2
  have hbs := beq_self_bytes t
  clear f1 hU2 f3 hlv
  clear hr hg hU hla hT1 hn hT hx hts
  go_enter Tryd.func6, Tryd.ntmps6
  go_wp2_with (first
    | (go_at_call 9; refine Calls.mono CK ?_; rintro e w1 ⟨rfl, hb⟩; have HB := hidOg hb; clear hb)
    | (go_at_call 10; refine Calls.mono (CA _ (HI.out.to HB.out)) ?_; rintro e w2 ⟨qa, ca, rfl, ho, hb⟩; have H := hidOg (show Bk w w2 qa la ca from ⟨ho.weak HB.out.size, HTb.out.to (HB.out.trans (hb.mono HB.out.size)), HB.out.trans (hb.mono HB.out.size)⟩); clear hb ho)
    | (go_at_call_has 20 la; refine Calls.mono (CT1 _ _ _ H.out) ?_; rintro e w3 ⟨rfl, hb⟩; have H := hidOg (H.out.to hb); clear hb)
    | (go_at_call_has 22 t; refine Calls.mono (CR2 _) ?_; rintro e w7 ⟨q7, c7, rfl, ho, hb⟩; have H7 := hidOg (H.out.next ho hb); clear hb ho)
    | (go_at_call_has 20 lv; refine Calls.mono (CT2 _ _ _ H7.out) ?_; rintro e w8 ⟨rfl, hb⟩; have H7 := hidOg (H7.out.to hb); clear hb)
    | (go_at_call_has 12 lv; refine Calls.mono (CC2 _ _ _) ?_; rintro e w9 ⟨rfl, hw⟩; rw [hw]; clear hw w9))
  go_ret
  exact ⟨rfl, H7.out.bel⟩

set_option maxRecDepth 100000 in
set_option maxHeartbeats 8000000 in
theorem back_nn (p : Option Addr) (l : List Int) (c : Nat) (s : ByteArray) (hs : s.size ≤ maxLen) (w : World) (hT : Tb w) (hx : InR w p l c) (hg : isW (l.take 8).length = false)
    (hr : rdE (bL (s.extract 0 (min s.size 120))) ≠ 0) :
    Calls Tryd.prog 6 #[.slice p l.length c, .string s] w fun e w' => e = .returned (.bool true) ∧ Below w.heap.size w w' := by
  unfold maxLen at hs
  have hU : U64 (l.take 8) := hx.u.take 8
  have CK := wakes9 w hT
  have CA := fun (W : World) (h : InR W p l c) => own10r p l c W h
  have HI := hidOg hx
  have HTb := hidOg hT
  obtain ⟨n, hn⟩ : ∃ n, n = min s.size 120 := ⟨_, rfl⟩
  have hn1 : (if (120 : Int) < (s.size : Int) then (120 : Int) else (s.size : Int)) = (n : Int) := by split <;> omega
  have hn2 : min (s.size : Int) 120 = (n : Int) := by omega
  have n0 : (0 : Int) ≤ (n : Int) := by omega
  have n1 : (n : Int) ≤ (s.size : Int) := by omega
  rw [← hn] at hr
  obtain ⟨t, ht⟩ : ∃ t, s.extract 0 n = t := ⟨_, rfl⟩
  rw [ht] at hr
  have hts : t.size < 1152921504606846976 := by rw [← ht]; simp; omega
  have CR2 := fun (W : World) => read22 t W hts
  obtain ⟨la, hla⟩ : ∃ la, la = l.take 8 := ⟨_, rfl⟩
  rw [← hla] at CA hU hg
  have hl8 : la.length ≤ 8 := by rw [hla]; simp; omega
  obtain ⟨T1, hT1⟩ : ∃ T1, T1 = txtV la := ⟨_, rfl⟩
  have CT1 := fun (W : World) (q : Option Addr) (d : Nat) (h : Bk w W q la d) => text20 q la d W h.t h.a.row.i hU
  rw [← hT1] at CT1
  have e1 : txtE la = 140 := by unfold txtE; rw [hg]; rfl
  rw [e1] at CT1
  clear e1
  have f1 := read_no t hr
  rw [f1.1, f1.2] at CR2
  clear f1
  clear hr hg hU hla hT1 hn hT hx hts
  go_enter Tryd.func6, Tryd.ntmps6
  go_wp2_with (first
    | (go_at_call 9; refine Calls.mono CK ?_; rintro e w1 ⟨rfl, hb⟩; have HB := hidOg hb; clear hb)
    | (go_at_call 10; refine Calls.mono (CA _ (HI.out.to HB.out)) ?_; rintro e w2 ⟨qa, ca, rfl, ho, hb⟩; have H := hidOg (show Bk w w2 qa la ca from ⟨ho.weak HB.out.size, HTb.out.to (HB.out.trans (hb.mono HB.out.size)), HB.out.trans (hb.mono HB.out.size)⟩); clear hb ho)
    | (go_at_call_has 20 la; refine Calls.mono (CT1 _ _ _ H.out) ?_; rintro e w3 ⟨rfl, hb⟩; have H := hidOg (H.out.to hb); clear hb)
    | (go_at_call_has 22 t; refine Calls.mono (CR2 _) ?_; rintro e w7 ⟨q7, c7, rfl, ho, hb⟩; have H7 := hidOg (H.out.next ho hb); clear hb ho))
  go_ret
  exact ⟨rfl, H7.out.bel⟩

theorem back_walk (p : Option Addr) (l : List Int) (c : Nat) (s : ByteArray) (hs : s.size ≤ maxLen) (w : World) (hT : Tb w) (hx : InR w p l c) :
    Calls Tryd.prog 6 #[.slice p l.length c, .string s] w fun e w' => e = .returned (.bool true) ∧ Below w.heap.size w w' := by
  cases hg : isW (l.take 8).length
  · by_cases hr : rdE (bL (s.extract 0 (min s.size 120))) = 0
    · exact back_ng p l c s hs w hT hx hg hr
    · exact back_nn p l c s hs w hT hx hg hr
  · by_cases hr : rdE (bL (s.extract 0 (min s.size 120))) = 0
    · exact back_gg p l c s hs w hT hx hg hr
    · exact back_gn p l c s hs w hT hx hg hr
end Go.Proofs.YtofobpijkceldaaDoor
