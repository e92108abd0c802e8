/- TypesTurn: its mathematics and its walk. -/
import Derived.Test.YtooaghcjlomcpaaTyK
namespace Go.Proofs.Ytooaghcjlomcpaa
open Go.RowKit

theorem wit_no {m : List Int} {x : Int} (h : witE m x ≠ 0) : witL m x = [] := by
  unfold witE at h
  unfold witL witOk
  cases hm : mayT m
  · rfl
  · cases hc : canB x
    · rfl
    · rw [hm, hc] at h
      cases hd : (decide (x ∈ m) || decide (m.length < 12))
      · rfl
      · rw [hd] at h; simp at h
theorem wit_yes {m : List Int} {x : Int} (h : witE m x = 0) : mayT m = true ∧ canB x = true ∧ (x ∈ m ∨ m.length < 12) ∧ witL m x = insL m x := by
  unfold witE at h
  unfold witL witOk
  cases hm : mayT m
  · rw [hm] at h; simp at h
  · cases hc : canB x
    · rw [hm, hc] at h; simp at h
    · rw [hm, hc] at h
      cases hd : (decide (x ∈ m) || decide (m.length < 12))
      · rw [hd] at h; simp at h
      · exact ⟨rfl, rfl, by simpa using hd, rfl⟩
theorem may_ins {m : List Int} {x : Int} (hm : mayT m = true) (hc : canB x = true) (hl : x ∈ m ∨ m.length < 12) : mayT (insL m x) = true := by
  obtain ⟨h12, hcs, hs⟩ := (mayT_iff m).1 hm
  refine (mayT_iff _).2 ⟨?_, ?_, insL_ss x hs⟩
  · by_cases h : x ∈ m
    · rw [insL_old hs h]; exact h12
    · rw [insL_len h]; rcases hl with g | g
      · exact absurd g h
      · omega
  · intro y hy
    rcases insL_mem.1 hy with g | rfl
    · exact hcs y g
    · exact hc
theorem wit_again {r : List Int} {x : Int} (hr : mayT r = true) (hc : canB x = true) (hx : x ∈ r) : witL r x = r ∧ witE r x = 0 := by
  have hs := ((mayT_iff r).1 hr).2.2
  unfold witL witE witOk
  rw [hr, hc, decide_eq_true hx]
  exact ⟨insL_old hs hx, rfl⟩
theorem wou_there {r : List Int} {x : Int} (hr : mayT r = true) (hx : x ∈ r) : wouL r x = delL r x ∧ wouE r x = 0 := by
  unfold wouL wouE hasB
  rw [hr, decide_eq_true hx]
  exact ⟨rfl, rfl⟩
theorem has_there {r : List Int} {x : Int} (hr : mayT r = true) (hx : x ∈ r) : hasB r x = true := by
  unfold hasB; rw [hr, decide_eq_true hx]; rfl
theorem has_not {r : List Int} {x : Int} (hx : x ∉ r) : hasB r x = false := by
  unfold hasB; rw [decide_eq_false hx]; simp
theorem chk_may {r : List Int} (hr : mayT r = true) : chkE r = 0 := by unfold chkE; rw [hr]; rfl
theorem ins_u {m : List Int} {x : Int} (h : U64 m) (h0 : 0 ≤ x) (h1 : x < 18446744073709551616) : U64 (insL m x) := by
  intro y hy
  rcases insL_mem.1 hy with g | rfl
  · exact h y g
  · exact ⟨h0, h1⟩
theorem del_u {m : List Int} {x : Int} (h : U64 m) : U64 (delL m x) := fun y hy => h y (delL_mem.1 hy).1

/-- What the law meets behind 'few' and the first With. -/
theorem turn_few (p : Option Addr) (l : List Int) (c : Nat) (w : World) (h : InR w p l c) : Calls Try.prog 10 #[.slice p l.length c] w fun e w' => ∃ q d, e = .returned (.slice q (l.take 20).length d) ∧ Row w' q (l.take 20) d ∧ Below w.heap.size w w' := by
  refine Calls.mono (few_any p l c w h) ?_
  rintro e w' ⟨q, d, rfl, hr, hb⟩
  exact ⟨q, d, rfl, hr.row, hb⟩

set_option maxRecDepth 20000 in
set_option maxHeartbeats 1000000 in
theorem turn_no (p : Option Addr) (l : List Int) (c : Nat) (x : Int) (w : World) (h : InR w p l c) (h0 : 0 ≤ x) (h1 : x < 18446744073709551616) (hE : witE (l.take 20) x ≠ 0) :
    Calls Try.prog 6 #[.slice p l.length c, .int .u64 x] w fun e w' => e = .returned (.bool true) ∧ Below w.heap.size w w' := by
  have CK := wakes_any w
  have CF := fun (w1 : World) (hb : Below w.heap.size w w1) => turn_few p l c w1 (h.to hb)
  have CW := fun (q : Option Addr) (d : Nat) (w2 : World) (hr : Row w2 q (l.take 20) d) => with_any q (l.take 20) d x w2 hr (h.u.take 20) h0 h1
  have e1 := wit_no hE
  unfold WithOut at CW
  rw [e1] at CW
  obtain ⟨m, hm⟩ : ∃ m, m = l.take 20 := ⟨_, rfl⟩
  rw [← hm] at CF CW hE
  obtain ⟨er, her⟩ : ∃ er, er = witE m x := ⟨_, rfl⟩
  rw [← her] at CW hE
  have hE' : (er == 0) = false := by simpa using hE
  clear hm her h hE h0 h1 e1
  go_enter Try.func6, Try.ntmps6
  go_wp2_with (first
    | (go_at_call 9; refine Calls.mono CK ?_; clear CK; rintro e w1 ⟨rfl, hb1⟩)
    | (go_at_call 10; refine Calls.mono (CF _ hb1) ?_; clear CF; rintro e w2 ⟨q, d, rfl, hr2, hb2⟩; have g2 := hb1.trans (hb2.mono hb1.size); clear hb1 hb2)
    | (go_at_call 32; refine Calls.mono (CW q d _ hr2) ?_; clear CW; rintro e w3 ⟨q3, d3, rfl, hr3, hb3⟩))
  go_ret
  exact ⟨rfl, g2.trans (hb3.mono g2.size)⟩

/-- The walk where the id came in: 'hx' tells whether it was there. -/
theorem turn_old (p : Option Addr) (l : List Int) (c : Nat) (x : Int) (w : World) (h : InR w p l c) (h0 : 0 ≤ x) (h1 : x < 18446744073709551616) (hE : witE (l.take 20) x = 0) (hx : x ∈ l.take 20) :
    Calls Try.prog 6 #[.slice p l.length c, .int .u64 x] w fun e w' => e = .returned (.bool true) ∧ Below w.heap.size w w' := by
  have CK := wakes_any w
  have CF := fun (w1 : World) (hb : Below w.heap.size w w1) => turn_few p l c w1 (h.to hb)
  have hu := h.u.take 20
  obtain ⟨m, hm⟩ : ∃ m, m = l.take 20 := ⟨_, rfl⟩
  rw [← hm] at CF hu hE hx
  obtain ⟨a1, a2, a3, a4⟩ := wit_yes hE
  have hs := ((mayT_iff m).1 a1).2.2
  have hlen := ((mayT_iff m).1 a1).1
  rw [insL_old hs hx] at a4
  have CW := fun (q : Option Addr) (d : Nat) (w2 : World) (hr : Row w2 q m d) => with_any q m d x w2 hr hu h0 h1
  unfold WithOut at CW
  rw [a4, hE] at CW
  obtain ⟨b1, b2⟩ := wou_there a1 hx
  have CO := fun (q : Option Addr) (d : Nat) (w2 : World) (hr : Row w2 q m d) => without_any q m d x w2 hr hu
  have CH := fun (q : Option Addr) (d : Nat) (w2 : World) (hr : Row w2 q m d) => Has_any q m d x w2 hr hu
  have CG := fun (q : Option Addr) (d : Nat) (w2 : World) (hr : Row w2 q (delL m x) d) => Has_any q (delL m x) d x w2 hr (del_u hu)
  have CE := fun (q : Option Addr) (d : Nat) (q' : Option Addr) (d' : Nat) (w2 : World) (hr : Row w2 q m d) (hr' : Row w2 q' m d') => equal18 q m d q' m d' w2 hr.i hr'.i (by omega)
  have CC := fun (q : Option Addr) (d : Nat) (w2 : World) (hr : Row w2 q m d) => check_any q m d w2 hr hu
  rw [b1, b2] at CO
  rw [has_there a1 hx] at CH
  rw [has_not (by rw [delL_mem]; simp)] at CG
  rw [samI_refl] at CE
  rw [chk_may a1] at CC
  have hd := delL_len hx hs
  obtain ⟨k, hk⟩ : ∃ k, k = (delL m x).length := ⟨_, rfl⟩
  have hk' : ((k : Int) == (m.length : Int) - 1) = true := by simp; omega
  have hml : (1 : Int) ≤ (m.length : Int) := by omega
  rw [← hk] at CG CO
  clear hm h hE h0 h1 a1 a2 a3 a4 b1 b2 hs hd hk hx hu
  go_enter Try.func6, Try.ntmps6
  go_wp2_with (first
    | (go_at_call 9; refine Calls.mono CK ?_; clear CK; rintro e w1 ⟨rfl, hb1⟩)
    | (go_at_call 10; refine Calls.mono (CF _ hb1) ?_; clear CF; rintro e w2 ⟨q, d, rfl, hr2, hb2⟩; have g2 := hb1.trans (hb2.mono hb1.size); clear hb1 hb2; have CW1 := CW q d _ hr2)
    | (go_at_call 32; refine Calls.mono CW1 ?_; clear CW1; rintro e w3 ⟨q3, d3, rfl, hr3, hb3⟩; have g3 := g2.trans (hb3.mono g2.size); have r3 := hr2.to hb3; have CW2 := CW q3 d3 _ hr3.row; clear CW g2 hb3 hr2)
    | (go_at_call 32; refine Calls.mono CW2 ?_; clear CW2; rintro e w4 ⟨q4, d4, rfl, hr4, hb4⟩; have g4 := g3.trans (hb4.mono g3.size); have r4 := r3.to hb4; have s4 := hr3.row.to hb4; clear g3 hb4 hr3 r3)
    | (go_at_call 34; refine Calls.mono (CO q3 d3 _ s4) ?_; clear CO; rintro e w5 ⟨q5, d5, rfl, hr5, hb5⟩; have g5 := g4.trans (hb5.mono g4.size); have r5 := r4.to hb5; have s5 := s4.to hb5; have t5 := hr4.row.to hb5; have CH1 := CH q3 d3 _ s5; clear g4 hb5 hr4 r4 s4)
    | (go_at_call 24; refine Calls.mono CH1 ?_; clear CH1; rintro e w6 ⟨rfl, hb6⟩; have g6 := g5.trans (hb6.mono g5.size); have r6 := r5.to hb6; have s6 := s5.to hb6; have t6 := t5.to hb6; have u6 := hr5.row.to hb6; have CG1 := CG q5 d5 _ u6; clear g5 hb6 hr5 r5 s5 t5 CG)
    | (go_at_call 24; refine Calls.mono CG1 ?_; clear CG1; rintro e w7 ⟨rfl, hb7⟩; have g7 := g6.trans (hb7.mono g6.size); have r7 := r6.to hb7; have s7 := s6.to hb7; have t7 := t6.to hb7; have CE1 := CE q4 d4 q3 d3 _ t7 s7; clear g6 hb7 r6 s6 t6 u6)
    | (go_at_call 18; refine Calls.mono CE1 ?_; clear CE1; rintro e w8 ⟨rfl, hb8⟩; have g8 := g7.trans (hb8.mono g7.size); have r8 := r7.to hb8; have s8 := s7.to hb8; clear g7 hb8 r7 s7 t7)
    | (go_at_call 11; refine Calls.mono (CC q3 d3 _ s8) ?_; clear CC; rintro e w9 ⟨rfl, hb9⟩; have g9 := g8.trans (hb9.mono g8.size); have r9 := r8.to hb9; have s9 := s8.to hb9; have CH2 := CH q d _ r9; clear g8 hb9 r8 s8 CH)
    | (go_at_call 24; refine Calls.mono CH2 ?_; clear CH2; rintro e w10 ⟨rfl, hb10⟩; have g10 := g9.trans (hb10.mono g9.size); have r10 := r9.to hb10; have s10 := s9.to hb10; have CE2 := CE q3 d3 q d _ s10 r10; clear g9 hb10 r9 s9 CE)
    | (go_at_call 18; refine Calls.mono CE2 ?_; clear CE2; rintro e w11 ⟨rfl, hb11⟩; have g11 := g10.trans (hb11.mono g10.size); clear g10 hb11 r10 s10))
  go_ret
  exact ⟨rfl, g11⟩

theorem turn_new (p : Option Addr) (l : List Int) (c : Nat) (x : Int) (w : World) (h : InR w p l c) (h0 : 0 ≤ x) (h1 : x < 18446744073709551616) (hE : witE (l.take 20) x = 0) (hx : x ∉ l.take 20) :
    Calls Try.prog 6 #[.slice p l.length c, .int .u64 x] w fun e w' => e = .returned (.bool true) ∧ Below w.heap.size w w' := by
  have CK := wakes_any w
  have CF := fun (w1 : World) (hb : Below w.heap.size w w1) => turn_few p l c w1 (h.to hb)
  have hu := h.u.take 20
  obtain ⟨m, hm⟩ : ∃ m, m = l.take 20 := ⟨_, rfl⟩
  rw [← hm] at CF hu hE hx
  obtain ⟨a1, a2, a3, a4⟩ := wit_yes hE
  have hs := ((mayT_iff m).1 a1).2.2
  have hlen := ((mayT_iff m).1 a1).1
  have CW1 := fun (q : Option Addr) (d : Nat) (w2 : World) (hr : Row w2 q m d) => with_any q m d x w2 hr hu h0 h1
  have hback := delL_ins hx hs
  have hrm := may_ins a1 a2 a3
  have hru := ins_u hu h0 h1
  have hxr : x ∈ insL m x := insL_mem.2 (.inr rfl)
  have hrl := ((mayT_iff _).1 hrm).1
  unfold WithOut at CW1
  rw [a4, hE] at CW1
  obtain ⟨r, hr⟩ : ∃ r, r = insL m x := ⟨_, rfl⟩
  rw [← hr] at CW1 hback hrm hru hxr hrl
  have CW2 := fun (q : Option Addr) (d : Nat) (w2 : World) (hr : Row w2 q r d) => with_any q r d x w2 hr hru h0 h1
  obtain ⟨c1, c2⟩ := wit_again hrm a2 hxr
  unfold WithOut at CW2
  rw [c1, c2] at CW2
  obtain ⟨b1, b2⟩ := wou_there hrm hxr
  have CO := fun (q : Option Addr) (d : Nat) (w2 : World) (hr : Row w2 q r d) => without_any q r d x w2 hr hru
  have CH := fun (q : Option Addr) (d : Nat) (w2 : World) (hr : Row w2 q r d) => Has_any q r d x w2 hr hru
  have CG := fun (q : Option Addr) (d : Nat) (w2 : World) (hr : Row w2 q m d) => Has_any q m d x w2 hr hu
  have CE := fun (q : Option Addr) (d : Nat) (q' : Option Addr) (d' : Nat) (w2 : World) (hr : Row w2 q r d) (hr' : Row w2 q' r d') => equal18 q r d q' r d' w2 hr.i hr'.i (by omega)
  have CE' := fun (q : Option Addr) (d : Nat) (q' : Option Addr) (d' : Nat) (w2 : World) (hr : Row w2 q m d) (hr' : Row w2 q' m d') => equal18 q m d q' m d' w2 hr.i hr'.i (by omega)
  have CC := fun (q : Option Addr) (d : Nat) (w2 : World) (hr : Row w2 q r d) => check_any q r d w2 hr hru
  rw [b1, b2, hback] at CO
  rw [has_there hrm hxr] at CH
  rw [has_not hx] at CG
  rw [samI_refl] at CE CE'
  rw [chk_may hrm] at CC
  clear hm h hE h0 h1 a1 a2 a3 a4 b1 b2 c1 c2 hs hx hu hback hrm hru hxr hr hrl hlen
  go_enter Try.func6, Try.ntmps6
  go_wp2_with (first
    | (go_at_call 9; refine Calls.mono CK ?_; clear CK; rintro e w1 ⟨rfl, hb1⟩)
    | (go_at_call 10; refine Calls.mono (CF _ hb1) ?_; clear CF; rintro e w2 ⟨q, d, rfl, hr2, hb2⟩; have g2 := hb1.trans (hb2.mono hb1.size); clear hb1 hb2; have CW1 := CW1 q d _ hr2)
    | (go_at_call 32; refine Calls.mono CW1 ?_; clear CW1; rintro e w3 ⟨q3, d3, rfl, hr3, hb3⟩; have g3 := g2.trans (hb3.mono g2.size); have r3 := hr2.to hb3; have CW2 := CW2 q3 d3 _ hr3.row; clear g2 hb3 hr2)
    | (go_at_call 32; refine Calls.mono CW2 ?_; clear CW2; rintro e w4 ⟨q4, d4, rfl, hr4, hb4⟩; have g4 := g3.trans (hb4.mono g3.size); have r4 := r3.to hb4; have s4 := hr3.row.to hb4; clear g3 hb4 hr3 r3)
    | (go_at_call 34; refine Calls.mono (CO q3 d3 _ s4) ?_; clear CO; rintro e w5 ⟨q5, d5, rfl, hr5, hb5⟩; have g5 := g4.trans (hb5.mono g4.size); have r5 := r4.to hb5; have s5 := s4.to hb5; have t5 := hr4.row.to hb5; have CH1 := CH q3 d3 _ s5; clear g4 hb5 hr4 r4 s4)
    | (go_at_call 24; refine Calls.mono CH1 ?_; clear CH1; rintro e w6 ⟨rfl, hb6⟩; have g6 := g5.trans (hb6.mono g5.size); have r6 := r5.to hb6; have s6 := s5.to hb6; have t6 := t5.to hb6; have u6 := hr5.row.to hb6; have CG1 := CG q5 d5 _ u6; clear g5 hb6 hr5 r5 s5 t5)
    | (go_at_call 24; refine Calls.mono CG1 ?_; clear CG1; rintro e w7 ⟨rfl, hb7⟩; have g7 := g6.trans (hb7.mono g6.size); have r7 := r6.to hb7; have s7 := s6.to hb7; have t7 := t6.to hb7; have u7 := u6.to hb7; have CE1 := CE q4 d4 q3 d3 _ t7 s7; clear g6 hb7 r6 s6 t6 u6)
    | (go_at_call 18; refine Calls.mono CE1 ?_; clear CE1; rintro e w8 ⟨rfl, hb8⟩; have g8 := g7.trans (hb8.mono g7.size); have r8 := r7.to hb8; have s8 := s7.to hb8; have u8 := u7.to hb8; clear g7 hb8 r7 s7 t7 u7)
    | (go_at_call 11; refine Calls.mono (CC q3 d3 _ s8) ?_; clear CC; rintro e w9 ⟨rfl, hb9⟩; have g9 := g8.trans (hb9.mono g8.size); have r9 := r8.to hb9; have u9 := u8.to hb9; have CG2 := CG q d _ r9; clear g8 hb9 r8 s8 CG u8)
    | (go_at_call 24; refine Calls.mono CG2 ?_; clear CG2; rintro e w10 ⟨rfl, hb10⟩; have g10 := g9.trans (hb10.mono g9.size); have r10 := r9.to hb10; have u10 := u9.to hb10; have CE2 := CE' q5 d5 q d _ u10 r10; clear g9 hb10 r9 u9 CE')
    | (go_at_call 18; refine Calls.mono CE2 ?_; clear CE2; rintro e w11 ⟨rfl, hb11⟩; have g11 := g10.trans (hb11.mono g10.size); clear g10 hb11 r10 u10))
  go_ret
  exact ⟨rfl, g11⟩

theorem turn_walk (p : Option Addr) (l : List Int) (c : Nat) (x : Int) (w : World) (h : InR w p l c) (h0 : 0 ≤ x) (h1 : x < 18446744073709551616) :
    Calls Try.prog 6 #[.slice p l.length c, .int .u64 x] w fun e w' => e = .returned (.bool true) ∧ Below w.heap.size w w' := by
  by_cases hE : witE (l.take 20) x = 0
  · by_cases hx : x ∈ l.take 20
    · exact turn_old p l c x w h h0 h1 hE hx
    · exact turn_new p l c x w h h0 h1 hE hx
  · exact turn_no p l c x w h h0 h1 hE
end Go.Proofs.Ytooaghcjlomcpaa
