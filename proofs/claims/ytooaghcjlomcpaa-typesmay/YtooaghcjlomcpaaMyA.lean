/- TypesMay: its mathematics and its walk. -/
import Derived.Test.YtooaghcjlomcpaaRgB
import Derived.Test.YtooaghcjlomcpaaOrA
namespace Go.Proofs.Ytooaghcjlomcpaa
open Go.RowKit

theorem ix25a (p : Option Addr) (n c : Nat) (q : Option Addr) (m d : Nat) (w : World) : (Instr.index 25 (.agg #[.slice p n c, .slice q m d]) (.int .i64 0)).run Try.prog w = .ok (.slice p n c) w := by kernel_rfl
theorem ix25b (p : Option Addr) (n c : Nat) (q : Option Addr) (m d : Nat) (w : World) : (Instr.index 25 (.agg #[.slice p n c, .slice q m d]) (.int .i64 1)).run Try.prog w = .ok (.slice q m d) w := by kernel_rfl
theorem chk_not {r : List Int} (hr : mayT r = false) : chkE r = 130 := by unfold chkE; rw [hr]; rfl
theorem of_may {l : List Int} (h : mayT l = true) : l.all canB = true ∧ (ofL l).length ≤ 12 := by
  obtain ⟨h12, hc, hs⟩ := (mayT_iff l).1 h
  have e : ofL l = l := ss_ext (ofL_ss l) hs (ofL_mem l)
  exact ⟨by rw [List.all_eq_true]; exact hc, by rw [e]; exact h12⟩
theorem of_arg {l : List Int} (hc : l.all canB = false) : ofR l = [] ∧ ofE l = 2 := by unfold ofR ofE ofOk; rw [hc]; exact ⟨rfl, rfl⟩
theorem of_full {l : List Int} (hc : l.all canB = true) (h : ¬ (ofL l).length ≤ 12) : ofR l = [] ∧ ofE l = 6 := by unfold ofR ofE ofOk; rw [hc, decide_eq_false h]; exact ⟨rfl, rfl⟩
theorem of_good {l : List Int} (hc : l.all canB = true) (h : (ofL l).length ≤ 12) : ofR l = ofL l ∧ ofE l = 0 := by unfold ofR ofE ofOk; rw [hc, decide_eq_true h]; exact ⟨rfl, rfl⟩
theorem met_no {a b : List Int} (h : mayT a = false ∨ mayT b = false) : metL a b = [] ∧ metE a b = 130 := by
  have e : metOk a b = false := by unfold metOk; rcases h with h | h <;> rw [h] <;> simp
  unfold metL metE; rw [e]; exact ⟨rfl, rfl⟩
theorem met_yes {a b : List Int} (ha : mayT a = true) (hb : mayT b = true) : metL a b = a.filter (inB b) ∧ metE a b = 0 := by
  have e : metOk a b = true := by unfold metOk; rw [ha, hb]; rfl
  unfold metL metE; rw [e, tolL_eq, ha]; exact ⟨rfl, rfl⟩
theorem take20m (l : List Int) : (l.take 20).length ≤ 20 := by simp; omega

/-- The two rows that the law has made. -/
structure Ma2 (w W : World) (pa : Option Addr) (A : List Int) (da : Nat) (pb : Option Addr) (B : List Int) (db : Nat) : Prop where
  a : Row W pa A da
  b : Row W pb B db
  w : Below w.heap.size w W
theorem Ma2.to {w W W' : World} {pa pb : Option Addr} {A B : List Int} {da db : Nat} (h : Ma2 w W pa A da pb B db) (hb : Below W.heap.size W W') : Ma2 w W' pa A da pb B db :=
  ⟨h.a.to hb, h.b.to hb, h.w.trans (hb.mono h.w.size)⟩

set_option maxRecDepth 20000 in
set_option maxHeartbeats 8000000 in
theorem may_walk (px : Option Addr) (X : List Int) (cx : Nat) (py : Option Addr) (Y : List Int) (cy : Nat) (w : World) (hx : InR w px X cx) (hy : InR w py Y cy) :
    Calls Try.prog 3 #[.slice px X.length cx, .slice py Y.length cy] w fun e w' => e = .returned (.bool true) ∧ Below w.heap.size w w' := by
  have CK := wakes_any w
  have CX := fun (w1 : World) (hb : Below w.heap.size w w1) => turn_few px X cx w1 (hx.to hb)
  have CY := fun (w1 : World) (hb : Below w.heap.size w w1) => turn_few py Y cy w1 (hy.to hb)
  have uA := hx.u.take 20
  have uB := hy.u.take 20
  have lA := take20m X
  have lB := take20m Y
  obtain ⟨A, hA⟩ : ∃ A, A = X.take 20 := ⟨_, rfl⟩
  obtain ⟨B, hB⟩ : ∃ B, B = Y.take 20 := ⟨_, rfl⟩
  rw [← hA] at CX uA lA
  rw [← hB] at CY uB lB
  clear hA hB hx hy
  have CEA0 := fun (q1 : Option Addr) (d1 : Nat) (q2 : Option Addr) (d2 : Nat) (w2 : World) (hr : Row w2 q1 A d1) (hr' : Row w2 q2 A d2) => equal18 q1 A d1 q2 A d2 w2 hr.i hr'.i (by omega)
  have CEB0 := fun (q1 : Option Addr) (d1 : Nat) (q2 : Option Addr) (d2 : Nat) (w2 : World) (hr : Row w2 q1 B d1) (hr' : Row w2 q2 B d2) => equal18 q1 B d1 q2 B d2 w2 hr.i hr'.i (by omega)
  simp only [samI_refl] at CEA0 CEB0
  go_enter Try.func3, Try.ntmps3
  go_wp2_with (first
    | (go_at_call 9; refine Calls.mono CK ?_; clear CK; rintro e w1 ⟨rfl, hb1⟩; have CX1 := CX _ hb1)
    | (go_at_call 10; refine Calls.mono CX1 ?_; clear CX1; rintro e w2 ⟨pa, da, rfl, ra2, hb2⟩; have g2 := hb1.trans (hb2.mono hb1.size); have CY1 := CY _ g2; clear hb2)
    | (go_at_call 10; refine Calls.mono CY1 ?_; clear CY1; rintro e w3 ⟨pb, db, rfl, rb3, hb3⟩; have h0 : Ma2 w w3 pa A da pb B db := ⟨ra2.to hb3, rb3, g2.trans (hb3.mono g2.size)⟩; clear g2 ra2 rb3 hb3))
  go_loopw [25] (fun i wr => ∃ k : Nat, k ≤ 2 ∧ i = .int .i64 k ∧ Ma2 w wr pa A da pb B db) (fun i _ => 2 - (intOf i).toNat)
  case atStart => exact ⟨0, by omega, rfl, h0⟩
  case round =>
    clear h0
    obtain ⟨k, hk, rfl, hM⟩ := hrel
    have H3 := hidOg hM
    clear hM
    by_cases k2 : k = 2
    · have hki : ((k : Int) < 2) = False := by simp; omega
      clear k2
      have CEA := fun (q2 : Option Addr) (d2 : Nat) (w2 : World) (hr : Row w2 pa A da) (hr' : Row w2 q2 A d2) => CEA0 pa da q2 d2 w2 hr hr'
      have CEB := fun (q2 : Option Addr) (d2 : Nat) (w2 : World) (hr : Row w2 pb B db) (hr' : Row w2 q2 B d2) => CEB0 pb db q2 d2 w2 hr hr'
      have CM := meet_any pa A da pb B db wr H3.out.a uA H3.out.b uB
      unfold MeetOut at CM
      have CP := fun (w2 : World) (hr : Ma2 w w2 pa A da pb B db) => compare_any pa A da pb B db w2 hr.a hr.b
      have CQ := fun (w2 : World) (hr : Ma2 w w2 pa A da pb B db) => compare22 pa A da pb B db w2 hr.a.i hr.b.i hr.a.n hr.b.n
      have CRA := fun (w2 : World) (hr : Row w2 pa A da) => right12 pa A da w2 hr.i uA hr.n
      have CRB := fun (w2 : World) (hr : Row w2 pb B db) => right12 pb B db w2 hr.i uB hr.n
      obtain ⟨cv, hcv⟩ : ∃ cv, cv = cmpL A B := ⟨_, rfl⟩
      rw [← hcv] at CP CQ
      clear hcv CEA0 CEB0
      cases hma : mayT A
      · skip
        have CM1 := CM
        rw [(met_no (.inl hma)).1, (met_no (.inl hma)).2] at CM1
        rw [hma] at CRA
        simp only [List.length_nil] at CM1
        clear hma CM
        go_wp2_with (first
          | (go_at_call 19; refine Calls.mono CM1 ?_; clear CM1; rintro e w3 ⟨q3, d3, rfl, hr3, hb3⟩; have h3 := H3.out.to hb3; have CRA1 := CRA _ h3.a; have CP1 := CP _ h3; have CQ1 := CQ _ h3; clear CRA CP CQ)
          | (go_at_call 12; refine Calls.mono CRA1 ?_; clear CRA1; rintro e w' ⟨rfl, hw'⟩; rw [hw']; clear hw' w')
          | (go_at_call 21; refine Calls.mono CP1 ?_; clear CP1; rintro e w' ⟨rfl, hw'⟩; rw [hw']; clear hw' w')
          | (go_at_call 22; refine Calls.mono CQ1 ?_; clear CQ1; rintro e w' ⟨rfl, hw'⟩; rw [hw']; clear hw' w'; have CX1 := CX _ h3.w; clear CX)
          | (go_at_call 10; refine Calls.mono CX1 ?_; clear CX1; rintro e w6 ⟨q6, d6, rfl, hr6, hb6⟩; have h6 := h3.to hb6; have CEA1 := CEA q6 d6 _ h6.a hr6; clear CEA)
          | (go_at_call 18; refine Calls.mono CEA1 ?_; clear CEA1; rintro e w7 ⟨rfl, hb7⟩; have h7 := h6.to hb7; have CY1 := CY _ h7.w; clear CY h6)
          | (go_at_call 10; refine Calls.mono CY1 ?_; clear CY1; rintro e w8 ⟨q8, d8, rfl, hr8, hb8⟩; have h8 := h7.to hb8; have CEB1 := CEB q8 d8 _ h8.b hr8; clear CEB h7)
          | (go_at_call 18; refine Calls.mono CEB1 ?_; clear CEB1; rintro e w9 ⟨rfl, hb9⟩; have h9 := h8.to hb9))
        go_ret
        exact ⟨rfl, h9.w⟩
      · cases hmb : mayT B
        · skip
          have CM1 := CM
          rw [(met_no (.inr hmb)).1, (met_no (.inr hmb)).2] at CM1
          rw [hma] at CRA
          rw [hmb] at CRB
          simp only [List.length_nil] at CM1
          clear hma hmb CM
          go_wp2_with (first
            | (go_at_call 19; refine Calls.mono CM1 ?_; clear CM1; rintro e w3 ⟨q3, d3, rfl, hr3, hb3⟩; have h3 := H3.out.to hb3; have CRA1 := CRA _ h3.a; have CP1 := CP _ h3; have CQ1 := CQ _ h3; clear CRA CP CQ)
            | (go_at_call 12; refine Calls.mono CRA1 ?_; clear CRA1; rintro e w' ⟨rfl, hw'⟩; rw [hw']; clear hw' w'; have CRB1 := CRB _ h3.b; clear CRB)
            | (go_at_call 12; refine Calls.mono CRB1 ?_; clear CRB1; rintro e w' ⟨rfl, hw'⟩; rw [hw']; clear hw' w')
            | (go_at_call 21; refine Calls.mono CP1 ?_; clear CP1; rintro e w' ⟨rfl, hw'⟩; rw [hw']; clear hw' w')
            | (go_at_call 22; refine Calls.mono CQ1 ?_; clear CQ1; rintro e w' ⟨rfl, hw'⟩; rw [hw']; clear hw' w'; have CX1 := CX _ h3.w; clear CX)
            | (go_at_call 10; refine Calls.mono CX1 ?_; clear CX1; rintro e w6 ⟨q6, d6, rfl, hr6, hb6⟩; have h6 := h3.to hb6; have CEA1 := CEA q6 d6 _ h6.a hr6; clear CEA)
            | (go_at_call 18; refine Calls.mono CEA1 ?_; clear CEA1; rintro e w7 ⟨rfl, hb7⟩; have h7 := h6.to hb7; have CY1 := CY _ h7.w; clear CY h6)
            | (go_at_call 10; refine Calls.mono CY1 ?_; clear CY1; rintro e w8 ⟨q8, d8, rfl, hr8, hb8⟩; have h8 := h7.to hb8; have CEB1 := CEB q8 d8 _ h8.b hr8; clear CEB h7)
            | (go_at_call 18; refine Calls.mono CEB1 ?_; clear CEB1; rintro e w9 ⟨rfl, hb9⟩; have h9 := h8.to hb9))
          go_ret
          exact ⟨rfl, h9.w⟩
        · skip
          have CM1 := CM
          rw [(met_yes hma hmb).1, (met_yes hma hmb).2] at CM1
          rw [hma] at CRA
          rw [hmb] at CRB
          have lF : (A.filter (inB B)).length ≤ 20 := Nat.le_trans (List.length_filter_le _ A) lA
          have CN := fun (w2 : World) (hr : Ma2 w w2 pa A da pb B db) => meet20 pa A da pb B db w2 hr.a.i uA hr.a.n hr.b
          have CE := fun (q1 : Option Addr) (d1 : Nat) (q2 : Option Addr) (d2 : Nat) (w2 : World) (hr : Row w2 q1 (A.filter (inB B)) d1) (hr' : Row w2 q2 (A.filter (inB B)) d2) => equal18 q1 _ d1 q2 _ d2 w2 hr.i hr'.i (by omega)
          simp only [samI_refl] at CE
          obtain ⟨F, hF⟩ : ∃ F, F = A.filter (inB B) := ⟨_, rfl⟩
          rw [← hF] at CM1 CN CE
          clear hF lF
          clear hma hmb CM
          go_wp2_with (first
            | (go_at_call 19; refine Calls.mono CM1 ?_; clear CM1; rintro e w3 ⟨q3, d3, rfl, hr3, hb3⟩; have h3 := H3.out.to hb3; have CRA1 := CRA _ h3.a; clear CRA)
            | (go_at_call 12; refine Calls.mono CRA1 ?_; clear CRA1; rintro e w' ⟨rfl, hw'⟩; rw [hw']; clear hw' w'; have CRB1 := CRB _ h3.b; clear CRB)
            | (go_at_call 12; refine Calls.mono CRB1 ?_; clear CRB1; rintro e w' ⟨rfl, hw'⟩; rw [hw']; clear hw' w'; have CN1 := CN _ h3; clear CN)
            | (go_at_call 20; refine Calls.mono CN1 ?_; clear CN1; rintro e w4 ⟨q4, d4, rfl, hr4, hb4⟩; have h4 := h3.to hb4; have t4 := hr3.row.to hb4; have CE1 := CE q3 d3 q4 d4 _ t4 hr4.row; clear CE h3)
            | (go_at_call 18; refine Calls.mono CE1 ?_; clear CE1; rintro e w5 ⟨rfl, hb5⟩; have h5 := h4.to hb5; have CP1 := CP _ h5; have CQ1 := CQ _ h5; clear CP CQ h4 t4 hb5)
            | (go_at_call 21; refine Calls.mono CP1 ?_; clear CP1; rintro e w' ⟨rfl, hw'⟩; rw [hw']; clear hw' w')
            | (go_at_call 22; refine Calls.mono CQ1 ?_; clear CQ1; rintro e w' ⟨rfl, hw'⟩; rw [hw']; clear hw' w'; have CX1 := CX _ h5.w; clear CX)
            | (go_at_call 10; refine Calls.mono CX1 ?_; clear CX1; rintro e w6 ⟨q6, d6, rfl, hr6, hb6⟩; have h6 := h5.to hb6; have CEA1 := CEA q6 d6 _ h6.a hr6; clear CEA)
            | (go_at_call 18; refine Calls.mono CEA1 ?_; clear CEA1; rintro e w7 ⟨rfl, hb7⟩; have h7 := h6.to hb7; have CY1 := CY _ h7.w; clear CY h6)
            | (go_at_call 10; refine Calls.mono CY1 ?_; clear CY1; rintro e w8 ⟨q8, d8, rfl, hr8, hb8⟩; have h8 := h7.to hb8; have CEB1 := CEB q8 d8 _ h8.b hr8; clear CEB h7)
            | (go_at_call 18; refine Calls.mono CEB1 ?_; clear CEB1; rintro e w9 ⟨rfl, hb9⟩; have h9 := h8.to hb9))
          go_ret
          exact ⟨rfl, h9.w⟩
    · by_cases k1 : k = 1
      · skip
        have ix := ix25b pa A.length da pb B.length db
        have hki : (k : Int) = 1 := by omega
        have CC := fun (w2 : World) (hr : Row w2 pb B db) => check_any pb B db w2 hr uB
        have CR := fun (w2 : World) (hr : Row w2 pb B db) => right12 pb B db w2 hr.i uB hr.n
        cases hm : mayT B
        · rw [chk_not hm] at CC
          rw [hm] at CR
          clear hm
          cases hc : B.all canB
          · skip
            have CO := fun (w2 : World) (hr : Row w2 pb B db) => of_any pb B db w2 hr uB
            unfold OfOut at CO
            rw [(of_arg hc).1, (of_arg hc).2] at CO
            have CI := fun (w2 : World) (hr : Row w2 pb B db) => of14 pb B db w2 hr.i (by omega)
            have CT := fun (w2 : World) (hr : Row w2 pb B db) => contains15 pb B db w2 hr uB
            rw [hc] at CT
            have CE := fun (q1 : Option Addr) (d1 : Nat) (w2 : World) (hr : Row w2 q1 [] d1) => equal18 q1 [] d1 none [] 0 w2 hr.i IRow.nil (by simp)
            simp only [samI_refl, List.length_nil] at CE
            simp only [List.length_nil] at CO
            obtain ⟨I, hI⟩ : ∃ I, I = ofL B := ⟨_, rfl⟩
            rw [← hI] at CI
            clear hI hc
            go_wp2_with (first
              | (go_at_call 11; refine Calls.mono (CC _ H3.out.b) ?_; clear CC; rintro e w1 ⟨rfl, hb1⟩; have h1 := H3.out.to hb1; have CR1 := CR _ h1.b; clear CR)
              | (go_at_call 12; refine Calls.mono CR1 ?_; clear CR1; rintro e w' ⟨rfl, hw'⟩; rw [hw']; clear hw' w'; have CO1 := CO _ h1.b; clear CO)
              | (go_at_call 13; refine Calls.mono CO1 ?_; clear CO1; rintro e w3 ⟨q3, d3, rfl, hr3, hb3⟩; have h3 := h1.to hb3; have CI1 := CI _ h3.b; clear CI h1)
              | (go_at_call 14; refine Calls.mono CI1 ?_; clear CI1; rintro e w4 ⟨q4, d4, rfl, hr4, hb4⟩; have h4 := h3.to hb4; have t4 := hr3.row.to hb4; have CT1 := CT _ h4.b; have CE1 := CE q3 d3 _ t4; clear CT CE h3)
              | (go_at_call 15; refine Calls.mono CT1 ?_; clear CT1; rintro e w' ⟨rfl, hw'⟩; rw [hw']; clear hw' w')
              | (go_at_call 18; refine Calls.mono CE1 ?_; clear CE1; rintro e w5 ⟨rfl, hb5⟩; have h5 := h4.to hb5; clear h4 t4 hb5))
            go_roundw
            case rel => exact ⟨k + 1, by omega, by go_num, h5⟩
            case measure => simp [intOf]; omega
          · by_cases hl : (ofL B).length ≤ 12
            · skip
              have CO := fun (w2 : World) (hr : Row w2 pb B db) => of_any pb B db w2 hr uB
              unfold OfOut at CO
              rw [(of_good hc hl).1, (of_good hc hl).2] at CO
              have CI := fun (w2 : World) (hr : Row w2 pb B db) => of14 pb B db w2 hr.i (by omega)
              have CT := fun (w2 : World) (hr : Row w2 pb B db) => contains15 pb B db w2 hr uB
              rw [hc] at CT
              have CE := fun (q1 : Option Addr) (d1 : Nat) (q2 : Option Addr) (d2 : Nat) (w2 : World) (hr : Row w2 q1 (ofL B) d1) (hr' : Row w2 q2 (ofL B) d2) => equal18 q1 _ d1 q2 _ d2 w2 hr.i hr'.i (by omega)
              simp only [samI_refl] at CE
              obtain ⟨I, hI⟩ : ∃ I, I = ofL B := ⟨_, rfl⟩
              rw [← hI] at CO CI CE hl
              have hIl : ¬ ((12 : Int) < (I.length : Int)) := by omega
              clear hI hc hl
              go_wp2_with (first
                | (go_at_call 11; refine Calls.mono (CC _ H3.out.b) ?_; clear CC; rintro e w1 ⟨rfl, hb1⟩; have h1 := H3.out.to hb1; have CR1 := CR _ h1.b; clear CR)
                | (go_at_call 12; refine Calls.mono CR1 ?_; clear CR1; rintro e w' ⟨rfl, hw'⟩; rw [hw']; clear hw' w'; have CO1 := CO _ h1.b; clear CO)
                | (go_at_call 13; refine Calls.mono CO1 ?_; clear CO1; rintro e w3 ⟨q3, d3, rfl, hr3, hb3⟩; have h3 := h1.to hb3; have CI1 := CI _ h3.b; clear CI h1)
                | (go_at_call 14; refine Calls.mono CI1 ?_; clear CI1; rintro e w4 ⟨q4, d4, rfl, hr4, hb4⟩; have h4 := h3.to hb4; have t4 := hr3.row.to hb4; have CT1 := CT _ h4.b; have CE1 := CE q3 d3 q4 d4 _ t4 hr4.row; clear CT CE h3)
                | (go_at_call 15; refine Calls.mono CT1 ?_; clear CT1; rintro e w' ⟨rfl, hw'⟩; rw [hw']; clear hw' w')
                | (go_at_call 18; refine Calls.mono CE1 ?_; clear CE1; rintro e w5 ⟨rfl, hb5⟩; have h5 := h4.to hb5; clear h4 t4 hb5))
              go_roundw
              case rel => exact ⟨k + 1, by omega, by go_num, h5⟩
              case measure => simp [intOf]; omega
            · skip
              have CO := fun (w2 : World) (hr : Row w2 pb B db) => of_any pb B db w2 hr uB
              unfold OfOut at CO
              rw [(of_full hc hl).1, (of_full hc hl).2] at CO
              have CI := fun (w2 : World) (hr : Row w2 pb B db) => of14 pb B db w2 hr.i (by omega)
              have CT := fun (w2 : World) (hr : Row w2 pb B db) => contains15 pb B db w2 hr uB
              rw [hc] at CT
              have CE := fun (q1 : Option Addr) (d1 : Nat) (w2 : World) (hr : Row w2 q1 [] d1) => equal18 q1 [] d1 none [] 0 w2 hr.i IRow.nil (by simp)
              simp only [samI_refl, List.length_nil] at CE
              simp only [List.length_nil] at CO
              obtain ⟨I, hI⟩ : ∃ I, I = ofL B := ⟨_, rfl⟩
              rw [← hI] at CI hl
              have hIl : (12 : Int) < (I.length : Int) := by omega
              clear hI hc hl
              go_wp2_with (first
                | (go_at_call 11; refine Calls.mono (CC _ H3.out.b) ?_; clear CC; rintro e w1 ⟨rfl, hb1⟩; have h1 := H3.out.to hb1; have CR1 := CR _ h1.b; clear CR)
                | (go_at_call 12; refine Calls.mono CR1 ?_; clear CR1; rintro e w' ⟨rfl, hw'⟩; rw [hw']; clear hw' w'; have CO1 := CO _ h1.b; clear CO)
                | (go_at_call 13; refine Calls.mono CO1 ?_; clear CO1; rintro e w3 ⟨q3, d3, rfl, hr3, hb3⟩; have h3 := h1.to hb3; have CI1 := CI _ h3.b; clear CI h1)
                | (go_at_call 14; refine Calls.mono CI1 ?_; clear CI1; rintro e w4 ⟨q4, d4, rfl, hr4, hb4⟩; have h4 := h3.to hb4; have t4 := hr3.row.to hb4; have CT1 := CT _ h4.b; have CE1 := CE q3 d3 _ t4; clear CT CE h3)
                | (go_at_call 15; refine Calls.mono CT1 ?_; clear CT1; rintro e w' ⟨rfl, hw'⟩; rw [hw']; clear hw' w')
                | (go_at_call 18; refine Calls.mono CE1 ?_; clear CE1; rintro e w5 ⟨rfl, hb5⟩; have h5 := h4.to hb5; clear h4 t4 hb5))
              go_roundw
              case rel => exact ⟨k + 1, by omega, by go_num, h5⟩
              case measure => simp [intOf]; omega
        · obtain ⟨hc, hl⟩ := of_may hm
          rw [chk_may hm] at CC
          rw [hm] at CR
          clear hm
          have CO := fun (w2 : World) (hr : Row w2 pb B db) => of_any pb B db w2 hr uB
          unfold OfOut at CO
          rw [(of_good hc hl).1, (of_good hc hl).2] at CO
          have CI := fun (w2 : World) (hr : Row w2 pb B db) => of14 pb B db w2 hr.i (by omega)
          have CT := fun (w2 : World) (hr : Row w2 pb B db) => contains15 pb B db w2 hr uB
          rw [hc] at CT
          have CE := fun (q1 : Option Addr) (d1 : Nat) (q2 : Option Addr) (d2 : Nat) (w2 : World) (hr : Row w2 q1 (ofL B) d1) (hr' : Row w2 q2 (ofL B) d2) => equal18 q1 _ d1 q2 _ d2 w2 hr.i hr'.i (by omega)
          simp only [samI_refl] at CE
          obtain ⟨I, hI⟩ : ∃ I, I = ofL B := ⟨_, rfl⟩
          rw [← hI] at CO CI CE hl
          have hIl : ¬ ((12 : Int) < (I.length : Int)) := by omega
          clear hI hc hl
          go_wp2_with (first
            | (go_at_call 11; refine Calls.mono (CC _ H3.out.b) ?_; clear CC; rintro e w1 ⟨rfl, hb1⟩; have h1 := H3.out.to hb1; have CR1 := CR _ h1.b; clear CR)
            | (go_at_call 12; refine Calls.mono CR1 ?_; clear CR1; rintro e w' ⟨rfl, hw'⟩; rw [hw']; clear hw' w'; have CO1 := CO _ h1.b; clear CO)
            | (go_at_call 13; refine Calls.mono CO1 ?_; clear CO1; rintro e w3 ⟨q3, d3, rfl, hr3, hb3⟩; have h3 := h1.to hb3; have CI1 := CI _ h3.b; clear CI h1)
            | (go_at_call 14; refine Calls.mono CI1 ?_; clear CI1; rintro e w4 ⟨q4, d4, rfl, hr4, hb4⟩; have h4 := h3.to hb4; have t4 := hr3.row.to hb4; have CT1 := CT _ h4.b; have CE1 := CE q3 d3 q4 d4 _ t4 hr4.row; clear CT CE h3)
            | (go_at_call 15; refine Calls.mono CT1 ?_; clear CT1; rintro e w' ⟨rfl, hw'⟩; rw [hw']; clear hw' w')
            | (go_at_call 18; refine Calls.mono CE1 ?_; clear CE1; rintro e w5 ⟨rfl, hb5⟩; have h5 := h4.to hb5; clear h4 t4 hb5))
          go_roundw
          case rel => exact ⟨k + 1, by omega, by go_num, h5⟩
          case measure => simp [intOf]; omega
      · skip
        have ix := ix25a pa A.length da pb B.length db
        have hki : (k : Int) = 0 := by omega
        have CC := fun (w2 : World) (hr : Row w2 pa A da) => check_any pa A da w2 hr uA
        have CR := fun (w2 : World) (hr : Row w2 pa A da) => right12 pa A da w2 hr.i uA hr.n
        cases hm : mayT A
        · rw [chk_not hm] at CC
          rw [hm] at CR
          clear hm
          cases hc : A.all canB
          · skip
            have CO := fun (w2 : World) (hr : Row w2 pa A da) => of_any pa A da w2 hr uA
            unfold OfOut at CO
            rw [(of_arg hc).1, (of_arg hc).2] at CO
            have CI := fun (w2 : World) (hr : Row w2 pa A da) => of14 pa A da w2 hr.i (by omega)
            have CT := fun (w2 : World) (hr : Row w2 pa A da) => contains15 pa A da w2 hr uA
            rw [hc] at CT
            have CE := fun (q1 : Option Addr) (d1 : Nat) (w2 : World) (hr : Row w2 q1 [] d1) => equal18 q1 [] d1 none [] 0 w2 hr.i IRow.nil (by simp)
            simp only [samI_refl, List.length_nil] at CE
            simp only [List.length_nil] at CO
            obtain ⟨I, hI⟩ : ∃ I, I = ofL A := ⟨_, rfl⟩
            rw [← hI] at CI
            clear hI hc
            go_wp2_with (first
              | (go_at_call 11; refine Calls.mono (CC _ H3.out.a) ?_; clear CC; rintro e w1 ⟨rfl, hb1⟩; have h1 := H3.out.to hb1; have CR1 := CR _ h1.a; clear CR)
              | (go_at_call 12; refine Calls.mono CR1 ?_; clear CR1; rintro e w' ⟨rfl, hw'⟩; rw [hw']; clear hw' w'; have CO1 := CO _ h1.a; clear CO)
              | (go_at_call 13; refine Calls.mono CO1 ?_; clear CO1; rintro e w3 ⟨q3, d3, rfl, hr3, hb3⟩; have h3 := h1.to hb3; have CI1 := CI _ h3.a; clear CI h1)
              | (go_at_call 14; refine Calls.mono CI1 ?_; clear CI1; rintro e w4 ⟨q4, d4, rfl, hr4, hb4⟩; have h4 := h3.to hb4; have t4 := hr3.row.to hb4; have CT1 := CT _ h4.a; have CE1 := CE q3 d3 _ t4; clear CT CE h3)
              | (go_at_call 15; refine Calls.mono CT1 ?_; clear CT1; rintro e w' ⟨rfl, hw'⟩; rw [hw']; clear hw' w')
              | (go_at_call 18; refine Calls.mono CE1 ?_; clear CE1; rintro e w5 ⟨rfl, hb5⟩; have h5 := h4.to hb5; clear h4 t4 hb5))
            go_roundw
            case rel => exact ⟨k + 1, by omega, by go_num, h5⟩
            case measure => simp [intOf]; omega
          · by_cases hl : (ofL A).length ≤ 12
            · skip
              have CO := fun (w2 : World) (hr : Row w2 pa A da) => of_any pa A da w2 hr uA
              unfold OfOut at CO
              rw [(of_good hc hl).1, (of_good hc hl).2] at CO
              have CI := fun (w2 : World) (hr : Row w2 pa A da) => of14 pa A da w2 hr.i (by omega)
              have CT := fun (w2 : World) (hr : Row w2 pa A da) => contains15 pa A da w2 hr uA
              rw [hc] at CT
              have CE := fun (q1 : Option Addr) (d1 : Nat) (q2 : Option Addr) (d2 : Nat) (w2 : World) (hr : Row w2 q1 (ofL A) d1) (hr' : Row w2 q2 (ofL A) d2) => equal18 q1 _ d1 q2 _ d2 w2 hr.i hr'.i (by omega)
              simp only [samI_refl] at CE
              obtain ⟨I, hI⟩ : ∃ I, I = ofL A := ⟨_, rfl⟩
              rw [← hI] at CO CI CE hl
              have hIl : ¬ ((12 : Int) < (I.length : Int)) := by omega
              clear hI hc hl
              go_wp2_with (first
                | (go_at_call 11; refine Calls.mono (CC _ H3.out.a) ?_; clear CC; rintro e w1 ⟨rfl, hb1⟩; have h1 := H3.out.to hb1; have CR1 := CR _ h1.a; clear CR)
                | (go_at_call 12; refine Calls.mono CR1 ?_; clear CR1; rintro e w' ⟨rfl, hw'⟩; rw [hw']; clear hw' w'; have CO1 := CO _ h1.a; clear CO)
                | (go_at_call 13; refine Calls.mono CO1 ?_; clear CO1; rintro e w3 ⟨q3, d3, rfl, hr3, hb3⟩; have h3 := h1.to hb3; have CI1 := CI _ h3.a; clear CI h1)
                | (go_at_call 14; refine Calls.mono CI1 ?_; clear CI1; rintro e w4 ⟨q4, d4, rfl, hr4, hb4⟩; have h4 := h3.to hb4; have t4 := hr3.row.to hb4; have CT1 := CT _ h4.a; have CE1 := CE q3 d3 q4 d4 _ t4 hr4.row; clear CT CE h3)
                | (go_at_call 15; refine Calls.mono CT1 ?_; clear CT1; rintro e w' ⟨rfl, hw'⟩; rw [hw']; clear hw' w')
                | (go_at_call 18; refine Calls.mono CE1 ?_; clear CE1; rintro e w5 ⟨rfl, hb5⟩; have h5 := h4.to hb5; clear h4 t4 hb5))
              go_roundw
              case rel => exact ⟨k + 1, by omega, by go_num, h5⟩
              case measure => simp [intOf]; omega
            · skip
              have CO := fun (w2 : World) (hr : Row w2 pa A da) => of_any pa A da w2 hr uA
              unfold OfOut at CO
              rw [(of_full hc hl).1, (of_full hc hl).2] at CO
              have CI := fun (w2 : World) (hr : Row w2 pa A da) => of14 pa A da w2 hr.i (by omega)
              have CT := fun (w2 : World) (hr : Row w2 pa A da) => contains15 pa A da w2 hr uA
              rw [hc] at CT
              have CE := fun (q1 : Option Addr) (d1 : Nat) (w2 : World) (hr : Row w2 q1 [] d1) => equal18 q1 [] d1 none [] 0 w2 hr.i IRow.nil (by simp)
              simp only [samI_refl, List.length_nil] at CE
              simp only [List.length_nil] at CO
              obtain ⟨I, hI⟩ : ∃ I, I = ofL A := ⟨_, rfl⟩
              rw [← hI] at CI hl
              have hIl : (12 : Int) < (I.length : Int) := by omega
              clear hI hc hl
              go_wp2_with (first
                | (go_at_call 11; refine Calls.mono (CC _ H3.out.a) ?_; clear CC; rintro e w1 ⟨rfl, hb1⟩; have h1 := H3.out.to hb1; have CR1 := CR _ h1.a; clear CR)
                | (go_at_call 12; refine Calls.mono CR1 ?_; clear CR1; rintro e w' ⟨rfl, hw'⟩; rw [hw']; clear hw' w'; have CO1 := CO _ h1.a; clear CO)
                | (go_at_call 13; refine Calls.mono CO1 ?_; clear CO1; rintro e w3 ⟨q3, d3, rfl, hr3, hb3⟩; have h3 := h1.to hb3; have CI1 := CI _ h3.a; clear CI h1)
                | (go_at_call 14; refine Calls.mono CI1 ?_; clear CI1; rintro e w4 ⟨q4, d4, rfl, hr4, hb4⟩; have h4 := h3.to hb4; have t4 := hr3.row.to hb4; have CT1 := CT _ h4.a; have CE1 := CE q3 d3 _ t4; clear CT CE h3)
                | (go_at_call 15; refine Calls.mono CT1 ?_; clear CT1; rintro e w' ⟨rfl, hw'⟩; rw [hw']; clear hw' w')
                | (go_at_call 18; refine Calls.mono CE1 ?_; clear CE1; rintro e w5 ⟨rfl, hb5⟩; have h5 := h4.to hb5; clear h4 t4 hb5))
              go_roundw
              case rel => exact ⟨k + 1, by omega, by go_num, h5⟩
              case measure => simp [intOf]; omega
        · obtain ⟨hc, hl⟩ := of_may hm
          rw [chk_may hm] at CC
          rw [hm] at CR
          clear hm
          have CO := fun (w2 : World) (hr : Row w2 pa A da) => of_any pa A da w2 hr uA
          unfold OfOut at CO
          rw [(of_good hc hl).1, (of_good hc hl).2] at CO
          have CI := fun (w2 : World) (hr : Row w2 pa A da) => of14 pa A da w2 hr.i (by omega)
          have CT := fun (w2 : World) (hr : Row w2 pa A da) => contains15 pa A da w2 hr uA
          rw [hc] at CT
          have CE := fun (q1 : Option Addr) (d1 : Nat) (q2 : Option Addr) (d2 : Nat) (w2 : World) (hr : Row w2 q1 (ofL A) d1) (hr' : Row w2 q2 (ofL A) d2) => equal18 q1 _ d1 q2 _ d2 w2 hr.i hr'.i (by omega)
          simp only [samI_refl] at CE
          obtain ⟨I, hI⟩ : ∃ I, I = ofL A := ⟨_, rfl⟩
          rw [← hI] at CO CI CE hl
          have hIl : ¬ ((12 : Int) < (I.length : Int)) := by omega
          clear hI hc hl
          go_wp2_with (first
            | (go_at_call 11; refine Calls.mono (CC _ H3.out.a) ?_; clear CC; rintro e w1 ⟨rfl, hb1⟩; have h1 := H3.out.to hb1; have CR1 := CR _ h1.a; clear CR)
            | (go_at_call 12; refine Calls.mono CR1 ?_; clear CR1; rintro e w' ⟨rfl, hw'⟩; rw [hw']; clear hw' w'; have CO1 := CO _ h1.a; clear CO)
            | (go_at_call 13; refine Calls.mono CO1 ?_; clear CO1; rintro e w3 ⟨q3, d3, rfl, hr3, hb3⟩; have h3 := h1.to hb3; have CI1 := CI _ h3.a; clear CI h1)
            | (go_at_call 14; refine Calls.mono CI1 ?_; clear CI1; rintro e w4 ⟨q4, d4, rfl, hr4, hb4⟩; have h4 := h3.to hb4; have t4 := hr3.row.to hb4; have CT1 := CT _ h4.a; have CE1 := CE q3 d3 q4 d4 _ t4 hr4.row; clear CT CE h3)
            | (go_at_call 15; refine Calls.mono CT1 ?_; clear CT1; rintro e w' ⟨rfl, hw'⟩; rw [hw']; clear hw' w')
            | (go_at_call 18; refine Calls.mono CE1 ?_; clear CE1; rintro e w5 ⟨rfl, hb5⟩; have h5 := h4.to hb5; clear h4 t4 hb5))
          go_roundw
          case rel => exact ⟨k + 1, by omega, by go_num, h5⟩
          case measure => simp [intOf]; omega
end Go.Proofs.Ytooaghcjlomcpaa
