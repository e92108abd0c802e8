/- TypesOrder: its walk, one for each way in which the rows stand. -/
import Derived.Test.YtooaghcjlomcpaaOrA
namespace Go.Proofs.Ytooaghcjlomcpaa
open Go.RowKit

/-- The three rows that the law has made, behind the turn of the first. -/
structure Or3 (w W : World) (pa : Option Addr) (A : List Int) (ca : Nat) (pb : Option Addr) (B : List Int) (cb : Nat) (pc : Option Addr) (C : List Int) (cc : Nat) : Prop where
  a : Row W pa A ca
  b : Row W pb B cb
  c : Row W pc C cc
  w : Below w.heap.size w W
theorem Or3.to {w W W' : World} {pa pb pc : Option Addr} {A B C : List Int} {ca cb cc : Nat} (h : Or3 w W pa A ca pb B cb pc C cc) (hb : Below W.heap.size W W') : Or3 w W' pa A ca pb B cb pc C cc :=
  ⟨h.a.to hb, h.b.to hb, h.c.to hb, h.w.trans (hb.mono h.w.size)⟩

set_option maxRecDepth 20000 in
set_option maxHeartbeats 2000000 in
theorem order_p (px : Option Addr) (X : List Int) (cx : Nat) (py : Option Addr) (Y : List Int) (cy : Nat) (pz : Option Addr) (Z : List Int) (cz : Nat) (w : World) (hx : InR w px X cx) (hy : InR w py Y cy) (hz : InR w pz Z cz) (h1 : cmpL (X.take 20).reverse (Y.take 20) = 1) :
    Calls Try.prog 7 #[.slice px X.length cx, .slice py Y.length cy, .slice pz Z.length cz] w fun e w' => e = .returned (.bool true) ∧ Below w.heap.size w w' := by
  have CK := wakes_any w
  have CX := fun (w1 : World) (hb : Below w.heap.size w w1) => few_ownR px X cx w1 (hx.to hb)
  have CY := fun (w1 : World) (hb : Below w.heap.size w w1) => few_ownR py Y cy w1 (hy.to hb)
  have CZ := fun (w1 : World) (hb : Below w.heap.size w w1) => few_ownR pz Z cz w1 (hz.to hb)
  have ux := hx.u.take 20
  obtain ⟨A, hA⟩ : ∃ A, A = X.take 20 := ⟨_, rfl⟩
  obtain ⟨B, hB⟩ : ∃ B, B = Y.take 20 := ⟨_, rfl⟩
  obtain ⟨C, hC⟩ : ∃ C, C = Z.take 20 := ⟨_, rfl⟩
  rw [← hA] at CX ux h1
  rw [← hB] at CY h1
  rw [← hC] at CZ
  clear hA hB hC hx hy hz
  have CO1 := fun (q : Option Addr) (d : Nat) (w2 : World) (hr : Row w2 q A d) => of_any q A d w2 hr ux
  have ur : U64 A.reverse := fun y hy => ux y (List.mem_reverse.1 hy)
  have CO2 := fun (q : Option Addr) (d : Nat) (w2 : World) (hr : Row w2 q A.reverse d) => of_any q A.reverse d w2 hr ur
  have CR := fun (N : Nat) (q : Option Addr) (d : Nat) (w2 : World) (hr : OwnR N w2 q A d) => reverse_ownR N q A d w2 hr
  unfold OfOut at CO1 CO2
  rw [ofR_rev, ofE_rev] at CO2
  have CE := fun (q : Option Addr) (d : Nat) (q' : Option Addr) (d' : Nat) (w2 : World) (hr : Row w2 q (ofR A) d) (hr' : Row w2 q' (ofR A) d') => equal18 q (ofR A) d q' (ofR A) d' w2 hr.i hr'.i (by have := hr.n; omega)
  rw [samI_refl] at CE
  have CC := fun (q : Option Addr) (d : Nat) (w2 : World) (hr : Row w2 q (ofR A) d) => check_any q (ofR A) d w2 hr (ofR_u ux)
  have HCC : ofE A = 0 → chkE (ofR A) = 0 := fun h => by obtain ⟨e1, e2⟩ := of_yes h; rw [e1]; exact chk_may e2
  have CAB := fun (q : Option Addr) (d : Nat) (q' : Option Addr) (d' : Nat) (w2 : World) (hr : Row w2 q A.reverse d) (hr' : Row w2 q' B d') => compare_any q A.reverse d q' B d' w2 hr hr'
  have CBC := fun (q : Option Addr) (d : Nat) (q' : Option Addr) (d' : Nat) (w2 : World) (hr : Row w2 q B d) (hr' : Row w2 q' C d') => compare_any q B d q' C d' w2 hr hr'
  have CAC := fun (q : Option Addr) (d : Nat) (q' : Option Addr) (d' : Nat) (w2 : World) (hr : Row w2 q A.reverse d) (hr' : Row w2 q' C d') => compare_any q A.reverse d q' C d' w2 hr hr'
  have CBA := fun (q : Option Addr) (d : Nat) (q' : Option Addr) (d' : Nat) (w2 : World) (hr : Row w2 q B d) (hr' : Row w2 q' A.reverse d') => compare_any q B d q' A.reverse d' w2 hr hr'
  rw [cmp_anti A.reverse B, h1] at CBA
  have CQ := fun (q : Option Addr) (d : Nat) (q' : Option Addr) (d' : Nat) (w2 : World) (hr : Row w2 q A.reverse d) (hr' : Row w2 q' B d') => equal18 q A.reverse d q' B d' w2 hr.i hr'.i (by have := hr.n; omega)
  rw [sam_cmp, h1] at CQ
  rw [h1] at CAB
  obtain ⟨qv, hqv⟩ : ∃ qv, qv = cmpL B C := ⟨_, rfl⟩
  rw [← hqv] at CBC
  clear hqv
  obtain ⟨rv, hrv⟩ : ∃ rv, rv = cmpL A.reverse C := ⟨_, rfl⟩
  rw [← hrv] at CAC
  clear hrv
  have HL : Hid (A.reverse.length = A.length) := List.length_reverse
  rw [HL.out] at CO2 CAB CAC CBA CQ
  obtain ⟨T, hT⟩ : ∃ T, T = ofR A := ⟨_, rfl⟩
  obtain ⟨E, hE⟩ : ∃ E, E = ofE A := ⟨_, rfl⟩
  obtain ⟨D, hD⟩ : ∃ D, D = chkE T := ⟨_, rfl⟩
  rw [← hT] at CO1 CO2 CE CC HCC
  rw [← hE] at CO1 CO2 HCC
  rw [← hD] at CC HCC
  clear hT hE hD ux ur h1
  by_cases e0 : E = 0
  all_goals
    first
      | (have d0 := HCC e0; subst e0 d0; clear HCC; have hid0 : (0 : Int) = 0 := rfl)
      | (have e0' : (E == 0) = false := (by simpa using e0); clear HCC)
    go_enter Try.func7, Try.ntmps7
    go_wp2_with (first
      | (go_at_call 9; refine Calls.mono CK ?_; clear CK; rintro e w1 ⟨rfl, hb1⟩; have CX := CX w1 hb1)
      | (go_at_call 10; refine Calls.mono CX ?_; clear CX; rintro e w2 ⟨pa, ca, rfl, oa2, hb2⟩; have g2 := hb1.trans (hb2.mono hb1.size); have CY := CY w2 g2; clear hb2)
      | (go_at_call 10; refine Calls.mono CY ?_; clear CY; rintro e w3 ⟨pb, cb, rfl, ob3, hb3⟩; have g3 := g2.trans (hb3.mono g2.size); have oa3 := oa2.to hb3; have CZ := CZ w3 g3; have hla := oa2.lt; clear g2)
      | (go_at_call 10; refine Calls.mono CZ ?_; clear CZ; rintro e w4 ⟨pc, cc, rfl, oc4, hb4⟩; have g4 := g3.trans (hb4.mono g3.size); have oa4 := oa3.to hb4; have rb4 := ob3.row.to hb4; have nb := block_ne hla ob3.fr; have nc := block_ne (fun a ha => Nat.lt_of_lt_of_le (hla a ha) hb3.size) oc4.fr; have rc4 := oc4.row; clear g3 oa3 ob3 oc4 hb4)
      | (go_at_call 13; refine Calls.mono (CO1 pa ca _ oa4.row) ?_; clear CO1; rintro e w5 ⟨pl, cl, rfl, rl, hb5⟩; have g5 := g4.trans (hb5.mono g4.size); have oa5 := oa4.to hb5; have rb5 := rb4.to hb5; have rc5 := rc4.to hb5; have nl := block_ne oa4.lt rl.fr; have rl5 := rl.row; clear g4 oa4 rb4 rc4 rl hb5; have CR := CR _ pa ca _ oa5)
      | (go_at_call 36; refine Calls.mono CR ?_; clear CR; rintro e w6 ⟨rfl, oa6, hg6⟩; have g6 : Below w.heap.size w w6 := g5.grown hg6 g5.size (fun k hk => by cases pa with | none => simp at hk | some a => (simp at hk; have := oa6.fr a rfl; have := hb1.size; omega)); have o6 : Or3 w w6 pa A.reverse ca pb B cb pc C cc := ⟨oa6.row, rb5.grown hg6 nb, rc5.grown hg6 nc, g6⟩; have rl6 := rl5.grown hg6 nl; clear g5 oa5 rb5 rc5 rl5 oa6 hg6 g6 nb nc nl hla hb1 oa2 hb3; have CO2 := CO2 pa ca _ o6.a)
      | (go_at_call 13; refine Calls.mono CO2 ?_; clear CO2; rintro e w7 ⟨pm, cm, rfl, rm, hb7⟩; have o7 := o6.to hb7; have rl7 := rl6.to hb7; have rm7 := rm.row; clear rm hb7 rl6 o6; have CE := CE pl cl pm cm _ rl7 rm7)
      | (go_at_call 18; refine Calls.mono CE ?_; clear CE; rintro e w8 ⟨rfl, hb8⟩; have o8 := o7.to hb8; have rl8 := rl7.to hb8; clear hb8 rl7 rm7 o7; have CC := CC pl cl _ rl8; have CAB8 := CAB pa ca pb cb _ o8.a o8.b)
      | (go_at_call 11; refine Calls.mono CC ?_; clear CC CAB8; rintro e w9 ⟨rfl, hb9⟩; have o9 := o8.to hb9; clear hb9 rl8 o8; have o8 := o9; have CAB8 := CAB pa ca pb cb _ o8.a o8.b)
      | (go_at_call 21; refine Calls.mono CAB8 ?_; clear CAB8; rintro e w' ⟨rfl, rfl⟩; have CBC8 := CBC pb cb pc cc _ o8.b o8.c; clear CBC)
      | (go_at_call 21; refine Calls.mono CBC8 ?_; clear CBC8; rintro e w' ⟨rfl, rfl⟩; have CAC8 := CAC pa ca pc cc _ o8.a o8.c; clear CAC)
      | (go_at_call 21; refine Calls.mono CAC8 ?_; clear CAC8; rintro e w' ⟨rfl, rfl⟩; have CBA8 := CBA pb cb pa ca _ o8.b o8.a; clear CBA)
      | (go_at_call 21; refine Calls.mono CBA8 ?_; clear CBA8; rintro e w' ⟨rfl, rfl⟩; have CQ8 := CQ pa ca pb cb _ o8.a o8.b; clear CQ)
      | (go_at_call 18; refine Calls.mono CQ8 ?_; clear CQ8; rintro e w10 ⟨rfl, hb10⟩; have o10 := o8.to hb10))
    go_ret
    exact ⟨rfl, o10.w⟩

set_option maxRecDepth 20000 in
set_option maxHeartbeats 2000000 in
theorem order_nq (px : Option Addr) (X : List Int) (cx : Nat) (py : Option Addr) (Y : List Int) (cy : Nat) (pz : Option Addr) (Z : List Int) (cz : Nat) (w : World) (hx : InR w px X cx) (hy : InR w py Y cy) (hz : InR w pz Z cz) (h1 : cmpL (X.take 20).reverse (Y.take 20) = -1) (h2 : cmpL (Y.take 20) (Z.take 20) = 1) :
    Calls Try.prog 7 #[.slice px X.length cx, .slice py Y.length cy, .slice pz Z.length cz] w fun e w' => e = .returned (.bool true) ∧ Below w.heap.size w w' := by
  have CK := wakes_any w
  have CX := fun (w1 : World) (hb : Below w.heap.size w w1) => few_ownR px X cx w1 (hx.to hb)
  have CY := fun (w1 : World) (hb : Below w.heap.size w w1) => few_ownR py Y cy w1 (hy.to hb)
  have CZ := fun (w1 : World) (hb : Below w.heap.size w w1) => few_ownR pz Z cz w1 (hz.to hb)
  have ux := hx.u.take 20
  obtain ⟨A, hA⟩ : ∃ A, A = X.take 20 := ⟨_, rfl⟩
  obtain ⟨B, hB⟩ : ∃ B, B = Y.take 20 := ⟨_, rfl⟩
  obtain ⟨C, hC⟩ : ∃ C, C = Z.take 20 := ⟨_, rfl⟩
  rw [← hA] at CX ux h1
  rw [← hB] at CY h1 h2
  rw [← hC] at CZ h2
  clear hA hB hC hx hy hz
  have CO1 := fun (q : Option Addr) (d : Nat) (w2 : World) (hr : Row w2 q A d) => of_any q A d w2 hr ux
  have ur : U64 A.reverse := fun y hy => ux y (List.mem_reverse.1 hy)
  have CO2 := fun (q : Option Addr) (d : Nat) (w2 : World) (hr : Row w2 q A.reverse d) => of_any q A.reverse d w2 hr ur
  have CR := fun (N : Nat) (q : Option Addr) (d : Nat) (w2 : World) (hr : OwnR N w2 q A d) => reverse_ownR N q A d w2 hr
  unfold OfOut at CO1 CO2
  rw [ofR_rev, ofE_rev] at CO2
  have CE := fun (q : Option Addr) (d : Nat) (q' : Option Addr) (d' : Nat) (w2 : World) (hr : Row w2 q (ofR A) d) (hr' : Row w2 q' (ofR A) d') => equal18 q (ofR A) d q' (ofR A) d' w2 hr.i hr'.i (by have := hr.n; omega)
  rw [samI_refl] at CE
  have CC := fun (q : Option Addr) (d : Nat) (w2 : World) (hr : Row w2 q (ofR A) d) => check_any q (ofR A) d w2 hr (ofR_u ux)
  have HCC : ofE A = 0 → chkE (ofR A) = 0 := fun h => by obtain ⟨e1, e2⟩ := of_yes h; rw [e1]; exact chk_may e2
  have CAB := fun (q : Option Addr) (d : Nat) (q' : Option Addr) (d' : Nat) (w2 : World) (hr : Row w2 q A.reverse d) (hr' : Row w2 q' B d') => compare_any q A.reverse d q' B d' w2 hr hr'
  have CBC := fun (q : Option Addr) (d : Nat) (q' : Option Addr) (d' : Nat) (w2 : World) (hr : Row w2 q B d) (hr' : Row w2 q' C d') => compare_any q B d q' C d' w2 hr hr'
  have CAC := fun (q : Option Addr) (d : Nat) (q' : Option Addr) (d' : Nat) (w2 : World) (hr : Row w2 q A.reverse d) (hr' : Row w2 q' C d') => compare_any q A.reverse d q' C d' w2 hr hr'
  have CBA := fun (q : Option Addr) (d : Nat) (q' : Option Addr) (d' : Nat) (w2 : World) (hr : Row w2 q B d) (hr' : Row w2 q' A.reverse d') => compare_any q B d q' A.reverse d' w2 hr hr'
  rw [cmp_anti A.reverse B, h1] at CBA
  have CQ := fun (q : Option Addr) (d : Nat) (q' : Option Addr) (d' : Nat) (w2 : World) (hr : Row w2 q A.reverse d) (hr' : Row w2 q' B d') => equal18 q A.reverse d q' B d' w2 hr.i hr'.i (by have := hr.n; omega)
  rw [sam_cmp, h1] at CQ
  rw [h1] at CAB
  rw [h2] at CBC
  obtain ⟨rv, hrv⟩ : ∃ rv, rv = cmpL A.reverse C := ⟨_, rfl⟩
  rw [← hrv] at CAC
  clear hrv
  have HL : Hid (A.reverse.length = A.length) := List.length_reverse
  rw [HL.out] at CO2 CAB CAC CBA CQ
  obtain ⟨T, hT⟩ : ∃ T, T = ofR A := ⟨_, rfl⟩
  obtain ⟨E, hE⟩ : ∃ E, E = ofE A := ⟨_, rfl⟩
  obtain ⟨D, hD⟩ : ∃ D, D = chkE T := ⟨_, rfl⟩
  rw [← hT] at CO1 CO2 CE CC HCC
  rw [← hE] at CO1 CO2 HCC
  rw [← hD] at CC HCC
  clear hT hE hD ux ur h1 h2
  by_cases e0 : E = 0
  all_goals
    first
      | (have d0 := HCC e0; subst e0 d0; clear HCC; have hid0 : (0 : Int) = 0 := rfl)
      | (have e0' : (E == 0) = false := (by simpa using e0); clear HCC)
    go_enter Try.func7, Try.ntmps7
    go_wp2_with (first
      | (go_at_call 9; refine Calls.mono CK ?_; clear CK; rintro e w1 ⟨rfl, hb1⟩; have CX := CX w1 hb1)
      | (go_at_call 10; refine Calls.mono CX ?_; clear CX; rintro e w2 ⟨pa, ca, rfl, oa2, hb2⟩; have g2 := hb1.trans (hb2.mono hb1.size); have CY := CY w2 g2; clear hb2)
      | (go_at_call 10; refine Calls.mono CY ?_; clear CY; rintro e w3 ⟨pb, cb, rfl, ob3, hb3⟩; have g3 := g2.trans (hb3.mono g2.size); have oa3 := oa2.to hb3; have CZ := CZ w3 g3; have hla := oa2.lt; clear g2)
      | (go_at_call 10; refine Calls.mono CZ ?_; clear CZ; rintro e w4 ⟨pc, cc, rfl, oc4, hb4⟩; have g4 := g3.trans (hb4.mono g3.size); have oa4 := oa3.to hb4; have rb4 := ob3.row.to hb4; have nb := block_ne hla ob3.fr; have nc := block_ne (fun a ha => Nat.lt_of_lt_of_le (hla a ha) hb3.size) oc4.fr; have rc4 := oc4.row; clear g3 oa3 ob3 oc4 hb4)
      | (go_at_call 13; refine Calls.mono (CO1 pa ca _ oa4.row) ?_; clear CO1; rintro e w5 ⟨pl, cl, rfl, rl, hb5⟩; have g5 := g4.trans (hb5.mono g4.size); have oa5 := oa4.to hb5; have rb5 := rb4.to hb5; have rc5 := rc4.to hb5; have nl := block_ne oa4.lt rl.fr; have rl5 := rl.row; clear g4 oa4 rb4 rc4 rl hb5; have CR := CR _ pa ca _ oa5)
      | (go_at_call 36; refine Calls.mono CR ?_; clear CR; rintro e w6 ⟨rfl, oa6, hg6⟩; have g6 : Below w.heap.size w w6 := g5.grown hg6 g5.size (fun k hk => by cases pa with | none => simp at hk | some a => (simp at hk; have := oa6.fr a rfl; have := hb1.size; omega)); have o6 : Or3 w w6 pa A.reverse ca pb B cb pc C cc := ⟨oa6.row, rb5.grown hg6 nb, rc5.grown hg6 nc, g6⟩; have rl6 := rl5.grown hg6 nl; clear g5 oa5 rb5 rc5 rl5 oa6 hg6 g6 nb nc nl hla hb1 oa2 hb3; have CO2 := CO2 pa ca _ o6.a)
      | (go_at_call 13; refine Calls.mono CO2 ?_; clear CO2; rintro e w7 ⟨pm, cm, rfl, rm, hb7⟩; have o7 := o6.to hb7; have rl7 := rl6.to hb7; have rm7 := rm.row; clear rm hb7 rl6 o6; have CE := CE pl cl pm cm _ rl7 rm7)
      | (go_at_call 18; refine Calls.mono CE ?_; clear CE; rintro e w8 ⟨rfl, hb8⟩; have o8 := o7.to hb8; have rl8 := rl7.to hb8; clear hb8 rl7 rm7 o7; have CC := CC pl cl _ rl8; have CAB8 := CAB pa ca pb cb _ o8.a o8.b)
      | (go_at_call 11; refine Calls.mono CC ?_; clear CC CAB8; rintro e w9 ⟨rfl, hb9⟩; have o9 := o8.to hb9; clear hb9 rl8 o8; have o8 := o9; have CAB8 := CAB pa ca pb cb _ o8.a o8.b)
      | (go_at_call 21; refine Calls.mono CAB8 ?_; clear CAB8; rintro e w' ⟨rfl, rfl⟩; have CBC8 := CBC pb cb pc cc _ o8.b o8.c; clear CBC)
      | (go_at_call 21; refine Calls.mono CBC8 ?_; clear CBC8; rintro e w' ⟨rfl, rfl⟩; have CAC8 := CAC pa ca pc cc _ o8.a o8.c; clear CAC)
      | (go_at_call 21; refine Calls.mono CAC8 ?_; clear CAC8; rintro e w' ⟨rfl, rfl⟩; have CBA8 := CBA pb cb pa ca _ o8.b o8.a; clear CBA)
      | (go_at_call 21; refine Calls.mono CBA8 ?_; clear CBA8; rintro e w' ⟨rfl, rfl⟩; have CQ8 := CQ pa ca pb cb _ o8.a o8.b; clear CQ)
      | (go_at_call 18; refine Calls.mono CQ8 ?_; clear CQ8; rintro e w10 ⟨rfl, hb10⟩; have o10 := o8.to hb10))
    go_ret
    exact ⟨rfl, o10.w⟩

set_option maxRecDepth 20000 in
set_option maxHeartbeats 2000000 in
theorem order_zq (px : Option Addr) (X : List Int) (cx : Nat) (py : Option Addr) (Y : List Int) (cy : Nat) (pz : Option Addr) (Z : List Int) (cz : Nat) (w : World) (hx : InR w px X cx) (hy : InR w py Y cy) (hz : InR w pz Z cz) (h1 : cmpL (X.take 20).reverse (Y.take 20) = 0) (h2 : cmpL (Y.take 20) (Z.take 20) = 1) :
    Calls Try.prog 7 #[.slice px X.length cx, .slice py Y.length cy, .slice pz Z.length cz] w fun e w' => e = .returned (.bool true) ∧ Below w.heap.size w w' := by
  have CK := wakes_any w
  have CX := fun (w1 : World) (hb : Below w.heap.size w w1) => few_ownR px X cx w1 (hx.to hb)
  have CY := fun (w1 : World) (hb : Below w.heap.size w w1) => few_ownR py Y cy w1 (hy.to hb)
  have CZ := fun (w1 : World) (hb : Below w.heap.size w w1) => few_ownR pz Z cz w1 (hz.to hb)
  have ux := hx.u.take 20
  obtain ⟨A, hA⟩ : ∃ A, A = X.take 20 := ⟨_, rfl⟩
  obtain ⟨B, hB⟩ : ∃ B, B = Y.take 20 := ⟨_, rfl⟩
  obtain ⟨C, hC⟩ : ∃ C, C = Z.take 20 := ⟨_, rfl⟩
  rw [← hA] at CX ux h1
  rw [← hB] at CY h1 h2
  rw [← hC] at CZ h2
  clear hA hB hC hx hy hz
  have CO1 := fun (q : Option Addr) (d : Nat) (w2 : World) (hr : Row w2 q A d) => of_any q A d w2 hr ux
  have ur : U64 A.reverse := fun y hy => ux y (List.mem_reverse.1 hy)
  have CO2 := fun (q : Option Addr) (d : Nat) (w2 : World) (hr : Row w2 q A.reverse d) => of_any q A.reverse d w2 hr ur
  have CR := fun (N : Nat) (q : Option Addr) (d : Nat) (w2 : World) (hr : OwnR N w2 q A d) => reverse_ownR N q A d w2 hr
  unfold OfOut at CO1 CO2
  rw [ofR_rev, ofE_rev] at CO2
  have CE := fun (q : Option Addr) (d : Nat) (q' : Option Addr) (d' : Nat) (w2 : World) (hr : Row w2 q (ofR A) d) (hr' : Row w2 q' (ofR A) d') => equal18 q (ofR A) d q' (ofR A) d' w2 hr.i hr'.i (by have := hr.n; omega)
  rw [samI_refl] at CE
  have CC := fun (q : Option Addr) (d : Nat) (w2 : World) (hr : Row w2 q (ofR A) d) => check_any q (ofR A) d w2 hr (ofR_u ux)
  have HCC : ofE A = 0 → chkE (ofR A) = 0 := fun h => by obtain ⟨e1, e2⟩ := of_yes h; rw [e1]; exact chk_may e2
  have CAB := fun (q : Option Addr) (d : Nat) (q' : Option Addr) (d' : Nat) (w2 : World) (hr : Row w2 q A.reverse d) (hr' : Row w2 q' B d') => compare_any q A.reverse d q' B d' w2 hr hr'
  have CBC := fun (q : Option Addr) (d : Nat) (q' : Option Addr) (d' : Nat) (w2 : World) (hr : Row w2 q B d) (hr' : Row w2 q' C d') => compare_any q B d q' C d' w2 hr hr'
  have CAC := fun (q : Option Addr) (d : Nat) (q' : Option Addr) (d' : Nat) (w2 : World) (hr : Row w2 q A.reverse d) (hr' : Row w2 q' C d') => compare_any q A.reverse d q' C d' w2 hr hr'
  have CBA := fun (q : Option Addr) (d : Nat) (q' : Option Addr) (d' : Nat) (w2 : World) (hr : Row w2 q B d) (hr' : Row w2 q' A.reverse d') => compare_any q B d q' A.reverse d' w2 hr hr'
  rw [cmp_anti A.reverse B, h1] at CBA
  have CQ := fun (q : Option Addr) (d : Nat) (q' : Option Addr) (d' : Nat) (w2 : World) (hr : Row w2 q A.reverse d) (hr' : Row w2 q' B d') => equal18 q A.reverse d q' B d' w2 hr.i hr'.i (by have := hr.n; omega)
  rw [sam_cmp, h1] at CQ
  rw [h1] at CAB
  rw [h2] at CBC
  obtain ⟨rv, hrv⟩ : ∃ rv, rv = cmpL A.reverse C := ⟨_, rfl⟩
  rw [← hrv] at CAC
  clear hrv
  have HL : Hid (A.reverse.length = A.length) := List.length_reverse
  rw [HL.out] at CO2 CAB CAC CBA CQ
  obtain ⟨T, hT⟩ : ∃ T, T = ofR A := ⟨_, rfl⟩
  obtain ⟨E, hE⟩ : ∃ E, E = ofE A := ⟨_, rfl⟩
  obtain ⟨D, hD⟩ : ∃ D, D = chkE T := ⟨_, rfl⟩
  rw [← hT] at CO1 CO2 CE CC HCC
  rw [← hE] at CO1 CO2 HCC
  rw [← hD] at CC HCC
  clear hT hE hD ux ur h1 h2
  by_cases e0 : E = 0
  all_goals
    first
      | (have d0 := HCC e0; subst e0 d0; clear HCC; have hid0 : (0 : Int) = 0 := rfl)
      | (have e0' : (E == 0) = false := (by simpa using e0); clear HCC)
    go_enter Try.func7, Try.ntmps7
    go_wp2_with (first
      | (go_at_call 9; refine Calls.mono CK ?_; clear CK; rintro e w1 ⟨rfl, hb1⟩; have CX := CX w1 hb1)
      | (go_at_call 10; refine Calls.mono CX ?_; clear CX; rintro e w2 ⟨pa, ca, rfl, oa2, hb2⟩; have g2 := hb1.trans (hb2.mono hb1.size); have CY := CY w2 g2; clear hb2)
      | (go_at_call 10; refine Calls.mono CY ?_; clear CY; rintro e w3 ⟨pb, cb, rfl, ob3, hb3⟩; have g3 := g2.trans (hb3.mono g2.size); have oa3 := oa2.to hb3; have CZ := CZ w3 g3; have hla := oa2.lt; clear g2)
      | (go_at_call 10; refine Calls.mono CZ ?_; clear CZ; rintro e w4 ⟨pc, cc, rfl, oc4, hb4⟩; have g4 := g3.trans (hb4.mono g3.size); have oa4 := oa3.to hb4; have rb4 := ob3.row.to hb4; have nb := block_ne hla ob3.fr; have nc := block_ne (fun a ha => Nat.lt_of_lt_of_le (hla a ha) hb3.size) oc4.fr; have rc4 := oc4.row; clear g3 oa3 ob3 oc4 hb4)
      | (go_at_call 13; refine Calls.mono (CO1 pa ca _ oa4.row) ?_; clear CO1; rintro e w5 ⟨pl, cl, rfl, rl, hb5⟩; have g5 := g4.trans (hb5.mono g4.size); have oa5 := oa4.to hb5; have rb5 := rb4.to hb5; have rc5 := rc4.to hb5; have nl := block_ne oa4.lt rl.fr; have rl5 := rl.row; clear g4 oa4 rb4 rc4 rl hb5; have CR := CR _ pa ca _ oa5)
      | (go_at_call 36; refine Calls.mono CR ?_; clear CR; rintro e w6 ⟨rfl, oa6, hg6⟩; have g6 : Below w.heap.size w w6 := g5.grown hg6 g5.size (fun k hk => by cases pa with | none => simp at hk | some a => (simp at hk; have := oa6.fr a rfl; have := hb1.size; omega)); have o6 : Or3 w w6 pa A.reverse ca pb B cb pc C cc := ⟨oa6.row, rb5.grown hg6 nb, rc5.grown hg6 nc, g6⟩; have rl6 := rl5.grown hg6 nl; clear g5 oa5 rb5 rc5 rl5 oa6 hg6 g6 nb nc nl hla hb1 oa2 hb3; have CO2 := CO2 pa ca _ o6.a)
      | (go_at_call 13; refine Calls.mono CO2 ?_; clear CO2; rintro e w7 ⟨pm, cm, rfl, rm, hb7⟩; have o7 := o6.to hb7; have rl7 := rl6.to hb7; have rm7 := rm.row; clear rm hb7 rl6 o6; have CE := CE pl cl pm cm _ rl7 rm7)
      | (go_at_call 18; refine Calls.mono CE ?_; clear CE; rintro e w8 ⟨rfl, hb8⟩; have o8 := o7.to hb8; have rl8 := rl7.to hb8; clear hb8 rl7 rm7 o7; have CC := CC pl cl _ rl8; have CAB8 := CAB pa ca pb cb _ o8.a o8.b)
      | (go_at_call 11; refine Calls.mono CC ?_; clear CC CAB8; rintro e w9 ⟨rfl, hb9⟩; have o9 := o8.to hb9; clear hb9 rl8 o8; have o8 := o9; have CAB8 := CAB pa ca pb cb _ o8.a o8.b)
      | (go_at_call 21; refine Calls.mono CAB8 ?_; clear CAB8; rintro e w' ⟨rfl, rfl⟩; have CBC8 := CBC pb cb pc cc _ o8.b o8.c; clear CBC)
      | (go_at_call 21; refine Calls.mono CBC8 ?_; clear CBC8; rintro e w' ⟨rfl, rfl⟩; have CAC8 := CAC pa ca pc cc _ o8.a o8.c; clear CAC)
      | (go_at_call 21; refine Calls.mono CAC8 ?_; clear CAC8; rintro e w' ⟨rfl, rfl⟩; have CBA8 := CBA pb cb pa ca _ o8.b o8.a; clear CBA)
      | (go_at_call 21; refine Calls.mono CBA8 ?_; clear CBA8; rintro e w' ⟨rfl, rfl⟩; have CQ8 := CQ pa ca pb cb _ o8.a o8.b; clear CQ)
      | (go_at_call 18; refine Calls.mono CQ8 ?_; clear CQ8; rintro e w10 ⟨rfl, hb10⟩; have o10 := o8.to hb10))
    go_ret
    exact ⟨rfl, o10.w⟩

set_option maxRecDepth 20000 in
set_option maxHeartbeats 2000000 in
theorem order_nn (px : Option Addr) (X : List Int) (cx : Nat) (py : Option Addr) (Y : List Int) (cy : Nat) (pz : Option Addr) (Z : List Int) (cz : Nat) (w : World) (hx : InR w px X cx) (hy : InR w py Y cy) (hz : InR w pz Z cz) (h1 : cmpL (X.take 20).reverse (Y.take 20) = -1) (h2 : cmpL (Y.take 20) (Z.take 20) = -1) (h3 : cmpL (X.take 20).reverse (Z.take 20) = -1) :
    Calls Try.prog 7 #[.slice px X.length cx, .slice py Y.length cy, .slice pz Z.length cz] w fun e w' => e = .returned (.bool true) ∧ Below w.heap.size w w' := by
  have CK := wakes_any w
  have CX := fun (w1 : World) (hb : Below w.heap.size w w1) => few_ownR px X cx w1 (hx.to hb)
  have CY := fun (w1 : World) (hb : Below w.heap.size w w1) => few_ownR py Y cy w1 (hy.to hb)
  have CZ := fun (w1 : World) (hb : Below w.heap.size w w1) => few_ownR pz Z cz w1 (hz.to hb)
  have ux := hx.u.take 20
  obtain ⟨A, hA⟩ : ∃ A, A = X.take 20 := ⟨_, rfl⟩
  obtain ⟨B, hB⟩ : ∃ B, B = Y.take 20 := ⟨_, rfl⟩
  obtain ⟨C, hC⟩ : ∃ C, C = Z.take 20 := ⟨_, rfl⟩
  rw [← hA] at CX ux h1 h3
  rw [← hB] at CY h1 h2
  rw [← hC] at CZ h2 h3
  clear hA hB hC hx hy hz
  have CO1 := fun (q : Option Addr) (d : Nat) (w2 : World) (hr : Row w2 q A d) => of_any q A d w2 hr ux
  have ur : U64 A.reverse := fun y hy => ux y (List.mem_reverse.1 hy)
  have CO2 := fun (q : Option Addr) (d : Nat) (w2 : World) (hr : Row w2 q A.reverse d) => of_any q A.reverse d w2 hr ur
  have CR := fun (N : Nat) (q : Option Addr) (d : Nat) (w2 : World) (hr : OwnR N w2 q A d) => reverse_ownR N q A d w2 hr
  unfold OfOut at CO1 CO2
  rw [ofR_rev, ofE_rev] at CO2
  have CE := fun (q : Option Addr) (d : Nat) (q' : Option Addr) (d' : Nat) (w2 : World) (hr : Row w2 q (ofR A) d) (hr' : Row w2 q' (ofR A) d') => equal18 q (ofR A) d q' (ofR A) d' w2 hr.i hr'.i (by have := hr.n; omega)
  rw [samI_refl] at CE
  have CC := fun (q : Option Addr) (d : Nat) (w2 : World) (hr : Row w2 q (ofR A) d) => check_any q (ofR A) d w2 hr (ofR_u ux)
  have HCC : ofE A = 0 → chkE (ofR A) = 0 := fun h => by obtain ⟨e1, e2⟩ := of_yes h; rw [e1]; exact chk_may e2
  have CAB := fun (q : Option Addr) (d : Nat) (q' : Option Addr) (d' : Nat) (w2 : World) (hr : Row w2 q A.reverse d) (hr' : Row w2 q' B d') => compare_any q A.reverse d q' B d' w2 hr hr'
  have CBC := fun (q : Option Addr) (d : Nat) (q' : Option Addr) (d' : Nat) (w2 : World) (hr : Row w2 q B d) (hr' : Row w2 q' C d') => compare_any q B d q' C d' w2 hr hr'
  have CAC := fun (q : Option Addr) (d : Nat) (q' : Option Addr) (d' : Nat) (w2 : World) (hr : Row w2 q A.reverse d) (hr' : Row w2 q' C d') => compare_any q A.reverse d q' C d' w2 hr hr'
  have CBA := fun (q : Option Addr) (d : Nat) (q' : Option Addr) (d' : Nat) (w2 : World) (hr : Row w2 q B d) (hr' : Row w2 q' A.reverse d') => compare_any q B d q' A.reverse d' w2 hr hr'
  rw [cmp_anti A.reverse B, h1] at CBA
  have CQ := fun (q : Option Addr) (d : Nat) (q' : Option Addr) (d' : Nat) (w2 : World) (hr : Row w2 q A.reverse d) (hr' : Row w2 q' B d') => equal18 q A.reverse d q' B d' w2 hr.i hr'.i (by have := hr.n; omega)
  rw [sam_cmp, h1] at CQ
  rw [h1] at CAB
  rw [h2] at CBC
  rw [h3] at CAC
  have HL : Hid (A.reverse.length = A.length) := List.length_reverse
  rw [HL.out] at CO2 CAB CAC CBA CQ
  obtain ⟨T, hT⟩ : ∃ T, T = ofR A := ⟨_, rfl⟩
  obtain ⟨E, hE⟩ : ∃ E, E = ofE A := ⟨_, rfl⟩
  obtain ⟨D, hD⟩ : ∃ D, D = chkE T := ⟨_, rfl⟩
  rw [← hT] at CO1 CO2 CE CC HCC
  rw [← hE] at CO1 CO2 HCC
  rw [← hD] at CC HCC
  clear hT hE hD ux ur h1 h2 h3
  by_cases e0 : E = 0
  all_goals
    first
      | (have d0 := HCC e0; subst e0 d0; clear HCC; have hid0 : (0 : Int) = 0 := rfl)
      | (have e0' : (E == 0) = false := (by simpa using e0); clear HCC)
    go_enter Try.func7, Try.ntmps7
    go_wp2_with (first
      | (go_at_call 9; refine Calls.mono CK ?_; clear CK; rintro e w1 ⟨rfl, hb1⟩; have CX := CX w1 hb1)
      | (go_at_call 10; refine Calls.mono CX ?_; clear CX; rintro e w2 ⟨pa, ca, rfl, oa2, hb2⟩; have g2 := hb1.trans (hb2.mono hb1.size); have CY := CY w2 g2; clear hb2)
      | (go_at_call 10; refine Calls.mono CY ?_; clear CY; rintro e w3 ⟨pb, cb, rfl, ob3, hb3⟩; have g3 := g2.trans (hb3.mono g2.size); have oa3 := oa2.to hb3; have CZ := CZ w3 g3; have hla := oa2.lt; clear g2)
      | (go_at_call 10; refine Calls.mono CZ ?_; clear CZ; rintro e w4 ⟨pc, cc, rfl, oc4, hb4⟩; have g4 := g3.trans (hb4.mono g3.size); have oa4 := oa3.to hb4; have rb4 := ob3.row.to hb4; have nb := block_ne hla ob3.fr; have nc := block_ne (fun a ha => Nat.lt_of_lt_of_le (hla a ha) hb3.size) oc4.fr; have rc4 := oc4.row; clear g3 oa3 ob3 oc4 hb4)
      | (go_at_call 13; refine Calls.mono (CO1 pa ca _ oa4.row) ?_; clear CO1; rintro e w5 ⟨pl, cl, rfl, rl, hb5⟩; have g5 := g4.trans (hb5.mono g4.size); have oa5 := oa4.to hb5; have rb5 := rb4.to hb5; have rc5 := rc4.to hb5; have nl := block_ne oa4.lt rl.fr; have rl5 := rl.row; clear g4 oa4 rb4 rc4 rl hb5; have CR := CR _ pa ca _ oa5)
      | (go_at_call 36; refine Calls.mono CR ?_; clear CR; rintro e w6 ⟨rfl, oa6, hg6⟩; have g6 : Below w.heap.size w w6 := g5.grown hg6 g5.size (fun k hk => by cases pa with | none => simp at hk | some a => (simp at hk; have := oa6.fr a rfl; have := hb1.size; omega)); have o6 : Or3 w w6 pa A.reverse ca pb B cb pc C cc := ⟨oa6.row, rb5.grown hg6 nb, rc5.grown hg6 nc, g6⟩; have rl6 := rl5.grown hg6 nl; clear g5 oa5 rb5 rc5 rl5 oa6 hg6 g6 nb nc nl hla hb1 oa2 hb3; have CO2 := CO2 pa ca _ o6.a)
      | (go_at_call 13; refine Calls.mono CO2 ?_; clear CO2; rintro e w7 ⟨pm, cm, rfl, rm, hb7⟩; have o7 := o6.to hb7; have rl7 := rl6.to hb7; have rm7 := rm.row; clear rm hb7 rl6 o6; have CE := CE pl cl pm cm _ rl7 rm7)
      | (go_at_call 18; refine Calls.mono CE ?_; clear CE; rintro e w8 ⟨rfl, hb8⟩; have o8 := o7.to hb8; have rl8 := rl7.to hb8; clear hb8 rl7 rm7 o7; have CC := CC pl cl _ rl8; have CAB8 := CAB pa ca pb cb _ o8.a o8.b)
      | (go_at_call 11; refine Calls.mono CC ?_; clear CC CAB8; rintro e w9 ⟨rfl, hb9⟩; have o9 := o8.to hb9; clear hb9 rl8 o8; have o8 := o9; have CAB8 := CAB pa ca pb cb _ o8.a o8.b)
      | (go_at_call 21; refine Calls.mono CAB8 ?_; clear CAB8; rintro e w' ⟨rfl, rfl⟩; have CBC8 := CBC pb cb pc cc _ o8.b o8.c; clear CBC)
      | (go_at_call 21; refine Calls.mono CBC8 ?_; clear CBC8; rintro e w' ⟨rfl, rfl⟩; have CAC8 := CAC pa ca pc cc _ o8.a o8.c; clear CAC)
      | (go_at_call 21; refine Calls.mono CAC8 ?_; clear CAC8; rintro e w' ⟨rfl, rfl⟩; have CBA8 := CBA pb cb pa ca _ o8.b o8.a; clear CBA)
      | (go_at_call 21; refine Calls.mono CBA8 ?_; clear CBA8; rintro e w' ⟨rfl, rfl⟩; have CQ8 := CQ pa ca pb cb _ o8.a o8.b; clear CQ)
      | (go_at_call 18; refine Calls.mono CQ8 ?_; clear CQ8; rintro e w10 ⟨rfl, hb10⟩; have o10 := o8.to hb10))
    go_ret
    exact ⟨rfl, o10.w⟩

set_option maxRecDepth 20000 in
set_option maxHeartbeats 2000000 in
theorem order_nz (px : Option Addr) (X : List Int) (cx : Nat) (py : Option Addr) (Y : List Int) (cy : Nat) (pz : Option Addr) (Z : List Int) (cz : Nat) (w : World) (hx : InR w px X cx) (hy : InR w py Y cy) (hz : InR w pz Z cz) (h1 : cmpL (X.take 20).reverse (Y.take 20) = -1) (h2 : cmpL (Y.take 20) (Z.take 20) = 0) (h3 : cmpL (X.take 20).reverse (Z.take 20) = -1) :
    Calls Try.prog 7 #[.slice px X.length cx, .slice py Y.length cy, .slice pz Z.length cz] w fun e w' => e = .returned (.bool true) ∧ Below w.heap.size w w' := by
  have CK := wakes_any w
  have CX := fun (w1 : World) (hb : Below w.heap.size w w1) => few_ownR px X cx w1 (hx.to hb)
  have CY := fun (w1 : World) (hb : Below w.heap.size w w1) => few_ownR py Y cy w1 (hy.to hb)
  have CZ := fun (w1 : World) (hb : Below w.heap.size w w1) => few_ownR pz Z cz w1 (hz.to hb)
  have ux := hx.u.take 20
  obtain ⟨A, hA⟩ : ∃ A, A = X.take 20 := ⟨_, rfl⟩
  obtain ⟨B, hB⟩ : ∃ B, B = Y.take 20 := ⟨_, rfl⟩
  obtain ⟨C, hC⟩ : ∃ C, C = Z.take 20 := ⟨_, rfl⟩
  rw [← hA] at CX ux h1 h3
  rw [← hB] at CY h1 h2
  rw [← hC] at CZ h2 h3
  clear hA hB hC hx hy hz
  have CO1 := fun (q : Option Addr) (d : Nat) (w2 : World) (hr : Row w2 q A d) => of_any q A d w2 hr ux
  have ur : U64 A.reverse := fun y hy => ux y (List.mem_reverse.1 hy)
  have CO2 := fun (q : Option Addr) (d : Nat) (w2 : World) (hr : Row w2 q A.reverse d) => of_any q A.reverse d w2 hr ur
  have CR := fun (N : Nat) (q : Option Addr) (d : Nat) (w2 : World) (hr : OwnR N w2 q A d) => reverse_ownR N q A d w2 hr
  unfold OfOut at CO1 CO2
  rw [ofR_rev, ofE_rev] at CO2
  have CE := fun (q : Option Addr) (d : Nat) (q' : Option Addr) (d' : Nat) (w2 : World) (hr : Row w2 q (ofR A) d) (hr' : Row w2 q' (ofR A) d') => equal18 q (ofR A) d q' (ofR A) d' w2 hr.i hr'.i (by have := hr.n; omega)
  rw [samI_refl] at CE
  have CC := fun (q : Option Addr) (d : Nat) (w2 : World) (hr : Row w2 q (ofR A) d) => check_any q (ofR A) d w2 hr (ofR_u ux)
  have HCC : ofE A = 0 → chkE (ofR A) = 0 := fun h => by obtain ⟨e1, e2⟩ := of_yes h; rw [e1]; exact chk_may e2
  have CAB := fun (q : Option Addr) (d : Nat) (q' : Option Addr) (d' : Nat) (w2 : World) (hr : Row w2 q A.reverse d) (hr' : Row w2 q' B d') => compare_any q A.reverse d q' B d' w2 hr hr'
  have CBC := fun (q : Option Addr) (d : Nat) (q' : Option Addr) (d' : Nat) (w2 : World) (hr : Row w2 q B d) (hr' : Row w2 q' C d') => compare_any q B d q' C d' w2 hr hr'
  have CAC := fun (q : Option Addr) (d : Nat) (q' : Option Addr) (d' : Nat) (w2 : World) (hr : Row w2 q A.reverse d) (hr' : Row w2 q' C d') => compare_any q A.reverse d q' C d' w2 hr hr'
  have CBA := fun (q : Option Addr) (d : Nat) (q' : Option Addr) (d' : Nat) (w2 : World) (hr : Row w2 q B d) (hr' : Row w2 q' A.reverse d') => compare_any q B d q' A.reverse d' w2 hr hr'
  rw [cmp_anti A.reverse B, h1] at CBA
  have CQ := fun (q : Option Addr) (d : Nat) (q' : Option Addr) (d' : Nat) (w2 : World) (hr : Row w2 q A.reverse d) (hr' : Row w2 q' B d') => equal18 q A.reverse d q' B d' w2 hr.i hr'.i (by have := hr.n; omega)
  rw [sam_cmp, h1] at CQ
  rw [h1] at CAB
  rw [h2] at CBC
  rw [h3] at CAC
  have HL : Hid (A.reverse.length = A.length) := List.length_reverse
  rw [HL.out] at CO2 CAB CAC CBA CQ
  obtain ⟨T, hT⟩ : ∃ T, T = ofR A := ⟨_, rfl⟩
  obtain ⟨E, hE⟩ : ∃ E, E = ofE A := ⟨_, rfl⟩
  obtain ⟨D, hD⟩ : ∃ D, D = chkE T := ⟨_, rfl⟩
  rw [← hT] at CO1 CO2 CE CC HCC
  rw [← hE] at CO1 CO2 HCC
  rw [← hD] at CC HCC
  clear hT hE hD ux ur h1 h2 h3
  by_cases e0 : E = 0
  all_goals
    first
      | (have d0 := HCC e0; subst e0 d0; clear HCC; have hid0 : (0 : Int) = 0 := rfl)
      | (have e0' : (E == 0) = false := (by simpa using e0); clear HCC)
    go_enter Try.func7, Try.ntmps7
    go_wp2_with (first
      | (go_at_call 9; refine Calls.mono CK ?_; clear CK; rintro e w1 ⟨rfl, hb1⟩; have CX := CX w1 hb1)
      | (go_at_call 10; refine Calls.mono CX ?_; clear CX; rintro e w2 ⟨pa, ca, rfl, oa2, hb2⟩; have g2 := hb1.trans (hb2.mono hb1.size); have CY := CY w2 g2; clear hb2)
      | (go_at_call 10; refine Calls.mono CY ?_; clear CY; rintro e w3 ⟨pb, cb, rfl, ob3, hb3⟩; have g3 := g2.trans (hb3.mono g2.size); have oa3 := oa2.to hb3; have CZ := CZ w3 g3; have hla := oa2.lt; clear g2)
      | (go_at_call 10; refine Calls.mono CZ ?_; clear CZ; rintro e w4 ⟨pc, cc, rfl, oc4, hb4⟩; have g4 := g3.trans (hb4.mono g3.size); have oa4 := oa3.to hb4; have rb4 := ob3.row.to hb4; have nb := block_ne hla ob3.fr; have nc := block_ne (fun a ha => Nat.lt_of_lt_of_le (hla a ha) hb3.size) oc4.fr; have rc4 := oc4.row; clear g3 oa3 ob3 oc4 hb4)
      | (go_at_call 13; refine Calls.mono (CO1 pa ca _ oa4.row) ?_; clear CO1; rintro e w5 ⟨pl, cl, rfl, rl, hb5⟩; have g5 := g4.trans (hb5.mono g4.size); have oa5 := oa4.to hb5; have rb5 := rb4.to hb5; have rc5 := rc4.to hb5; have nl := block_ne oa4.lt rl.fr; have rl5 := rl.row; clear g4 oa4 rb4 rc4 rl hb5; have CR := CR _ pa ca _ oa5)
      | (go_at_call 36; refine Calls.mono CR ?_; clear CR; rintro e w6 ⟨rfl, oa6, hg6⟩; have g6 : Below w.heap.size w w6 := g5.grown hg6 g5.size (fun k hk => by cases pa with | none => simp at hk | some a => (simp at hk; have := oa6.fr a rfl; have := hb1.size; omega)); have o6 : Or3 w w6 pa A.reverse ca pb B cb pc C cc := ⟨oa6.row, rb5.grown hg6 nb, rc5.grown hg6 nc, g6⟩; have rl6 := rl5.grown hg6 nl; clear g5 oa5 rb5 rc5 rl5 oa6 hg6 g6 nb nc nl hla hb1 oa2 hb3; have CO2 := CO2 pa ca _ o6.a)
      | (go_at_call 13; refine Calls.mono CO2 ?_; clear CO2; rintro e w7 ⟨pm, cm, rfl, rm, hb7⟩; have o7 := o6.to hb7; have rl7 := rl6.to hb7; have rm7 := rm.row; clear rm hb7 rl6 o6; have CE := CE pl cl pm cm _ rl7 rm7)
      | (go_at_call 18; refine Calls.mono CE ?_; clear CE; rintro e w8 ⟨rfl, hb8⟩; have o8 := o7.to hb8; have rl8 := rl7.to hb8; clear hb8 rl7 rm7 o7; have CC := CC pl cl _ rl8; have CAB8 := CAB pa ca pb cb _ o8.a o8.b)
      | (go_at_call 11; refine Calls.mono CC ?_; clear CC CAB8; rintro e w9 ⟨rfl, hb9⟩; have o9 := o8.to hb9; clear hb9 rl8 o8; have o8 := o9; have CAB8 := CAB pa ca pb cb _ o8.a o8.b)
      | (go_at_call 21; refine Calls.mono CAB8 ?_; clear CAB8; rintro e w' ⟨rfl, rfl⟩; have CBC8 := CBC pb cb pc cc _ o8.b o8.c; clear CBC)
      | (go_at_call 21; refine Calls.mono CBC8 ?_; clear CBC8; rintro e w' ⟨rfl, rfl⟩; have CAC8 := CAC pa ca pc cc _ o8.a o8.c; clear CAC)
      | (go_at_call 21; refine Calls.mono CAC8 ?_; clear CAC8; rintro e w' ⟨rfl, rfl⟩; have CBA8 := CBA pb cb pa ca _ o8.b o8.a; clear CBA)
      | (go_at_call 21; refine Calls.mono CBA8 ?_; clear CBA8; rintro e w' ⟨rfl, rfl⟩; have CQ8 := CQ pa ca pb cb _ o8.a o8.b; clear CQ)
      | (go_at_call 18; refine Calls.mono CQ8 ?_; clear CQ8; rintro e w10 ⟨rfl, hb10⟩; have o10 := o8.to hb10))
    go_ret
    exact ⟨rfl, o10.w⟩

set_option maxRecDepth 20000 in
set_option maxHeartbeats 2000000 in
theorem order_zn (px : Option Addr) (X : List Int) (cx : Nat) (py : Option Addr) (Y : List Int) (cy : Nat) (pz : Option Addr) (Z : List Int) (cz : Nat) (w : World) (hx : InR w px X cx) (hy : InR w py Y cy) (hz : InR w pz Z cz) (h1 : cmpL (X.take 20).reverse (Y.take 20) = 0) (h2 : cmpL (Y.take 20) (Z.take 20) = -1) (h3 : cmpL (X.take 20).reverse (Z.take 20) = -1) :
    Calls Try.prog 7 #[.slice px X.length cx, .slice py Y.length cy, .slice pz Z.length cz] w fun e w' => e = .returned (.bool true) ∧ Below w.heap.size w w' := by
  have CK := wakes_any w
  have CX := fun (w1 : World) (hb : Below w.heap.size w w1) => few_ownR px X cx w1 (hx.to hb)
  have CY := fun (w1 : World) (hb : Below w.heap.size w w1) => few_ownR py Y cy w1 (hy.to hb)
  have CZ := fun (w1 : World) (hb : Below w.heap.size w w1) => few_ownR pz Z cz w1 (hz.to hb)
  have ux := hx.u.take 20
  obtain ⟨A, hA⟩ : ∃ A, A = X.take 20 := ⟨_, rfl⟩
  obtain ⟨B, hB⟩ : ∃ B, B = Y.take 20 := ⟨_, rfl⟩
  obtain ⟨C, hC⟩ : ∃ C, C = Z.take 20 := ⟨_, rfl⟩
  rw [← hA] at CX ux h1 h3
  rw [← hB] at CY h1 h2
  rw [← hC] at CZ h2 h3
  clear hA hB hC hx hy hz
  have CO1 := fun (q : Option Addr) (d : Nat) (w2 : World) (hr : Row w2 q A d) => of_any q A d w2 hr ux
  have ur : U64 A.reverse := fun y hy => ux y (List.mem_reverse.1 hy)
  have CO2 := fun (q : Option Addr) (d : Nat) (w2 : World) (hr : Row w2 q A.reverse d) => of_any q A.reverse d w2 hr ur
  have CR := fun (N : Nat) (q : Option Addr) (d : Nat) (w2 : World) (hr : OwnR N w2 q A d) => reverse_ownR N q A d w2 hr
  unfold OfOut at CO1 CO2
  rw [ofR_rev, ofE_rev] at CO2
  have CE := fun (q : Option Addr) (d : Nat) (q' : Option Addr) (d' : Nat) (w2 : World) (hr : Row w2 q (ofR A) d) (hr' : Row w2 q' (ofR A) d') => equal18 q (ofR A) d q' (ofR A) d' w2 hr.i hr'.i (by have := hr.n; omega)
  rw [samI_refl] at CE
  have CC := fun (q : Option Addr) (d : Nat) (w2 : World) (hr : Row w2 q (ofR A) d) => check_any q (ofR A) d w2 hr (ofR_u ux)
  have HCC : ofE A = 0 → chkE (ofR A) = 0 := fun h => by obtain ⟨e1, e2⟩ := of_yes h; rw [e1]; exact chk_may e2
  have CAB := fun (q : Option Addr) (d : Nat) (q' : Option Addr) (d' : Nat) (w2 : World) (hr : Row w2 q A.reverse d) (hr' : Row w2 q' B d') => compare_any q A.reverse d q' B d' w2 hr hr'
  have CBC := fun (q : Option Addr) (d : Nat) (q' : Option Addr) (d' : Nat) (w2 : World) (hr : Row w2 q B d) (hr' : Row w2 q' C d') => compare_any q B d q' C d' w2 hr hr'
  have CAC := fun (q : Option Addr) (d : Nat) (q' : Option Addr) (d' : Nat) (w2 : World) (hr : Row w2 q A.reverse d) (hr' : Row w2 q' C d') => compare_any q A.reverse d q' C d' w2 hr hr'
  have CBA := fun (q : Option Addr) (d : Nat) (q' : Option Addr) (d' : Nat) (w2 : World) (hr : Row w2 q B d) (hr' : Row w2 q' A.reverse d') => compare_any q B d q' A.reverse d' w2 hr hr'
  rw [cmp_anti A.reverse B, h1] at CBA
  have CQ := fun (q : Option Addr) (d : Nat) (q' : Option Addr) (d' : Nat) (w2 : World) (hr : Row w2 q A.reverse d) (hr' : Row w2 q' B d') => equal18 q A.reverse d q' B d' w2 hr.i hr'.i (by have := hr.n; omega)
  rw [sam_cmp, h1] at CQ
  rw [h1] at CAB
  rw [h2] at CBC
  rw [h3] at CAC
  have HL : Hid (A.reverse.length = A.length) := List.length_reverse
  rw [HL.out] at CO2 CAB CAC CBA CQ
  obtain ⟨T, hT⟩ : ∃ T, T = ofR A := ⟨_, rfl⟩
  obtain ⟨E, hE⟩ : ∃ E, E = ofE A := ⟨_, rfl⟩
  obtain ⟨D, hD⟩ : ∃ D, D = chkE T := ⟨_, rfl⟩
  rw [← hT] at CO1 CO2 CE CC HCC
  rw [← hE] at CO1 CO2 HCC
  rw [← hD] at CC HCC
  clear hT hE hD ux ur h1 h2 h3
  by_cases e0 : E = 0
  all_goals
    first
      | (have d0 := HCC e0; subst e0 d0; clear HCC; have hid0 : (0 : Int) = 0 := rfl)
      | (have e0' : (E == 0) = false := (by simpa using e0); clear HCC)
    go_enter Try.func7, Try.ntmps7
    go_wp2_with (first
      | (go_at_call 9; refine Calls.mono CK ?_; clear CK; rintro e w1 ⟨rfl, hb1⟩; have CX := CX w1 hb1)
      | (go_at_call 10; refine Calls.mono CX ?_; clear CX; rintro e w2 ⟨pa, ca, rfl, oa2, hb2⟩; have g2 := hb1.trans (hb2.mono hb1.size); have CY := CY w2 g2; clear hb2)
      | (go_at_call 10; refine Calls.mono CY ?_; clear CY; rintro e w3 ⟨pb, cb, rfl, ob3, hb3⟩; have g3 := g2.trans (hb3.mono g2.size); have oa3 := oa2.to hb3; have CZ := CZ w3 g3; have hla := oa2.lt; clear g2)
      | (go_at_call 10; refine Calls.mono CZ ?_; clear CZ; rintro e w4 ⟨pc, cc, rfl, oc4, hb4⟩; have g4 := g3.trans (hb4.mono g3.size); have oa4 := oa3.to hb4; have rb4 := ob3.row.to hb4; have nb := block_ne hla ob3.fr; have nc := block_ne (fun a ha => Nat.lt_of_lt_of_le (hla a ha) hb3.size) oc4.fr; have rc4 := oc4.row; clear g3 oa3 ob3 oc4 hb4)
      | (go_at_call 13; refine Calls.mono (CO1 pa ca _ oa4.row) ?_; clear CO1; rintro e w5 ⟨pl, cl, rfl, rl, hb5⟩; have g5 := g4.trans (hb5.mono g4.size); have oa5 := oa4.to hb5; have rb5 := rb4.to hb5; have rc5 := rc4.to hb5; have nl := block_ne oa4.lt rl.fr; have rl5 := rl.row; clear g4 oa4 rb4 rc4 rl hb5; have CR := CR _ pa ca _ oa5)
      | (go_at_call 36; refine Calls.mono CR ?_; clear CR; rintro e w6 ⟨rfl, oa6, hg6⟩; have g6 : Below w.heap.size w w6 := g5.grown hg6 g5.size (fun k hk => by cases pa with | none => simp at hk | some a => (simp at hk; have := oa6.fr a rfl; have := hb1.size; omega)); have o6 : Or3 w w6 pa A.reverse ca pb B cb pc C cc := ⟨oa6.row, rb5.grown hg6 nb, rc5.grown hg6 nc, g6⟩; have rl6 := rl5.grown hg6 nl; clear g5 oa5 rb5 rc5 rl5 oa6 hg6 g6 nb nc nl hla hb1 oa2 hb3; have CO2 := CO2 pa ca _ o6.a)
      | (go_at_call 13; refine Calls.mono CO2 ?_; clear CO2; rintro e w7 ⟨pm, cm, rfl, rm, hb7⟩; have o7 := o6.to hb7; have rl7 := rl6.to hb7; have rm7 := rm.row; clear rm hb7 rl6 o6; have CE := CE pl cl pm cm _ rl7 rm7)
      | (go_at_call 18; refine Calls.mono CE ?_; clear CE; rintro e w8 ⟨rfl, hb8⟩; have o8 := o7.to hb8; have rl8 := rl7.to hb8; clear hb8 rl7 rm7 o7; have CC := CC pl cl _ rl8; have CAB8 := CAB pa ca pb cb _ o8.a o8.b)
      | (go_at_call 11; refine Calls.mono CC ?_; clear CC CAB8; rintro e w9 ⟨rfl, hb9⟩; have o9 := o8.to hb9; clear hb9 rl8 o8; have o8 := o9; have CAB8 := CAB pa ca pb cb _ o8.a o8.b)
      | (go_at_call 21; refine Calls.mono CAB8 ?_; clear CAB8; rintro e w' ⟨rfl, rfl⟩; have CBC8 := CBC pb cb pc cc _ o8.b o8.c; clear CBC)
      | (go_at_call 21; refine Calls.mono CBC8 ?_; clear CBC8; rintro e w' ⟨rfl, rfl⟩; have CAC8 := CAC pa ca pc cc _ o8.a o8.c; clear CAC)
      | (go_at_call 21; refine Calls.mono CAC8 ?_; clear CAC8; rintro e w' ⟨rfl, rfl⟩; have CBA8 := CBA pb cb pa ca _ o8.b o8.a; clear CBA)
      | (go_at_call 21; refine Calls.mono CBA8 ?_; clear CBA8; rintro e w' ⟨rfl, rfl⟩; have CQ8 := CQ pa ca pb cb _ o8.a o8.b; clear CQ)
      | (go_at_call 18; refine Calls.mono CQ8 ?_; clear CQ8; rintro e w10 ⟨rfl, hb10⟩; have o10 := o8.to hb10))
    go_ret
    exact ⟨rfl, o10.w⟩

set_option maxRecDepth 20000 in
set_option maxHeartbeats 2000000 in
theorem order_zz (px : Option Addr) (X : List Int) (cx : Nat) (py : Option Addr) (Y : List Int) (cy : Nat) (pz : Option Addr) (Z : List Int) (cz : Nat) (w : World) (hx : InR w px X cx) (hy : InR w py Y cy) (hz : InR w pz Z cz) (h1 : cmpL (X.take 20).reverse (Y.take 20) = 0) (h2 : cmpL (Y.take 20) (Z.take 20) = 0) (h3 : cmpL (X.take 20).reverse (Z.take 20) = 0) :
    Calls Try.prog 7 #[.slice px X.length cx, .slice py Y.length cy, .slice pz Z.length cz] w fun e w' => e = .returned (.bool true) ∧ Below w.heap.size w w' := by
  have CK := wakes_any w
  have CX := fun (w1 : World) (hb : Below w.heap.size w w1) => few_ownR px X cx w1 (hx.to hb)
  have CY := fun (w1 : World) (hb : Below w.heap.size w w1) => few_ownR py Y cy w1 (hy.to hb)
  have CZ := fun (w1 : World) (hb : Below w.heap.size w w1) => few_ownR pz Z cz w1 (hz.to hb)
  have ux := hx.u.take 20
  obtain ⟨A, hA⟩ : ∃ A, A = X.take 20 := ⟨_, rfl⟩
  obtain ⟨B, hB⟩ : ∃ B, B = Y.take 20 := ⟨_, rfl⟩
  obtain ⟨C, hC⟩ : ∃ C, C = Z.take 20 := ⟨_, rfl⟩
  rw [← hA] at CX ux h1 h3
  rw [← hB] at CY h1 h2
  rw [← hC] at CZ h2 h3
  clear hA hB hC hx hy hz
  have CO1 := fun (q : Option Addr) (d : Nat) (w2 : World) (hr : Row w2 q A d) => of_any q A d w2 hr ux
  have ur : U64 A.reverse := fun y hy => ux y (List.mem_reverse.1 hy)
  have CO2 := fun (q : Option Addr) (d : Nat) (w2 : World) (hr : Row w2 q A.reverse d) => of_any q A.reverse d w2 hr ur
  have CR := fun (N : Nat) (q : Option Addr) (d : Nat) (w2 : World) (hr : OwnR N w2 q A d) => reverse_ownR N q A d w2 hr
  unfold OfOut at CO1 CO2
  rw [ofR_rev, ofE_rev] at CO2
  have CE := fun (q : Option Addr) (d : Nat) (q' : Option Addr) (d' : Nat) (w2 : World) (hr : Row w2 q (ofR A) d) (hr' : Row w2 q' (ofR A) d') => equal18 q (ofR A) d q' (ofR A) d' w2 hr.i hr'.i (by have := hr.n; omega)
  rw [samI_refl] at CE
  have CC := fun (q : Option Addr) (d : Nat) (w2 : World) (hr : Row w2 q (ofR A) d) => check_any q (ofR A) d w2 hr (ofR_u ux)
  have HCC : ofE A = 0 → chkE (ofR A) = 0 := fun h => by obtain ⟨e1, e2⟩ := of_yes h; rw [e1]; exact chk_may e2
  have CAB := fun (q : Option Addr) (d : Nat) (q' : Option Addr) (d' : Nat) (w2 : World) (hr : Row w2 q A.reverse d) (hr' : Row w2 q' B d') => compare_any q A.reverse d q' B d' w2 hr hr'
  have CBC := fun (q : Option Addr) (d : Nat) (q' : Option Addr) (d' : Nat) (w2 : World) (hr : Row w2 q B d) (hr' : Row w2 q' C d') => compare_any q B d q' C d' w2 hr hr'
  have CAC := fun (q : Option Addr) (d : Nat) (q' : Option Addr) (d' : Nat) (w2 : World) (hr : Row w2 q A.reverse d) (hr' : Row w2 q' C d') => compare_any q A.reverse d q' C d' w2 hr hr'
  have CBA := fun (q : Option Addr) (d : Nat) (q' : Option Addr) (d' : Nat) (w2 : World) (hr : Row w2 q B d) (hr' : Row w2 q' A.reverse d') => compare_any q B d q' A.reverse d' w2 hr hr'
  rw [cmp_anti A.reverse B, h1] at CBA
  have CQ := fun (q : Option Addr) (d : Nat) (q' : Option Addr) (d' : Nat) (w2 : World) (hr : Row w2 q A.reverse d) (hr' : Row w2 q' B d') => equal18 q A.reverse d q' B d' w2 hr.i hr'.i (by have := hr.n; omega)
  rw [sam_cmp, h1] at CQ
  rw [h1] at CAB
  rw [h2] at CBC
  rw [h3] at CAC
  have HL : Hid (A.reverse.length = A.length) := List.length_reverse
  rw [HL.out] at CO2 CAB CAC CBA CQ
  obtain ⟨T, hT⟩ : ∃ T, T = ofR A := ⟨_, rfl⟩
  obtain ⟨E, hE⟩ : ∃ E, E = ofE A := ⟨_, rfl⟩
  obtain ⟨D, hD⟩ : ∃ D, D = chkE T := ⟨_, rfl⟩
  rw [← hT] at CO1 CO2 CE CC HCC
  rw [← hE] at CO1 CO2 HCC
  rw [← hD] at CC HCC
  clear hT hE hD ux ur h1 h2 h3
  by_cases e0 : E = 0
  all_goals
    first
      | (have d0 := HCC e0; subst e0 d0; clear HCC; have hid0 : (0 : Int) = 0 := rfl)
      | (have e0' : (E == 0) = false := (by simpa using e0); clear HCC)
    go_enter Try.func7, Try.ntmps7
    go_wp2_with (first
      | (go_at_call 9; refine Calls.mono CK ?_; clear CK; rintro e w1 ⟨rfl, hb1⟩; have CX := CX w1 hb1)
      | (go_at_call 10; refine Calls.mono CX ?_; clear CX; rintro e w2 ⟨pa, ca, rfl, oa2, hb2⟩; have g2 := hb1.trans (hb2.mono hb1.size); have CY := CY w2 g2; clear hb2)
      | (go_at_call 10; refine Calls.mono CY ?_; clear CY; rintro e w3 ⟨pb, cb, rfl, ob3, hb3⟩; have g3 := g2.trans (hb3.mono g2.size); have oa3 := oa2.to hb3; have CZ := CZ w3 g3; have hla := oa2.lt; clear g2)
      | (go_at_call 10; refine Calls.mono CZ ?_; clear CZ; rintro e w4 ⟨pc, cc, rfl, oc4, hb4⟩; have g4 := g3.trans (hb4.mono g3.size); have oa4 := oa3.to hb4; have rb4 := ob3.row.to hb4; have nb := block_ne hla ob3.fr; have nc := block_ne (fun a ha => Nat.lt_of_lt_of_le (hla a ha) hb3.size) oc4.fr; have rc4 := oc4.row; clear g3 oa3 ob3 oc4 hb4)
      | (go_at_call 13; refine Calls.mono (CO1 pa ca _ oa4.row) ?_; clear CO1; rintro e w5 ⟨pl, cl, rfl, rl, hb5⟩; have g5 := g4.trans (hb5.mono g4.size); have oa5 := oa4.to hb5; have rb5 := rb4.to hb5; have rc5 := rc4.to hb5; have nl := block_ne oa4.lt rl.fr; have rl5 := rl.row; clear g4 oa4 rb4 rc4 rl hb5; have CR := CR _ pa ca _ oa5)
      | (go_at_call 36; refine Calls.mono CR ?_; clear CR; rintro e w6 ⟨rfl, oa6, hg6⟩; have g6 : Below w.heap.size w w6 := g5.grown hg6 g5.size (fun k hk => by cases pa with | none => simp at hk | some a => (simp at hk; have := oa6.fr a rfl; have := hb1.size; omega)); have o6 : Or3 w w6 pa A.reverse ca pb B cb pc C cc := ⟨oa6.row, rb5.grown hg6 nb, rc5.grown hg6 nc, g6⟩; have rl6 := rl5.grown hg6 nl; clear g5 oa5 rb5 rc5 rl5 oa6 hg6 g6 nb nc nl hla hb1 oa2 hb3; have CO2 := CO2 pa ca _ o6.a)
      | (go_at_call 13; refine Calls.mono CO2 ?_; clear CO2; rintro e w7 ⟨pm, cm, rfl, rm, hb7⟩; have o7 := o6.to hb7; have rl7 := rl6.to hb7; have rm7 := rm.row; clear rm hb7 rl6 o6; have CE := CE pl cl pm cm _ rl7 rm7)
      | (go_at_call 18; refine Calls.mono CE ?_; clear CE; rintro e w8 ⟨rfl, hb8⟩; have o8 := o7.to hb8; have rl8 := rl7.to hb8; clear hb8 rl7 rm7 o7; have CC := CC pl cl _ rl8; have CAB8 := CAB pa ca pb cb _ o8.a o8.b)
      | (go_at_call 11; refine Calls.mono CC ?_; clear CC CAB8; rintro e w9 ⟨rfl, hb9⟩; have o9 := o8.to hb9; clear hb9 rl8 o8; have o8 := o9; have CAB8 := CAB pa ca pb cb _ o8.a o8.b)
      | (go_at_call 21; refine Calls.mono CAB8 ?_; clear CAB8; rintro e w' ⟨rfl, rfl⟩; have CBC8 := CBC pb cb pc cc _ o8.b o8.c; clear CBC)
      | (go_at_call 21; refine Calls.mono CBC8 ?_; clear CBC8; rintro e w' ⟨rfl, rfl⟩; have CAC8 := CAC pa ca pc cc _ o8.a o8.c; clear CAC)
      | (go_at_call 21; refine Calls.mono CAC8 ?_; clear CAC8; rintro e w' ⟨rfl, rfl⟩; have CBA8 := CBA pb cb pa ca _ o8.b o8.a; clear CBA)
      | (go_at_call 21; refine Calls.mono CBA8 ?_; clear CBA8; rintro e w' ⟨rfl, rfl⟩; have CQ8 := CQ pa ca pb cb _ o8.a o8.b; clear CQ)
      | (go_at_call 18; refine Calls.mono CQ8 ?_; clear CQ8; rintro e w10 ⟨rfl, hb10⟩; have o10 := o8.to hb10))
    go_ret
    exact ⟨rfl, o10.w⟩

theorem order_walk (px : Option Addr) (X : List Int) (cx : Nat) (py : Option Addr) (Y : List Int) (cy : Nat) (pz : Option Addr) (Z : List Int) (cz : Nat) (w : World) (hx : InR w px X cx) (hy : InR w py Y cy) (hz : InR w pz Z cz) :
    Calls Try.prog 7 #[.slice px X.length cx, .slice py Y.length cy, .slice pz Z.length cz] w fun e w' => e = .returned (.bool true) ∧ Below w.heap.size w w' := by
  rcases cmp_01 (X.take 20).reverse (Y.take 20) with p | p | p
  · rcases cmp_01 (Y.take 20) (Z.take 20) with q | q | q
    · exact order_nn px X cx py Y cy pz Z cz w hx hy hz p q (cmp_trans _ _ _ p q)
    · exact order_nz px X cx py Y cy pz Z cz w hx hy hz p q (by rw [← (cmp_eq _ _).1 q]; exact p)
    · exact order_nq px X cx py Y cy pz Z cz w hx hy hz p q
  · rcases cmp_01 (Y.take 20) (Z.take 20) with q | q | q
    · exact order_zn px X cx py Y cy pz Z cz w hx hy hz p q (by rw [(cmp_eq _ _).1 p]; exact q)
    · exact order_zz px X cx py Y cy pz Z cz w hx hy hz p q (by rw [(cmp_eq _ _).1 p]; exact q)
    · exact order_zq px X cx py Y cy pz Z cz w hx hy hz p q
  · exact order_p px X cx py Y cy pz Z cz w hx hy hz p
end Go.Proofs.Ytooaghcjlomcpaa
