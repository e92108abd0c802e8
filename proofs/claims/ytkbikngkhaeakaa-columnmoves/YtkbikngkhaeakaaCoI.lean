/- The closure of Move. -/
import Derived.Test.YtkbikngkhaeakaaCoH
namespace Go.Proofs.Ytkbikngkhaeakaa
open Go.RowKit

def Apart (p q : Option Addr) : Prop := ∀ x y, p = some x → q = some y → x.block ≠ y.block
theorem apart_of {B N : Nat} {w w' : World} {p q : Option Addr} {l m : List Int} {c d : Nat} (h : OwnR B w p l c) (g : OwnR N w' q m d) (hN : w.heap.size ≤ N) : Apart p q := by
  intro x y hx hy
  have h1 := h.lt x hx
  have h2 := g.fr y hy
  omega
theorem Apart.symm {p q : Option Addr} (h : Apart p q) : Apart q p := fun x y hx hy e => h y x hy hx e.symm
abbrev oZ2 : Obj := .cells #[.int .i64 0, .int .i64 0, .slice none 0 0, .int .i64 0, .int .i64 0, .slice none 0 0] 78
/-- Two columns, as they are answered. -/
def AnsP (a b : CA) (er : Int) (w : World) (e : Ending) (w' : World) : Prop := ∃ q1 c1 q2 c2, e = .returned (.tuple #[.agg #[.int .i64 a.1, .int .i64 a.2.1, .slice q1 a.2.2.length c1, .int .i64 b.1, .int .i64 b.2.1, .slice q2 b.2.2.length c2], .int .i64 er]) ∧ OwnR w.heap.size w' q1 a.2.2 c1 ∧ OwnR w.heap.size w' q2 b.2.2 c2 ∧ Apart q1 q2 ∧ Below w.heap.size w w'
def mvA (W R : Nat) (l : List Int) (W2 R2 : Nat) (l2 : List Int) (row : Int) : CA × CA × Int :=
  if hasB (R : Int) row && decide (W = W2) then (if roomB (R2 : Int) 1 then (((W : Int), ((R - 1 : Nat) : Int), (swO (chK W R l) row.toNat).flatten), ((W2 : Int), ((R2 + 1 : Nat) : Int), l2 ++ wdK l (W : Int) row (row + 1)), 0) else (zC, zC, 6)) else (zC, zC, 2)
theorem heap6_cell {W : World} {B : Nat} {a b c d e f : Value} {t : TypeId} (h : W.heap[B]? = some (.cells #[a, b, c, d, e, f] t (0, 0))) : W.cell? ⟨B, 0, none⟩ = some a ∧ W.cell? ⟨B, 1, none⟩ = some b ∧ W.cell? ⟨B, 2, none⟩ = some c ∧ W.cell? ⟨B, 3, none⟩ = some d ∧ W.cell? ⟨B, 4, none⟩ = some e ∧ W.cell? ⟨B, 5, none⟩ = some f ∧ (∀ o, W.frozen? ⟨B, o, none⟩ = false) :=
  ⟨by simp [World.cell?, h], by simp [World.cell?, h], by simp [World.cell?, h], by simp [World.cell?, h], by simp [World.cell?, h], by simp [World.cell?, h], fun o => by simp [World.frozen?, h]⟩
/-- Six cells of one block written over. -/
def w6 (W : World) (B : Nat) (a b c d e f : Value) : World := ((((((W.setCell ⟨B, 0, none⟩ a).setCell ⟨B, 1, none⟩ b).setCell ⟨B, 2, none⟩ c).setCell ⟨B, 3, none⟩ d).setCell ⟨B, 4, none⟩ e).setCell ⟨B, 5, none⟩ f)
theorem Be.st6 {N : Nat} {w X : World} (h : Be N w X) {B : Nat} (hB : N ≤ B) (a b c d e f : Value) : Be N w (((((((X.setCell ⟨B, 0, none⟩ a).setCell ⟨B, 1, none⟩ b).setCell ⟨B, 2, none⟩ c).setCell ⟨B, 3, none⟩ d).setCell ⟨B, 4, none⟩ e).setCell ⟨B, 5, none⟩ f)) :=
  (((h.st3 hB a b c).st (a := ⟨B, 3, none⟩) hB d).st (a := ⟨B, 4, none⟩) hB e).st (a := ⟨B, 5, none⟩) hB f
theorem OwnR.set6 {B N : Nat} {W : World} {q : Option Addr} {l : List Int} {c : Nat} (h : OwnR N W q l c) (hB : B < N) (x y z u v t : Value) : OwnR N (((((((W.setCell ⟨B, 0, none⟩ x).setCell ⟨B, 1, none⟩ y).setCell ⟨B, 2, none⟩ z).setCell ⟨B, 3, none⟩ u).setCell ⟨B, 4, none⟩ v).setCell ⟨B, 5, none⟩ t)) q l c := by
  have hz := h.fr
  have e1 : ∀ x, q = some x → x.block ≠ B := fun x hx => by have := hz x hx; omega
  exact (((h.set3 hB x y z).setCell (a := ⟨B, 3, none⟩) e1 _).setCell (a := ⟨B, 4, none⟩) e1 _).setCell (a := ⟨B, 5, none⟩) e1 _
set_option maxRecDepth 20000 in
set_option maxHeartbeats 4000000 in
theorem move54 (Bc Br Bt W R W2 R2 : Nat) (p : Option Addr) (l : List Int) (c : Nat) (row : Int) (p2 : Option Addr) (l2 : List Int) (c2 : Nat) (w : World) (hC : CV w W R p l c) (hD : CV w W2 R2 p2 l2 c2) (hB : B2 w Bc Br W R p l c row) (hT : w.heap[Bt]? = some (.cells #[.int .i64 (W2 : Int), .int .i64 (R2 : Int), .slice p2 l2.length c2] 24 (0, 0))) :
    Calls Try.prog 54 #[.pointer (some ⟨Bc, 0, none⟩), .pointer (some ⟨Br, 0, none⟩), .pointer (some ⟨Bt, 0, none⟩)] w fun e w' => AnsP (mvA W R l W2 R2 l2 row).1 (mvA W R l W2 R2 l2 row).2.1 (mvA W R l W2 R2 l2 row).2.2 w e w' := by
  have hrm := hC.rm
  have hrm2 := hD.rm
  have hbt := (Array.getElem?_eq_some_iff.1 hT).1
  obtain ⟨oC, hoC⟩ : ∃ oC, oC = Obj.cells #[.int .i64 (W : Int), .int .i64 (R : Int), .slice p l.length c] 24 := ⟨_, rfl⟩
  obtain ⟨oT, hoT⟩ : ∃ oT, oT = Obj.cells #[.int .i64 (W2 : Int), .int .i64 (R2 : Int), .slice p2 l2.length c2] 24 := ⟨_, rfl⟩
  have CH := fun (X : World) => hasRow42 (W : Int) (R : Int) p l.length c row X
  have CR := fun (X : World) => hasRoom51 (W2 : Int) (R2 : Int) p2 l2.length c2 1 X (by omega) (by omega)
  rw [← hoC] at CH
  rw [← hoT] at CR
  have KE : Hid (Be w.heap.size w (w.alloc oZ2)) := (Be.refl (Nat.le_refl _)).al _
  have KF : Hid (Be w.heap.size w ((w.alloc oZ2).alloc oC)) := KE.out.al _
  have KG : Hid (Be w.heap.size w (((w.alloc oZ2).alloc oC).alloc oT)) := KF.out.al _
  have KK : Hid (∀ X, Be w.heap.size w X → X.cell? ⟨Bc, 0, none⟩ = some (.int .i64 (W : Int)) ∧ X.cell? ⟨Bc, 1, none⟩ = some (.int .i64 (R : Int)) ∧ X.cell? ⟨Bc, 2, none⟩ = some (.slice p l.length c) ∧ X.cell? ⟨Br, 0, none⟩ = some (.int .i64 row) ∧ X.cell? ⟨Bt, 0, none⟩ = some (.int .i64 (W2 : Int)) ∧ X.cell? ⟨Bt, 1, none⟩ = some (.int .i64 (R2 : Int)) ∧ X.cell? ⟨Bt, 2, none⟩ = some (.slice p2 l2.length c2)) := fun X hb => by
    obtain ⟨x0, x1, x2, x3⟩ := hB.k hb.b
    obtain ⟨x4, x5, x6⟩ := hb.box hbt hT
    exact ⟨x0, x1, x2, x3, x4, x5, x6⟩
  obtain ⟨a0, a1, a2, a3, a4, a5, a6⟩ := KK.out _ KE.out
  obtain ⟨b0, b1, b2, b3, b4, b5, b6⟩ := KK.out _ KF.out
  have zF : ((w.alloc oZ2).alloc oC).heap[w.heap.size]? = some oZ2 := (Below.heap_alloc _ _ _ (by simp)).trans (heap_alloc_new _ _)
  have zG : (((w.alloc oZ2).alloc oC).alloc oT).heap[w.heap.size]? = some oZ2 := (Below.heap_alloc _ _ _ (by simp; omega)).trans zF
  obtain ⟨y0, y1, y2, y3, y4, y5, yf⟩ := heap6_cell zF
  obtain ⟨z0, z1, z2, z3, z4, z5, zf⟩ := heap6_cell zG
  obtain ⟨n0, hn0⟩ : ∃ n0, n0 = l.length := ⟨_, rfl⟩
  obtain ⟨n2, hn2⟩ : ∃ n2, n2 = l2.length := ⟨_, rfl⟩
  cases hh : hasB (R : Int) row
  · have E1 : mvA W R l W2 R2 l2 row = (zC, zC, 2) := by unfold mvA; rw [hh]; rfl
    rw [E1]
    rw [hh] at CH
    clear hC hB hh E1 hD hT zF zG hoC hoT
    go_enter Try.func54, Try.ntmps54
    go_wp2_with (first | (go_at_call 42; refine Calls.mono (CH _) ?_; rintro e w1 ⟨rfl, hw⟩; rw [hw]; clear hw w1))
    exact bodyPost_ret (v := .tuple #[.agg #[.int .i64 0, .int .i64 0, .slice none 0 0, .int .i64 0, .int .i64 0, .slice none 0 0], .int .i64 2]) (by simp [results, Try.results54, go_sem]) rfl ⟨none, 0, none, 0, rfl, OwnR.nil _ _, OwnR.nil _ _, (fun x y h => by cases h), KF.out.b⟩
  · rw [hh] at CH
    by_cases hW : W = W2
    · have hd : ((W : Int) != (W2 : Int)) = false := by simp [hW]
      cases hr : roomB (R2 : Int) 1
      · have E1 : mvA W R l W2 R2 l2 row = (zC, zC, 6) := by unfold mvA; rw [hh, decide_eq_true hW, hr]; rfl
        rw [E1]
        rw [hr] at CR
        clear hC hB hh E1 hD hT zF zG hW hr hoC hoT
        go_enter Try.func54, Try.ntmps54
        go_wp2_with (first | (go_at_call 42; refine Calls.mono (CH _) ?_; rintro e w1 ⟨rfl, hw⟩; rw [hw]; clear hw w1) | (go_at_call 51; refine Calls.mono (CR _) ?_; rintro e w1 ⟨rfl, hw⟩; rw [hw]; clear hw w1))
        exact bodyPost_ret (v := .tuple #[.agg #[.int .i64 0, .int .i64 0, .slice none 0 0, .int .i64 0, .int .i64 0, .slice none 0 0], .int .i64 6]) (by simp [results, Try.results54, go_sem]) rfl ⟨none, 0, none, 0, rfl, OwnR.nil _ _, OwnR.nil _ _, (fun x y h => by cases h), KG.out.b⟩
      · rw [hr] at CR
        obtain ⟨h0, h1⟩ := hasB_t hh
        have E1 : mvA W R l W2 R2 l2 row = (((W : Int), ((R - 1 : Nat) : Int), (swO (chK W R l) row.toNat).flatten), ((W2 : Int), ((R2 + 1 : Nat) : Int), l2 ++ wdK l (W : Int) row (row + 1)), 0) := by unfold mvA; rw [hh, decide_eq_true hW, hr]; rfl
        rw [E1]
        have O1 : OkCut (W : Int) l.length row (row + 1) := by
          have := hC.ok (f := row.toNat) (e := row.toNat + 1) (by omega) (by omega)
          rw [show ((row.toNat : Nat) : Int) = row from by omega, show ((row.toNat + 1 : Nat) : Int) = row + 1 from by omega] at this
          exact this
        have hl1 := wdK_len O1
        have hlen := hC.len
        have hlen2 := hD.len
        obtain ⟨wE, hE⟩ : ∃ wE, wE = ((w.alloc oZ2).alloc oC).alloc oT := ⟨_, rfl⟩
        have LE : Hid (Be w.heap.size w wE) := by rw [hE]; exact KG.out
        have sE : wE.heap.size = w.heap.size + 3 := by rw [hE]; simp
        have KS2 : w.heap.size + 1 ≤ wE.heap.size := by omega
        have KS : w.heap.size ≤ wE.heap.size := by omega
        have zE : wE.heap[w.heap.size]? = some oZ2 := by rw [hE]; exact zG
        have KB : Hid (∀ X, Be w.heap.size wE X → X.cell? ⟨Bc, 0, none⟩ = some (.int .i64 (W : Int)) ∧ X.cell? ⟨Bc, 1, none⟩ = some (.int .i64 (R : Int)) ∧ X.cell? ⟨Bc, 2, none⟩ = some (.slice p l.length c) ∧ X.cell? ⟨Br, 0, none⟩ = some (.int .i64 row) ∧ X.cell? ⟨Bt, 0, none⟩ = some (.int .i64 (W2 : Int)) ∧ X.cell? ⟨Bt, 1, none⟩ = some (.int .i64 (R2 : Int)) ∧ X.cell? ⟨Bt, 2, none⟩ = some (.slice p2 l2.length c2)) := fun X hb => KK.out X (LE.out.tr hb (Nat.le_refl _))
        have CC : Hid (∀ X, Be w.heap.size wE X → Calls Try.prog 43 #[.agg #[.int .i64 (W : Int), .int .i64 (R : Int), .slice p l.length c], .int .i64 row, .int .i64 (row + 1)] X fun en w' => en = .returned (.slice (cpK p W row (row + 1)) (cnK W row (row + 1)) (cnK W row (row + 1))) ∧ w' = X.alloc oC) := fun X hb => by
          rw [hoC]
          exact cutK _ _ p l c _ _ X (hC.to (LE.out.tr hb (Nat.le_refl _)).b).r hC.cm O1
        have CS : Hid (∀ X, Be (w.heap.size + 1) wE X → Calls Try.prog 46 #[.agg #[.int .i64 (W : Int), .int .i64 (R : Int), .slice p l.length c], .int .i64 row] X fun e w' => GivesC (W : Int) ((R - 1 : Nat) : Int) (swO (chK W R l) row.toNat).flatten X e w') := fun X hb => by
          have := swapped46 W R row.toNat p l c X (hC.to (LE.out.tr hb (Nat.le_succ _)).b) (by omega)
          rw [show ((row.toNat : Nat) : Int) = row from by omega] at this
          exact this
        have CP : Hid (∀ X B, Be (w.heap.size + 1) wE X → X.cell? ⟨B, 0, none⟩ = some (.slice (cpK p W row (row + 1)) (cnK W row (row + 1)) (cnK W row (row + 1))) → Calls Try.prog 52 #[.agg #[.int .i64 (W2 : Int), .int .i64 (R2 : Int), .slice p2 l2.length c2], .slice (some ⟨B, 0, none⟩) 1 1] X fun e w' => GivesC (W2 : Int) ((R2 + 1 : Nat) : Int) (l2 ++ wdK l (W : Int) row (row + 1)) X e w') := fun X B hb hcs => by
          have hX : Be w.heap.size w X := LE.out.tr hb (Nat.le_succ _)
          have h1 := pushed52 W2 R2 p2 l2 c2 (some ⟨B, 0, none⟩) [(cpK p (W : Int) row (row + 1), wdK l (W : Int) row (row + 1), cnK (W : Int) row (row + 1))] 1 X (hD.to hX.b) (vrow1 (by rw [hl1]; exact hcs) ((hC.to hX.b).r.i.cutK _ _ _)) (by simp) (by
            simp only [catF, catN, rL, List.length_append, List.length_cons, List.length_nil, List.getD_cons_zero]
            unfold wdK; simp; omega)
          simpa [catF, catN, rL] using h1
        obtain ⟨m1, hm1⟩ : ∃ m1, m1 = (swO (chK W R l) row.toNat).flatten := ⟨_, rfl⟩
        obtain ⟨m2, hm2⟩ : ∃ m2, m2 = l2 ++ wdK l (W : Int) row (row + 1) := ⟨_, rfl⟩
        obtain ⟨R1, hR1⟩ : ∃ R1, R1 = R - 1 := ⟨_, rfl⟩
        obtain ⟨R3, hR3⟩ : ∃ R3, R3 = R2 + 1 := ⟨_, rfl⟩
        rw [← hm1, ← hR1] at CS
        rw [← hm2, ← hR3] at CP
        rw [← hm1, ← hm2, ← hR1, ← hR3]
        rw [← hn0] at CC CS KB CH
        rw [← hn2] at CP KB CR
        rw [← hn0] at a2 b2
        rw [← hn2] at a6 b6
        have hw1 : IntKind.i64.wrap (row + 1) = row + 1 := by rw [IntKind.wrap_i64]; omega
        obtain ⟨g0, g1, g2, g3, g4, g5, g6⟩ := KK.out _ KG.out
        rw [← hn0] at g2
        rw [← hn2] at g6
        clear hC hB hh E1 hD hT zF zG hr hoC hoT hm1 hm2 hR1 hR3 hl1 O1 hlen hlen2 hn0 hn2 KK KE KF KG y0 y1 y2 y3 y4 y5 yf z0 z1 z2 z3 z4 z5 zf hW
        go_enter Try.func54, Try.ntmps54
        go_wp2_with (first | (go_at_call 42; refine Calls.mono (CH _) ?_; rintro e w1 ⟨rfl, hw⟩; rw [hw]; clear hw w1) | (go_at_call 51; refine Calls.mono (CR _) ?_; rintro e w1 ⟨rfl, hw⟩; rw [hw]; clear hw w1))
        rw [← hE]
        clear hE CH CR a0 a1 a2 a3 a4 a5 a6 b0 b1 b2 b3 b4 b5 b6 g0 g1 g2 g3 g4 g5 g6
        go_region_held3 (fun w' => w'.cell? ⟨Bc, 0, none⟩ = some (.int .i64 (W : Int)) ∧ w'.cell? ⟨Bc, 1, none⟩ = some (.int .i64 (R : Int)) ∧ w'.cell? ⟨Bc, 2, none⟩ = some (.slice p n0 c) ∧ w'.cell? ⟨Br, 0, none⟩ = some (.int .i64 row) ∧ w'.cell? ⟨Bt, 0, none⟩ = some (.int .i64 (W2 : Int)) ∧ w'.cell? ⟨Bt, 1, none⟩ = some (.int .i64 (R2 : Int)) ∧ w'.cell? ⟨Bt, 2, none⟩ = some (.slice p2 n2 c2)) (first | with_reducible exact KB.out _ (HX2.out.st6 (Nat.le_refl _) _ _ _ _ _ _) | with_reducible exact KB.out _ (HX1.out.st6 (Nat.le_refl _) _ _ _ _ _ _) | (refine KB.out _ ?_; (repeat (first | with_reducible exact Be.refl KS | with_reducible exact HX1.out | with_reducible exact HX2.out | with_reducible refine Be.al ?_ _ | with_reducible refine Be.dr ?_))))
          (first | (go_at_call 43; refine Calls.mono (CC.out _ ?_) ?_; (repeat (first | with_reducible exact Be.refl KS | with_reducible exact HX1.out | with_reducible exact HX2.out | with_reducible refine Be.al ?_ _ | with_reducible refine Be.dr ?_)); rintro e w5 ⟨rfl, hw⟩; rw [hw]; clear hw w5) | (go_at_call 46; refine Calls.mono (CS.out _ ?_) ?_; (repeat (first | with_reducible exact Be.refl KS2 | with_reducible exact HY1.out | with_reducible exact HY2.out | with_reducible refine Be.al ?_ _ | with_reducible refine Be.dr ?_)); rintro e w1 ⟨q1, c1, rfl, ho, hb⟩; have HY1 : Hid (Be (w.heap.size + 1) wE w1) := Be.to (by (repeat (first | with_reducible exact Be.refl KS2 | with_reducible exact HY1.out | with_reducible exact HY2.out | with_reducible refine Be.al ?_ _ | with_reducible refine Be.dr ?_))) hb; have HX1 : Hid (Be w.heap.size wE w1) := HY1.out.le (Nat.le_succ _); obtain ⟨y0, y1, y2, y3, y4, y5, yf⟩ := heap6_cell (HY1.out.blk (Nat.lt_succ_self _) zE); have HO1 : Hid (OwnR (w.heap.size + 1) w1 q1 m1 c1) := ho.weak (Be.s (w := wE) (by (repeat (first | with_reducible exact Be.refl KS2 | with_reducible exact HY1.out | with_reducible exact HY2.out | with_reducible refine Be.al ?_ _ | with_reducible refine Be.dr ?_)))); (try have HP1 : Hid (OwnR (w.heap.size + 1) w1 q2 m2 d2 ∧ Apart q1 q2) := ⟨HO2.out.to (Be.to (by (repeat (first | with_reducible exact Be.refl (Nat.le_refl _) | with_reducible refine Be.al ?_ _ | with_reducible refine Be.dr ?_))) hb).b, (apart_of HO2.out ho (Be.s (w := w2) (by (repeat (first | with_reducible exact Be.refl (Nat.le_refl _) | with_reducible refine Be.al ?_ _ | with_reducible refine Be.dr ?_))))).symm⟩); clear ho hb) | (go_at_call 52; refine Calls.mono (CP.out _ _ ?_ ?_) ?_; (repeat (first | with_reducible exact Be.refl KS2 | with_reducible exact HY1.out | with_reducible exact HY2.out | with_reducible refine Be.al ?_ _ | with_reducible refine Be.dr ?_)); (simp [go_sem]); rintro e w2 ⟨q2, d2, rfl, ho, hb⟩; have HY2 : Hid (Be (w.heap.size + 1) wE w2) := Be.to (by (repeat (first | with_reducible exact Be.refl KS2 | with_reducible exact HY1.out | with_reducible exact HY2.out | with_reducible refine Be.al ?_ _ | with_reducible refine Be.dr ?_))) hb; have HX2 : Hid (Be w.heap.size wE w2) := HY2.out.le (Nat.le_succ _); obtain ⟨z0, z1, z2, z3, z4, z5, zf⟩ := heap6_cell (HY2.out.blk (Nat.lt_succ_self _) zE); have HO2 : Hid (OwnR (w.heap.size + 1) w2 q2 m2 d2) := ho.weak (Be.s (w := wE) (by (repeat (first | with_reducible exact Be.refl KS2 | with_reducible exact HY1.out | with_reducible exact HY2.out | with_reducible refine Be.al ?_ _ | with_reducible refine Be.dr ?_)))); (try have HP2 : Hid (OwnR (w.heap.size + 1) w2 q1 m1 c1 ∧ Apart q1 q2) := ⟨HO1.out.to (Be.to (by (repeat (first | with_reducible exact Be.refl (Nat.le_refl _) | with_reducible refine Be.al ?_ _ | with_reducible refine Be.dr ?_))) hb).b, apart_of HO1.out ho (Be.s (w := w1) (by (repeat (first | with_reducible exact Be.refl (Nat.le_refl _) | with_reducible refine Be.al ?_ _ | with_reducible refine Be.dr ?_))))⟩); clear ho hb))
        all_goals
          go_wp2
          obtain ⟨hp, hA⟩ := HP2.out
          refine bodyPost_ret (v := .tuple #[.agg #[.int .i64 (W : Int), .int .i64 (R1 : Int), .slice q1 m1.length c1, .int .i64 (W2 : Int), .int .i64 (R3 : Int), .slice q2 m2.length d2], .int .i64 0]) (by simp [results, Try.results54, go_sem, z0, z1, z2, z3, z4, z5]) rfl ⟨q1, c1, q2, d2, rfl, ?_, ?_, hA, ?_⟩
          · exact (hp.set6 (B := w.heap.size) (by omega) _ _ _ _ _ _).weak (by omega)
          · exact (HO2.out.set6 (B := w.heap.size) (by omega) _ _ _ _ _ _).weak (by omega)
          · exact ((LE.out.tr HX2.out (Nat.le_refl _)).st6 (Nat.le_refl _) _ _ _ _ _ _).b
    · have E1 : mvA W R l W2 R2 l2 row = (zC, zC, 2) := by unfold mvA; rw [hh, decide_eq_false hW]; rfl
      rw [E1]
      have hd : ((W : Int) != (W2 : Int)) = true := by simp; omega
      clear hC hB hh E1 hD hT zF zG hW hoC hoT
      go_enter Try.func54, Try.ntmps54
      go_wp2_with (first | (go_at_call 42; refine Calls.mono (CH _) ?_; rintro e w1 ⟨rfl, hw⟩; rw [hw]; clear hw w1))
      exact bodyPost_ret (v := .tuple #[.agg #[.int .i64 0, .int .i64 0, .slice none 0 0, .int .i64 0, .int .i64 0, .slice none 0 0], .int .i64 2]) (by simp [results, Try.results54, go_sem]) rfl ⟨none, 0, none, 0, rfl, OwnR.nil _ _, OwnR.nil _ _, (fun x y h => by cases h), KF.out.b⟩
end Go.Proofs.Ytkbikngkhaeakaa
