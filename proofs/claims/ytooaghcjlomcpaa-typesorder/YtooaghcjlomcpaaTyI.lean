/- The closures; Taken, Targets, Mentions, Meet. -/
import Derived.Test.YtooaghcjlomcpaaTyF
import Derived.Test.YtooaghcjlomcpaaTyH
namespace Go.Proofs.Ytooaghcjlomcpaa
open Go.RowKit Go.Shelf

/-- A row that the call has made, read as numbers. -/
theorem irow_owns {q : IntKind} {t B : Nat} {w : World} {v : Value} {l : List Int} (h : w.ownsRow B t 1 v l.length (l.map (Value.int q))) :
    ∃ p c, v = .slice p l.length c ∧ IRow q w.heap.size w p l ∧ FreshP B p ∧ l.length ≤ c ∧ ((p = none ∧ l = [] ∧ c = 0) ∨ ∃ b off, p = some ⟨b, off, none⟩) := by
  rcases h.2 with ⟨rfl, h0⟩ | ⟨g, cap, cur, rfl, hg, hh, h1, _, _, ht⟩
  · obtain rfl : l = [] := List.eq_nil_of_length_eq_zero h0
    exact ⟨none, 0, rfl, IRow.nil, (fun a h => by cases h), (by simp), .inl ⟨rfl, rfl, rfl⟩⟩
  · refine ⟨some ⟨g, 0, none⟩, cap, rfl, ?_, (fun a h => by cases h; exact hg), h1, .inr ⟨g, 0, rfl⟩⟩
    intro _
    refine ⟨g, 0, rfl, (Array.getElem?_eq_some_iff.1 hh).1, fun k hk => ?_⟩
    have e : cur.toList[k]? = (l.map (Value.int q))[k]? := by
      rw [← ht, List.getElem?_take_of_lt (by omega)]
    simp only [World.cell?]
    rw [hh]
    simp only [Array.getElem?_toList] at e
    simp [e, iG, hk]

def relB (n x : Int) : Bool := paiK x && decide (p1 x = n)
def menB (n x : Int) : Bool := paiK x && (decide (p1 x = n) || decide (p2 x = n))

theorem clo60 (Bx : Nat) (pat x : Int) (w : World) (hx : w.cell? ⟨Bx, 0, none⟩ = some (.int .u64 pat)) (g0 : 0 ≤ pat) (g1 : pat < 18446744073709551616) (h0 : 0 ≤ x) (h1 : x < 18446744073709551616) :
    Calls Try.prog 60 #[.int .u64 x, .pointer (some ⟨Bx, 0, none⟩)] w fun e w' => e = .returned (.bool (takesB pat x)) ∧ Below w.heap.size w w' := by
  have CT := takes_any pat x w g0 g1 h0 h1
  clear g0 g1 h0 h1
  go_enter Try.func60, Try.ntmps60
  go_wp2_with (first | (go_at_call 61; refine Calls.mono CT ?_; rintro e w1 ⟨rfl, hb⟩))
  go_ret
  exact ⟨rfl, hb⟩

theorem clo55 (Bx : Nat) (p : Option Addr) (l : List Int) (c : Nat) (x : Int) (w : World) (hx : w.cell? ⟨Bx, 0, none⟩ = some (.slice p l.length c)) (h : Row w p l c) (hs : SS l) :
    Calls Try.prog 55 #[.int .u64 x, .pointer (some ⟨Bx, 0, none⟩)] w fun e w' => e = .returned (.bool (decide (x ∈ l))) ∧ Below w.heap.size w w' := by
  have CT := has_any p l c x w h hs
  clear h hs
  obtain ⟨v, hv⟩ : ∃ v, v = decide (x ∈ l) := ⟨_, rfl⟩
  rw [← hv] at CT ⊢
  clear hv
  go_enter Try.func55, Try.ntmps55
  go_wp2_with (first | (go_at_call 56; refine Calls.mono CT ?_; rintro e w1 ⟨rfl, hb⟩))
  go_ret
  exact ⟨rfl, hb⟩

theorem clo64 (Bx : Nat) (n x : Int) (w : World) (lx : Bx < w.heap.size) (hx : w.cell? ⟨Bx, 0, none⟩ = some (.int .i64 n)) (h0 : 0 ≤ x) (h1 : x < 18446744073709551616) :
    Calls Try.prog 64 #[.int .u64 x, .pointer (some ⟨Bx, 0, none⟩)] w fun e w' => e = .returned (.bool (relB n x)) ∧ Below w.heap.size w w' := by
  have CP := parts_any x w h0 h1
  have CI := fun (W : World) => isPair_any x W h0 h1
  have E : Hid (relB n x = (paiK x && decide (p1 x = n))) := rfl
  have HC := fun (w1 : World) (hb : Below w.heap.size w w1) => (hb.cell (p := ⟨Bx, 0, none⟩) lx).trans hx
  obtain ⟨a, ha⟩ : ∃ a, a = p1 x := ⟨_, rfl⟩
  rw [← ha] at CP E
  clear h0 h1 ha
  cases hp : paiK x
  · rw [hp] at CI E
    clear hp
    go_enter Try.func64, Try.ntmps64
    go_wp2_with (first | (go_at_call 42; refine Calls.mono CP ?_; rintro e w1 ⟨rfl, hb⟩) | (go_at_call 65; refine Calls.mono (CI _) ?_; rintro e w2 ⟨rfl, hb2⟩; have hB : Below w.heap.size w w2 := hb.trans (hb2.mono hb.size); have hc := HC _ hB; clear HC))
    go_ret
    exact ⟨ret_bool E.out.symm, hB⟩
  · rw [hp] at CI E
    clear hp
    by_cases e : a = n
    · rw [decide_eq_true e] at E
      subst e
      go_enter Try.func64, Try.ntmps64
      go_wp2_with (first | (go_at_call 42; refine Calls.mono CP ?_; rintro e w1 ⟨rfl, hb⟩) | (go_at_call 65; refine Calls.mono (CI _) ?_; rintro e w2 ⟨rfl, hb2⟩; have hB : Below w.heap.size w w2 := hb.trans (hb2.mono hb.size); have hc := HC _ hB; clear HC))
      go_ret
      exact ⟨ret_bool E.out.symm, hB⟩
    · rw [decide_eq_false e] at E
      have e' : (a == n) = false := by simpa using e
      go_enter Try.func64, Try.ntmps64
      go_wp2_with (first | (go_at_call 42; refine Calls.mono CP ?_; rintro e w1 ⟨rfl, hb⟩) | (go_at_call 65; refine Calls.mono (CI _) ?_; rintro e w2 ⟨rfl, hb2⟩; have hB : Below w.heap.size w w2 := hb.trans (hb2.mono hb.size); have hc := HC _ hB; clear HC))
      go_ret
      exact ⟨ret_bool E.out.symm, hB⟩

theorem clo67 (Bx : Nat) (n x : Int) (w : World) (lx : Bx < w.heap.size) (hx : w.cell? ⟨Bx, 0, none⟩ = some (.int .i64 n)) (h0 : 0 ≤ x) (h1 : x < 18446744073709551616) :
    Calls Try.prog 67 #[.int .u64 x, .pointer (some ⟨Bx, 0, none⟩)] w fun e w' => e = .returned (.bool (menB n x)) ∧ Below w.heap.size w w' := by
  have CP := parts_any x w h0 h1
  have CI := fun (W : World) => isPair_any x W h0 h1
  have E : Hid (menB n x = (paiK x && (decide (p1 x = n) || decide (p2 x = n)))) := rfl
  have HC := fun (w1 : World) (hb : Below w.heap.size w w1) => (hb.cell (p := ⟨Bx, 0, none⟩) lx).trans hx
  obtain ⟨a, ha⟩ : ∃ a, a = p1 x := ⟨_, rfl⟩
  obtain ⟨b, hb'⟩ : ∃ b, b = p2 x := ⟨_, rfl⟩
  rw [← ha, ← hb'] at CP E
  clear h0 h1 ha hb'
  cases hp : paiK x
  · rw [hp] at CI E
    clear hp
    go_enter Try.func67, Try.ntmps67
    go_wp2_with (first | (go_at_call 42; refine Calls.mono CP ?_; rintro e w1 ⟨rfl, hb⟩) | (go_at_call 65; refine Calls.mono (CI _) ?_; rintro e w2 ⟨rfl, hb2⟩; have hB : Below w.heap.size w w2 := hb.trans (hb2.mono hb.size); have hc := HC _ hB; clear HC))
    go_ret
    exact ⟨ret_bool E.out.symm, hB⟩
  · rw [hp] at CI E
    clear hp
    by_cases e : a = n
    · rw [decide_eq_true e] at E
      subst e
      go_enter Try.func67, Try.ntmps67
      go_wp2_with (first | (go_at_call 42; refine Calls.mono CP ?_; rintro e w1 ⟨rfl, hb⟩) | (go_at_call 65; refine Calls.mono (CI _) ?_; rintro e w2 ⟨rfl, hb2⟩; have hB : Below w.heap.size w w2 := hb.trans (hb2.mono hb.size); have hc := HC _ hB; clear HC))
      go_ret
      exact ⟨ret_bool E.out.symm, hB⟩
    · rw [decide_eq_false e] at E
      have e' : (a == n) = false := by simpa using e
      by_cases f : b = n
      · rw [decide_eq_true f] at E
        have f' : (b == n) = true := by simpa using f
        go_enter Try.func67, Try.ntmps67
        go_wp2_with (first | (go_at_call 42; refine Calls.mono CP ?_; rintro e w1 ⟨rfl, hb⟩) | (go_at_call 65; refine Calls.mono (CI _) ?_; rintro e w2 ⟨rfl, hb2⟩; have hB : Below w.heap.size w w2 := hb.trans (hb2.mono hb.size); have hc := HC _ hB; clear HC))
        go_ret
        exact ⟨ret_bool E.out.symm, hB⟩
      · rw [decide_eq_false f] at E
        have f' : (b == n) = false := by simpa using f
        go_enter Try.func67, Try.ntmps67
        go_wp2_with (first | (go_at_call 42; refine Calls.mono CP ?_; rintro e w1 ⟨rfl, hb⟩) | (go_at_call 65; refine Calls.mono (CI _) ?_; rintro e w2 ⟨rfl, hb2⟩; have hB : Below w.heap.size w w2 := hb.trans (hb2.mono hb.size); have hc := HC _ hB; clear HC))
        go_ret
        exact ⟨ret_bool E.out.symm, hB⟩

theorem tolL_len (l : List Int) (h : Int → Bool) : (tolL l h).length ≤ l.length := by
  unfold tolL; split
  · exact tolN_len l h l.length
  · simp

/-- A call that hands back a new row of ids. -/
def Gives (l : List Int) (w : World) (e : Ending) (w' : World) : Prop := ∃ p c, e = .returned (.slice p l.length c) ∧ Res w.heap.size w' p l c ∧ Below w.heap.size w w'
/-- A call that hands back a new row of numbers. -/
def GivesI (l : List Int) (w : World) (e : Ending) (w' : World) : Prop := ∃ p c, e = .returned (.slice p l.length c) ∧ IRow .i64 w'.heap.size w' p l ∧ Below w.heap.size w w'

theorem gives_owns {w w0 w' : World} {v : Value} {l : List Int} (hb0 : Below w.heap.size w w0) (h : w'.ownsRow w0.heap.size 33 1 v l.length (l.map (Value.int .u64))) (hl : l.length ≤ 1099511627776) (hb : Below w0.heap.size w0 w') : Gives l w (.returned v) w' := by
  obtain ⟨p, c, rfl, hi, hf, hc, ha⟩ := irow_owns h
  exact ⟨p, c, rfl, ⟨⟨hi, hc, hl, ha⟩, fun a e => Nat.le_trans hb0.size (hf a e)⟩, hb0.trans (hb.mono hb0.size)⟩

/-- The memory that Taken and its likes lay ahead of 'row'. -/
theorem laid3 {w : World} (a b c : Obj) : Below w.heap.size w (((w.alloc a).alloc b).alloc c) := (((Below.refl _ _).alloc (Nat.le_refl _) _).alloc (by simp) _).alloc (by simp; omega) _
theorem cells_laid3 {w : World} (a b c : Value) (s t u : TypeId) :
    (((w.alloc (.cells #[a] s)).alloc (.cells #[b] t)).alloc (.cells #[c] u)).cell? ⟨w.heap.size, 0, none⟩ = some a ∧ (((w.alloc (.cells #[a] s)).alloc (.cells #[b] t)).alloc (.cells #[c] u)).cell? ⟨w.heap.size + 1, 0, none⟩ = some b ∧ (((w.alloc (.cells #[a] s)).alloc (.cells #[b] t)).alloc (.cells #[c] u)).cell? ⟨w.heap.size + 2, 0, none⟩ = some c := by
  refine ⟨?_, ?_, ?_⟩
  · rw [World.cell?_alloc_past _ _ _ (by simp; omega), World.cell?_alloc_past _ _ _ (by simp), World.cell?_alloc_at _ _ _ _ rfl]; rfl
  · rw [World.cell?_alloc_past _ _ _ (by simp), World.cell?_alloc_at _ _ _ _ (by simp)]; rfl
  · rw [World.cell?_alloc_at _ _ _ _ (by simp)]; rfl

set_option maxHeartbeats 1000000 in
theorem taken_any (p : Option Addr) (l : List Int) (c : Nat) (pat : Int) (w : World) (h : Row w p l c) (hU : U64 l) (g0 : 0 ≤ pat) (g1 : pat < 18446744073709551616) :
    Calls Try.prog 26 #[.slice p l.length c, .int .u64 pat] w fun e w' => Gives (tolL l (takesB pat)) w e w' := by
  obtain ⟨w3, hw3⟩ : ∃ w3, w3 = (((w.alloc (.cells #[.int .u64 pat] 33)).alloc (.cells #[.slice p l.length c] 22)).alloc (.cells #[.func (.func 60) #[] #[.pointer (some ⟨w.heap.size, 0, none⟩)]] 34)) := ⟨_, rfl⟩
  have hb3 : Below w.heap.size w w3 := by rw [hw3]; exact laid3 _ _ _
  have s3 : w3.heap.size = w.heap.size + 3 := by rw [hw3]; simp
  obtain ⟨d0, d1, d2⟩ : w3.cell? ⟨w.heap.size, 0, none⟩ = _ ∧ w3.cell? ⟨w.heap.size + 1, 0, none⟩ = _ ∧ w3.cell? ⟨w.heap.size + 2, 0, none⟩ = _ := by rw [hw3]; exact cells_laid3 _ _ _ _ _ _
  have CT := fun (W : World) => told_in p l.length c 60 w.heap.size W
  have CR := row53_60 (w.heap.size + 1) (w.heap.size + 2) w.heap.size p l c (takesB pat) h.n hU w3 d1 (by omega) d2 (by omega) (h.to hb3).i
    (fun x wr h0 h1 hb => clo60 w.heap.size pat x wr ((hb.cell (p := ⟨w.heap.size, 0, none⟩) (by simp; omega)).trans d0) g0 g1 h0 h1)
  have HL : Hid ((tolL l (takesB pat)).length ≤ 1099511627776) := Nat.le_trans (tolL_len _ _) h.n
  rw [hw3] at CR
  have HB := hidOg hb3
  have HW := hidOg hw3
  clear h hU g0 g1 hb3 s3 hw3 d0 d1 d2
  go_enter Try.func26, Try.ntmps26
  go_wp2_with (first | (go_at_call 54; refine Calls.mono (CT _) ?_; rintro e w1 ⟨rfl, rfl⟩) | (go_at_call 53; refine Calls.mono CR ?_; rintro e w2 ⟨v, rfl, ho, hb2⟩; rw [← HW.out] at ho hb2))
  go_ret
  exact gives_owns HB.out ho HL.out hb2

set_option maxHeartbeats 1000000 in
theorem mentions_any (p : Option Addr) (l : List Int) (c : Nat) (n : Int) (w : World) (h : Row w p l c) (hU : U64 l) :
    Calls Try.prog 31 #[.slice p l.length c, .int .i64 n] w fun e w' => Gives (tolL l (menB n)) w e w' := by
  obtain ⟨w3, hw3⟩ : ∃ w3, w3 = (((w.alloc (.cells #[.int .i64 n] 3)).alloc (.cells #[.slice p l.length c] 22)).alloc (.cells #[.func (.func 67) #[] #[.pointer (some ⟨w.heap.size, 0, none⟩)]] 34)) := ⟨_, rfl⟩
  have hb3 : Below w.heap.size w w3 := by rw [hw3]; exact laid3 _ _ _
  have s3 : w3.heap.size = w.heap.size + 3 := by rw [hw3]; simp
  obtain ⟨d0, d1, d2⟩ : w3.cell? ⟨w.heap.size, 0, none⟩ = _ ∧ w3.cell? ⟨w.heap.size + 1, 0, none⟩ = _ ∧ w3.cell? ⟨w.heap.size + 2, 0, none⟩ = _ := by rw [hw3]; exact cells_laid3 _ _ _ _ _ _
  have CT := fun (W : World) => told_in p l.length c 67 w.heap.size W
  have CR := row53_67 (w.heap.size + 1) (w.heap.size + 2) w.heap.size p l c (menB n) h.n hU w3 d1 (by omega) d2 (by omega) (h.to hb3).i
    (fun x wr h0 h1 hb => clo67 w.heap.size n x wr (by have := hb.size; omega) ((hb.cell (p := ⟨w.heap.size, 0, none⟩) (by simp; omega)).trans d0) h0 h1)
  have HL : Hid ((tolL l (menB n)).length ≤ 1099511627776) := Nat.le_trans (tolL_len _ _) h.n
  rw [hw3] at CR
  have HB := hidOg hb3
  have HW := hidOg hw3
  clear h hU hb3 s3 hw3 d0 d1 d2
  go_enter Try.func31, Try.ntmps31
  go_wp2_with (first | (go_at_call 54; refine Calls.mono (CT _) ?_; rintro e w1 ⟨rfl, rfl⟩) | (go_at_call 53; refine Calls.mono CR ?_; rintro e w2 ⟨v, rfl, ho, hb2⟩; rw [← HW.out] at ho hb2))
  go_ret
  exact gives_owns HB.out ho HL.out hb2

/-- The targets of a relation. -/
def tarL (l : List Int) (n : Int) : List Int := (tolL l (relB n)).map p2

set_option maxHeartbeats 1000000 in
theorem targets_any (p : Option Addr) (l : List Int) (c : Nat) (n : Int) (w : World) (h : Row w p l c) (hU : U64 l) :
    Calls Try.prog 30 #[.slice p l.length c, .int .i64 n] w fun e w' => GivesI (tarL l n) w e w' := by
  obtain ⟨w3, hw3⟩ : ∃ w3, w3 = (((w.alloc (.cells #[.int .i64 n] 3)).alloc (.cells #[.slice p l.length c] 22)).alloc (.cells #[.func (.func 64) #[] #[.pointer (some ⟨w.heap.size, 0, none⟩)]] 34)) := ⟨_, rfl⟩
  have hb3 : Below w.heap.size w w3 := by rw [hw3]; exact laid3 _ _ _
  have s3 : w3.heap.size = w.heap.size + 3 := by rw [hw3]; simp
  obtain ⟨d0, d1, d2⟩ : w3.cell? ⟨w.heap.size, 0, none⟩ = _ ∧ w3.cell? ⟨w.heap.size + 1, 0, none⟩ = _ ∧ w3.cell? ⟨w.heap.size + 2, 0, none⟩ = _ := by rw [hw3]; exact cells_laid3 _ _ _ _ _ _
  have CT := fun (W : World) => told_in p l.length c 64 w.heap.size W
  have CR := row63 (w.heap.size + 1) (w.heap.size + 2) w.heap.size p l c (relB n) h.n hU w3 d1 (by omega) d2 (by omega) (h.to hb3).i
    (fun x wr h0 h1 hb => clo64 w.heap.size n x wr (by have := hb.size; omega) ((hb.cell (p := ⟨w.heap.size, 0, none⟩) (by simp; omega)).trans d0) h0 h1)
  have e1 : (tolL l (relB n)).length = (tarL l n).length := by unfold tarL; simp
  have e2 : ((tolL l (relB n)).map fun x => Value.int .i64 (p2 x)) = (tarL l n).map (Value.int .i64) := by unfold tarL; rw [List.map_map]; rfl
  rw [hw3, e1, e2] at CR
  have HB := hidOg hb3
  have HW := hidOg hw3
  clear h hU hb3 s3 hw3 e1 e2 d0 d1 d2
  go_enter Try.func30, Try.ntmps30
  go_wp2_with (first | (go_at_call 54; refine Calls.mono (CT _) ?_; rintro e w1 ⟨rfl, rfl⟩) | (go_at_call 63; refine Calls.mono CR ?_; rintro e w2 ⟨v, rfl, ho, hb2⟩; rw [← HW.out] at ho hb2))
  go_ret
  obtain ⟨p', c', rfl, hi, _⟩ := irow_owns ho
  exact ⟨p', c', rfl, hi, HB.out.trans (hb2.mono HB.out.size)⟩

/-- What Meet answers. -/
def metOk (a b : List Int) : Bool := mayT a && mayT b
def metL (a b : List Int) : List Int := if metOk a b then tolL a (fun x => decide (x ∈ b)) else []
def metE (a b : List Int) : Int := if metOk a b then 0 else 130
def MeetOut (a b : List Int) (w : World) (e : Ending) (w' : World) : Prop := ∃ p c, e = .returned (.tuple #[.slice p (metL a b).length c, .int .i64 (metE a b)]) ∧ Res w.heap.size w' p (metL a b) c ∧ Below w.heap.size w w'

set_option maxHeartbeats 1000000 in
theorem meet_any (p : Option Addr) (a : List Int) (c : Nat) (q : Option Addr) (b : List Int) (d : Nat) (w : World) (h : Row w p a c) (hU : U64 a) (g : Row w q b d) (gU : U64 b) :
    Calls Try.prog 19 #[.slice p a.length c, .slice q b.length d] w fun e w' => MeetOut a b w e w' := by
  obtain ⟨w0, hw0⟩ : ∃ w0, w0 = w.alloc (.cells #[.slice q b.length d] 22) := ⟨_, rfl⟩
  have hb0 : Below w.heap.size w w0 := by rw [hw0]; exact (Below.refl _ _).alloc (Nat.le_refl _) _
  have s0 : w0.heap.size = w.heap.size + 1 := by rw [hw0]; simp
  have c0 : w0.cell? ⟨w.heap.size, 0, none⟩ = some (.slice q b.length d) := by rw [hw0]; simp
  have CM := mayBe_any p a c w0 (h.to hb0).i hU (by have := h.n; omega)
  have HB := hidOg hb0
  unfold MeetOut
  cases hm : mayT a
  · have e0 : metOk a b = false := by unfold metOk; rw [hm]; rfl
    have e1 : metL a b = [] := by unfold metL; rw [e0]; rfl
    have e2 : metE a b = 130 := by unfold metE; rw [e0]; rfl
    rw [hm, hw0] at CM
    rw [e1, e2]
    rw [hw0] at HB
    clear hm h hU g gU e0 e1 e2 c0 s0 hw0 hb0
    go_enter Try.func19, Try.ntmps19
    go_wp2_with (first | (go_at_call 47; refine Calls.mono CM ?_; rintro e w1 ⟨rfl, hb1⟩))
    go_ret2
    exact ⟨none, 0, rfl, Res.nil _ _, HB.out.trans (hb1.mono HB.out.size)⟩
  · have CN := fun (w1 : World) (hb : Below w0.heap.size w0 w1) => mayBe_any q b d w1 ((g.to hb0).to hb).i gU (by have := g.n; omega)
    have HC := fun (w1 : World) (hb : Below w0.heap.size w0 w1) => (hb.cell (p := ⟨w.heap.size, 0, none⟩) (by simp; omega)).trans c0
    cases hn : mayT b
    · have e0 : metOk a b = false := by unfold metOk; rw [hn]; simp
      have e1 : metL a b = [] := by unfold metL; rw [e0]; rfl
      have e2 : metE a b = 130 := by unfold metE; rw [e0]; rfl
      rw [hm, hw0] at CM
      rw [hn, hw0] at CN
      rw [hw0] at HC HB
      rw [e1, e2]
      clear hm hn h hU g gU e0 e1 e2 c0 s0 hw0 hb0
      go_enter Try.func19, Try.ntmps19
      go_wp2_with (first | (go_at_call 47; refine Calls.mono CM ?_; clear CM; rintro e w1 ⟨rfl, hb1⟩; have hc1 := HC _ hb1; have CN' := CN w1 hb1; clear CN HC) | (go_at_call 47; refine Calls.mono CN' ?_; rintro e w2 ⟨rfl, hb2⟩))
      go_ret2
      exact ⟨none, 0, rfl, Res.nil _ _, (HB.out.trans (hb1.mono HB.out.size)).trans (hb2.mono (HB.out.trans (hb1.mono HB.out.size)).size)⟩
    · have e0 : metOk a b = true := by unfold metOk; rw [hm, hn]; rfl
      have e1 : metL a b = tolL a (fun x => decide (x ∈ b)) := by unfold metL; rw [e0]; rfl
      have e2 : metE a b = 0 := by unfold metE; rw [e0]; rfl
      have hs := ((mayT_iff b).1 hn).2.2
      have CT := fun (W : World) => told_in p a.length c 55 w.heap.size W
      have CR : ∀ (w2 : World), Below w0.heap.size w0 w2 → Calls Try.prog 53 #[.func (.func 87) #[] #[.pointer (some ⟨w2.heap.size, 0, none⟩), .pointer (some ⟨w2.heap.size + 1, 0, none⟩)], .func (.func 57) #[] #[]] ((w2.alloc (.cells #[.slice p a.length c] 22)).alloc (.cells #[.func (.func 55) #[] #[.pointer (some ⟨w.heap.size, 0, none⟩)]] 34)) fun e w' => Gives (tolL a (fun x => decide (x ∈ b))) w e w' := by
        intro w2 hb2
        obtain ⟨w4, hw4⟩ : ∃ w4, w4 = (w2.alloc (.cells #[.slice p a.length c] 22)).alloc (.cells #[.func (.func 55) #[] #[.pointer (some ⟨w.heap.size, 0, none⟩)]] 34) := ⟨_, rfl⟩
        have s2 := hb2.size
        have hb4 : Below w0.heap.size w0 w4 := by rw [hw4]; exact (hb2.alloc hb2.size _).alloc (by simp; omega) _
        have hb5 : Below w.heap.size w w4 := hb0.trans (hb4.mono hb0.size)
        have s4 : w4.heap.size = w2.heap.size + 2 := by rw [hw4]; simp
        rw [← hw4]
        refine Calls.mono (row53_55 w2.heap.size (w2.heap.size + 1) w.heap.size p a c (fun x => decide (x ∈ b)) h.n hU w4 (by rw [hw4]; simp) (by omega) (by rw [hw4]; simp) (by omega) (h.to hb5).i
          (fun x wr h0 h1 hb => clo55 w.heap.size q b d x wr ((hb.cell (p := ⟨w.heap.size, 0, none⟩) (by simp; omega)).trans ((hb4.cell (p := ⟨w.heap.size, 0, none⟩) (by simp; omega)).trans c0)) ((g.to hb5).to hb) hs)) ?_
        rintro e w' ⟨v, rfl, ho, hb⟩
        exact gives_owns hb5 ho (Nat.le_trans (tolL_len _ _) h.n) hb
      rw [hm, hw0] at CM
      rw [hn, hw0] at CN
      rw [hw0] at HC CR
      rw [e1, e2]
      clear hm hn h hU g gU e0 e1 e2 c0 s0 hw0 hb0 hs HB
      obtain ⟨m, hm⟩ : ∃ m, m = tolL a (fun x => decide (x ∈ b)) := ⟨_, rfl⟩
      rw [← hm] at CR ⊢
      clear hm
      go_enter Try.func19, Try.ntmps19
      go_wp2_with (first | (go_at_call 47; refine Calls.mono CM ?_; clear CM; rintro e w1 ⟨rfl, hb1⟩; have hc1 := HC _ hb1; have CN' := CN w1 hb1; clear CN HC) | (go_at_call 47; refine Calls.mono CN' ?_; clear CN'; rintro e w2 ⟨rfl, hb2⟩; have CR' := CR w2 (hb1.trans (hb2.mono hb1.size)); clear CR) | (go_at_call 54; refine Calls.mono (CT _) ?_; rintro e w3 ⟨rfl, rfl⟩) | (go_at_call 53; refine Calls.mono CR' ?_; rintro e w4 ⟨p', c', rfl, hres, hb4⟩))
      go_ret2
      exact ⟨p', c', rfl, hres, hb4⟩
end Go.Proofs.Ytooaghcjlomcpaa
