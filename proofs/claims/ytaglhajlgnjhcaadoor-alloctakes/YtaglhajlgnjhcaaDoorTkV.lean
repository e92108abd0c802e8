/- AllocTakes: what Take and Give answer, and the document's, each in one form. -/
import Derived.Test.YtaglhajlgnjhcaaDoorTkOj
import Derived.Test.YtaglhajlgnjhcaaDoorSeBj
import Derived.Test.YtaglhajlgnjhcaaDoorOwB
import Derived.Test.YtaglhajlgnjhcaaDoorPlC
import Derived.Test.YtaglhajlgnjhcaaDoorLaC
import Derived.Test.YtaglhajlgnjhcaaDoorReU
import Derived.Test.YtaglhajlgnjhcaaDoorReV
namespace Go.Proofs.YtaglhajlgnjhcaaDoor
open Go.RowKit

/-- Nothing has changed but blocks from N1 to N2. -/
structure Hole (N1 N2 : Nat) (w w' : World) : Prop where
  os : w'.os = w.os
  tape : w'.tape = w.tape
  output : w'.output = w.output
  size : w.heap.size ≤ w'.heap.size
  block : ∀ k, k < w.heap.size → (k < N1 ∨ N2 ≤ k) → w'.heap[k]? = w.heap[k]?
theorem Hole.of {N1 N2 : Nat} {w w' : World} (hb : Below w.heap.size w w') : Hole N1 N2 w w' := ⟨hb.os, hb.tape, hb.output, hb.size, fun k hk _ => hb.block k hk⟩
theorem Hole.but {N1 N2 G H : Nat} {w w' : World} (hb : But G H w w') (g1 : N1 ≤ G) (g2 : G < N2) (h1 : N1 ≤ H) (h2 : H < N2) : Hole N1 N2 w w' := ⟨hb.os, hb.tape, hb.output, hb.size, fun k hk h => hb.block k hk (by omega) (by omega)⟩
theorem Hole.below {N1 N2 : Nat} {w w' : World} (h : Hole N1 N2 w w') (hN : N1 ≤ w.heap.size) : Below N1 w w' := ⟨h.os, h.tape, h.output, h.size, fun k hk => h.block k (by omega) (.inl hk)⟩

/-- v is an allocator (m, l, f) that was made behind w. -/
def Rv (w W : World) (v : Value) (m : Int) (l : List (Int × Bool)) (f : List Int) : Prop :=
  ∃ p c q d, v = .agg #[.int .i64 m, .slice p l.length c, .slice q f.length d] ∧ AIx W p l c q f d ∧ FreshP w.heap.size p ∧ FreshP w.heap.size q
def zeroV : Value := .agg #[.int .i64 0, .slice none 0 0, .slice none 0 0]
theorem rv_zero {w W : World} (hF : Fr W) : Rv w W (.agg #[.int .i64 0, .slice none 0 0, .slice none 0 0]) 0 [] [] :=
  ⟨none, 0, none, 0, rfl, ⟨⟨hF, (fun h => by simp at h), IRow.nil, by simp, by simp⟩, .inl rfl, .inl rfl, by simp, by simp⟩, (fun a h => by cases h), (fun a h => by cases h)⟩
theorem rv_aown {w W : World} {G H n k : Nat} {m : Int} {l : List (Int × Bool)} {f : List Int} (h : AOwn w W G l H f) (hF : Fr w) (hn : n = l.length) (hk : k = f.length) (h1 : l.length ≤ 100) (h2 : f.length ≤ 100) : Rv w W (.agg #[.int .i64 m, .slice (some ⟨G, 0, none⟩) n n, .slice (some ⟨H, 0, none⟩) k k]) m l f := by
  subst hn; subst hk
  exact ⟨_, _, _, _, rfl, ⟨h.in hF (by omega) (by omega), .inr ⟨G, 0, rfl⟩, .inr ⟨H, 0, rfl⟩, Nat.le_refl _, Nat.le_refl _⟩, (fun a e => by cases e; exact h.lg), (fun a e => by cases e; exact h.lh)⟩
theorem irow_ownF {w : World} {base : Nat} {v : Value} {l : List Int} (h : w.ownsRow base 3 1 v l.length (cellsI .i64 l)) : ∃ p c, v = .slice p l.length c ∧ l.length ≤ c ∧ (AdOk p ∧ FreshP base p) ∧ IRow .i64 w.heap.size w p l := by
  rcases h.2 with ⟨rfl, h0⟩ | ⟨g, cap, cur, rfl, hbase, hb, hc, _⟩
  · exact ⟨none, 0, by rw [h0], by omega, ⟨.inl rfl, fun a ha => by cases ha⟩, fun hp => by omega⟩
  · refine ⟨_, _, rfl, hc, ⟨.inr ⟨g, 0, rfl⟩, fun a ha => by cases ha; exact hbase⟩, fun _ => ⟨g, 0, rfl, (Array.getElem?_eq_some_iff.1 hb).1, fun k hk => ?_⟩⟩
    rw [Nat.zero_add, h.cellAt k (by omega)]
    simp [cellsI, iG, hk]
theorem rv_own {w W : World} {m : Int} {v v' : Value} {l : List (Int × Bool)} {f : List Int} (hF : Fr W) (h1 : W.ownsRow (w.heap.size + 2) 61 2 v l.length (cellsS l)) (h2 : W.ownsRow (w.heap.size + 2) 3 1 v' f.length (cellsI .i64 f)) (l1 : l.length ≤ 100) (l2 : f.length ≤ 100) : Rv w W (.agg #[.int .i64 m, v, v']) m l f := by
  obtain ⟨p, c, rfl, hc, ⟨a1, a2⟩, hs⟩ := srow_own h1
  obtain ⟨q, d, rfl, hd, ⟨b1, b2⟩, hi⟩ := irow_ownF h2
  exact ⟨_, _, _, _, rfl, ⟨⟨hF, hs, hi, by omega, by omega⟩, a1, b1, hc, hd⟩, (fun a e => by have := a2 a e; omega), (fun a e => by have := b2 a e; omega)⟩
/-- The value may be written over: nothing else changes. -/
def SpO (w W : World) (v : Value) : Prop := ∀ W', (∀ k, w.heap.size ≤ k → k < W.heap.size → W'.heap[k]? = W.heap[k]?) → Calls Tryd.prog 27 #[v] W' fun e w' => e = .returned (.tuple #[]) ∧ Hole w.heap.size W.heap.size W' w'
theorem spo_zero (w W : World) : SpO w W (.agg #[.int .i64 0, .slice none 0 0, .slice none 0 0]) := fun W' _ => by
  refine (spoil_nil 0 W').mono ?_
  rintro e w' ⟨rfl, hb⟩
  exact ⟨rfl, Hole.of hb⟩
theorem spo_aown {w W : World} {G H n k : Nat} {m : Int} {l : List (Int × Bool)} {f : List Int} (h : AOwn w W G l H f) (hn : n = l.length) (hk : k = f.length) (h1 : l.length ≤ 100) (h2 : f.length ≤ 100) : SpO w W (.agg #[.int .i64 m, .slice (some ⟨G, 0, none⟩) n n, .slice (some ⟨H, 0, none⟩) k k]) := fun W' hb => by
  obtain ⟨r, hh⟩ := h.h
  have gG := (Array.getElem?_eq_some_iff.1 h.g).1
  have gH := (Array.getElem?_eq_some_iff.1 hh).1
  have h' : AOwn { W' with heap := #[] } W' G l H f := ⟨(hb G h.lg gG).trans h.g, ⟨r, (hb H h.lh gH).trans hh⟩, by simp, by simp, ⟨rfl, rfl, rfl, by simp, fun k hk => by simp at hk⟩⟩
  refine (spoil_own h' m n k n k hn hk (by omega) (by omega)).mono ?_
  rintro e w' ⟨rfl, hB⟩
  exact ⟨rfl, Hole.but hB h.lg gG h.lh gH⟩

structure TR where
  m : Int
  l : List (Int × Bool)
  f : List Int
  id : Int
  e : Int
/-- What is taken. -/
def takeR (m : Int) (l : List (Int × Bool)) (f : List Int) : TR :=
  if mayB m l f then
    if cntM l = m + 2 then ⟨0, [], [], 0, 6⟩
    else if f.length = 0 then (if (l.length : Int) < m + 2 then ⟨m, l ++ [(0, true)], f, entV ((l.length : Int) + 1) 0, 0⟩ else ⟨0, [], [], 0, 121⟩)
    else ⟨m, l.set (iG f (f.length - 1) - 1).toNat (sG l (iG f (f.length - 1) - 1).toNat + 1, true), f.take (f.length - 1), entV (((iG f (f.length - 1) - 1).toNat : Int) + 1) (sG l (iG f (f.length - 1) - 1).toNat + 1), 0⟩
  else ⟨0, [], [], 0, 120⟩
def Took (w : World) (R : TR) (e : Ending) (w' : World) : Prop := ∃ v, e = .returned (.tuple #[v, .int .u64 R.id, .int .i64 R.e]) ∧ Rv w w' v R.m R.l R.f ∧ Below w.heap.size w w'
theorem fr_of {w w' : World} (h : Fr w) (hb : Below w.heap.size w w') : Fr w' := h.below hb h.lt
theorem take25 (m : Int) (c d : Nat) (w : World) (p : Option Addr) (l : List (Int × Bool)) (q : Option Addr) (f : List Int) (h : AIn w p l q f) (l1 : l.length ≤ 40) (l2 : f.length ≤ 40) :
    Calls Tryd.prog 25 #[.agg #[.int .i64 m, .slice p l.length c, .slice q f.length d]] w fun e w' => ∃ v, e = .returned (.tuple #[v, .int .u64 (takeR m l f).id, .int .i64 (takeR m l f).e]) ∧ Rv w w' v (takeR m l f).m (takeR m l f).l (takeR m l f).f ∧ Below w.heap.size w w' ∧ SpO w w' v := by
  cases hm : mayB m l f
  · have e : takeR m l f = ⟨0, [], [], 0, 120⟩ := by simp [takeR, hm]
    rw [e]
    refine (take_bad m c d w p l q f h hm).mono ?_
    rintro e w' ⟨rfl, hb⟩
    exact ⟨_, rfl, rv_zero (fr_of h.fr hb), hb, spo_zero _ _⟩
  · by_cases hc : cntM l = m + 2
    · have e : takeR m l f = ⟨0, [], [], 0, 6⟩ := by simp [takeR, hm, hc]
      rw [e]
      refine (take_full m c d w p l q f h hm hc).mono ?_
      rintro e w' ⟨rfl, hb⟩
      exact ⟨_, rfl, rv_zero (fr_of h.fr hb), hb, spo_zero _ _⟩
    · by_cases hf : f.length = 0
      · by_cases hl : (l.length : Int) < m + 2
        · have e : takeR m l f = ⟨m, l ++ [(0, true)], f, entV ((l.length : Int) + 1) 0, 0⟩ := by unfold takeR; rw [if_pos hm, if_neg hc, if_pos hf, if_pos hl]
          rw [e]
          refine (take_further m c d w p l q f h hm hc hf hl).mono ?_
          rintro e w' ⟨G, H, rfl, ho⟩
          exact ⟨_, rfl, rv_aown ho h.fr (by simp) rfl (by simp; omega) (show f.length ≤ 100 by omega), ho.b, spo_aown ho (by simp) rfl (by simp; omega) (show f.length ≤ 100 by omega)⟩
        · have e : takeR m l f = ⟨0, [], [], 0, 121⟩ := by unfold takeR; rw [if_pos hm, if_neg hc, if_pos hf, if_neg hl]
          rw [e]
          refine (take_worn m c d w p l q f h hm hc hf hl).mono ?_
          rintro e w' ⟨rfl, hb⟩
          exact ⟨_, rfl, rv_zero (fr_of h.fr hb), hb, spo_zero _ _⟩
      · obtain ⟨k, hk⟩ : ∃ k, f.length = k + 1 := ⟨f.length - 1, by omega⟩
        obtain ⟨j, hij, hj, hu⟩ := mayB_free hm k (by omega)
        have e : takeR m l f = ⟨m, l.set j (sG l j + 1, true), f.take k, entV ((j : Int) + 1) (sG l j + 1), 0⟩ := by
          unfold takeR; rw [if_pos hm, if_neg hc, if_neg hf]
          have e1 : f.length - 1 = k := by omega
          have e2 : (iG f k - 1).toNat = j := by omega
          rw [e1, e2]
        rw [e]
        refine (take_again m c d w p l q f h hm hc k j hk hij hj).mono ?_
        rintro e w' ⟨G, H, rfl, ho⟩
        exact ⟨_, rfl, rv_aown ho h.fr (by simp) (by simp; omega) (by simp; omega) (by simp; omega), ho.b, spo_aown ho (by simp) (by simp; omega) (by simp; omega) (by simp; omega)⟩
theorem refTake26 (m : Int) (c d : Nat) (w : World) (p : Option Addr) (l : List (Int × Bool)) (q : Option Addr) (f : List Int) (h : AIx w p l c q f d) (l1 : l.length ≤ 40) (l2 : f.length ≤ 40) (hm : mayB m l f = true) :
    Calls Tryd.prog 26 #[.agg #[.int .i64 m, .slice p l.length c, .slice q f.length d]] w fun e w' => Took w (takeR m l f) e w' := by
  by_cases hc : cntM l = m + 2
  · have e : takeR m l f = ⟨0, [], [], 0, 6⟩ := by simp [takeR, hm, hc]
    rw [e]
    refine (refTake_full m c d w p l q f h.i hm hc).mono ?_
    rintro e w' ⟨rfl, hb⟩
    exact ⟨_, rfl, rv_zero (fr_of h.i.fr hb), hb⟩
  · by_cases hf : f.length = 0
    · by_cases hl : (l.length : Int) < m + 2
      · have e : takeR m l f = ⟨m, l ++ [(0, true)], f, entV ((l.length : Int) + 1) 0, 0⟩ := by unfold takeR; rw [if_pos hm, if_neg hc, if_pos hf, if_pos hl]
        rw [e]
        refine (refTake_further m c d w p l q f h.i hm hf hl).mono ?_
        rintro e w' ⟨v, rfl, ho, hb⟩
        have hm' := mayB_further hm hf hl
        have he := (mayB_ent hm' (j := l.length) (by simp)).1
        have eg : sG (l ++ [(0, true)]) l.length = 0 := by simp [sG]
        rw [eg] at he
        obtain rfl : f = [] := List.eq_nil_of_length_eq_zero hf
        refine ⟨_, ?_, rv_own (fr_of h.i.fr hb) ho (World.ownsRow_nil _ _ _ _) (by simp; omega) (by simp), hb⟩
        rw [he]; simp
      · have e : takeR m l f = ⟨0, [], [], 0, 121⟩ := by unfold takeR; rw [if_pos hm, if_neg hc, if_pos hf, if_neg hl]
        rw [e]
        refine (refTake_worn m c d w p l q f h.i hm hc hf hl).mono ?_
        rintro e w' ⟨rfl, hb⟩
        exact ⟨_, rfl, rv_zero (fr_of h.i.fr hb), hb⟩
    · obtain ⟨k, hk⟩ : ∃ k, f.length = k + 1 := ⟨f.length - 1, by omega⟩
      obtain ⟨j, hij, hj, hu⟩ := mayB_free hm k (by omega)
      have e : takeR m l f = ⟨m, l.set j (sG l j + 1, true), f.take k, entV ((j : Int) + 1) (sG l j + 1), 0⟩ := by
        unfold takeR; rw [if_pos hm, if_neg hc, if_neg hf]
        have e1 : f.length - 1 = k := by omega
        have e2 : (iG f k - 1).toNat = j := by omega
        rw [e1, e2]
      rw [e]
      refine (refTake_again m c d w p l q f h.i hm hc k j hk (by have := h.hd; omega) hij hj).mono ?_
      rintro e w' ⟨v, v', rfl, ho, ho', hb⟩
      have hm' := mayB_again hm hk hij hj hu
      have he := (mayB_ent hm' (j := j) (by simpa using hj)).1
      rw [(sG_set l j j (sG l j + 1, true) hj).1] at he
      simp only [if_true] at he
      have eL : (l.set j (sG l j + 1, true)).length = l.length := by simp
      have eF : (f.take k).length = k := by simp; omega
      refine ⟨_, ?_, rv_own (fr_of h.i.fr hb) (by rw [eL]; exact ho) (by rw [eF]; exact ho') (by rw [eL]; omega) (by rw [eF]; omega), hb⟩
      rw [he, Int.add_comm]
structure GR' where
  m : Int
  l : List (Int × Bool)
  f : List Int
  e : Int
/-- What is left behind Give. -/
def giveR (m : Int) (l : List (Int × Bool)) (f ids : List Int) : GR' :=
  if mayB m l f then
    if allLive l ids then (match gRun l ids ids.length with | none => ⟨0, [], [], 2⟩ | some s => ⟨m, s.1, f ++ srt s.2, 0⟩)
    else ⟨0, [], [], 122⟩
  else ⟨0, [], [], 120⟩
theorem srt_lenG {l : List (Int × Bool)} {ids : List Int} {m : Int} {f : List Int} {s : List (Int × Bool) × List Int} (hm : mayB m l f = true) (ha : allLive l ids = true) (hr : gRun l ids ids.length = some s) : (srt s.2).length ≤ l.length := by
  have := docF_give (l' := s.1) (left := s.2) hm ha hr
  rw [this]; exact docF_le l ids l.length
theorem give29 (m : Int) (c d : Nat) (qi : Option Addr) (ids : List Int) (ci : Nat) (w : World) (p : Option Addr) (l : List (Int × Bool)) (q : Option Addr) (f : List Int) (h : AIn w p l q f) (hI : IRow .u64 w.heap.size w qi ids) (hid : idsOk ids) (hn : ids.length ≤ 8) (l1 : l.length ≤ 40) (l2 : f.length ≤ 40) :
    Calls Tryd.prog 29 #[.agg #[.int .i64 m, .slice p l.length c, .slice q f.length d], .slice qi ids.length ci] w fun e w' => ∃ v, e = .returned (.tuple #[v, .int .i64 (giveR m l f ids).e]) ∧ Rv w w' v (giveR m l f ids).m (giveR m l f ids).l (giveR m l f ids).f ∧ Below w.heap.size w w' ∧ SpO w w' v := by
  cases hm : mayB m l f
  · have e : giveR m l f ids = ⟨0, [], [], 120⟩ := by simp [giveR, hm]
    rw [e]
    refine (give_bad m c d qi ids ci w p l q f h hm).mono ?_
    rintro e w' ⟨rfl, hb⟩
    exact ⟨_, rfl, rv_zero (fr_of h.fr hb), hb, spo_zero _ _⟩
  · cases ha : allLive l ids
    · have e : giveR m l f ids = ⟨0, [], [], 122⟩ := by simp [giveR, hm, ha]
      rw [e]
      refine (give_dead m c d qi ids ci w p l q f h hI hid (by omega) hm ha).mono ?_
      rintro e w' ⟨rfl, hb⟩
      exact ⟨_, rfl, rv_zero (fr_of h.fr hb), hb, spo_zero _ _⟩
    · have G := give_run m c d qi ids ci w p l q f h hI hid (by omega) hm ha
      cases hr : gRun l ids ids.length with
      | none =>
        have e : giveR m l f ids = ⟨0, [], [], 2⟩ := by simp [giveR, hm, ha, hr]
        rw [e]
        rw [hr] at G
        refine G.mono ?_
        rintro e w' ⟨rfl, hb⟩
        exact ⟨_, rfl, rv_zero (fr_of h.fr hb), hb, spo_zero _ _⟩
      | some s =>
        have e : giveR m l f ids = ⟨m, s.1, f ++ srt s.2, 0⟩ := by simp [giveR, hm, ha, hr]
        rw [e]
        rw [hr] at G
        refine G.mono ?_
        rintro e w' ⟨G, H, rfl, ho⟩
        have I := ginv_run (l' := s.1) (left := s.2) ha (Nat.le_refl _) hr
        have hs := srt_lenG hm ha hr
        have hl := I.len
        exact ⟨_, rfl, rv_aown ho h.fr hl.symm rfl (show s.1.length ≤ 100 by omega) (by simp; omega), ho.b, spo_aown ho hl.symm rfl (show s.1.length ≤ 100 by omega) (by simp; omega)⟩
theorem refGive30 (m : Int) (c d : Nat) (qi : Option Addr) (ids : List Int) (ci : Nat) (w : World) (p : Option Addr) (l : List (Int × Bool)) (q : Option Addr) (f : List Int) (h : AIx w p l c q f d) (hI : IRow .u64 w.heap.size w qi ids) (hci : ids.length ≤ ci) (hn : ids.length ≤ 8) (l1 : l.length ≤ 40) (l2 : f.length ≤ 40) (hm : mayB m l f = true) :
    Calls Tryd.prog 30 #[.agg #[.int .i64 m, .slice p l.length c, .slice q f.length d], .slice qi ids.length ci] w fun e w' => ∃ v, e = .returned (.tuple #[v, .int .i64 (giveR m l f ids).e]) ∧ Rv w w' v (giveR m l f ids).m (giveR m l f ids).l (giveR m l f ids).f ∧ Below w.heap.size w w' := by
  have hg := fun k hk => mayB_slot hm k hk
  have CI : ∀ (x : Int) (W : World), AIn W p l q f → Calls Tryd.prog 23 #[.agg #[.int .i64 m, .slice p l.length c, .slice q f.length d], .int .u64 x] W fun e w' => e = .returned (.bool (isB l x)) ∧ Below W.heap.size W w' := fun x W h => is23 m p l c q f.length d x W h.s (by omega) hg
  have hil : ∀ x, isB l x = livesB l x := fun x => is_lives (by omega) hg
  cases ha : allLive l ids
  · have e : giveR m l f ids = ⟨0, [], [], 122⟩ := by simp [giveR, hm, ha]
    rw [e]
    have hd : ∃ j, j < ids.length ∧ isB l (iG ids j) = false := by
      refine Classical.byContradiction fun hno => ?_
      have : allLive l ids = true := allLive_true fun j hj => by
        cases hb : livesB l (iG ids j)
        · exact absurd ⟨j, hj, by rw [hil]; exact hb⟩ hno
        · rfl
      rw [ha] at this; cases this
    refine (refGive_dead m c d qi ids ci w p l q f CI h.i hI (by omega) hd).mono ?_
    rintro e w' ⟨rfl, hb⟩
    exact ⟨_, rfl, rv_zero (fr_of h.i.fr hb), hb⟩
  · have hall : ∀ j, j < ids.length → isB l (iG ids j) = true := fun j hj => by rw [hil]; exact allLive_at ha j hj
    have hk := gRun_refuses hm ha ids.length (Nat.le_refl _)
    cases hr : gRun l ids ids.length with
    | none =>
      have e : giveR m l f ids = ⟨0, [], [], 2⟩ := by simp [giveR, hm, ha, hr]
      rw [e]
      refine (refGive_arg m c d qi ids ci w p l q f CI h.i hI (by omega) hci hall (hk.1 hr)).mono ?_
      rintro e w' ⟨rfl, hb⟩
      exact ⟨_, rfl, rv_zero (fr_of h.i.fr hb), hb⟩
    | some s =>
      have I := ginv_run (l' := s.1) (left := s.2) ha (Nat.le_refl _) hr
      have eS : docS l ids l.length = s.1 := by
        rw [← docS_give hm ha I l.length (Nat.le_refl _), ← I.len, List.take_length]
      have eF := docF_give (l' := s.1) (left := s.2) hm ha hr
      have e : giveR m l f ids = ⟨m, s.1, f ++ srt s.2, 0⟩ := by simp [giveR, hm, ha, hr]
      rw [e]
      have hno : ∀ j, j < ids.length → badAt ids j = false := fun j hj => by
        cases hb : badAt ids j
        · rfl
        · have := hk.2 ⟨j, hj, hb⟩; rw [hr] at this; cases this
      have hent : ∀ k : Nat, k < l.length → entV ((k : Int) + 1) (sG l k) = (k : Int) + 1 + sG l k * 4294967296 := fun k hk => by rw [(mayB_ent hm hk).1, Int.add_comm]
      refine (refGive_ok m c d qi ids ci w p l q f CI h.i h.hq hI (by omega) hci l1 l2 hg hent hall hno).mono ?_
      rintro e w' ⟨vS, vF, rfl, h1, h2, hb⟩
      rw [eS] at h1
      rw [← eF] at h2
      have hs := srt_lenG hm ha hr
      exact ⟨_, rfl, rv_own (fr_of h.i.fr hb) h1 h2 (show s.1.length ≤ 100 by have := I.len; omega) (by simp; omega), hb⟩
end Go.Proofs.YtaglhajlgnjhcaaDoor
/- AllocTakes: the law's boxes and rows, and what keeps them. -/
namespace Go.Proofs.YtaglhajlgnjhcaaDoor
open Go.RowKit

/-- Rows of an allocator, in blocks from lo to hi. -/
structure Rw (lo hi : Nat) (W : World) (p : Option Addr) (l : List (Int × Bool)) (c : Nat) (q : Option Addr) (f : List Int) (d : Nat) : Prop where
  fr : Fr W
  s : SRow hi W p l
  i : IRow .i64 hi W q f
  fp : FreshP lo p
  fq : FreshP lo q
  hp : AdOk p
  hq : AdOk q
  hc : l.length ≤ c
  hd : f.length ≤ d
  nw : hi ≤ W.heap.size
  ln : l.length ≤ 8796093022208
  fn : f.length ≤ 8796093022208
section
variable {lo hi : Nat} {W W' : World} {p : Option Addr} {l : List (Int × Bool)} {c : Nat} {q : Option Addr} {f : List Int} {d : Nat}
theorem Rw.aix (h : Rw lo hi W p l c q f d) : AIx W p l c q f d := ⟨⟨h.fr, h.s.mono h.nw, h.i.mono h.nw, h.ln, h.fn⟩, h.hp, h.hq, h.hc, h.hd⟩
theorem Rw.hole {N1 N2 : Nat} (h : Rw lo hi W p l c q f d) (hh : Hole N1 N2 W W') (h0 : 0 < N1) (ho : hi ≤ N1 ∨ N2 ≤ lo) : Rw lo hi W' p l c q f d := by
  have hs := h.nw
  have key : ∀ b o, lo ≤ b → b < hi → W'.cell? ⟨b, o, none⟩ = W.cell? ⟨b, o, none⟩ := fun b o h1 h2 => World.cell?_of_block (hh.block b (by omega) (by omega))
  refine ⟨⟨Nat.lt_of_lt_of_le h.fr.lt hh.size, (World.cell?_of_block (a := ⟨0, 0, none⟩) (hh.block 0 h.fr.lt (.inl h0))).trans h.fr.c0, (World.cell?_of_block (a := ⟨0, 1, none⟩) (hh.block 0 h.fr.lt (.inl h0))).trans h.fr.c1⟩, ?_, ?_, h.fp, h.fq, h.hp, h.hq, h.hc, h.hd, Nat.le_trans hs hh.size, h.ln, h.fn⟩
  · intro hl
    obtain ⟨b, off, rfl, hb, hc⟩ := h.s hl
    have hlo := h.fp _ rfl
    exact ⟨b, off, rfl, hb, fun k hk => ⟨(key _ _ hlo hb).trans (hc k hk).1, (key _ _ hlo hb).trans (hc k hk).2⟩⟩
  · intro hl
    obtain ⟨b, off, rfl, hb, hc⟩ := h.i hl
    have hlo := h.fq _ rfl
    exact ⟨b, off, rfl, hb, fun k hk => (key _ _ hlo hb).trans (hc k hk)⟩
theorem Rw.to (h : Rw lo hi W p l c q f d) (hb : Below W.heap.size W W') : Rw lo hi W' p l c q f d :=
  h.hole (N1 := W.heap.size) (N2 := W.heap.size) (Hole.of hb) h.fr.lt (.inl h.nw)
theorem Rw.wide {lo' hi' : Nat} (h : Rw lo hi W p l c q f d) (h1 : lo' ≤ lo) (h2 : hi ≤ hi') (h3 : hi' ≤ W.heap.size) : Rw lo' hi' W p l c q f d :=
  ⟨h.fr, h.s.mono h2, h.i.mono h2, (fun a e => Nat.le_trans h1 (h.fp a e)), (fun a e => Nat.le_trans h1 (h.fq a e)), h.hp, h.hq, h.hc, h.hd, h3, h.ln, h.fn⟩
theorem Rw.of {w : World} (h : AIx W p l c q f d) (h1 : FreshP w.heap.size p) (h2 : FreshP w.heap.size q) : Rw w.heap.size W.heap.size W p l c q f d :=
  ⟨h.i.fr, h.i.s, h.i.i, h1, h2, h.hp, h.hq, h.hc, h.hd, Nat.le_refl _, h.i.ln, h.i.fn⟩
end
/-- An allocator in a box. -/
structure Ob (W : World) (B lo hi : Nat) (m : Int) (p : Option Addr) (l : List (Int × Bool)) (c : Nat) (q : Option Addr) (f : List Int) (d : Nat) : Prop where
  b : W.heap[B]? = some (.cells #[.int .i64 m, .slice p l.length c, .slice q f.length d] 25 (0, 0))
  r : Rw lo hi W p l c q f d
section
variable {lo hi B : Nat} {W W' : World} {m : Int} {p : Option Addr} {l : List (Int × Bool)} {c : Nat} {q : Option Addr} {f : List Int} {d : Nat}
theorem Ob.lt (h : Ob W B lo hi m p l c q f d) : B < W.heap.size := (Array.getElem?_eq_some_iff.1 h.b).1
theorem Ob.hole {N1 N2 : Nat} (h : Ob W B lo hi m p l c q f d) (hh : Hole N1 N2 W W') (h0 : 0 < N1) (hB : B < N1 ∨ N2 ≤ B) (ho : hi ≤ N1 ∨ N2 ≤ lo) : Ob W' B lo hi m p l c q f d :=
  ⟨(hh.block B h.lt hB).trans h.b, h.r.hole hh h0 ho⟩
theorem Ob.to (h : Ob W B lo hi m p l c q f d) (hb : Below W.heap.size W W') : Ob W' B lo hi m p l c q f d := ⟨atW hb h.b, h.r.to hb⟩
theorem Ob.wide {lo' hi' : Nat} (h : Ob W B lo hi m p l c q f d) (h1 : lo' ≤ lo) (h2 : hi ≤ hi') (h3 : hi' ≤ W.heap.size) : Ob W B lo' hi' m p l c q f d := ⟨h.b, h.r.wide h1 h2 h3⟩
end
theorem hole_set3 (W : World) (C : Nat) (x y z : Value) : Hole C (C + 1) W (((W.setCell ⟨C, 0, none⟩ x).setCell ⟨C, 1, none⟩ y).setCell ⟨C, 2, none⟩ z) :=
  ⟨rfl, rfl, rfl, by simp, fun k _ h => set3_oth (by omega)⟩
/-- A new box for rows that were just made. -/
theorem ob_new {w W : World} {m : Int} {p : Option Addr} {l : List (Int × Bool)} {c : Nat} {q : Option Addr} {f : List Int} {d : Nat} (h : AIx W p l c q f d) (h1 : FreshP w.heap.size p) (h2 : FreshP w.heap.size q) :
    Ob (W.alloc (.cells #[.int .i64 m, .slice p l.length c, .slice q f.length d] 25)) W.heap.size w.heap.size W.heap.size m p l c q f d :=
  ⟨heap_at rfl, (Rw.of h h1 h2).to ((Below.refl _ _).alloc (Nat.le_refl _) _)⟩
/-- Rows that were just made, put into an old box. -/
theorem ob_put {w W : World} {C : Nat} {x y z : Value} {m : Int} {p : Option Addr} {l : List (Int × Bool)} {c : Nat} {q : Option Addr} {f : List Int} {d : Nat} (hC : W.heap[C]? = some (.cells #[x, y, z] 25 (0, 0))) (hw : C < w.heap.size) (h0 : 0 < C) (h : AIx W p l c q f d) (h1 : FreshP w.heap.size p) (h2 : FreshP w.heap.size q) :
    Ob (((W.setCell ⟨C, 0, none⟩ (.int .i64 m)).setCell ⟨C, 1, none⟩ (.slice p l.length c)).setCell ⟨C, 2, none⟩ (.slice q f.length d)) C w.heap.size W.heap.size m p l c q f d :=
  ⟨set3_heap hC, (Rw.of h h1 h2).hole (hole_set3 W C _ _ _) h0 (.inr (by omega))⟩
theorem ob_zero {W : World} {C : Nat} (hF : Fr W) (h : W.heap[C]? = some (.cells #[.int .i64 0, .slice none 0 0, .slice none 0 0] 25 (0, 0))) (lo : Nat) : Ob W C lo W.heap.size 0 none [] 0 none [] 0 :=
  ⟨h, ⟨hF, (fun h => by simp at h), IRow.nil, (fun a h => by cases h), (fun a h => by cases h), .inl rfl, .inl rfl, by simp, by simp, Nat.le_refl _, by simp, by simp⟩⟩
/-- own, of an allocator in a box. -/
theorem own_ob {W : World} {B lo hi : Nat} {m : Int} {p : Option Addr} {l : List (Int × Bool)} {c : Nat} {q : Option Addr} {f : List Int} {d : Nat} (h : Ob W B lo hi m p l c q f d) {W' : World} (hb : Below W.heap.size W W') :
    Calls Tryd.prog 10 #[.agg #[.int .i64 m, .slice p l.length c, .slice q f.length d]] W' fun e w' => ∃ p' c' q' d', e = .returned (.agg #[.int .i64 m, .slice p' (l.take 40).length c', .slice q' (f.take 40).length d']) ∧ AIx w' p' (l.take 40) c' q' (f.take 40) d' ∧ FreshP W'.heap.size p' ∧ FreshP W'.heap.size q' ∧ Below W'.heap.size W' w' := by
  have h' := (h.to hb).r
  have hi' := h'.aix
  refine (own10f m p l c q f d W' h'.fr hi'.i.s hi'.i.i (.inl h'.hp) (.inl h'.hq) h'.hc h'.hd).mono ?_
  rintro e w' ⟨p', c', q', d', rfl, ⟨h1, h2, h3⟩, hb'⟩
  exact ⟨p', c', q', d', rfl, h1, h2, h3, hb'⟩
theorem own_ob40 {W : World} {B lo hi : Nat} {m : Int} {p : Option Addr} {l : List (Int × Bool)} {c : Nat} {q : Option Addr} {f : List Int} {d : Nat} (h : Ob W B lo hi m p l c q f d) (l1 : l.length ≤ 40) (l2 : f.length ≤ 40) {W' : World} (hb : Below W.heap.size W W') :
    Calls Tryd.prog 10 #[.agg #[.int .i64 m, .slice p l.length c, .slice q f.length d]] W' fun e w' => ∃ p' c' q' d', e = .returned (.agg #[.int .i64 m, .slice p' l.length c', .slice q' f.length d']) ∧ AIx w' p' l c' q' f d' ∧ FreshP W'.heap.size p' ∧ FreshP W'.heap.size q' ∧ Below W'.heap.size W' w' := by
  have := own_ob h hb
  rw [List.take_of_length_le l1, List.take_of_length_le l2] at this
  exact this
/-- Behind Take: what is taken may be, if it may be at all, also cut at 40. -/
theorem take_may {m : Int} {l : List (Int × Bool)} {f : List Int} (l1 : l.length ≤ 40) (l2 : f.length ≤ 40) (he : (takeR m l f).e = 0) : mayB m l f = true ∧ mayB (takeR m l f).m ((takeR m l f).l.take 40) ((takeR m l f).f.take 40) = true := by
  cases hm : mayB m l f
  · have e : takeR m l f = ⟨0, [], [], 0, 120⟩ := by simp [takeR, hm]
    rw [e] at he; simp at he
  · refine ⟨rfl, ?_⟩
    by_cases hc : cntM l = m + 2
    · have e : takeR m l f = ⟨0, [], [], 0, 6⟩ := by simp [takeR, hm, hc]
      rw [e] at he; simp at he
    · by_cases hf : f.length = 0
      · by_cases hl : (l.length : Int) < m + 2
        · have e : takeR m l f = ⟨m, l ++ [(0, true)], f, entV ((l.length : Int) + 1) 0, 0⟩ := by unfold takeR; rw [if_pos hm, if_neg hc, if_pos hf, if_pos hl]
          rw [e]
          show mayB m ((l ++ [(0, true)]).take 40) (f.take 40) = true
          rw [List.take_of_length_le l2]
          by_cases hq : l.length = 40
          · rw [List.take_append_of_le_length (by omega), List.take_of_length_le l1]; exact hm
          · rw [List.take_of_length_le (by simp; omega)]; exact mayB_further hm hf hl
        · have e : takeR m l f = ⟨0, [], [], 0, 121⟩ := by unfold takeR; rw [if_pos hm, if_neg hc, if_pos hf, if_neg hl]
          rw [e] at he; simp at he
      · obtain ⟨k, hk⟩ : ∃ k, f.length = k + 1 := ⟨f.length - 1, by omega⟩
        obtain ⟨j, hij, hj, hu⟩ := mayB_free hm k (by omega)
        have e : takeR m l f = ⟨m, l.set j (sG l j + 1, true), f.take k, entV ((j : Int) + 1) (sG l j + 1), 0⟩ := by
          unfold takeR; rw [if_pos hm, if_neg hc, if_neg hf]
          have e1 : f.length - 1 = k := by omega
          have e2 : (iG f k - 1).toNat = j := by omega
          rw [e1, e2]
        rw [e]
        show mayB m ((l.set j (sG l j + 1, true)).take 40) ((f.take k).take 40) = true
        rw [List.take_of_length_le (by simp; omega), List.take_of_length_le (by simp; omega)]
        exact mayB_again hm hk hij hj hu
theorem takeR_bad {m : Int} {l : List (Int × Bool)} {f : List Int} (h : mayB m l f = false) : takeR m l f = ⟨0, [], [], 0, 120⟩ := by simp [takeR, h]
theorem giveR_bad {m : Int} {l : List (Int × Bool)} {f ids : List Int} (h : mayB m l f = false) : giveR m l f ids = ⟨0, [], [], 120⟩ := by simp [giveR, h]
end Go.Proofs.YtaglhajlgnjhcaaDoor
