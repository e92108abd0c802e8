/- The law's own copies of an allocator. -/
import Derived.Test.YtaglhajlgnjhcaaDoorShelfB
import Derived.Test.YtaglhajlgnjhcaaDoorAlX
import Derived.Lib.SliceRun
namespace Go.Proofs.YtaglhajlgnjhcaaDoor
open Go.RowKit

def AdOk (p : Option Addr) : Prop := p = none ∨ ∃ b off, p = some ⟨b, off, none⟩
def FreshP (B : Nat) (p : Option Addr) : Prop := ∀ a, p = some a → B ≤ a.block
/-- What a copy is: rows of the call's own. -/
theorem srow_own {w : World} {base : Nat} {v : Value} {l : List (Int × Bool)} (h : w.ownsRow base 61 2 v l.length (cellsS l)) : ∃ p c, v = .slice p l.length c ∧ l.length ≤ c ∧ (AdOk p ∧ FreshP base p) ∧ SRow w.heap.size w p l := by
  rcases h.2 with ⟨rfl, h0⟩ | ⟨g, cap, cur, rfl, hbase, hb, hc, _⟩
  · exact ⟨none, 0, by rw [h0], by omega, ⟨.inl rfl, fun a ha => by cases ha⟩, fun hp => by omega⟩
  · refine ⟨_, _, rfl, hc, ⟨.inr ⟨g, 0, rfl⟩, fun a ha => by cases ha; exact hbase⟩, fun _ => ⟨g, 0, rfl, (Array.getElem?_eq_some_iff.1 hb).1, fun k hk => ?_⟩⟩
    have e := cellsS_even l k hk
    rw [Nat.zero_add, h.cellAt (k * 2) (by omega), h.cellAt (k * 2 + 1) (by omega)]
    exact e
theorem irow_own' {q : IntKind} {e : TypeId} {w : World} {base : Nat} {v : Value} {l : List Int} (h : w.ownsRow base e 1 v l.length (cellsI q l)) : ∃ p c, v = .slice p l.length c ∧ l.length ≤ c ∧ (AdOk p ∧ FreshP base p) ∧ IRow q w.heap.size w p l := by
  rcases h.2 with ⟨rfl, h0⟩ | ⟨g, cap, cur, rfl, hbase, hb, hc, _⟩
  · exact ⟨none, 0, by rw [h0], by omega, ⟨.inl rfl, fun a ha => by cases ha⟩, fun hp => by omega⟩
  · refine ⟨_, _, rfl, hc, ⟨.inr ⟨g, 0, rfl⟩, fun a ha => by cases ha; exact hbase⟩, fun _ => ⟨g, 0, rfl, (Array.getElem?_eq_some_iff.1 hb).1, fun k hk => ?_⟩⟩
    rw [Nat.zero_add, h.cellAt k (by omega)]
    simp [cellsI, iG, hk]

set_option maxRecDepth 20000 in
theorem clone32z (a : Addr) (c : Nat) (w : World) :
    Calls Tryd.prog 32 #[.slice (some a) 0 c] w fun e w' => ∃ p' c', e = .returned (.slice p' 0 c') ∧ (AdOk p' ∧ FreshP w.heap.size p') ∧ Below w.heap.size w w' := by
  obtain ⟨i0, hi, hz0, hz1, hz2⟩ := info_parts Tryd.info61
  have ho := World.ownsRow_made (base := w.heap.size) (e := 61) (size := 2) w #[] 0 (Nat.le_refl _) (by unfold maxLen; omega) (by simp)
  have qn := fun (w : World) => Lib.run_eql_slice_nil (P := Tryd.prog) w 22 _ (some a) 0 c 0 0 Tryd.underlying22
  go_enter Tryd.func32, Tryd.ntmps32
  go_wp2_with (first | (at_builtin; refine wpList_append_own _ rfl _ _ 22 rfl w.heap.size 61 i0 (.agg #[.int .i64 0, .bool false]) 2 16 Tryd.underlying22 hi hz0 hz1 hz2 rfl (by decide) _ _ _ rfl ho a 0 c [] rfl rfl (fun j u h => (by simp at h)) (fun u h => (by cases h)) (by unfold maxLen; omega) (by omega) (by simp) ?_; intro v' w1 hown hgrow _))
  go_ret
  have hb : Below w.heap.size w w1 := ((Below.refl _ w).alloc (Nat.le_refl _) _).grown hgrow (by simp) (fun k hk => by have h' : w.heap.size = k := Option.some.inj hk; omega)
  rcases hown.2 with ⟨rfl, _⟩ | ⟨g, cap, cur, rfl, hbase, _⟩
  · exact ⟨none, ⟨0, rfl⟩, ⟨.inl rfl, fun a ha => by cases ha⟩, hb⟩
  · exact ⟨_, ⟨cap, rfl⟩, ⟨.inr ⟨g, 0, rfl⟩, fun a ha => by cases ha; exact hbase⟩, hb⟩
set_option maxRecDepth 20000 in
theorem clone33z (a : Addr) (c : Nat) (w : World) :
    Calls Tryd.prog 33 #[.slice (some a) 0 c] w fun e w' => ∃ p' c', e = .returned (.slice p' 0 c') ∧ (AdOk p' ∧ FreshP w.heap.size p') ∧ Below w.heap.size w w' := by
  obtain ⟨i0, hi, hz0, hz1, hz2⟩ := info_parts Tryd.info3
  have ho := World.ownsRow_made (base := w.heap.size) (e := 3) (size := 1) w #[] 0 (Nat.le_refl _) (by unfold maxLen; omega) (by simp)
  have qn := fun (w : World) => Lib.run_eql_slice_nil (P := Tryd.prog) w 23 _ (some a) 0 c 0 0 Tryd.underlying23
  go_enter Tryd.func33, Tryd.ntmps33
  go_wp2_with (first | (at_builtin; refine wpList_append_own _ rfl _ _ 23 rfl w.heap.size 3 i0 (.int .i64 0) 1 8 Tryd.underlying23 hi hz0 hz1 hz2 rfl (by decide) _ _ _ rfl ho a 0 c [] rfl rfl (fun j u h => (by simp at h)) (fun u h => (by cases h)) (by unfold maxLen; omega) (by omega) (by simp) ?_; intro v' w1 hown hgrow _))
  go_ret
  have hb : Below w.heap.size w w1 := ((Below.refl _ w).alloc (Nat.le_refl _) _).grown hgrow (by simp) (fun k hk => by have h' : w.heap.size = k := Option.some.inj hk; omega)
  rcases hown.2 with ⟨rfl, _⟩ | ⟨g, cap, cur, rfl, hbase, _⟩
  · exact ⟨none, ⟨0, rfl⟩, ⟨.inl rfl, fun a ha => by cases ha⟩, hb⟩
  · exact ⟨_, ⟨cap, rfl⟩, ⟨.inr ⟨g, 0, rfl⟩, fun a ha => by cases ha; exact hbase⟩, hb⟩
set_option maxRecDepth 20000 in
theorem clone28z (a : Addr) (c : Nat) (w : World) :
    Calls Tryd.prog 28 #[.slice (some a) 0 c] w fun e w' => ∃ p' c', e = .returned (.slice p' 0 c') ∧ (AdOk p' ∧ FreshP w.heap.size p') ∧ Below w.heap.size w w' := by
  obtain ⟨i0, hi, hz0, hz1, hz2⟩ := info_parts Tryd.info41
  have ho := World.ownsRow_made (base := w.heap.size) (e := 41) (size := 1) w #[] 0 (Nat.le_refl _) (by unfold maxLen; omega) (by simp)
  have qn := fun (w : World) => Lib.run_eql_slice_nil (P := Tryd.prog) w 36 _ (some a) 0 c 0 0 Tryd.underlying36
  go_enter Tryd.func28, Tryd.ntmps28
  go_wp2_with (first | (at_builtin; refine wpList_append_own _ rfl _ _ 36 rfl w.heap.size 41 i0 (.int .u64 0) 1 8 Tryd.underlying36 hi hz0 hz1 hz2 rfl (by decide) _ _ _ rfl ho a 0 c [] rfl rfl (fun j u h => (by simp at h)) (fun u h => (by cases h)) (by unfold maxLen; omega) (by omega) (by simp) ?_; intro v' w1 hown hgrow _))
  go_ret
  have hb : Below w.heap.size w w1 := ((Below.refl _ w).alloc (Nat.le_refl _) _).grown hgrow (by simp) (fun k hk => by have h' : w.heap.size = k := Option.some.inj hk; omega)
  rcases hown.2 with ⟨rfl, _⟩ | ⟨g, cap, cur, rfl, hbase, _⟩
  · exact ⟨none, ⟨0, rfl⟩, ⟨.inl rfl, fun a ha => by cases ha⟩, hb⟩
  · exact ⟨_, ⟨cap, rfl⟩, ⟨.inr ⟨g, 0, rfl⟩, fun a ha => by cases ha; exact hbase⟩, hb⟩
theorem clone32 (p : Option Addr) (l : List (Int × Bool)) (c : Nat) (w : World) (hS : SRow w.heap.size w p l) (hp : AdOk p ∨ l.length = 0) (hn : l.length ≤ 8796093022208) :
    Calls Tryd.prog 32 #[.slice p l.length c] w fun e w' => ∃ p' c', e = .returned (.slice p' l.length c') ∧ l.length ≤ c' ∧ (AdOk p' ∧ FreshP w.heap.size p') ∧ SRow w'.heap.size w' p' l ∧ Below w.heap.size w w' := by
  rcases hp with hp | h0
  rotate_left
  · obtain rfl : l = [] := List.eq_nil_of_length_eq_zero h0
    cases p with
    | none =>
      refine (Tryd.slices_Clone32_nil 0 c w).mono ?_
      rintro e w' ⟨rfl, rfl⟩
      exact ⟨none, 0, rfl, by simp, ⟨.inl rfl, fun a ha => by cases ha⟩, SRow.nil, Below.refl _ _⟩
    | some a =>
      refine (clone32z a c w).mono ?_
      rintro e w' ⟨p', c', rfl, h1, h2⟩
      exact ⟨p', c', rfl, by simp, h1, SRow.nil, h2⟩
  rcases hp with rfl | ⟨b, off, rfl⟩
  · refine (Tryd.slices_Clone32_nil l.length c w).mono ?_
    rintro e w' ⟨rfl, rfl⟩
    have h0 : l.length = 0 := by
      by_cases h : 0 < l.length
      · obtain ⟨b, off, hh, _⟩ := hS h; cases hh
      · omega
    exact ⟨none, 0, by rw [h0], by omega, ⟨.inl rfl, fun a ha => by cases ha⟩, fun h => by omega, Below.refl _ _⟩
  · obtain ⟨i0, hi, hz0, hz1, hz2⟩ := info_parts Tryd.info61
    refine (Tryd.slices_Clone32 i0 (.agg #[.int .i64 0, .bool false]) 2 16 hi hz0 hz1 hz2 rfl (by omega) Tryd.sizeOf61 b off l.length c (cellsS l) w (cellsS_len l) (by unfold maxLen; omega) (by omega) ?_ (cellsS_one l)).mono ?_
    · intro j u hj
      have hlt := (List.getElem?_eq_some_iff.1 hj).1
      rw [cellsS_len] at hlt
      obtain ⟨b', off', e, _, hc⟩ := hS (by omega)
      cases e
      have := cellsS_src hc j u hj
      rwa [addr_add] at this
    · rintro e w' ⟨v, rfl, ho, _, hb⟩
      obtain ⟨p', c', rfl, h1, h3, h2⟩ := srow_own ho
      exact ⟨p', c', rfl, h1, h3, h2, hb⟩
theorem clone33 (p : Option Addr) (l : List Int) (c : Nat) (w : World) (hS : IRow .i64 w.heap.size w p l) (hp : AdOk p ∨ l.length = 0) (hn : l.length ≤ 8796093022208) :
    Calls Tryd.prog 33 #[.slice p l.length c] w fun e w' => ∃ p' c', e = .returned (.slice p' l.length c') ∧ l.length ≤ c' ∧ (AdOk p' ∧ FreshP w.heap.size p') ∧ IRow .i64 w'.heap.size w' p' l ∧ Below w.heap.size w w' := by
  rcases hp with hp | h0
  rotate_left
  · obtain rfl : l = [] := List.eq_nil_of_length_eq_zero h0
    cases p with
    | none =>
      refine (Tryd.slices_Clone33_nil 0 c w).mono ?_
      rintro e w' ⟨rfl, rfl⟩
      exact ⟨none, 0, rfl, by simp, ⟨.inl rfl, fun a ha => by cases ha⟩, IRow.nil, Below.refl _ _⟩
    | some a =>
      refine (clone33z a c w).mono ?_
      rintro e w' ⟨p', c', rfl, h1, h2⟩
      exact ⟨p', c', rfl, by simp, h1, IRow.nil, h2⟩
  rcases hp with rfl | ⟨b, off, rfl⟩
  · refine (Tryd.slices_Clone33_nil l.length c w).mono ?_
    rintro e w' ⟨rfl, rfl⟩
    have h0 : l.length = 0 := by
      by_cases h : 0 < l.length
      · obtain ⟨b, off, hh, _⟩ := hS h; cases hh
      · omega
    exact ⟨none, 0, by rw [h0], by omega, ⟨.inl rfl, fun a ha => by cases ha⟩, fun h => by omega, Below.refl _ _⟩
  · obtain ⟨i0, hi, hz0, hz1, hz2⟩ := info_parts Tryd.info3
    refine (Tryd.slices_Clone33 i0 (.int .i64 0) 1 8 hi hz0 hz1 hz2 rfl (by omega) Tryd.sizeOf3 b off l.length c (cellsI .i64 l) w (cellsI_len .i64 l) (by unfold maxLen; omega) (by omega) ?_ (cellsI_one .i64 l)).mono ?_
    · intro j u hj
      have hlt : j < l.length := by have := (List.getElem?_eq_some_iff.1 hj).1; simpa [cellsI] using this
      obtain ⟨b', off', e, _, hc⟩ := hS (by omega)
      cases e
      have := cellsI_src hc j u hj
      rwa [addr_add] at this
    · rintro e w' ⟨v, rfl, ho, _, hb⟩
      obtain ⟨p', c', rfl, h1, h3, h2⟩ := irow_own' ho
      exact ⟨p', c', rfl, h1, h3, h2, hb⟩
theorem clone28 (p : Option Addr) (l : List Int) (c : Nat) (w : World) (hS : IRow .u64 w.heap.size w p l) (hp : AdOk p ∨ l.length = 0) (hn : l.length ≤ 8796093022208) :
    Calls Tryd.prog 28 #[.slice p l.length c] w fun e w' => ∃ p' c', e = .returned (.slice p' l.length c') ∧ l.length ≤ c' ∧ (AdOk p' ∧ FreshP w.heap.size p') ∧ IRow .u64 w'.heap.size w' p' l ∧ Below w.heap.size w w' := by
  rcases hp with hp | h0
  rotate_left
  · obtain rfl : l = [] := List.eq_nil_of_length_eq_zero h0
    cases p with
    | none =>
      refine (Tryd.slices_Clone28_nil 0 c w).mono ?_
      rintro e w' ⟨rfl, rfl⟩
      exact ⟨none, 0, rfl, by simp, ⟨.inl rfl, fun a ha => by cases ha⟩, IRow.nil, Below.refl _ _⟩
    | some a =>
      refine (clone28z a c w).mono ?_
      rintro e w' ⟨p', c', rfl, h1, h2⟩
      exact ⟨p', c', rfl, by simp, h1, IRow.nil, h2⟩
  rcases hp with rfl | ⟨b, off, rfl⟩
  · refine (Tryd.slices_Clone28_nil l.length c w).mono ?_
    rintro e w' ⟨rfl, rfl⟩
    have h0 : l.length = 0 := by
      by_cases h : 0 < l.length
      · obtain ⟨b, off, hh, _⟩ := hS h; cases hh
      · omega
    exact ⟨none, 0, by rw [h0], by omega, ⟨.inl rfl, fun a ha => by cases ha⟩, fun h => by omega, Below.refl _ _⟩
  · obtain ⟨i0, hi, hz0, hz1, hz2⟩ := info_parts Tryd.info41
    refine (Tryd.slices_Clone28 i0 (.int .u64 0) 1 8 hi hz0 hz1 hz2 rfl (by omega) Tryd.sizeOf41 b off l.length c (cellsI .u64 l) w (cellsI_len .u64 l) (by unfold maxLen; omega) (by omega) ?_ (cellsI_one .u64 l)).mono ?_
    · intro j u hj
      have hlt : j < l.length := by have := (List.getElem?_eq_some_iff.1 hj).1; simpa [cellsI] using this
      obtain ⟨b', off', e, _, hc⟩ := hS (by omega)
      cases e
      have := cellsI_src hc j u hj
      rwa [addr_add] at this
    · rintro e w' ⟨v, rfl, ho, _, hb⟩
      obtain ⟨p', c', rfl, h1, h3, h2⟩ := irow_own' ho
      exact ⟨p', c', rfl, h1, h3, h2, hb⟩

theorem sG_take {l : List (Int × Bool)} {n k : Nat} (h : k < n) : sG (l.take n) k = sG l k ∧ sA (l.take n) k = sA l k := by
  simp [sG, sA, h]
theorem iG_take {l : List Int} {n k : Nat} (h : k < n) : iG (l.take n) k = iG l k := by simp [iG, h]
theorem SRow.take {N : Nat} {w : World} {p : Option Addr} {l : List (Int × Bool)} (h : SRow N w p l) (n : Nat) : SRow N w p (l.take n) := by
  intro h0
  have h1 : 0 < l.length := by simp at h0; omega
  obtain ⟨b, off, rfl, hN, hc⟩ := h h1
  refine ⟨b, off, rfl, hN, fun k hk => ?_⟩
  have hk' : k < n ∧ k < l.length := by simp at hk; omega
  rw [(sG_take hk'.1).1, (sG_take hk'.1).2]; exact hc k hk'.2
theorem IRow.take {q : IntKind} {N : Nat} {w : World} {p : Option Addr} {l : List Int} (h : IRow q N w p l) (n : Nat) : IRow q N w p (l.take n) := by
  intro h0
  have h1 : 0 < l.length := by simp at h0; omega
  obtain ⟨b, off, rfl, hN, hc⟩ := h h1
  refine ⟨b, off, rfl, hN, fun k hk => ?_⟩
  have hk' : k < n ∧ k < l.length := by simp at hk; omega
  rw [iG_take hk'.1]; exact hc k hk'.2

theorem SRow.set3 {N B R : Nat} {w : World} {p : Option Addr} {l : List (Int × Bool)} (h : SRow N w p l) (hf : FreshP B p) (hR : R < B) (x y z : Value) : SRow N (((w.setCell ⟨R, 0, none⟩ x).setCell ⟨R, 1, none⟩ y).setCell ⟨R, 2, none⟩ z) p l := by
  intro h0
  obtain ⟨b, off, rfl, hN, hc⟩ := h h0
  have hb : B ≤ b := hf _ rfl
  exact ⟨b, off, rfl, hN, fun k hk => ⟨set3far (by omega) (hc k hk).1, set3far (by omega) (hc k hk).2⟩⟩
theorem IRow.set3 {q : IntKind} {N B R : Nat} {w : World} {p : Option Addr} {l : List Int} (h : IRow q N w p l) (hf : FreshP B p) (hR : R < B) (x y z : Value) : IRow q N (((w.setCell ⟨R, 0, none⟩ x).setCell ⟨R, 1, none⟩ y).setCell ⟨R, 2, none⟩ z) p l := by
  intro h0
  obtain ⟨b, off, rfl, hN, hc⟩ := h h0
  have hb : B ≤ b := hf _ rfl
  exact ⟨b, off, rfl, hN, fun k hk => set3far (by omega) (hc k hk)⟩
/-- An allocator's value that can be gone through. -/
structure AIx (w : World) (p : Option Addr) (l : List (Int × Bool)) (c : Nat) (q : Option Addr) (f : List Int) (d : Nat) : Prop where
  i : AIn w p l q f
  hp : AdOk p
  hq : AdOk q
  hc : l.length ≤ c
  hd : f.length ≤ d
theorem AIx.below {w w' : World} {p : Option Addr} {l : List (Int × Bool)} {c : Nat} {q : Option Addr} {f : List Int} {d : Nat} (h : AIx w p l c q f d) (hb : Below w.heap.size w w') : AIx w' p l c q f d := ⟨h.i.below hb, h.hp, h.hq, h.hc, h.hd⟩

set_option maxRecDepth 20000 in
set_option maxHeartbeats 1000000 in
theorem own10 (m : Int) (p : Option Addr) (l : List (Int × Bool)) (c : Nat) (q : Option Addr) (f : List Int) (d : Nat) (w : World) (hF : Fr w) (hs : SRow w.heap.size w p l) (hi : IRow .i64 w.heap.size w q f) (hp : AdOk p ∨ l.length = 0) (hq : AdOk q ∨ f.length = 0) (c1 : l.length ≤ c) (c2 : f.length ≤ d) :
    Calls Tryd.prog 10 #[.agg #[.int .i64 m, .slice p l.length c, .slice q f.length d]] w fun e w' => ∃ p' c' q' d', e = .returned (.agg #[.int .i64 m, .slice p' (l.take 40).length c', .slice q' (f.take 40).length d']) ∧ AIx w' p' (l.take 40) c' q' (f.take 40) d' ∧ Below w.heap.size w w' := by
  obtain ⟨n, hn⟩ : ∃ n, n = (l.take 40).length := ⟨_, rfl⟩
  obtain ⟨k, hk⟩ : ∃ k, k = (f.take 40).length := ⟨_, rfl⟩
  have hn' : min (l.length : Int) 40 = (n : Int) := by rw [hn]; simp; omega
  have hk' : min (f.length : Int) 40 = (k : Int) := by rw [hk]; simp; omega
  have n0 : (0 : Int) ≤ (n : Int) := by omega
  have n1 : (n : Int) ≤ (c : Int) := by omega
  have k0 : (0 : Int) ≤ (k : Int) := by omega
  have k1 : (k : Int) ≤ (d : Int) := by omega
  have CS := fun (W : World) (hb : BxA w W (.int .i64 m) (.slice p l.length c) (.slice q f.length d)) => clone32 p (l.take 40) c W (((hs.below hb.b (Nat.le_refl _)).mono hb.b.size).take 40) (hp.imp_right (fun h => by simp [h])) (by simp; omega)
  have CI := fun (W : World) (hb : BxA w W (.int .i64 m) (.slice p l.length c) (.slice q f.length d)) => clone33 q (f.take 40) d W (((hi.below hb.b (Nat.le_refl _)).mono hb.b.size).take 40) (hq.imp_right (fun h => by simp [h])) (by simp; omega)
  rw [← hn] at CS
  rw [← hk] at CI
  rw [← hn, ← hk]
  have HF : Hid (Fr w) := hF
  have HN : Hid (n = (l.take 40).length) := hn
  have HK : Hid (k = (f.take 40).length) := hk
  have K0 : Hid (BxA w ((w.alloc (.cells #[.int .i64 m, .slice p l.length c, .slice q f.length d] 25)).alloc (.cells #[.int .i64 0, .slice none 0 0, .slice none 0 0] 25)).drew (.int .i64 m) (.slice p l.length c) (.slice q f.length d)) := BxA.start w _ _ _
  have hR : w.heap.size + 1 ≠ w.heap.size := by omega
  clear hF hs hi hp hq hn hk c1 c2
  go_enter Tryd.func10, Tryd.ntmps10
  go_wp2
  go_region_held3 (fun w' => w'.cell? ⟨w.heap.size, 0, none⟩ = some (.int .i64 m) ∧ w'.cell? ⟨w.heap.size, 1, none⟩ = some (.slice p l.length c) ∧ w'.cell? ⟨w.heap.size, 2, none⟩ = some (.slice q f.length d)) (first | go_keep | with_reducible exact TT.out _ _ _) (first | (go_at_call 32; refine Calls.mono (CS _ K0.out) ?_; rintro e w1 ⟨p', c', rfl, hc', hp', hs', hb1⟩; have HS : Hid ((AdOk p' ∧ FreshP (w.heap.size + 2) p') ∧ SRow w1.heap.size w1 p' (l.take 40)) := ⟨⟨hp'.1, fun a ha => (by have := hp'.2 a ha; simpa using this)⟩, hs'⟩; clear hp' hs'; have HC : Hid (n ≤ c') := hc'; clear hc'; have K1 : Hid (BxA w w1 (.int .i64 m) (.slice p l.length c) (.slice q f.length d)) := K0.out.below hb1; obtain ⟨a0, a1, a2, _, a3⟩ := cells3 K1.out.a) | (go_at_call 33; refine Calls.mono (CI _ K1.out) ?_; rintro e w2 ⟨q', d', rfl, hd', hq', hi', hb2⟩; have HI : Hid ((AdOk q' ∧ FreshP (w.heap.size + 2) q') ∧ IRow .i64 w2.heap.size w2 q' (f.take 40)) := ⟨⟨hq'.1, fun a ha => Nat.le_trans K1.out.z (hq'.2 a ha)⟩, hi'⟩; clear hq' hi'; have HD : Hid (k ≤ d') := hd'; clear hd'; have HB2 : Hid (Below w1.heap.size w1 w2) := hb2; have K2 : Hid (BxA w w2 (.int .i64 m) (.slice p l.length c) (.slice q f.length d)) := K1.out.below hb2; obtain ⟨b0, b1, b2, _, b3⟩ := cells3 K2.out.a; obtain ⟨r0, r1, r2, rf, r3⟩ := cells3 K2.out.r; have TT : Hid _ := fun (x y z : Value) => (⟨set3far hR b0, set3far hR b1, set3far hR b2⟩ : (((w2.setCell ⟨w.heap.size + 1, 0, none⟩ x).setCell ⟨w.heap.size + 1, 1, none⟩ y).setCell ⟨w.heap.size + 1, 2, none⟩ z).cell? ⟨w.heap.size, 0, none⟩ = some (.int .i64 m) ∧ (((w2.setCell ⟨w.heap.size + 1, 0, none⟩ x).setCell ⟨w.heap.size + 1, 1, none⟩ y).setCell ⟨w.heap.size + 1, 2, none⟩ z).cell? ⟨w.heap.size, 1, none⟩ = some (.slice p l.length c) ∧ (((w2.setCell ⟨w.heap.size + 1, 0, none⟩ x).setCell ⟨w.heap.size + 1, 1, none⟩ y).setCell ⟨w.heap.size + 1, 2, none⟩ z).cell? ⟨w.heap.size, 2, none⟩ = some (.slice q f.length d))))
  all_goals
    go_wp2
    obtain ⟨t0, t1, t2, _, _⟩ := cells3 (set3_heap (x' := .int .i64 m) (y' := .slice p' n c') (z' := .slice q' k d') K2.out.r)
    have hB := below_set3 K2.out.b (by omega : w.heap.size ≤ w.heap.size + 1) (.int .i64 m) (.slice p' n c') (.slice q' k d')
    have hin : AIx (((w2.setCell ⟨w.heap.size + 1, 0, none⟩ (.int .i64 m)).setCell ⟨w.heap.size + 1, 1, none⟩ (.slice p' n c')).setCell ⟨w.heap.size + 1, 2, none⟩ (.slice q' k d')) p' (l.take 40) c' q' (f.take 40) d' := by
      refine ⟨⟨HF.out.below hB HF.out.lt, ?_, ?_, ?_, ?_⟩, HS.out.1.1, HI.out.1.1, ?_, ?_⟩
      · have h1 := (HS.out.2.below HB2.out (Nat.le_refl _)).mono HB2.out.size
        have h2 := h1.set3 HS.out.1.2 (by omega : w.heap.size + 1 < w.heap.size + 2) (.int .i64 m) (.slice p' n c') (.slice q' k d')
        simpa using h2
      · have h2 := HI.out.2.set3 HI.out.1.2 (by omega : w.heap.size + 1 < w.heap.size + 2) (.int .i64 m) (.slice p' n c') (.slice q' k d')
        simpa using h2
      · simp; omega
      · simp; omega
      · rw [← HN.out]; exact HC.out
      · rw [← HK.out]; exact HD.out
    exact bodyPost_ret (v := .agg #[.int .i64 m, .slice p' n c', .slice q' k d']) (by simp [results, Tryd.results10, go_sem, t0, t1, t2]) rfl ⟨p', c', q', d', rfl, hin, hB⟩
end Go.Proofs.YtaglhajlgnjhcaaDoor
