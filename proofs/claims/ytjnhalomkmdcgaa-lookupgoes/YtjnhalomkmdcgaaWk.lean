/- The law's own 'wakes'. -/
import Derived.Test.YtjnhalomkmdcgaaLwB
namespace Go.Proofs.Ytjnhalomkmdcgaa
open Go.RowKit

theorem mayT_len {l : List Int} (h : mayT l = true) : l.length ≤ 12 := ((mayT_iff l).1 h).1
/-- A lookup in memory, that may be, and says A. -/
structure LkW (w : World) (p : Option Addr) (T : List En) (A : List En) : Prop where
  e : ERow w.heap.size w p T
  r : LkR T A
  n : T.length ≤ 256
theorem LkW.to {w w' : World} {p : Option Addr} {T A : List En} (h : LkW w p T A) (hb : Below w.heap.size w w') : LkW w' p T A := ⟨h.e.to hb, h.r, h.n⟩
theorem LkW.alloc {w : World} {p : Option Addr} {T A : List En} (h : LkW w p T A) (o : Obj) : LkW (w.alloc o) p T A := h.to ((Below.refl _ _).alloc (Nat.le_refl _) o)
theorem lkr_len {T A : List En} (h : LkR T A) : A.length = (T.filter usB).length := by rw [← h.a, alL_len]
theorem put_yes (p : Option Addr) (T A : List En) (c : Nat) (q : Option Addr) (t : List Int) (d : Nat) (n : Int) (w : World) (h : LkW w p T A) (hT : TRow w.heap.size w q t d) (mt : mayT t = true) (hn : 0 ≤ n) (hf : fiL A t = -1) (mx : Nat) (hmx : enN T.length (A.length + 1) ≤ mx) :
    Calls Try.prog 24 #[.agg #[.slice p T.length c], .slice q t.length d, .int .i64 n] w fun e w' => ∃ p' c' T', e = .returned (.tuple #[.agg #[.slice p' T'.length c'], .int .i64 0]) ∧ EFr w.heap.size w' p' T' c' ∧ LkR T' (wiL cmpL A (1, t, n)) ∧ T'.length ≤ mx ∧ Below w.heap.size w w' := by
  have hu := used_le T
  have hA := lkr_len h.r
  have ht := mayT_len mt
  refine (put24 p T c q t d n w h.e h.n (lb_of_ri h.r.r) hT (by omega) mx (by rw [← hA]; exact hmx)).mono ?_
  have hp : puE T t n = 0 := by
    unfold puE
    rw [riB_t h.r.r, if_pos rfl, if_pos mt, if_pos hn, h.r.a, hf, if_neg (by decide), if_neg (by have := h.n; omega)]
  rw [hp, h.r.a]
  rintro e w' ⟨p', c', T', rfl, hE, hy, _, hb⟩
  exact ⟨p', c', T', rfl, hE, (hy rfl).1, (hy rfl).2, hb⟩
theorem put_there (p : Option Addr) (T A : List En) (c : Nat) (q : Option Addr) (t : List Int) (d : Nat) (n : Int) (w : World) (h : LkW w p T A) (hT : TRow w.heap.size w q t d) (mt : mayT t = true) (hn : 0 ≤ n) (hf : 0 ≤ fiL A t) :
    Calls Try.prog 24 #[.agg #[.slice p T.length c], .slice q t.length d, .int .i64 n] w fun e w' => ∃ p' c', e = .returned (.tuple #[.agg #[.slice p' 0 c'], .int .i64 5]) ∧ Below w.heap.size w w' := by
  have ht := mayT_len mt
  refine (put24 p T c q t d n w h.e h.n (lb_of_ri h.r.r) hT (by omega) _ (Nat.le_refl _)).mono ?_
  have hp : puE T t n = 5 := by
    unfold puE
    rw [riB_t h.r.r, if_pos rfl, if_pos mt, if_pos hn, h.r.a, if_pos hf]
  rw [hp]
  rintro e w' ⟨p', c', T', rfl, _, _, hno, hb⟩
  obtain rfl := hno (by decide)
  exact ⟨p', c', rfl, hb⟩
theorem find_yes (p : Option Addr) (T A : List En) (c : Nat) (q : Option Addr) (t : List Int) (d : Nat) (f : Int) (w : World) (h : LkW w p T A) (hT : TRow w.heap.size w q t d) (ht : t.length ≤ 1000) (hf : f = fiL A t) :
    Calls Try.prog 15 #[.agg #[.slice p T.length c], .slice q t.length d] w fun e w' => e = .returned (.tuple #[.int .i64 (max f 0), .bool (decide (0 ≤ f))]) ∧ Below w.heap.size w w' := by
  have hh := find15 p T c q t d w h.e (by have := h.n; omega) (lb_of_ri h.r.r) hT ht
  have e : fdN T t = f := by unfold fdN; rw [riB_t h.r.r, if_pos rfl, h.r.a, hf]
  rw [e] at hh
  exact hh
theorem many_yes (p : Option Addr) (T A : List En) (c : Nat) (w : World) (h : LkW w p T A) (m : Nat) (hm : m = A.length) :
    Calls Try.prog 14 #[.agg #[.slice p T.length c]] w fun e w' => e = .returned (.int .i64 (m : Int)) ∧ Below w.heap.size w w' := by
  have hh := many14 p T c w h.e (by have := h.n; omega) (lb_of_ri h.r.r)
  have e : maL T = m := by unfold maL; rw [riB_t h.r.r, if_pos rfl, hm, lkr_len h.r]
  rw [e] at hh
  exact hh
theorem lkr_new : LkR (frL 8) [] := ⟨ri_new ⟨0, rfl⟩, by unfold alL; simp [frL, usB]⟩
theorem new_lk (w : World) : Calls Try.prog 17 #[] w fun e w' => ∃ p' c', e = .returned (.agg #[.slice p' 8 c']) ∧ EFr w.heap.size w' p' (frL 8) c' ∧ LkW w' p' (frL 8) [] ∧ Below w.heap.size w w' :=
  (new17 w).mono fun e w' ⟨p', c', he, hE, hb⟩ => ⟨p', c', he, hE, ⟨hE.row, lkr_new, by simp [frL]⟩, hb⟩

/-- An id that a type may have. -/
structure CW (cW : Int) : Prop where
  m : mayT [cW] = true
  u : U64 [cW]
theorem may_0 : mayT [] = true := by decide +kernel
variable {cW : Int}
theorem row_c (hC : CW cW) (w : World) : TRow (w.alloc (.cells #[.int .u64 cW] 41)).heap.size (w.alloc (.cells #[.int .u64 cW] 41)) (some ⟨w.heap.size, 0, none⟩) [cW] 1 :=
  ⟨irow_heap (l := [cW]) .u64 (World.alloc_heap_new w _), by simp, hC.u⟩
theorem row_0 (w : World) : TRow w.heap.size w none [] 0 := ⟨IRow.nil, by decide, fun x hx => by simp at hx⟩
theorem wf2 : fiL [(1, [cW], 5)] [] = -1 := by unfold fiL; simp [fiL]
theorem wf3 : fiL [(1, [], 6), (1, [cW], 5)] [cW] = 5 := by simp [fiL]
theorem wk_put1 (hC : CW cW) (p : Option Addr) (c : Nat) (w : World) (h : LkW w p (frL 8) []) :
    Calls Try.prog 24 #[.agg #[.slice p 8 c], .slice (some ⟨w.heap.size, 0, none⟩) 1 1, .int .i64 5] (w.alloc (.cells #[.int .u64 cW] 41)) fun e w' => ∃ p' c' T', e = .returned (.tuple #[.agg #[.slice p' T'.length c'], .int .i64 0]) ∧ LkW w' p' T' [(1, [cW], 5)] ∧ T'.length ≤ 128 ∧ Below w.heap.size w w' := by
  have b1 : Below w.heap.size w (w.alloc (.cells #[.int .u64 cW] 41)) := (Below.refl _ _).alloc (Nat.le_refl _) _
  refine (put_yes p (frL 8) [] c _ [cW] 1 5 _ (h.alloc _) (row_c hC w) hC.m (by decide) rfl 16 (by decide)).mono ?_
  rintro e w' ⟨p', c', T', rfl, hE, hr, hl, hb⟩
  exact ⟨p', c', T', rfl, ⟨hE.row, hr, by omega⟩, by omega, b1.trans (hb.mono b1.size)⟩
theorem wk_put2 (p : Option Addr) (T : List En) (c : Nat) (w : World) (h : LkW w p T [(1, [cW], 5)]) (hl : T.length ≤ 128) :
    Calls Try.prog 24 #[.agg #[.slice p T.length c], .slice none 0 0, .int .i64 6] w fun e w' => ∃ p' c' T', e = .returned (.tuple #[.agg #[.slice p' T'.length c'], .int .i64 0]) ∧ LkW w' p' T' [(1, [], 6), (1, [cW], 5)] ∧ Below w.heap.size w w' := by
  refine (put_yes p T _ c none [] 0 6 _ h (row_0 w) may_0 (by decide) wf2 256 (by unfold enN; split <;> omega)).mono ?_
  rintro e w' ⟨p', c', T', rfl, hE, hr, hl, hb⟩
  exact ⟨p', c', T', rfl, ⟨hE.row, hr, by omega⟩, hb⟩
theorem wk_find (hC : CW cW) (p : Option Addr) (T : List En) (c : Nat) (w : World) (b : Nat) (hw : b = w.heap.size) (h : LkW w p T [(1, [], 6), (1, [cW], 5)]) :
    Calls Try.prog 15 #[.agg #[.slice p T.length c], .slice (some ⟨b, 0, none⟩) 1 1] (w.alloc (.cells #[.int .u64 cW] 41)) fun e w' => e = .returned (.tuple #[.int .i64 5, .bool true]) ∧ Below w.heap.size w w' := by
  subst hw
  have b1 : Below w.heap.size w (w.alloc (.cells #[.int .u64 cW] 41)) := (Below.refl _ _).alloc (Nat.le_refl _) _
  refine (find_yes p T _ c _ [cW] 1 5 _ (h.alloc _) (row_c hC w) (by simp) wf3.symm).mono ?_
  rintro e w' ⟨rfl, hb⟩
  exact ⟨rfl, b1.trans (hb.mono b1.size)⟩
theorem wk_put3 (hC : CW cW) (p : Option Addr) (T : List En) (c : Nat) (w : World) (b : Nat) (hw : b = w.heap.size) (h : LkW w p T [(1, [], 6), (1, [cW], 5)]) :
    Calls Try.prog 24 #[.agg #[.slice p T.length c], .slice (some ⟨b, 0, none⟩) 1 1, .int .i64 7] (w.alloc (.cells #[.int .u64 cW] 41)) fun e w' => ∃ p' c', e = .returned (.tuple #[.agg #[.slice p' 0 c'], .int .i64 5]) ∧ Below w.heap.size w w' := by
  subst hw
  have b1 : Below w.heap.size w (w.alloc (.cells #[.int .u64 cW] 41)) := (Below.refl _ _).alloc (Nat.le_refl _) _
  refine (put_there p T _ c _ [cW] 1 7 _ (h.alloc _) (row_c hC w) hC.m (by decide) (by rw [wf3]; decide)).mono ?_
  rintro e w' ⟨p', c', rfl, hb⟩
  exact ⟨p', c', rfl, b1.trans (hb.mono b1.size)⟩
theorem Boxed.stays {W W' : World} {B : Nat} {t : TypeId} {v : Value} (h : Boxed W B t v) (hb : Below W.heap.size W W') : Boxed W' B t v := (hb.block B h.lt).trans h
theorem fd24 (v : Value) (w : World) : (Instr.field 24 (.agg #[v]) 0).run Try.prog w = .ok v w := by kernel_rfl
theorem box_at (w : World) (v : Value) (t : TypeId) : (w.alloc (.cells #[v] t)).cell? ⟨w.heap.size, 0, none⟩ = some v := World.cell?_alloc_at _ _ _ _ rfl
set_option maxRecDepth 20000 in
set_option maxHeartbeats 2000000 in
theorem wakes7 (w : World) : Calls Try.prog 7 #[] w fun e w' => e = .returned (.bool true) ∧ Below w.heap.size w w' := by
  obtain ⟨cW, hcW⟩ : ∃ cW : Int, cW = 4611686018427387905 := ⟨_, rfl⟩
  have M1 := fun (W : World) => made_com 1 W (by decide) (by decide)
  have e1 : (4611686018427387904 : Int) + 1 = cW := by rw [hcW]; rfl
  rw [e1] at M1
  have HC : Hid (CW cW) := ⟨by rw [hcW]; decide +kernel, by rw [hcW]; intro x hx; simp at hx; omega⟩
  clear hcW e1
  have bal : ∀ (W : World) (o : Obj), Below W.heap.size W (W.alloc o) := fun W o => (Below.refl _ _).alloc (Nat.le_refl _) o
  have HA := hidOg bal
  have fd := fd24
  clear bal
  go_enter Try.func7, Try.ntmps7
  go_wp2_with (first
    | (go_at_call 31; refine Calls.mono (M1 _) ?_; rintro e w1 ⟨rfl, hw⟩; rw [hw]; clear hw w1)
    | (go_at_call 17; refine Calls.mono (new_lk _) ?_; rintro e w1 ⟨p1, c1, rfl, hE1, hL1, hb1⟩; have HL1 := hidOg hL1; have HB1 := hidOg hb1; clear hE1 hL1 hb1)
    | (go_at_call_has 24 (5 : Int); refine Calls.mono (wk_put1 HC.out _ _ _ HL1.out) ?_; rintro e w2 ⟨p2, c2, T2, rfl, hL2, hl2, hb2⟩; have HL2 := hidOg hL2; have HB2 := hidOg (HB1.out.trans (hb2.mono HB1.out.size)); clear hL2 hb2)
    | (go_at_call_has 24 (6 : Int); refine Calls.mono (wk_put2 _ _ _ _ (HL2.out.alloc _) hl2) ?_; rintro e w3 ⟨p3, c3, T3, rfl, hL3, hb3⟩; have HL3 := hidOg hL3; have HB3 := hidOg (HB2.out.trans (((HA.out _ _).trans (hb3.mono (HA.out _ _).size)).mono HB2.out.size)); clear hL3 hb3)
    | (go_at_call 15; refine Calls.mono (wk_find HC.out _ _ _ _ _ (World.size_alloc _ _).symm (HL3.out.alloc _)) ?_; rintro e w4 ⟨rfl, hb4⟩; have x4 := Boxed.stays (Boxed.new w3 24 (.slice p3 T3.length c3)) hb4; have HL4 := hidOg ((HL3.out.alloc _).to hb4); have HB4 := hidOg (HB3.out.trans (((HA.out _ _).trans (hb4.mono (HA.out _ _).size)).mono HB3.out.size)); have y4 := Boxed.cell x4; clear hb4)
    | (go_at_call_has 24 (7 : Int); refine Calls.mono (wk_put3 HC.out _ _ _ _ _ rfl HL4.out) ?_; rintro e w5 ⟨p5, c5, rfl, hb5⟩; have x5 := Boxed.stays x4 hb5; have HL5 := hidOg (HL4.out.to hb5); have HB5 := hidOg (HB4.out.trans (hb5.mono HB4.out.size)); have y5 := Boxed.cell (Boxed.alloc x5 (.cells #[.slice p5 0 c5] 24)); clear hb5)
    | (go_at_call 14; refine Calls.mono (many_yes _ _ _ _ _ (HL5.out.alloc _) 2 rfl) ?_; rintro e w6 ⟨rfl, hb6⟩; have HB6 := hidOg (HB5.out.trans (((HA.out _ _).trans (hb6.mono (HA.out _ _).size)).mono HB5.out.size)); clear hb6))
  go_ret
  exact ⟨rfl, HB6.out.trans (HB1.out.mono HB6.out.size)⟩
end Go.Proofs.Ytjnhalomkmdcgaa
