/- LookupGoes: the walk. -/
import Derived.Test.YtjnhalomkmdcgaaLvF
import Derived.Deep.CutRange
import Derived.Deep.CutBlock
namespace Go.Proofs.Ytjnhalomkmdcgaa
open Go.RowKit

/-- What a step comes to: the error. -/
def oE (r : Bool) (A : List En) (drop : Bool) (t : List Int) (n : Int) : Int :=
  if r then (if drop then (if 0 ≤ fiL A t then 0 else 4) else if mayT t then (if 0 ≤ n then (if 0 ≤ fiL A t then 5 else 0) else 2) else 130) else 170
/-- What a step comes to: the entries. -/
def oW (A : List En) (drop : Bool) (t : List Int) (n : Int) : List En := if drop then woL A t else wiL cmpL A (1, t, n)
/-- What is known of the lookup that has been come to, after k steps. -/
structure GoT (L0 : List En) (r : Bool) (k : Nat) (T A : List En) : Prop where
  n : T.length ≤ 256
  lb : LB T
  yes : r = true → LkR T A ∧ A.length ≤ 96 + k
  no : r = false → riB T = false ∧ A = []
theorem got_start {L0 : List En} (h : L0.length ≤ 130) (hlb : LB L0) : GoT L0 (riB L0) 0 L0 (alO L0) := by
  refine ⟨by omega, hlb, fun hr => ?_, fun hr => ?_⟩
  · have hri := riB_of hr
    have e : alO L0 = alL cmpL L0 := by unfold alO; rw [hr]; rfl
    have hk : LkR L0 (alO L0) := ⟨hri, e.symm⟩
    refine ⟨hk, ?_⟩
    have h1 := lkr_len hk
    have h2 := taK_us L0
    have h3 := hri.q3
    have h4 := pw_le hri.pw h
    omega
  · exact ⟨hr, by unfold alO; rw [hr]; rfl⟩
theorem pw_256 {m : Nat} (h : ∃ e, m = 8 * 2 ^ e) (hm : m ≤ 256) : m = 256 ∨ m ≤ 128 := by
  obtain ⟨e, rfl⟩ := h
  have h5 : e ≤ 5 := by
    refine Classical.byContradiction fun hn => ?_
    have h1 : (2 : Nat) ^ 6 ≤ 2 ^ e := Nat.pow_le_pow_right (by omega) (by omega)
    omega
  by_cases h : e = 5
  · subst h; exact .inl rfl
  · have h1 : (2 : Nat) ^ e ≤ 2 ^ 4 := Nat.pow_le_pow_right (by omega) (by omega)
    exact .inr (by omega)
theorem en_256 {T A : List En} (h : LkR T A) (h1 : T.length ≤ 256) (h2 : A.length ≤ 110) : enN T.length (A.length + 1) ≤ 256 := by
  unfold enN
  rcases pw_256 h.r.pw h1 with e | e
  · rw [e]; rw [if_pos (by omega)]; exact Nat.le_refl _
  · split <;> omega
/-- A call that answers a lookup, as a step wants it. -/
def AnsS (er : Int) (A : List En) (w : World) (e : Ending) (w' : World) : Prop :=
  ∃ (p' : Option Addr) (c' : Nat) (T' : List En), e = .returned (.tuple #[.agg #[.slice p' T'.length c'], .int .i64 er]) ∧ (ERow w'.heap.size w' p' T' ∧ T'.length ≤ c') ∧ (er = 0 → LkR T' A ∧ T'.length ≤ 256) ∧ (er ≠ 0 → T' = []) ∧ Below w.heap.size w w'
theorem step_drop {L0 T A : List En} {r : Bool} {k : Nat} (h : GoT L0 r k T A) (p : Option Addr) (c : Nat) (q : Option Addr) (t : List Int) (d : Nat) (n : Int) (w : World) (hE : ERow w.heap.size w p T) (hT : TRow w.heap.size w q t d) (ht : t.length ≤ 1000) :
    Calls Try.prog 23 #[.agg #[.slice p T.length c], .slice q t.length d] w fun e w' => AnsS (oE r A true t n) (oW A true t n) w e w' := by
  refine (drop23 p T c q t d w hE (by have := h.n; omega) h.lb hT ht).mono ?_
  rintro e w' ⟨p', c', T', rfl, hE', hy, hno, hb⟩
  cases r
  · have h1 := (h.no rfl).1
    have e1 : drE T t = 170 := by unfold drE; rw [h1]; rfl
    have e2 : oE false A true t n = 170 := rfl
    rw [e2]
    rw [e1] at hy hno ⊢
    exact ⟨p', c', T', rfl, ⟨hE'.row, hE'.room⟩, fun e => absurd e (by decide), hno, hb⟩
  · obtain ⟨h1, _⟩ := h.yes rfl
    have e1 : drE T t = oE true A true t n := by unfold drE oE; rw [riB_t h1.r, h1.a]; rfl
    rw [e1, h1.a] at hy
    rw [e1] at hno ⊢
    exact ⟨p', c', T', rfl, ⟨hE'.row, hE'.room⟩, fun e => ⟨(hy e).1, Nat.le_trans (hy e).2 h.n⟩, hno, hb⟩
theorem step_put {L0 T A : List En} {r : Bool} {k : Nat} (h : GoT L0 r k T A) (hk : k ≤ 14) (p : Option Addr) (c : Nat) (q : Option Addr) (t : List Int) (d : Nat) (n : Int) (w : World) (hE : ERow w.heap.size w p T) (hT : TRow w.heap.size w q t d) (ht : t.length ≤ 1000) :
    Calls Try.prog 24 #[.agg #[.slice p T.length c], .slice q t.length d, .int .i64 n] w fun e w' => AnsS (oE r A false t n) (oW A false t n) w e w' := by
  refine (put24 p T c q t d n w hE h.n h.lb hT ht _ (Nat.le_refl _)).mono ?_
  rintro e w' ⟨p', c', T', rfl, hE', hy, hno, hb⟩
  cases r
  · have h1 := (h.no rfl).1
    have e1 : puE T t n = 170 := by unfold puE; rw [h1]; rfl
    have e2 : oE false A false t n = 170 := rfl
    rw [e2]
    rw [e1] at hy hno ⊢
    exact ⟨p', c', T', rfl, ⟨hE'.row, hE'.room⟩, fun e => absurd e (by decide), hno, hb⟩
  · obtain ⟨h1, h2⟩ := h.yes rfl
    have h3 := lkr_len h1
    have e1 : puE T t n = oE true A false t n := by
      unfold puE oE
      rw [riB_t h1.r, h1.a, if_pos rfl, if_pos rfl, if_neg (show ¬ (false = true) by decide)]
      split
      · split
        · split
          · rfl
          · rw [if_neg (by omega)]
        · rfl
      · rfl
    rw [e1, h1.a] at hy
    rw [e1] at hno ⊢
    refine ⟨p', c', T', rfl, ⟨hE'.row, hE'.room⟩, fun e => ⟨(hy e).1, Nat.le_trans (hy e).2 ?_⟩, hno, hb⟩
    rw [← h3]
    exact en_256 h1 h.n (by omega)
theorem woL_len (A : List En) (t : List Int) : (woL A t).length ≤ A.length := List.length_filter_le _ _
/-- A step more. -/
theorem GoT.next {L0 T A T' : List En} {r : Bool} {k : Nat} (h : GoT L0 r k T A) {drop : Bool} {t : List Int} {n : Int} (h0 : oE r A drop t n = 0) (hr : LkR T' (oW A drop t n)) (hn : T'.length ≤ 256) : GoT L0 r (k + 1) T' (oW A drop t n) := by
  refine ⟨hn, lb_of_ri hr.r, fun e => ⟨hr, ?_⟩, fun e => ?_⟩
  · have h1 := (h.yes e).2
    unfold oW
    cases drop
    · simp only [Bool.false_eq_true, if_false, wiL_len]; omega
    · simp only [if_true]; have := woL_len A t; omega
  · rw [e] at h0; exact absurd h0 (by unfold oE; simp)
theorem GoT.stay {L0 T A : List En} {r : Bool} {k : Nat} (h : GoT L0 r k T A) : GoT L0 r (k + 1) T A := ⟨h.n, h.lb, fun e => ⟨(h.yes e).1, by have := (h.yes e).2; omega⟩, h.no⟩
/-- Slots stay, where a box that holds a slice is written. -/
theorem ERow.box {N : Nat} {w : World} {p : Option Addr} {L : List En} (h : ERow N w p L) {B t n m : Nat} {a : Option Addr} (hx : Boxed w B t (.slice a n m)) (u : Value) : ERow N (w.setCell ⟨B, 0, none⟩ u) p L := by
  intro h0
  obtain ⟨b, off, rfl, hN, hc⟩ := h h0
  have hne : b ≠ B := fun e => by
    have h1 := (hc 0 h0).1
    subst e
    have h2 : w.heap[b]? = some (.cells #[.slice a n m] t (0, 0)) := hx
    simp only [World.cell?, h2] at h1
    simp at h1
    obtain ⟨h4, h5⟩ := List.getElem?_eq_some_iff.1 h1
    have h6 : off = 0 := by simpa using h4
    subst h6
    simp at h5
  have key : ∀ o, (w.setCell ⟨B, 0, none⟩ u).cell? ⟨b, o, none⟩ = w.cell? ⟨b, o, none⟩ := fun o => cell_heap (heap_setCell_other w ⟨B, 0, none⟩ b u hne) o
  refine ⟨b, off, rfl, hN, fun k hk => ?_⟩
  obtain ⟨c0, ⟨q, c, c1, ht⟩, c2⟩ := hc k hk
  exact ⟨(key _).trans c0, ⟨q, c, (key _).trans c1, ht.box hx u⟩, (key _).trans c2⟩
theorem heap3_cell46 {W : World} {B : Nat} {a b c : Value} {t : TypeId} (h : W.heap[B]? = some (.cells #[a, b, c] t (0, 0))) : W.cell? ⟨B, 0, none⟩ = some a ∧ W.cell? ⟨B, 1, none⟩ = some b ∧ W.cell? ⟨B, 2, none⟩ = some c :=
  ⟨by simp [World.cell?, h], by simp [World.cell?, h], by simp [World.cell?, h]⟩
set_option maxRecDepth 20000 in
set_option maxHeartbeats 8000000 in
theorem goes_walk (p : Option Addr) (L : List En) (c : Nat) (ps : Option Addr) (S : List Stp) (cs : Nat) (w : World) (hE : ERow w.heap.size w p L) (hl : L.length ≤ maxLen) (hS : PRow w.heap.size w ps S) (hsl : S.length ≤ maxLen) :
    Calls Try.prog 4 #[.agg #[.slice p L.length c], .slice ps S.length cs] w fun e w' => e = .returned (.bool true) ∧ Below w.heap.size w w' := by
  unfold maxLen at hsl
  have CW := fun (W : World) => wakes7 W
  have CO := fun (W : World) (hb : Below w.heap.size w W) => own8 p L c W (hE.to hb) hl
  have HSS := hidOg hS
  obtain ⟨L0, hL0⟩ : ∃ L0, L0 = ownL L := ⟨_, rfl⟩
  have h130 : L0.length ≤ 130 := by rw [hL0]; exact ownL_len L
  have hlb : LB L0 := by
    rw [hL0]
    intro k hk
    have := ownL_lb L k hk; omega
  have HG0 := hidOg (got_start h130 hlb)
  rw [← hL0] at CO
  obtain ⟨m, hm⟩ : ∃ m, m = L.length := ⟨_, rfl⟩
  obtain ⟨ns, hns⟩ : ∃ ns, ns = S.length := ⟨_, rfl⟩
  have HNS := hidOg hns
  rw [← hm] at CO ⊢
  rw [← hns] at hsl ⊢
  have X0 := hidOg (Boxed.new w 24 (.slice p m c))
  have HBw := hidOg (bal_lt (w := w) (.cells #[.slice p m c] 24) (Nat.le_refl _))
  have CR := fun (p1 : Option Addr) (c1 : Nat) (W : World) (h : ERow W.heap.size W p1 L0) (hc : L0.length ≤ c1) => right9 p1 L0 c1 W h (by omega) hc hlb
  obtain ⟨r, hr⟩ : ∃ r, r = riB L0 := ⟨_, rfl⟩
  rw [← hr] at CR HG0
  clear hE hl hS hL0 hm hns hr h130 hlb
  have HA := hidOg (fun (W : World) (o : Obj) => (Below.refl W.heap.size W).alloc (Nat.le_refl _) o)
  go_enter Try.func4, Try.ntmps4
  go_wp2_with (first
    | (go_at_call 7; refine Calls.mono (CW _) ?_; clear CW; rintro e w1 ⟨rfl, hb1⟩; have x1 := Boxed.cell (Boxed.stays X0.out hb1); have HB1 := hidOg (HBw.out.trans (hb1.mono HBw.out.size)); clear hb1)
    | (go_at_call 8; refine Calls.mono (CO _ HB1.out) ?_; clear CO; rintro e w2 ⟨p2, c2, rfl, hE2, hb2⟩; have HSz : Hid (w.heap.size ≤ w2.heap.size) := (Nat.le_trans HB1.out.size hb2.size); have HR2 := hidOg hE2.room; have HE2 := hidOg (hE2.row.to (HA.out w2 (.cells #[.slice p2 L0.length c2] 24))); have X2 := hidOg (Boxed.new w2 24 (.slice p2 L0.length c2)); have HB2 := hidOg ((HB1.out.trans (hb2.mono HB1.out.size)).trans ((HA.out w2 (.cells #[.slice p2 L0.length c2] 24)).mono (Nat.le_trans HB1.out.size hb2.size))); clear hE2 hb2)
    | (go_at_call 9; refine Calls.mono (CR _ _ _ HE2.out HR2.out) ?_; clear CR; rintro e w3 ⟨rfl, hb3⟩; have X3 := hidOg (Boxed.stays X2.out hb3); have HE3 := hidOg (HE2.out.to hb3); have HB3 := hidOg (HB2.out.trans (hb3.mono HB2.out.size)); clear hb3))
  generalize w2.heap.size = Ba at X3 HSz ⊢
  clear HR2 HE2 X2 HB2 X0 HBw HB1 x1
  go_loopw [25] (fun i wr => ∃ (k : Nat) (T A : List En) (pT : Option Addr) (cT : Nat), k ≤ ns ∧ k ≤ 14 ∧ i = .int .i64 k ∧ GoT L0 r k T A ∧ Boxed wr Ba 24 (.slice pT T.length cT) ∧ ERow wr.heap.size wr pT T ∧ Below w.heap.size w wr) (fun i _ => ns - (intOf i).toNat)
  case atStart => exact ⟨0, L0, alO L0, p2, c2, Nat.zero_le _, Nat.zero_le _, rfl, HG0.out, X3.out, HE3.out, HB3.out⟩
  case round =>
    obtain ⟨k, T, A, pT, cT, hk, hk14, rfl, hG, hX, hE, hB⟩ := hrel
    have HG := hidOg hG
    have HX := hidOg hX
    have HE := hidOg hE
    have HB := hidOg hB
    clear hG hX hE X3 HE3 HB3 HG0
    by_cases hlt : k < ns
    · obtain ⟨b, off, rfl, hbN, hcs⟩ := HSS.out (by rw [← HNS.out]; omega)
      obtain ⟨k0, ⟨qs, cs', k1, hTs⟩, k2⟩ := hcs k (by rw [← HNS.out]; exact hlt)
      have k0' := (hB.cell (p := ⟨b, off + k * 3, none⟩) hbN).trans k0
      have k1' := (hB.cell (p := ⟨b, off + k * 3 + 1, none⟩) hbN).trans k1
      have k2' := (hB.cell (p := ⟨b, off + k * 3 + 2, none⟩) hbN).trans k2
      obtain ⟨y, hy⟩ : ∃ y, y = sG S k := ⟨_, rfl⟩
      rw [← hy] at k0' k1' k2' hTs
      obtain ⟨dr, ts, num⟩ := y
      simp only at k0' k1' k2'
      obtain ⟨lt, hlt0⟩ : ∃ lt, lt = ts.length := ⟨_, rfl⟩
      rw [← hlt0] at k1'
      by_cases h14 : k = 14
      · have e14 : ((k : Int) == 14) = true := by simp; omega
        clear hcs k0 k1 k2 hy hTs hlt0 h14 hB
        go_wp2
        go_ret
        exact ⟨rfl, HB.out.trans (bal_lt _ HB.out.size)⟩
      · have e14 : ((k : Int) == 14) = false := by simp; omega
        have hk13 : k < 14 := by omega
        obtain ⟨lk, hlk⟩ : ∃ lk, lk = (ts.take 14).length := ⟨_, rfl⟩
        have hmin : min (lt : Int) 14 = (lk : Int) := by rw [hlk, hlt0]; simp; omega
        have hmin2 : (if 14 < (lt : Int) then 14 else (lt : Int)) = (lk : Int) := by rw [hlk, hlt0]; simp; split <;> omega
        have hkc : (lk : Int) ≤ (cs' : Int) := by have := hTs.r; rw [hlk]; simp only [List.length_take]; simp only at this; omega
        have hk0 : (0 : Int) ≤ (lk : Int) := by omega
        have hlk14 : lk ≤ 14 := by rw [hlk]; simp; omega
        have hTw : TRow wr.heap.size wr qs ts cs' := (hTs.below hB (Nat.le_refl _)).mono hB.size
        have CL := fun (W : World) (hb : Below wr.heap.size wr W) => clone18 pT T cT W (HE.out.to hb) (by have := HG.out.n; omega) HG.out.lb
        have CK := fun (W : World) (hb : Below wr.heap.size wr W) => clone19 qs (ts.take 14) cs' W ((hTw.to hb).take 14).i ((hTw.to hb).take 14).u (by omega)
        obtain ⟨t, ht⟩ : ∃ t, t = ts.take 14 := ⟨_, rfl⟩
        rw [← ht] at CK hlk
        rw [← hlk] at CK
        have HLK := hidOg hlk
        have x1 := HX.out.cell
        have Hb0 := hidOg (bal_lt (w := wr) (.cells #[.bool dr, .slice qs lt cs', .int .i64 num] 46) (Nat.le_refl _))
        have X8 : Hid ((wr.alloc (.cells #[.bool dr, .slice qs lt cs', .int .i64 num] 46)).heap[wr.heap.size]? = some (.cells #[.bool dr, .slice qs lt cs', .int .i64 num] 46 (0, 0))) := World.alloc_heap_new wr _
        have xa := Boxed.cell (Boxed.stays HX.out Hb0.out)
        clear hcs k0 k1 k2 hy hTs hlt0 hlk ht h14 hB hTw x1
        go_upto_if 42 with (first
          | (go_at_call 18; refine Calls.mono (CL _ Hb0.out) ?_; clear CL; rintro e w4 ⟨pW, cW, rfl, hEW, hb4⟩; have HW := hidOg (hEW.to (HA.out w4 (.cells #[.slice pW T.length cW] 24))); have X9 := hidOg (Boxed.new w4 24 (.slice pW T.length cW)); have HB4 := hidOg (hb4.trans ((HA.out w4 (.cells #[.slice pW T.length cW] 24)).mono hb4.size)); have Hb4 := hidOg (Hb0.out.trans (HB4.out.mono Hb0.out.size)); obtain ⟨_, s1, _⟩ := heap3_cell46 ((HB4.out.block wr.heap.size (by simp)).trans X8.out); clear hEW hb4)
          | (go_at_call 19; refine Calls.mono (CK _ Hb4.out) ?_; clear CK; rintro e w5 ⟨qt, ct, rfl, hO5, hb5⟩; have HT5 := hidOg hO5.row; have HW5 := hidOg (HW.out.to hb5); have X95 := hidOg (Boxed.stays X9.out hb5); have Hb5 := hidOg (Hb4.out.trans (hb5.mono Hb4.out.size)); have X85 : Hid (w5.heap[wr.heap.size]? = some (.cells #[.bool dr, .slice qs lt cs', .int .i64 num] 46 (0, 0))) := ((hb5.block wr.heap.size (Nat.lt_of_lt_of_le (by simp) HB4.out.size)).trans ((HB4.out.block wr.heap.size (by simp)).trans X8.out)); clear hO5 hb5))
        have K : Hid (∀ W, Below w5.heap.size w5 W → (W.cell? ⟨Ba, 0, none⟩ = some (.slice pT T.length cT) ∧ W.cell? ⟨w4.heap.size, 0, none⟩ = some (.slice pW T.length cW) ∧ W.cell? ⟨wr.heap.size, 0, none⟩ = some (.bool dr) ∧ W.cell? ⟨wr.heap.size, 2, none⟩ = some (.int .i64 num)) ∧ (ERow W.heap.size W pT T ∧ ERow W.heap.size W pW T ∧ TRow W.heap.size W qt t ct) ∧ Below w.heap.size w W ∧ Boxed W Ba 24 (.slice pT T.length cT)) := fun W hb => by
          have h1 := Hb5.out.trans (hb.mono Hb5.out.size)
          obtain ⟨a0, _, a2⟩ := heap3_cell46 ((hb.block wr.heap.size (Array.getElem?_eq_some_iff.1 X85.out).1).trans X85.out)
          exact ⟨⟨Boxed.cell (Boxed.stays HX.out h1), Boxed.cell (Boxed.stays X95.out hb), a0, a2⟩, ⟨HE.out.to h1, HW5.out.to hb, HT5.out.to hb⟩, HB.out.trans (h1.mono HB.out.size), Boxed.stays HX.out h1⟩
        obtain ⟨y1, y9, y80, y82⟩ := (K.out _ (Below.refl _ _)).1
        have hrl : LB A ∧ A.length ≤ 110 := by
          have hg := HG.out
          cases r
          · rw [(hg.no rfl).2]; exact ⟨fun j hj => by simp at hj, by simp⟩
          · obtain ⟨h1, h2⟩ := hg.yes rfl
            refine ⟨?_, by omega⟩
            have := alO_lb hg.lb
            rwa [alO_of h1] at this
        have HAL := hidOg hrl
        have ha110 := hrl.2
        clear hrl Hb0 X8 xa HW X9 HB4 Hb4 s1 HT5 HW5 X95 Hb5 X85 HX HE HB k0' k1' k2'
        go_cut [11, 25] from 25 to 135 (fun a i wx => ∃ (qa : Option Addr) (ca : Nat), a = .slice qa A.length ca ∧ i = .int .i64 k ∧ ERow wx.heap.size wx qa A ∧ Below w5.heap.size w5 wx)
        case first =>
          cases r
          · have h0 : Hid (A = []) := (HG.out.no rfl).2
            have e0 : (A.length : Int) = 0 := by rw [h0.out]; rfl
            go_wp2
            go_meet
            case rel => exact ⟨none, 0, by rw [h0.out]; rfl, rfl, by rw [h0.out]; exact ERow.nil, Below.refl _ _⟩
          · have CA := all10 pT T cT w5 (K.out _ (Below.refl _ _)).2.1.1 (by have := HG.out.n; omega) HG.out.lb
            rw [(HG.out.yes rfl).1.a] at CA
            go_wp2_with (first | (go_at_call 10; refine Calls.mono CA ?_; clear CA; rintro e w6 ⟨qa, ca, rfl, hEa, hb6⟩; have HEa := hidOg hEa; have HB6 := hidOg hb6; clear hEa hb6))
            go_meet
            case rel => exact ⟨qa, ca, rfl, rfl, HEa.out, HB6.out⟩
        case rest =>
          obtain ⟨qa, ca, rfl, rfl, hEa, hb6⟩ := hcut
          have HEa := hidOg hEa
          have K6 : Hid (∀ W, Below wc.heap.size wc W → (W.cell? ⟨Ba, 0, none⟩ = some (.slice pT T.length cT) ∧ W.cell? ⟨w4.heap.size, 0, none⟩ = some (.slice pW T.length cW) ∧ W.cell? ⟨wr.heap.size, 0, none⟩ = some (.bool dr) ∧ W.cell? ⟨wr.heap.size, 2, none⟩ = some (.int .i64 num)) ∧ (ERow W.heap.size W pT T ∧ ERow W.heap.size W pW T ∧ TRow W.heap.size W qt t ct) ∧ Below w.heap.size w W ∧ Boxed W Ba 24 (.slice pT T.length cT)) := fun W hb => K.out W (hb6.trans (hb.mono hb6.size))
          obtain ⟨w6, hw6⟩ : ∃ w6, w6 = wc := ⟨_, rfl⟩
          rw [← hw6] at HEa K6 ⊢
          clear hEa hb6 y1 y9 y80 y82 K hw6 wc
          obtain ⟨⟨y1, y9, y80, y82⟩, ⟨_, _, hTt⟩, _⟩ := K6.out _ (Below.refl _ _)
          have CF := find16 qa A ca qt t ct w6 HEa.out (by omega) HAL.out.1 hTt (by rw [← HLK.out]; omega)
          obtain ⟨f, hf⟩ : ∃ f, f = fiL A t := ⟨_, rfl⟩
          have HFf := hidOg hf
          rw [← hf, ← HLK.out] at CF
          obtain ⟨la, hla⟩ : ∃ la, la = A.length := ⟨_, rfl⟩
          have HLa := hidOg hla
          rw [← hla] at CF ha110 ⊢
          clear hTt hf hla
          go_upto_block 2 with (first
            | (go_at_call 16; refine Calls.mono CF ?_; clear CF; rintro e w7 ⟨rfl, hb7⟩; have HEa7 := hidOg (HEa.out.to hb7); have HB7 := hidOg hb7; obtain ⟨⟨y1, y9, y80, y82⟩, _⟩ := K6.out _ hb7; clear hb7))
          obtain ⟨er, her⟩ : ∃ er, er = oE r A dr t num := ⟨_, rfl⟩
          have HER := hidOg her
          obtain ⟨AW, hAW⟩ : ∃ AW, AW = if er = 0 then oW A dr t num else [] := ⟨_, rfl⟩
          have HAW : Hid (er = 0 → oW A dr t num = AW) := fun e => by rw [hAW, if_pos e]
          have HAN : Hid (er ≠ 0 → AW = []) := fun e => by rw [hAW, if_neg e]
          clear her hAW
          go_cut [12, 14, 25] from 25 to 135 (fun wv no i wx => ∃ (qw : Option Addr) (cw : Nat), wv = .slice qw AW.length cw ∧ no = .int .i64 er ∧ i = .int .i64 k ∧ ERow wx.heap.size wx qw AW ∧ Below w7.heap.size w7 wx)
          case first =>
            obtain ⟨_, ⟨_, _, hT7⟩, _⟩ := K6.out _ HB7.out
            have FIN : Hid (∀ e0 : Int, er = e0 → e0 ≠ 0 → ∃ (qw : Option Addr) (cw : Nat), Value.slice none 0 0 = .slice qw AW.length cw ∧ ERow w7.heap.size w7 qw AW) := fun e0 he hne => by
              have e1 := HAN.out (by rw [he]; exact hne)
              exact ⟨none, 0, by rw [e1]; rfl, by rw [e1]; exact ERow.nil⟩
            cases r
            · have E : Hid (er = 170) := by unfold Hid; rw [HER.out]; rfl
              clear hT7
              go_wp2
              go_meet
              case rel => obtain ⟨a, b, h1, h2⟩ := FIN.out _ E.out (by decide); exact ⟨a, b, h1, by rw [E.out], rfl, h2, Below.refl _ _⟩
            · by_cases hf0 : f < 0
              · have hf1 : ¬ (0 : Int) ≤ f := by omega
                have HF1 := hidOg hf1
                cases dr
                · cases hmt : mayT t
                  · have E : Hid (er = 130) := by unfold Hid; rw [HER.out]; unfold oE; rw [hmt]; rfl
                    have CR := right12 qt t ct w7 hT7.i hT7.u (by rw [← HLK.out]; omega)
                    rw [hmt, ← HLK.out] at CR
                    clear hT7 hmt
                    go_wp2_with (first | (go_at_call 21; refine Calls.mono CR ?_; clear CR; rintro e w8 ⟨rfl, hw8⟩; rw [hw8]; clear hw8 w8))
                    go_meet
                    case rel => obtain ⟨a, b, h1, h2⟩ := FIN.out _ E.out (by decide); exact ⟨a, b, h1, by rw [E.out], rfl, h2, Below.refl _ _⟩
                  · have CR := right12 qt t ct w7 hT7.i hT7.u (by rw [← HLK.out]; omega)
                    rw [hmt, ← HLK.out] at CR
                    by_cases hn0 : num < 0
                    · have E : Hid (er = 2) := by unfold Hid; rw [HER.out]; unfold oE; rw [hmt, if_pos rfl, if_neg (by decide), if_pos rfl, if_neg (by omega)]
                      clear hT7 hmt
                      go_wp2_with (first | (go_at_call 21; refine Calls.mono CR ?_; clear CR; rintro e w8 ⟨rfl, hw8⟩; rw [hw8]; clear hw8 w8))
                      go_meet
                      case rel => obtain ⟨a, b, h1, h2⟩ := FIN.out _ E.out (by decide); exact ⟨a, b, h1, by rw [E.out], rfl, h2, Below.refl _ _⟩
                    · have E : Hid (er = 0) := by
                        unfold Hid; rw [HER.out]; unfold oE
                        rw [hmt, if_pos rfl, if_neg (by decide), if_pos rfl, if_pos (by omega), if_neg (by rw [← HFf.out]; exact hf1)]
                      have CI := with22 qa A ca 1 num qt t ct w7 HEa7.out (by have := HLa.out; omega) HAL.out.1 hT7 (by rw [← HLK.out]; omega)
                      rw [show wiL cmpL A (1, t, num) = AW from HAW.out E.out, ← HLK.out, ← HLa.out] at CI
                      have h4000 : ((la : Int) == 4000) = false := by simp; omega
                      have hfe : ¬ f ≥ 0 := by omega
                      clear hT7 hmt
                      go_wp2_with (first | (go_at_call 21; refine Calls.mono CR ?_; clear CR; rintro e w8 ⟨rfl, hw8⟩; rw [hw8]; clear hw8 w8) | (go_at_call 22; refine Calls.mono CI ?_; clear CI; rintro e w8 ⟨q8, c8, rfl, hE8, hb8⟩; have HE8 := hidOg hE8; have HB8 := hidOg hb8; clear hE8 hb8))
                      go_meet
                      case rel => exact ⟨q8, c8, rfl, by rw [E.out], rfl, HE8.out, HB8.out⟩
                · have E : Hid (er = 4) := by
                    unfold Hid; rw [HER.out]; unfold oE
                    rw [if_pos rfl, if_pos rfl, if_neg (by rw [← HFf.out]; exact hf1)]
                  clear hT7
                  go_wp2
                  go_meet
                  case rel => obtain ⟨a, b, h1, h2⟩ := FIN.out _ E.out (by decide); exact ⟨a, b, h1, by rw [E.out], rfl, h2, Below.refl _ _⟩
              · have hf1 : (0 : Int) ≤ f := by omega
                have HF1 := hidOg hf1
                cases dr
                · cases hmt : mayT t
                  · have E : Hid (er = 130) := by unfold Hid; rw [HER.out]; unfold oE; rw [hmt]; rfl
                    have CR := right12 qt t ct w7 hT7.i hT7.u (by rw [← HLK.out]; omega)
                    rw [hmt, ← HLK.out] at CR
                    clear hT7 hmt
                    go_wp2_with (first | (go_at_call 21; refine Calls.mono CR ?_; clear CR; rintro e w8 ⟨rfl, hw8⟩; rw [hw8]; clear hw8 w8))
                    go_meet
                    case rel => obtain ⟨a, b, h1, h2⟩ := FIN.out _ E.out (by decide); exact ⟨a, b, h1, by rw [E.out], rfl, h2, Below.refl _ _⟩
                  · have CR := right12 qt t ct w7 hT7.i hT7.u (by rw [← HLK.out]; omega)
                    rw [hmt, ← HLK.out] at CR
                    by_cases hn0 : num < 0
                    · have E : Hid (er = 2) := by unfold Hid; rw [HER.out]; unfold oE; rw [hmt, if_pos rfl, if_neg (by decide), if_pos rfl, if_neg (by omega)]
                      clear hT7 hmt
                      go_wp2_with (first | (go_at_call 21; refine Calls.mono CR ?_; clear CR; rintro e w8 ⟨rfl, hw8⟩; rw [hw8]; clear hw8 w8))
                      go_meet
                      case rel => obtain ⟨a, b, h1, h2⟩ := FIN.out _ E.out (by decide); exact ⟨a, b, h1, by rw [E.out], rfl, h2, Below.refl _ _⟩
                    · have E : Hid (er = 5) := by
                        unfold Hid; rw [HER.out]; unfold oE
                        rw [hmt, if_pos rfl, if_neg (by decide), if_pos rfl, if_pos (by omega), if_pos (by rw [← HFf.out]; exact hf1)]
                      clear hT7 hmt
                      go_wp2_with (first | (go_at_call 21; refine Calls.mono CR ?_; clear CR; rintro e w8 ⟨rfl, hw8⟩; rw [hw8]; clear hw8 w8))
                      go_meet
                      case rel => obtain ⟨a, b, h1, h2⟩ := FIN.out _ E.out (by decide); exact ⟨a, b, h1, by rw [E.out], rfl, h2, Below.refl _ _⟩
                · have E : Hid (er = 0) := by
                    unfold Hid; rw [HER.out]; unfold oE
                    rw [if_pos rfl, if_pos rfl, if_pos (by rw [← HFf.out]; exact hf1)]
                  have CI := without20 qa A ca qt t ct w7 HEa7.out (by have := HLa.out; omega) HAL.out.1 hT7
                  rw [show woL A t = AW from HAW.out E.out, ← HLK.out, ← HLa.out] at CI
                  clear hT7
                  go_wp2_with (first | (go_at_call 20; refine Calls.mono CI ?_; clear CI; rintro e w8 ⟨q8, c8, rfl, hE8, hb8⟩; have HE8 := hidOg hE8; have HB8 := hidOg hb8; clear hE8 hb8))
                  go_meet
                  case rel => exact ⟨q8, c8, rfl, by rw [E.out], rfl, HE8.out, HB8.out⟩
          case rest =>
            obtain ⟨qw, cw, rfl, rfl, rfl, hEw, hb8⟩ := hcut
            have HEw := hidOg hEw
            have K8 : Hid (∀ W, Below wc.heap.size wc W → (W.cell? ⟨Ba, 0, none⟩ = some (.slice pT T.length cT) ∧ W.cell? ⟨w4.heap.size, 0, none⟩ = some (.slice pW T.length cW) ∧ W.cell? ⟨wr.heap.size, 0, none⟩ = some (.bool dr) ∧ W.cell? ⟨wr.heap.size, 2, none⟩ = some (.int .i64 num)) ∧ (ERow W.heap.size W pT T ∧ ERow W.heap.size W pW T ∧ TRow W.heap.size W qt t ct) ∧ Below w.heap.size w W ∧ Boxed W Ba 24 (.slice pT T.length cT)) := fun W hb => K6.out W (HB7.out.trans ((hb8.trans (hb.mono hb8.size)).mono HB7.out.size))
            obtain ⟨w8, hw8⟩ : ∃ w8, w8 = wc := ⟨_, rfl⟩
            rw [← hw8] at HEw K8 ⊢
            clear hEw hb8 y1 y9 y80 y82 K6 hw8 wc HEa HEa7 HB7
            have hba := bal_lt (w := w8) (.cells #[.slice none 0 0] 24) (Nat.le_refl _)
            have HBa := hidOg hba
            have X15 := hidOg (Boxed.new w8 24 (.slice none 0 0))
            obtain ⟨⟨y1, y9, y80, y82⟩, ⟨hT8, _, ht8⟩, _⟩ := K8.out _ hba
            have CD := fun (e : dr = true) => step_drop HG.out pT cT qt t ct num _ hT8 ht8 (by rw [← HLK.out]; omega)
            have CP := fun (e : dr = false) => step_put HG.out (by omega) pT cT qt t ct num _ hT8 ht8 (by rw [← HLK.out]; omega)
            rw [← HLK.out] at CD CP
            clear hba hT8 ht8
            go_upto_if 86 with fail
            go_cut [16, 25] from 25 to 135 (fun e16 i wx => ∃ (pn : Option Addr) (cn : Nat) (T' : List En), e16 = .int .i64 er ∧ i = .int .i64 k ∧ Boxed wx w8.heap.size 24 (.slice pn T'.length cn) ∧ (ERow wx.heap.size wx pn T' ∧ T'.length ≤ cn) ∧ (er = 0 → LkR T' AW ∧ T'.length ≤ 256) ∧ (er ≠ 0 → T' = []) ∧ Below w8.heap.size w8 wx)
            case first =>
              cases dr
              · have CP1 := CP rfl
                rw [← HER.out] at CP1
                clear CD CP
                go_wp2_with (first | (go_at_call 24; refine Calls.mono CP1 ?_; clear CP1; rintro e w9 ⟨pn, cn, T', rfl, hE9, hy9, hn9, hb9⟩; have x9 := Boxed.stays X15.out hb9; have z9 := Boxed.cell x9; have z9f := Boxed.frozen x9; have HX9 := hidOg x9; have HE9 := hidOg hE9; have HY9 := hidOg hy9; have HN9 := hidOg hn9; have HB9 := hidOg (HBa.out.trans (hb9.mono HBa.out.size)); clear hE9 hy9 hn9 hb9 x9))
                go_meet
                case rel => exact ⟨pn, cn, T', rfl, rfl, HX9.out.set _, ⟨by have := HE9.out.1.box HX9.out (.slice pn T'.length cn); simpa using this, HE9.out.2⟩, fun e => ⟨by rw [← HAW.out e]; exact (HY9.out e).1, (HY9.out e).2⟩, HN9.out, HB9.out.setCell (p := ⟨w8.heap.size, 0, none⟩) (Nat.le_refl _) _⟩
              · have CD1 := CD rfl
                rw [← HER.out] at CD1
                clear CD CP
                go_wp2_with (first | (go_at_call 23; refine Calls.mono CD1 ?_; clear CD1; rintro e w9 ⟨pn, cn, T', rfl, hE9, hy9, hn9, hb9⟩; have x9 := Boxed.stays X15.out hb9; have z9 := Boxed.cell x9; have z9f := Boxed.frozen x9; have HX9 := hidOg x9; have HE9 := hidOg hE9; have HY9 := hidOg hy9; have HN9 := hidOg hn9; have HB9 := hidOg (HBa.out.trans (hb9.mono HBa.out.size)); clear hE9 hy9 hn9 hb9 x9))
                go_meet
                case rel => exact ⟨pn, cn, T', rfl, rfl, HX9.out.set _, ⟨by have := HE9.out.1.box HX9.out (.slice pn T'.length cn); simpa using this, HE9.out.2⟩, fun e => ⟨by rw [← HAW.out e]; exact (HY9.out e).1, (HY9.out e).2⟩, HN9.out, HB9.out.setCell (p := ⟨w8.heap.size, 0, none⟩) (Nat.le_refl _) _⟩
            case rest =>
              obtain ⟨pn, cn, T', rfl, rfl, hx15, hEn, hy, hno, hb10⟩ := hcut
              have K10 : Hid (∀ W, Below wc.heap.size wc W → (W.cell? ⟨Ba, 0, none⟩ = some (.slice pT T.length cT) ∧ W.cell? ⟨w4.heap.size, 0, none⟩ = some (.slice pW T.length cW) ∧ W.cell? ⟨w8.heap.size, 0, none⟩ = some (.slice pn T'.length cn)) ∧ (ERow W.heap.size W pT T ∧ ERow W.heap.size W pW T ∧ ERow W.heap.size W pn T' ∧ ERow W.heap.size W qw AW) ∧ Below w.heap.size w W ∧ Boxed W Ba 24 (.slice pT T.length cT)) := fun W hb => by
                have h1 := hb10.trans (hb.mono hb10.size)
                obtain ⟨⟨a1, a2, _⟩, ⟨e1, e2, _⟩, h2, h3⟩ := K8.out W h1
                exact ⟨⟨a1, a2, Boxed.cell (Boxed.stays hx15 hb)⟩, ⟨e1, e2, hEn.1.to hb, HEw.out.to h1⟩, h2, h3⟩
              have CSm := fun (W : World) (h1 : ERow W.heap.size W pT T) (h2 : ERow W.heap.size W pW T) => same13 pT T cT pW T cW W h1 h2 HG.out.lb HG.out.lb (by have := HG.out.n; omega)
              simp only [eqL_t] at CSm
              obtain ⟨⟨y1, y9, y15⟩, ⟨_, _, hEn0, hEw0⟩, _⟩ := K10.out _ (Below.refl _ _)
              clear K8 HEw X15 HBa
              by_cases he : er = 0
              · have e0 : (er == 0) = true := by simp [he]
                have e0n : (er != 0) = false := by simp [he]
                have een : (er != er) = false := by simp
                have CY := says25 pn T' AW cn qw cw wc hEn0 hEn.2 (by have := (hy he).2; omega) (hy he).1 hEw0
                have HGn : Hid (GoT L0 r (k + 1) T' AW) := by
                  have h0 : oW A dr t num = AW := HAW.out he
                  have h1 := (hy he).1
                  rw [← h0] at h1
                  have := HG.out.next (by rw [← HER.out]; exact he) h1 (hy he).2
                  rw [h0] at this; exact this
                clear hx15 hEn hy hno hb10 hEn0 hEw0 he
                go_wp2_with (first
                  | (go_at_call 25; refine Calls.mono CY ?_; clear CY; rintro e w11 ⟨rfl, hb11⟩; have HB11 := hidOg hb11; obtain ⟨⟨y1, y9, y15⟩, _⟩ := K10.out _ hb11; clear hb11)
                  | (go_at_call 13; refine Calls.mono (CSm _ (K10.out _ HB11.out).2.1.1 (K10.out _ HB11.out).2.1.2.1) ?_; clear CSm; rintro e w12 ⟨rfl, hb12⟩; have HB12 := hidOg (HB11.out.trans (hb12.mono HB11.out.size)); obtain ⟨⟨y1, y9, y15⟩, _, _, hXa⟩ := K10.out _ HB12.out; have yf := hXa.frozen; clear hb12 hXa))
                go_roundw
                case rel =>
                  obtain ⟨_, ⟨_, _, hEn2, _⟩, hbw, hXa⟩ := K10.out _ HB12.out
                  exact ⟨k + 1, T', AW, pn, cn, by omega, by omega, by go_num, HGn.out, hXa.set _, by have := hEn2.box hXa (.slice pn T'.length cn); simpa using this, hbw.setCell (p := ⟨Ba, 0, none⟩) HSz.out _⟩
                case measure => simp [intOf]; omega
              · have e0 : (er == 0) = false := by simpa using he
                have e0n : (er != 0) = true := by simpa using he
                have een : (er != er) = false := by simp
                have hT0 := hno he
                subst hT0
                clear hx15 hEn hy hno hb10 hEn0 hEw0 he
                go_wp2_with (first
                  | (go_at_call 13; refine Calls.mono (CSm _ (K10.out _ (Below.refl _ _)).2.1.1 (K10.out _ (Below.refl _ _)).2.1.2.1) ?_; clear CSm; rintro e w12 ⟨rfl, hb12⟩; have HB12 := hidOg hb12; clear hb12))
                go_roundw
                case rel =>
                  obtain ⟨_, ⟨hEa, _⟩, hbw, hXa⟩ := K10.out _ HB12.out
                  exact ⟨k + 1, T, A, pT, cT, by omega, by omega, by go_num, HG.out.stay, hXa, hEa, hbw⟩
                case measure => simp [intOf]; omega
    · obtain rfl : k = ns := by omega
      clear hB
      go_wp2
      go_ret
      exact ⟨rfl, HB.out⟩
end Go.Proofs.Ytjnhalomkmdcgaa
