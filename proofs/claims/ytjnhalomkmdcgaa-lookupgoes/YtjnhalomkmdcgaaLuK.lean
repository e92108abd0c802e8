/- Drop, Put. -/
import Derived.Test.YtjnhalomkmdcgaaLuJ
import Derived.Deep.Cut
import Derived.Deep.RegionHeld3
import Derived.Deep.QuietTactic
import Derived.BigQuiet
import Derived.Deep.DeepCutAuto
namespace Go.Proofs.Ytjnhalomkmdcgaa
open Go.RowKit

/-- What Drop answers. -/
noncomputable def drE (L : List En) (t : List Int) : Int := if riB L then (if 0 ≤ fiL (alL cmpL L) t then 0 else 4) else 170
/-- What Put answers. -/
noncomputable def puE (L : List En) (t : List Int) (n : Int) : Int := if riB L then (if mayT t then (if 0 ≤ n then (if 0 ≤ fiL (alL cmpL L) t then 5 else if (L.filter usB).length = 4000 then 6 else 0) else 2) else 130) else 170
/-- A lookup that may be, and says so. -/
structure LkR (T' : List En) (A : List En) : Prop where
  r : RiL hsT mayT T'
  a : alL cmpL T' = A
theorem drop_says {L : List En} {i : Nat} (h : RiL hsT mayT L) (hi : i < L.length) (hu : (gE L i).1 = 1) : LkR (L.set i (2, [], 0)) (woL (alL cmpL L) (gE L i).2.1) :=
  ⟨h.drop hi hu, alL_drop isCmp h.dt (h.drop hi hu).dt (drop_mem hi h.dt hu)⟩
/-- A call that answers a lookup, or an error. -/
def AnsL (er : Int) (A : List En) (m : Nat) (w : World) (e : Ending) (w' : World) : Prop :=
  ∃ (p' : Option Addr) (c' : Nat) (T' : List En), e = .returned (.tuple #[.agg #[.slice p' T'.length c'], .int .i64 er]) ∧ EFr w.heap.size w' p' T' c' ∧ (er = 0 → LkR T' A ∧ T'.length ≤ m) ∧ (er ≠ 0 → T' = []) ∧ Below w.heap.size w w'
theorem ansL_no {er : Int} {A : List En} {m : Nat} {w w' : World} (h : er ≠ 0) (hb : Below w.heap.size w w') : AnsL er A m w (.returned (.tuple #[.agg #[.slice none 0 0], .int .i64 er])) w' :=
  ⟨none, 0, [], rfl, ⟨[], rfl, World.ownsRow_nil _ _ _ _, fun x hx => by simp at hx⟩, fun e => absurd e h, fun _ => rfl, hb⟩
set_option maxRecDepth 20000 in
set_option maxHeartbeats 2000000 in
theorem drop23 (p : Option Addr) (L : List En) (c : Nat) (q : Option Addr) (t : List Int) (d : Nat) (w : World) (hE : ERow w.heap.size w p L) (hm2 : L.length ≤ 512) (hB : LB L) (hT : TRow w.heap.size w q t d) (ht : t.length ≤ 1000) :
    Calls Try.prog 23 #[.agg #[.slice p L.length c], .slice q t.length d] w fun e w' => AnsL (drE L t) (woL (alL cmpL L) t) L.length w e w' := by
  have CM := fun (W : World) (hb : Below w.heap.size w W) => mayBe34 p L c W (hE.to hb) hm2 hB
  obtain ⟨wA, hA⟩ : ∃ wA, wA = (w.alloc (.cells #[.slice p L.length c] 24)).alloc (.cells #[.slice none 0 0] 24) := ⟨_, rfl⟩
  have bA : Below w.heap.size w wA := by rw [hA]; exact ((Below.refl _ _).alloc (Nat.le_refl _) _).alloc (by simp) _
  have sA : wA.heap.size = w.heap.size + 2 := by rw [hA]; simp
  have x0 : Boxed wA w.heap.size 24 (.slice p L.length c) := by rw [hA]; exact (Boxed.new w 24 _).alloc _
  have x1 : Boxed wA (w.heap.size + 1) 24 (.slice none 0 0) := by
    have := Boxed.new (w.alloc (.cells #[.slice p L.length c] 24)) 24 (.slice none 0 0); rw [World.size_alloc] at this; rw [hA]; exact this
  have KB : Hid (∀ W : World, Below wA.heap.size wA W → Below w.heap.size w W ∧ W.cell? ⟨w.heap.size, 0, none⟩ = some (.slice p L.length c) ∧ W.cell? ⟨w.heap.size + 1, 0, none⟩ = some (.slice none 0 0) ∧ W.frozen? ⟨w.heap.size + 1, 0, none⟩ = false) := fun W hb =>
    have g := grown_of_below hb
    ⟨bA.trans (hb.mono bA.size), (x0.kept g (by simp)).cell, (x1.kept g (by simp)).cell, (x1.kept g (by simp)).frozen⟩
  have HBA := hidOg bA
  cases hr : riB L
  · have E : drE L t = 170 := by unfold drE; rw [hr]; rfl
    rw [E]
    rw [hr] at CM
    clear hr hE hB hT
    go_enter Try.func23, Try.ntmps23
    go_wp2_with (first | (go_at_call 34; rw [← hA]; refine Calls.mono (CM _ HBA.out) ?_; rintro e w1 ⟨rfl, hb⟩; obtain ⟨hb1, z0, z1, z2⟩ := KB.out _ hb; have HB1 := hidOg hb1; clear hb hb1))
    exact bodyPost_ret (v := .tuple #[.agg #[.slice none 0 0], .int .i64 170]) (by simp [results, Try.results23, go_sem, z1]) rfl (ansL_no (by decide) (HB1.out.setCell (p := ⟨w.heap.size + 1, 0, none⟩) (by simp) _))
  · have hri := riB_of hr
    have CS := fun (W : World) (hb : Below w.heap.size w W) => seek40 p L c q t d W (hE.to hb) ((hT.below hb (Nat.le_refl _)).mono hb.size) (by have := hri.pos; omega) (by omega) hB ht (ri_st hri) hri.free
    have CR := fun (W : World) (hb : Below w.heap.size w W) (i : Nat) (hi : i < L.length) => replaced44 p L c i 2 0 none [] 0 W (hE.to hb) hB ⟨IRow.nil, by simp, fun y hy => by simp at hy⟩ (by simp) hi (by omega)
    have KS : Hid (∀ (i : Nat) (b : Bool), SkR L t i b → (b = false ∧ Hid (drE L t = 4)) ∨ (b = true ∧ i < L.length ∧ Hid (drE L t = 0 ∧ LkR (L.set i (2, [], 0)) (woL (alL cmpL L) t)))) := fun i b hs => by
      cases b
      · refine .inl ⟨rfl, ?_⟩
        unfold Hid drE
        rw [hr, fi_none (sk_none hri hs).2.2.2]; rfl
      · obtain ⟨hi, hu, hty, hfi, h0⟩ := sk_found hri hs
        refine .inr ⟨rfl, hi, ?_, ?_⟩
        · unfold drE; rw [hr, hfi]; simp [h0]
        · have := drop_says hri hi hu
          rwa [hty] at this
    rw [hr] at CM
    clear hr hE hB hT hri
    go_enter Try.func23, Try.ntmps23
    go_wp2_with (first | (go_at_call 34; rw [← hA]; refine Calls.mono (CM _ HBA.out) ?_; rintro e w1 ⟨rfl, hb⟩; obtain ⟨hb1, z0, z1, z2⟩ := KB.out _ hb; have HB1 := hidOg hb1; have HBW1 := hidOg hb; clear hb hb1) | (go_at_call 40; refine Calls.mono (CS _ HB1.out) ?_; rintro e w2 ⟨i, b, rfl, hsk, hb⟩; have HBW2 := hidOg (HBW1.out.trans (hb.mono HBW1.out.size)); obtain ⟨hb2, y0, y1, y2⟩ := KB.out _ HBW2.out; have HB2 := hidOg hb2; clear hb hb2; rcases KS.out i b hsk with ⟨rfl, hno⟩ | ⟨rfl, hi, hyes⟩) | (go_at_call 44; refine Calls.mono (CR _ HB2.out i hi) ?_; rintro e w3 ⟨p', c', rfl, hEF, hb⟩; have HBW3 := hidOg (HBW2.out.trans (hb.mono HBW2.out.size)); obtain ⟨hb3, x0', x1', x2'⟩ := KB.out _ HBW3.out; have HB3 := hidOg hb3; have HEF := hidOg hEF; clear hb hb3 hEF))
    · refine bodyPost_ret (v := .tuple #[.agg #[.slice none 0 0], .int .i64 4]) (by simp [results, Try.results23, go_sem, y1]) rfl ?_
      rw [hno.out]
      exact ansL_no (by decide) (HB2.out.setCell (p := ⟨w.heap.size + 1, 0, none⟩) (by simp) _)
    · refine bodyPost_ret (v := .tuple #[.agg #[.slice p' (L.set i (2, [], 0)).length c'], .int .i64 0]) (by simp [results, Try.results23, go_sem, x1']) rfl ?_
      obtain ⟨e1, e2⟩ := hyes.out
      rw [e1]
      have hs2 : w.heap.size + 1 < w2.heap.size := by have := HBW2.out.size; omega
      refine ⟨p', c', L.set i (2, [], 0), rfl, ((HEF.out.setCell (a := ⟨w.heap.size + 1, 0, none⟩) hs2 _)).base (by omega), fun _ => ⟨e2, by simp⟩, fun h => absurd rfl h, HB3.out.setCell (p := ⟨w.heap.size + 1, 0, none⟩) (by simp) _⟩
/-- What Put has in memory behind the count. -/
structure PuM (w : World) (M : Nat) (sp en : Value) (y : Array Value) (ec : Array Value) (W : World) : Prop where
  bel : Below w.heap.size w W
  s0 : Boxed W w.heap.size 24 sp
  s1 : Boxed W (w.heap.size + 1) 24 en
  m0 : W.heap[M]? = some (.cells y 72 (0, 0))
  m1 : W.heap[M + 1]? = some (.cells ec 39 (0, 0))
  lo : w.heap.size + 1 < M
theorem PuM.below {w : World} {M : Nat} {sp en : Value} {y ec : Array Value} {W W' : World} (h : PuM w M sp en y ec W) (hb : Below W.heap.size W W') : PuM w M sp en y ec W' := by
  have k := kc_below hb
  exact ⟨h.bel.trans (hb.mono h.bel.size), k.same _ _ h.s0 rfl, k.same _ _ h.s1 rfl, k.same _ _ h.m0 rfl, k.same _ _ h.m1 rfl, h.lo⟩
theorem PuM.c14 {w : World} {M : Nat} {sp en y0 y1 y2 : Value} {ec : Array Value} {W : World} (h : PuM w M sp en #[y0, y1, y2] ec W) : W.cell? ⟨w.heap.size, 0, none⟩ = some sp ∧ W.cell? ⟨M, 0, none⟩ = some y0 ∧ W.cell? ⟨M, 1, none⟩ = some y1 ∧ W.cell? ⟨M, 2, none⟩ = some y2 := by
  obtain ⟨a, b, c, _⟩ := heap3_cell h.m0
  exact ⟨h.s0.cell, a, b, c⟩
theorem PuM.c16 {w : World} {M : Nat} {sp en y0 y1 y2 e0 e1 e2 : Value} {W : World} (h : PuM w M sp en #[y0, y1, y2] #[e0, e1, e2] W) : W.cell? ⟨w.heap.size, 0, none⟩ = some sp ∧ W.cell? ⟨M, 1, none⟩ = some y1 ∧ W.cell? ⟨M + 1, 0, none⟩ = some e0 ∧ W.cell? ⟨M + 1, 1, none⟩ = some e1 ∧ W.cell? ⟨M + 1, 2, none⟩ = some e2 := by
  obtain ⟨_, b, _, _⟩ := heap3_cell h.m0
  obtain ⟨a0, a1, a2, _⟩ := heap3_cell h.m1
  exact ⟨h.s0.cell, b, a0, a1, a2⟩
theorem PuM.c16s {w : World} {M : Nat} {sp en y0 y1 y2 e0 e1 e2 : Value} {W : World} (h : PuM w M sp en #[y0, y1, y2] #[e0, e1, e2] W) (v : Value) : (W.setCell ⟨w.heap.size + 1, 0, none⟩ v).cell? ⟨w.heap.size, 0, none⟩ = some sp ∧ (W.setCell ⟨w.heap.size + 1, 0, none⟩ v).cell? ⟨M, 1, none⟩ = some y1 ∧ (W.setCell ⟨w.heap.size + 1, 0, none⟩ v).cell? ⟨M + 1, 0, none⟩ = some e0 ∧ (W.setCell ⟨w.heap.size + 1, 0, none⟩ v).cell? ⟨M + 1, 1, none⟩ = some e1 ∧ (W.setCell ⟨w.heap.size + 1, 0, none⟩ v).cell? ⟨M + 1, 2, none⟩ = some e2 := by
  have hlo := h.lo
  obtain ⟨a, b, c, d, e⟩ := h.c16
  have k : ∀ B o, B ≠ w.heap.size + 1 → (W.setCell ⟨w.heap.size + 1, 0, none⟩ v).cell? ⟨B, o, none⟩ = W.cell? ⟨B, o, none⟩ := fun B o hne => cell_heap (heap_setCell_other W ⟨w.heap.size + 1, 0, none⟩ B v hne) o
  exact ⟨by rw [k _ _ (by omega)]; exact a, by rw [k _ _ (by omega)]; exact b, by rw [k _ _ (by omega)]; exact c, by rw [k _ _ (by omega)]; exact d, by rw [k _ _ (by omega)]; exact e⟩
theorem put_says {L : List En} {i : Nat} {t : List Int} {n : Int} (h : RiL hsT mayT L) (hs : SkR L t i false) (ht : mayT t = true) (h0 : 0 ≤ n) (hr : (gE L i).1 ≠ 0 ∨ hrB L.length (taK L + 1) = true) : LkR (L.set i (1, t, n)) (wiL cmpL (alL cmpL L) (1, t, n)) := by
  obtain ⟨hi, hz, hmet, hN⟩ := sk_none h hs
  have hri : RiL hsT mayT (L.set i (1, t, n)) := by
    refine h.put hi hz hmet hN ht h0 ?_ ?_
    · by_cases e : (gE L i).1 = 0
      · rw [if_pos e]
        rcases hr with hr | hr
        · exact absurd e hr
        · exact ((hr_iff h.pw).1 hr).1
      · rw [if_neg e]; exact h.q3
    · by_cases e : (gE L i).1 = 0
      · rw [if_pos e]
        rcases hr with hr | hr
        · exact absurd e hr
        · exact ((hr_iff h.pw).1 hr).2
      · rw [if_neg e]; exact h.mx
  exact ⟨hri, alL_put isCmp h.dt hri.dt (fun y hy hu => hN y hy hu) (put_mem hi hz)⟩
theorem en_ok {L : List En} (h : RiL hsT mayT L) (hm : L.length ≤ 256) : (L.filter usB).length + 1 ≤ 4000 ∧ (L.filter usB).length + 1 ≤ 2 * L.length / 4 * 3 ∧ (∃ e, enN L.length ((L.filter usB).length + 1) = 8 * 2 ^ e) ∧ enN L.length ((L.filter usB).length + 1) ≤ 1000 ∧ L.length ≤ enN L.length ((L.filter usB).length + 1) ∧ 4 * ((L.filter usB).length + 1) ≤ 3 * enN L.length ((L.filter usB).length + 1) ∧ enN L.length ((L.filter usB).length + 1) ≤ 2 * L.length := by
  have h1 := taK_us L
  have h2 := h.q3
  obtain ⟨e, he⟩ := h.pw
  have hp := Nat.two_pow_pos e
  have hd : L.length / 4 * 3 = 6 * 2 ^ e := by omega
  have hd2 : 2 * L.length / 4 * 3 = 12 * 2 ^ e := by omega
  refine ⟨by omega, by omega, ?_, ?_, ?_, ?_, ?_⟩
  · unfold enN; split
    · exact ⟨e, he⟩
    · exact ⟨e + 1, by rw [he, Nat.pow_succ]; omega⟩
  all_goals unfold enN; split <;> omega
theorem used_le (L : List En) : (L.filter usB).length ≤ L.length := List.length_filter_le _ _
set_option maxRecDepth 20000 in
set_option maxHeartbeats 4000000 in
theorem put24 (p : Option Addr) (L : List En) (c : Nat) (q : Option Addr) (t : List Int) (d : Nat) (n : Int) (w : World) (hE : ERow w.heap.size w p L) (hm2 : L.length ≤ 256) (hB : LB L) (hT : TRow w.heap.size w q t d) (ht : t.length ≤ 1000) (mx : Nat) (hmx : enN L.length ((L.filter usB).length + 1) ≤ mx) :
    Calls Try.prog 24 #[.agg #[.slice p L.length c], .slice q t.length d, .int .i64 n] w fun e w' => AnsL (puE L t n) (wiL cmpL (alL cmpL L) (1, t, n)) mx w e w' := by
  have CM := fun (W : World) (hb : Below w.heap.size w W) => mayBe34 p L c W (hE.to hb) (by omega) hB
  have CK := fun (W : World) (hb : Below w.heap.size w W) => check30 q t d W ((hT.i.below hb (Nat.le_refl _)).mono hb.size) hT.u ht
  obtain ⟨wA, hA⟩ : ∃ wA, wA = (w.alloc (.cells #[.slice p L.length c] 24)).alloc (.cells #[.slice none 0 0] 24) := ⟨_, rfl⟩
  have bA : Below w.heap.size w wA := by rw [hA]; exact ((Below.refl _ _).alloc (Nat.le_refl _) _).alloc (by simp) _
  have sA : wA.heap.size = w.heap.size + 2 := by rw [hA]; simp
  have x0 : Boxed wA w.heap.size 24 (.slice p L.length c) := by rw [hA]; exact (Boxed.new w 24 _).alloc _
  have x1 : Boxed wA (w.heap.size + 1) 24 (.slice none 0 0) := by
    have := Boxed.new (w.alloc (.cells #[.slice p L.length c] 24)) 24 (.slice none 0 0); rw [World.size_alloc] at this; rw [hA]; exact this
  have KB : Hid (∀ W : World, Below wA.heap.size wA W → Below w.heap.size w W ∧ W.cell? ⟨w.heap.size, 0, none⟩ = some (.slice p L.length c) ∧ W.cell? ⟨w.heap.size + 1, 0, none⟩ = some (.slice none 0 0) ∧ W.frozen? ⟨w.heap.size + 1, 0, none⟩ = false) := fun W hb =>
    have g := grown_of_below hb
    ⟨bA.trans (hb.mono bA.size), (x0.kept g (by simp)).cell, (x1.kept g (by simp)).cell, (x1.kept g (by simp)).frozen⟩
  have HBA := hidOg bA
  cases hr : riB L
  · have E : puE L t n = 170 := by unfold puE; rw [hr]; rfl
    rw [E]
    rw [hr] at CM
    clear hr hE hB hT
    go_enter Try.func24, Try.ntmps24
    go_wp2_with (first | (go_at_call 34; rw [← hA]; refine Calls.mono (CM _ HBA.out) ?_; rintro e w1 ⟨rfl, hb⟩; obtain ⟨hb1, z0, z1, z2⟩ := KB.out _ hb; have HB1 := hidOg hb1; clear hb hb1))
    exact bodyPost_ret (v := .tuple #[.agg #[.slice none 0 0], .int .i64 170]) (by simp [results, Try.results24, go_sem, z1]) rfl (ansL_no (by decide) (HB1.out.setCell (p := ⟨w.heap.size + 1, 0, none⟩) (by simp) _))
  · rw [hr] at CM
    cases hmt : mayT t
    · have E : puE L t n = 130 := by unfold puE; rw [hr, hmt]; rfl
      rw [E]
      have hc : chkE t = 130 := by unfold chkE; rw [hmt]; rfl
      rw [hc] at CK
      clear hr hE hB hT hmt hc
      go_enter Try.func24, Try.ntmps24
      go_wp2_with (first | (go_at_call 34; rw [← hA]; refine Calls.mono (CM _ HBA.out) ?_; rintro e w1 ⟨rfl, hb⟩; obtain ⟨hb1, z0, z1, z2⟩ := KB.out _ hb; have HB1 := hidOg hb1; have HBW1 := hidOg hb; clear hb hb1) | (go_at_call 30; refine Calls.mono (CK _ HB1.out) ?_; rintro e w2 ⟨rfl, hb⟩; have HBW2 := hidOg (HBW1.out.trans (hb.mono HBW1.out.size)); obtain ⟨hb2, y0, y1, y2⟩ := KB.out _ HBW2.out; have HB2 := hidOg hb2; clear hb hb2))
      exact bodyPost_ret (v := .tuple #[.agg #[.slice none 0 0], .int .i64 130]) (by simp [results, Try.results24, go_sem, y1]) rfl (ansL_no (by decide) (HB2.out.setCell (p := ⟨w.heap.size + 1, 0, none⟩) (by simp) _))
    · have hc : chkE t = 0 := by unfold chkE; rw [hmt]; rfl
      rw [hc] at CK
      by_cases hn : 0 ≤ n
      · have hri := riB_of hr
        obtain ⟨bb, off, rfl, hbN, hcs⟩ := hE (by have := hri.pos; omega)
        have CS := fun (W : World) (hb : Below w.heap.size w W) => seek40 (some ⟨bb, off, none⟩) L c q t d W (hE.to hb) ((hT.below hb (Nat.le_refl _)).mono hb.size) (by have := hri.pos; omega) (by omega) hB ht (ri_st hri) hri.free
        have CC := fun (W : World) (hb : Below w.heap.size w W) => count39 (some ⟨bb, off, none⟩) L c W (hE.to hb) (by omega) (ri_st hri)
        have CR := fun (W : World) (hb : Below w.heap.size w W) (i : Nat) (hi : i < L.length) => replaced44 (some ⟨bb, off, none⟩) L c i 1 n q t d W (hE.to hb) hB ((hT.below hb (Nat.le_refl _)).mono hb.size) ht hi (by omega)
        obtain ⟨q1, q2, q3, q4, q5, q6, q7⟩ := en_ok hri hm2
        have CA := fun (W : World) (hb : Below w.heap.size w W) (hN : NotIn L t) => laidAnew47 (some ⟨bb, off, none⟩) L c (enN L.length ((L.filter usB).length + 1)) n q t d W (hE.to hb) hri (by omega) ((hT.below hb (Nat.le_refl _)).mono hb.size) hmt hN hn q3 q4 q5 q6 q1
        have CE := fun (W : World) => enough48 L.length ((L.filter usB).length + 1) (by omega) q1 q2 W
        have CN := fun (W : World) => notFree46 (ctS L 0 : Nat) (ctS L 1 : Nat) (ctS L 2 : Nat) (by have := ctS_le L 1; omega) (by have := ctS_le L 2; omega) W
        have CH := fun (W : World) => hasRoom45 L.length (ctS L 1 + ctS L 2 + 1) (by omega) W
        have hy1 : ctS L 1 ≤ 256 := Nat.le_trans (ctS_le L 1) hm2
        have hy2 : ctS L 2 ≤ 256 := Nat.le_trans (ctS_le L 2) hm2
        have KS : Hid (∀ (i : Nat) (b : Bool), SkR L t i b → (b = true ∧ Hid (puE L t n = 5)) ∨ (b = false ∧ i < L.length ∧ (gE L i).1 = 2 ∧ Hid (puE L t n = 0 ∧ LkR (L.set i (1, t, n)) (wiL cmpL (alL cmpL L) (1, t, n)))) ∨
            (b = false ∧ i < L.length ∧ (gE L i).1 = 0 ∧ hrB L.length (ctS L 1 + ctS L 2 + 1) = true ∧ Hid (puE L t n = 0 ∧ LkR (L.set i (1, t, n)) (wiL cmpL (alL cmpL L) (1, t, n)))) ∨
            (b = false ∧ i < L.length ∧ (gE L i).1 = 0 ∧ hrB L.length (ctS L 1 + ctS L 2 + 1) = false ∧ Hid (puE L t n = 0 ∧ NotIn L t))) := fun i b hs => by
          cases b
          · obtain ⟨hi, hz, hmet, hN⟩ := sk_none hri hs
            have hE0 : puE L t n = 0 := by
              unfold puE
              rw [hr, hmt, if_pos rfl, if_pos rfl, if_pos hn, fi_none hN, if_neg (by decide), if_neg (by have := ctS_us L; omega)]
            rcases ri_st hri i hi with h | h | h
            · cases hh : hrB L.length (ctS L 1 + ctS L 2 + 1)
              · exact .inr (.inr (.inr ⟨rfl, hi, h, rfl, hE0, hN⟩))
              · exact .inr (.inr (.inl ⟨rfl, hi, h, rfl, hE0, put_says hri hs hmt hn (.inr (by rw [ta_st (ri_st hri)]; exact hh))⟩))
            · exact absurd h hz
            · exact .inr (.inl ⟨rfl, hi, h, hE0, put_says hri hs hmt hn (.inl (by rw [h]; decide))⟩)
          · obtain ⟨hi, hu, hty, hfi, h0⟩ := sk_found hri hs
            refine .inl ⟨rfl, ?_⟩
            unfold Hid puE
            rw [hr, hmt, if_pos rfl, if_pos rfl, if_pos hn, hfi, if_pos h0]
        have HCS := hidOg hcs
        have HLen := hidOg hmx
        have hLm : L.length ≤ mx := Nat.le_trans q5 hmx
        clear hmx
        rw [← ctS_us L] at CE CA HLen
        have HN := hidOg hn
        have HT := hidOg hT
        obtain ⟨en, hen⟩ : ∃ en, en = enN L.length (ctS L 1 + 1) := ⟨_, rfl⟩
        rw [← hen] at CE CA HLen
        have hen2 : en ≤ 1000 := by rw [hen, ctS_us]; exact q4
        obtain ⟨y0, hy0⟩ : ∃ y, y = ctS L 0 := ⟨_, rfl⟩
        obtain ⟨y1, hy1'⟩ : ∃ y, y = ctS L 1 := ⟨_, rfl⟩
        obtain ⟨y2, hy2'⟩ : ∃ y, y = ctS L 2 := ⟨_, rfl⟩
        rw [← hy0] at CC CN
        rw [← hy1'] at CC CN CH KS CE hy1
        rw [← hy2'] at CC CN CH KS hy2
        have eH : (((y1 + y2 + 1 : Nat) : Int)) = (y1 : Int) + (y2 : Int) + 1 := by omega
        have eE : (((y1 + 1 : Nat) : Int)) = (y1 : Int) + 1 := by omega
        rw [eH] at CH
        rw [eE] at CE
        have STAT : Hid (∀ (W : World) (i : Nat), Below w.heap.size w W → i < L.length → W.cell? ⟨bb, off + i * 3, none⟩ = some (.int .i64 (gE L i).1)) := fun W i hb hi => (hb.cell (p := ⟨bb, off + i * 3, none⟩) hbN).trans (HCS.out i hi).1
        have MEM : Hid (∀ W : World, Below wA.heap.size wA W → PuM w W.heap.size (.slice (some ⟨bb, off, none⟩) L.length c) (.slice none 0 0) #[.int .i64 (y0 : Nat), .int .i64 (y1 : Nat), .int .i64 (y2 : Nat)] #[.int .i64 1, .slice q t.length d, .int .i64 n] ((W.alloc (.cells #[.int .i64 (y0 : Nat), .int .i64 (y1 : Nat), .int .i64 (y2 : Nat)] 72)).alloc (.cells #[.int .i64 1, .slice q t.length d, .int .i64 n] 39))) := fun W hb => by
          have hk := kc_below hb
          have hk2 : Kc W ((W.alloc (.cells #[.int .i64 (y0 : Nat), .int .i64 (y1 : Nat), .int .i64 (y2 : Nat)] 72)).alloc (.cells #[.int .i64 1, .slice q t.length d, .int .i64 n] 39)) := kc_below (((Below.refl _ _).alloc (Nat.le_refl _) _).alloc (by simp) _)
          refine ⟨((bA.trans (hb.mono bA.size)).alloc (by have := hb.size; omega) _).alloc (by have := hb.size; simp; omega) _, hk2.same _ _ (hk.same _ _ x0 rfl) rfl, hk2.same _ _ (hk.same _ _ x1 rfl) rfl, (Below.heap_alloc _ _ _ (by simp)).trans (World.alloc_heap_new W _), ?_, by have := hb.size; omega⟩
          have := World.alloc_heap_new (W.alloc (.cells #[.int .i64 (y0 : Nat), .int .i64 (y1 : Nat), .int .i64 (y2 : Nat)] 72)) (.cells #[.int .i64 1, .slice q t.length d, .int .i64 n] 39)
          rw [World.size_alloc] at this; exact this
        have MEM1 : Hid (∀ W : World, Below wA.heap.size wA W → Hid (Below w.heap.size w (W.alloc (.cells #[.int .i64 (y0 : Nat), .int .i64 (y1 : Nat), .int .i64 (y2 : Nat)] 72))) ∧ (W.alloc (.cells #[.int .i64 (y0 : Nat), .int .i64 (y1 : Nat), .int .i64 (y2 : Nat)] 72)).cell? ⟨w.heap.size, 0, none⟩ = some (.slice (some ⟨bb, off, none⟩) L.length c) ∧ (W.alloc (.cells #[.int .i64 (y0 : Nat), .int .i64 (y1 : Nat), .int .i64 (y2 : Nat)] 72)).cell? ⟨w.heap.size + 1, 0, none⟩ = some (.slice none 0 0) ∧ (W.alloc (.cells #[.int .i64 (y0 : Nat), .int .i64 (y1 : Nat), .int .i64 (y2 : Nat)] 72)).frozen? ⟨w.heap.size + 1, 0, none⟩ = false) := fun W hb => by
          have hb' := hb.trans (((Below.refl _ W).alloc (Nat.le_refl _) (.cells #[.int .i64 (y0 : Nat), .int .i64 (y1 : Nat), .int .i64 (y2 : Nat)] 72)).mono hb.size)
          have g := grown_of_below hb'
          exact ⟨bA.trans (hb'.mono bA.size), (x0.kept g (by simp)).cell, (x1.kept g (by simp)).cell, (x1.kept g (by simp)).frozen⟩
        have hnd : decide (n < 0) = false := by simp; omega
        have hy4 : ((y1 : Int) == 4000) = false := by simp; omega
        have hwr : IntKind.i64.wrap ((y1 : Int) + (y2 : Int) + 1) = (y1 : Int) + (y2 : Int) + 1 := by simp [IntKind.wrap, IntKind.bits, IntKind.signed]; omega
        have hwr1 : IntKind.i64.wrap ((y1 : Int) + 1) = (y1 : Int) + 1 := by simp [IntKind.wrap, IntKind.bits, IntKind.signed]; omega
        clear hr hE hB hT hmt hc hri hcs hen hy0 hy1' hy2' q1 q2 q3 q4 q5 q6 q7 x0 x1
        go_enter Try.func24, Try.ntmps24
        go_wp2_with (first | (go_at_call 34; rw [← hA]; refine Calls.mono (CM _ HBA.out) ?_; rintro e w1 ⟨rfl, hb⟩; obtain ⟨hb1, z0, z1, z2⟩ := KB.out _ hb; have HB1 := hidOg hb1; have HBW1 := hidOg hb; clear hb hb1) | (go_at_call 30; refine Calls.mono (CK _ HB1.out) ?_; rintro e w2 ⟨rfl, hb⟩; have HBW2 := hidOg (HBW1.out.trans (hb.mono HBW1.out.size)); obtain ⟨hb2, v0, v1, v2⟩ := KB.out _ HBW2.out; have HB2 := hidOg hb2; clear hb hb2) | (go_at_call 40; refine Calls.mono (CS _ HB2.out) ?_; rintro e w3 ⟨i, b, rfl, hsk, hb⟩; have HBW3 := hidOg (HBW2.out.trans (hb.mono HBW2.out.size)); obtain ⟨hb3, r0, r1, r2⟩ := KB.out _ HBW3.out; have HB3 := hidOg hb3; clear hb hb3; rcases KS.out i b hsk with ⟨rfl, h5⟩ | ⟨rfl, hi, hst, hans⟩ | ⟨rfl, hi, hst, hhr, hans⟩ | ⟨rfl, hi, hst, hhr, hans⟩) | (go_at_call 39; refine Calls.mono (CC _ HB3.out) ?_; rintro e w4 ⟨rfl, hb⟩; have HBW4 := hidOg (HBW3.out.trans (hb.mono HBW3.out.size)); clear hb; have PM := MEM.out _ HBW4.out; have HPM := hidOg PM; have p0 := PM.s0.cell; have p1 := PM.s1.cell; have p2 := PM.s1.frozen; obtain ⟨p3, p4, p5, _⟩ := heap3_cell PM.m0; obtain ⟨p6, p7, p8, _⟩ := heap3_cell PM.m1; have p9 := STAT.out _ i PM.bel hi; rw [hst] at p9; clear PM) | (go_at_call 39; refine Calls.mono (CC _ HB3.out) ?_; rintro e w4 ⟨rfl, hb⟩; have HBW4 := hidOg (HBW3.out.trans (hb.mono HBW3.out.size)); clear hb; obtain ⟨g0, g1, g2, g3⟩ := MEM1.out _ HBW4.out))
        · refine bodyPost_ret (v := .tuple #[.agg #[.slice none 0 0], .int .i64 5]) (by simp [results, Try.results24, go_sem, g2]) rfl ?_
          rw [h5.out]
          exact ansL_no (by decide) (g0.out.setCell (p := ⟨w.heap.size + 1, 0, none⟩) (by simp) _)
        · have hq2 : ((2 : Int) == 2) = true := rfl
          clear hq2
          obtain ⟨wB, hwB⟩ : ∃ wB, wB = ((w4.alloc (.cells #[.int .i64 (y0 : Nat), .int .i64 (y1 : Nat), .int .i64 (y2 : Nat)] 72)).alloc (.cells #[.int .i64 1, .slice q t.length d, .int .i64 n] 39)) := ⟨_, rfl⟩
          rw [← hwB] at HPM p0 p1 p2 p3 p4 p5 p6 p7 p8 p9 ⊢
          clear hwB
          go_cut [63] (fun s wx => s = .bool true ∧ Hid (Below wB.heap.size wB wx))
          case first =>
            go_quiet (fail)
            all_goals
              go_wp2
              go_meet
              case rel => exact ⟨rfl, below_drewN' (Below.refl _ _) _⟩
          case rest =>
            obtain ⟨rfl, hbx⟩ := hcut
            have PM := HPM.out.below hbx.out
            have HPM2 := hidOg PM
            have z0 := PM.s0.cell
            have z1 := PM.s1.cell
            have z2 := PM.s1.frozen
            obtain ⟨z6, z7, z8, _⟩ := heap3_cell PM.m1
            clear PM p0 p1 p2 p3 p4 p5 p6 p7 p8 p9
            go_wp2_with (first | (go_at_call 44; refine Calls.mono (CR _ HPM2.out.bel i hi) ?_; rintro e w5 ⟨p', c', rfl, hEF, hb5⟩; have PM5 := HPM2.out.below hb5; have u1 := PM5.s1.cell; have u2 := PM5.s1.frozen; have HPM5 := hidOg PM5; have HEF := hidOg hEF; clear PM5 hEF hb5))
            refine bodyPost_ret (v := .tuple #[.agg #[.slice p' (L.set i (1, t, n)).length c'], .int .i64 0]) (by simp [results, Try.results24, go_sem, u1]) rfl ?_
            obtain ⟨e1, e2⟩ := hans.out
            rw [e1]
            have hlo : w.heap.size + 1 < wc.heap.size := by have := HPM2.out.s1.lt; omega
            exact ⟨p', c', L.set i (1, t, n), rfl, (HEF.out.setCell (a := ⟨w.heap.size + 1, 0, none⟩) hlo _).base (by omega), fun _ => ⟨e2, by simp; omega⟩, fun h => absurd rfl h, HPM5.out.bel.setCell (p := ⟨w.heap.size + 1, 0, none⟩) (by simp) _⟩
        · rw [hhr] at CH
          obtain ⟨wB, hwB⟩ : ∃ wB, wB = ((w4.alloc (.cells #[.int .i64 (y0 : Nat), .int .i64 (y1 : Nat), .int .i64 (y2 : Nat)] 72)).alloc (.cells #[.int .i64 1, .slice q t.length d, .int .i64 n] 39)) := ⟨_, rfl⟩
          rw [← hwB] at HPM p0 p1 p2 p3 p4 p5 p6 p7 p8 p9 ⊢
          clear hwB
          go_cut [63] (fun s wx => s = .bool true ∧ Hid (Below wB.heap.size wB wx))
          case first =>
            have KK : Hid (∀ W6 : World, Below wB.drew.heap.size wB.drew W6 → Hid (Below wB.heap.size wB W6) ∧ W6.cell? ⟨w.heap.size, 0, none⟩ = some (.slice (some ⟨bb, off, none⟩) L.length c) ∧ W6.cell? ⟨bb, off + i * 3, none⟩ = some (.int .i64 0) ∧ W6.cell? ⟨w4.heap.size, 0, none⟩ = some (.int .i64 (y0 : Nat)) ∧ W6.cell? ⟨w4.heap.size, 1, none⟩ = some (.int .i64 (y1 : Nat)) ∧ W6.cell? ⟨w4.heap.size, 2, none⟩ = some (.int .i64 (y2 : Nat))) := fun W6 hb => by
              have h1 : Below wB.heap.size wB W6 := (below_drew _ _).trans hb
              obtain ⟨a0, a1, a2, a3⟩ := (HPM.out.below h1).c14
              have := STAT.out W6 i (HPM.out.below h1).bel hi
              rw [hst] at this
              exact ⟨h1, a0, this, a1, a2, a3⟩
            go_region_held3 (fun w' => w'.cell? ⟨w.heap.size, 0, none⟩ = some (.slice (some ⟨bb, off, none⟩) L.length c) ∧ w'.cell? ⟨bb, off + i * 3, none⟩ = some (.int .i64 0) ∧ w'.cell? ⟨w4.heap.size, 0, none⟩ = some (.int .i64 (y0 : Nat)) ∧ w'.cell? ⟨w4.heap.size, 1, none⟩ = some (.int .i64 (y1 : Nat)) ∧ w'.cell? ⟨w4.heap.size, 2, none⟩ = some (.int .i64 (y2 : Nat))) (first | with_reducible exact ⟨k0, k1, k2, k3, k4⟩ | go_keep) (first | (go_at_call 46; refine Calls.mono (CN _) ?_; rintro e w6 ⟨rfl, hb6⟩; obtain ⟨HBx, k0, k1, k2, k3, k4⟩ := KK.out w6 hb6; clear hb6) | (go_at_call 45; refine Calls.mono (CH _) ?_; rintro e w7 ⟨rfl, hw7⟩; rw [hw7]; clear hw7 w7))
            all_goals
              go_wp2
              go_meet
              case rel => exact ⟨rfl, HBx⟩
          case rest =>
            obtain ⟨rfl, hbx⟩ := hcut
            have PM := HPM.out.below hbx.out
            have HPM2 := hidOg PM
            have z0 := PM.s0.cell
            have z1 := PM.s1.cell
            have z2 := PM.s1.frozen
            obtain ⟨z6, z7, z8, _⟩ := heap3_cell PM.m1
            clear PM p0 p1 p2 p3 p4 p5 p6 p7 p8 p9
            go_wp2_with (first | (go_at_call 44; refine Calls.mono (CR _ HPM2.out.bel i hi) ?_; rintro e w5 ⟨p', c', rfl, hEF, hb5⟩; have PM5 := HPM2.out.below hb5; have u1 := PM5.s1.cell; have u2 := PM5.s1.frozen; have HPM5 := hidOg PM5; have HEF := hidOg hEF; clear PM5 hEF hb5))
            refine bodyPost_ret (v := .tuple #[.agg #[.slice p' (L.set i (1, t, n)).length c'], .int .i64 0]) (by simp [results, Try.results24, go_sem, u1]) rfl ?_
            obtain ⟨e1, e2⟩ := hans.out
            rw [e1]
            have hlo : w.heap.size + 1 < wc.heap.size := by have := HPM2.out.s1.lt; omega
            exact ⟨p', c', L.set i (1, t, n), rfl, (HEF.out.setCell (a := ⟨w.heap.size + 1, 0, none⟩) hlo _).base (by omega), fun _ => ⟨e2, by simp; omega⟩, fun h => absurd rfl h, HPM5.out.bel.setCell (p := ⟨w.heap.size + 1, 0, none⟩) (by simp) _⟩
        · rw [hhr] at CH
          obtain ⟨wB, hwB⟩ : ∃ wB, wB = ((w4.alloc (.cells #[.int .i64 (y0 : Nat), .int .i64 (y1 : Nat), .int .i64 (y2 : Nat)] 72)).alloc (.cells #[.int .i64 1, .slice q t.length d, .int .i64 n] 39)) := ⟨_, rfl⟩
          rw [← hwB] at HPM p0 p1 p2 p3 p4 p5 p6 p7 p8 p9 ⊢
          clear hwB
          go_cut [63] (fun s wx => s = .bool false ∧ Hid (Below wB.heap.size wB wx))
          case first =>
            have KK : Hid (∀ W6 : World, Below wB.drew.heap.size wB.drew W6 → Hid (Below wB.heap.size wB W6) ∧ W6.cell? ⟨w.heap.size, 0, none⟩ = some (.slice (some ⟨bb, off, none⟩) L.length c) ∧ W6.cell? ⟨bb, off + i * 3, none⟩ = some (.int .i64 0) ∧ W6.cell? ⟨w4.heap.size, 0, none⟩ = some (.int .i64 (y0 : Nat)) ∧ W6.cell? ⟨w4.heap.size, 1, none⟩ = some (.int .i64 (y1 : Nat)) ∧ W6.cell? ⟨w4.heap.size, 2, none⟩ = some (.int .i64 (y2 : Nat))) := fun W6 hb => by
              have h1 : Below wB.heap.size wB W6 := (below_drew _ _).trans hb
              obtain ⟨a0, a1, a2, a3⟩ := (HPM.out.below h1).c14
              have := STAT.out W6 i (HPM.out.below h1).bel hi
              rw [hst] at this
              exact ⟨h1, a0, this, a1, a2, a3⟩
            go_region_held3 (fun w' => w'.cell? ⟨w.heap.size, 0, none⟩ = some (.slice (some ⟨bb, off, none⟩) L.length c) ∧ w'.cell? ⟨bb, off + i * 3, none⟩ = some (.int .i64 0) ∧ w'.cell? ⟨w4.heap.size, 0, none⟩ = some (.int .i64 (y0 : Nat)) ∧ w'.cell? ⟨w4.heap.size, 1, none⟩ = some (.int .i64 (y1 : Nat)) ∧ w'.cell? ⟨w4.heap.size, 2, none⟩ = some (.int .i64 (y2 : Nat))) (first | with_reducible exact ⟨k0, k1, k2, k3, k4⟩ | go_keep) (first | (go_at_call 46; refine Calls.mono (CN _) ?_; rintro e w6 ⟨rfl, hb6⟩; obtain ⟨HBx, k0, k1, k2, k3, k4⟩ := KK.out w6 hb6; clear hb6) | (go_at_call 45; refine Calls.mono (CH _) ?_; rintro e w7 ⟨rfl, hw7⟩; rw [hw7]; clear hw7 w7))
            all_goals
              go_wp2
              go_meet
              case rel => exact ⟨rfl, HBx⟩
          case rest =>
            obtain ⟨rfl, hbx⟩ := hcut
            have PM := HPM.out.below hbx.out
            have HPM2 := hidOg PM
            have z0 := PM.s0.cell
            have z1 := PM.s1.cell
            have z2 := PM.s1.frozen
            obtain ⟨z3, z4, z5, _⟩ := heap3_cell PM.m0
            obtain ⟨z6, z7, z8, _⟩ := heap3_cell PM.m1
            have CA' := fun (W : World) (hb : Below w.heap.size w W) => CA W hb hans.out.2
            have HBD : Hid (Below w.heap.size w wc.drew ∧ ∀ W', Below wc.drew.heap.size wc.drew W' → PuM w w4.heap.size (.slice (some ⟨bb, off, none⟩) L.length c) (.slice none 0 0) #[.int .i64 (y0 : Nat), .int .i64 (y1 : Nat), .int .i64 (y2 : Nat)] #[.int .i64 1, .slice q t.length d, .int .i64 n] W') := ⟨PM.bel.trans (below_drew _ _), fun W' hb => PM.below ((below_drew _ _).trans hb)⟩
            have hlo : w.heap.size + 1 < wc.heap.size := by have := PM.s1.lt; omega
            clear PM p0 p1 p2 p3 p4 p5 p6 p7 p8 p9 CA CR CN CH
            go_wp2
            go_region_held3 (fun w' => w'.cell? ⟨w.heap.size, 0, none⟩ = some (.slice (some ⟨bb, off, none⟩) L.length c) ∧ w'.cell? ⟨w4.heap.size, 1, none⟩ = some (.int .i64 (y1 : Nat)) ∧ w'.cell? ⟨w4.heap.size + 1, 0, none⟩ = some (.int .i64 1) ∧ w'.cell? ⟨w4.heap.size + 1, 1, none⟩ = some (.slice q t.length d) ∧ w'.cell? ⟨w4.heap.size + 1, 2, none⟩ = some (.int .i64 n)) (first | with_reducible exact T5.out _ | with_reducible exact T4.out | go_keep) (first | (go_at_call 48; refine Calls.mono (CE _) ?_; rintro e w6 ⟨rfl, hw6⟩; rw [hw6]; clear hw6 w6) | (go_at_call 47; refine Calls.mono (CA' _ HBD.out.1) ?_; rintro e w5 ⟨T', ⟨p', c', rfl, hEF, hb5⟩, hR', hL', hA'⟩; have PM5 := HBD.out.2 _ hb5; have u1 := PM5.s1.cell; have u2 := PM5.s1.frozen; have T4 := hidOg PM5.c16; have T5 := hidOg PM5.c16s; have HPM5 := hidOg PM5; have HEF := hidOg hEF; have HR' := hidOg (And.intro hR' (And.intro hL' hA')); clear PM5 hEF hb5 hR' hL' hA'))
            all_goals
              go_wp2
              refine bodyPost_ret (v := .tuple #[.agg #[.slice p' T'.length c'], .int .i64 0]) (by simp [results, Try.results24, go_sem, u1]) rfl ?_
              obtain ⟨hR', hL', hA'⟩ := HR'.out
              rw [hans.out.1]
              exact ⟨p', c', T', rfl, (HEF.out.setCell (a := ⟨w.heap.size + 1, 0, none⟩) hlo _).base (by have := HPM2.out.bel.size; exact this), fun _ => ⟨⟨hR', hA'⟩, by rw [hL']; exact HLen.out⟩, fun h => absurd rfl h, HPM5.out.bel.setCell (p := ⟨w.heap.size + 1, 0, none⟩) (by simp) _⟩
      · have E : puE L t n = 2 := by unfold puE; rw [hr, hmt, if_pos rfl, if_pos rfl, if_neg hn]
        rw [E]
        have hn' : n < 0 := by omega
        clear hr hE hB hT hmt hc hn
        go_enter Try.func24, Try.ntmps24
        go_wp2_with (first | (go_at_call 34; rw [← hA]; refine Calls.mono (CM _ HBA.out) ?_; rintro e w1 ⟨rfl, hb⟩; obtain ⟨hb1, z0, z1, z2⟩ := KB.out _ hb; have HB1 := hidOg hb1; have HBW1 := hidOg hb; clear hb hb1) | (go_at_call 30; refine Calls.mono (CK _ HB1.out) ?_; rintro e w2 ⟨rfl, hb⟩; have HBW2 := hidOg (HBW1.out.trans (hb.mono HBW1.out.size)); obtain ⟨hb2, y0, y1, y2⟩ := KB.out _ HBW2.out; have HB2 := hidOg hb2; clear hb hb2))
        exact bodyPost_ret (v := .tuple #[.agg #[.slice none 0 0], .int .i64 2]) (by simp [results, Try.results24, go_sem, y1]) rfl (ansL_no (by decide) (HB2.out.setCell (p := ⟨w.heap.size + 1, 0, none⟩) (by simp) _))
end Go.Proofs.Ytjnhalomkmdcgaa
