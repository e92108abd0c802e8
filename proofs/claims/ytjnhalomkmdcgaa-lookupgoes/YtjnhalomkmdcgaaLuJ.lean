/- laidAnew. -/
import Derived.Test.YtjnhalomkmdcgaaLuI
namespace Go.Proofs.Ytjnhalomkmdcgaa
open Go.RowKit Go.Shelf
attribute [local go_sem] Oper.semAt_some

/-- What laidAnew keeps in memory: the boxes, and the slots so far. -/
structure LaM (S G B2 B3 Z : Nat) (L : List En) (m : Nat) (en : Array Value) (pre : List Ep) (W : World) : Prop where
  b0 : W.heap[S]? = some (.cells en 39 (0, 0))
  b2 : Boxed W B2 22 (.slice (some ⟨G, 0, none⟩) m m)
  b3 : Boxed W B3 96 (.func (.func 66) #[] #[.pointer (some ⟨B2, 0, none⟩)])
  x : ∃ X : List Ep, ERG G m W X ∧ (∀ x ∈ X, OwT Z W x.2.1.1 x.2.1.2.1 x.2.1.2.2) ∧ ∃ k, k ≤ L.length ∧ (L.take k).filter usB = pre.map eOf ∧ LayI hsT mayT L m k (X.map eOf)
theorem LaM.kc {S G B2 B3 Z : Nat} {L : List En} {m : Nat} {en : Array Value} {pre : List Ep} {W W' : World} (h : LaM S G B2 B3 Z L m en pre W) (k : Kc W W') : LaM S G B2 B3 Z L m en pre W' := by
  obtain ⟨X, h1, h2, h3⟩ := h.x
  exact ⟨k.same _ _ h.b0 rfl, k.same _ _ h.b2 rfl, k.same _ _ h.b3 rfl, X, k.erg h1, fun x hx => k.owT (h2 x hx), h3⟩
theorem kc_below {W W' : World} (h : Below W.heap.size W W') : Kc W W' := ⟨h.size, fun k _ hk _ => (h.block k (Array.getElem?_eq_some_iff.1 hk).1).trans hk⟩
theorem owT_grown {Z G : Nat} {W W' : World} {q : Option Addr} {l : List Int} {c : Nat} (ho : OwT Z W q l c) (hg : W.grownBy W' (some G)) (hz : G < Z) : OwT Z W' q l c := ⟨ho.o.kept hg (by
    rw [ownBlock_slice]
    cases q with
    | none => exact .inl rfl
    | some a => exact .inr (by have := ho.fresh a rfl; simp; omega)), ho.u⟩
/-- One more is laid. -/
theorem LaM.step {S G B2 B3 Z : Nat} {L : List En} {m : Nat} {en : Array Value} {pre : List Ep} {W W' : World} {X : List Ep} {x : Ep} {i : Nat} {b : Bool} (h : LaM S G B2 B3 Z L m en pre W) (hg : W.grownBy W' (some G)) (hz : G < Z) (hS : S ≠ G) (h2 : B2 ≠ G) (h3 : B3 ≠ G)
    (hr : RiL hsT mayT L) (hm : L.length ≤ m) (hO : ∀ y ∈ X, OwT Z W y.2.1.1 y.2.1.2.1 y.2.1.2.2) (hk : ∃ k, k ≤ L.length ∧ (L.take k).filter usB = pre.map eOf ∧ LayI hsT mayT L m k (X.map eOf))
    (hv : VU L Z pre x W) (hs : SkR (X.map eOf) x.2.1.2.1 i b) (hE : ERG G m W' (X.set i x)) : LaM S G B2 B3 Z L m en (pre ++ [x]) W' := by
  refine ⟨(hg.block _ (Array.getElem?_eq_some_iff.1 h.b0).1 (by simpa using hS)).trans h.b0, h.b2.kept hg (by simpa using h2), h.b3.kept hg (by simpa using h3), X.set i x, hE, fun y hy => ?_, ?_⟩
  · rcases List.mem_or_eq_of_mem_set hy with hy | rfl
    · exact owT_grown (hO y hy) hg hz
    · exact owT_grown hv.o hg hz
  · obtain ⟨k, hk1, hk2, hk3⟩ := hk
    obtain ⟨k', hk', hu, he, hp⟩ := hv.k
    have hl := lay_cong (k' := k') (by rw [hk2, hp]) hk3
    have ht : (gE L k').2.1 = x.2.1.2.1 := by rw [← he]; rfl
    have := lay_step hl hr hk' hu hm (by rw [ht]; exact hs)
    refine ⟨k' + 1, hk', ?_, ?_⟩
    · rw [take_succ_gE hk', List.filter_append, ← hp, List.map_append]; simp [usB, hu, he]
    · rw [map_set, he]; exact this
theorem VU.kc {L : List En} {Z : Nat} {pre : List Ep} {x : Ep} {W W' : World} (h : VU L Z pre x W) (k : Kc W W') : VU L Z pre x W' := ⟨k.owT h.o, h.k⟩
/-- Where the body of the range begins. -/
structure LaA (w : World) (S G B2 B3 B4 Z : Nat) (p : Option Addr) (L : List En) (c m : Nat) (en : Array Value) (pre : List Ep) (x : Ep) (a' : Act) (W : World) : Prop where
  a : ∃ b0, a' = { tmps := #[.slice p L.length c, .int .i64 (m : Int), .agg en, undef, undef, .pointer (some ⟨S, 0, none⟩), .slice none 0 0, .pointer (some ⟨B2, 0, none⟩), .pointer (some ⟨B3, 0, none⟩), .pointer (some ⟨b0, 0, none⟩), .int .i64 (m : Int), .slice (some ⟨G, 0, none⟩) m m, .func (.func 66) #[] #[.pointer (some ⟨B2, 0, none⟩)], .slice p L.length c, .func (.func 60) #[] #[.pointer (some ⟨B4, 0, none⟩)], .agg #[.int .i64 x.1, .slice x.2.1.1 x.2.1.2.1.length x.2.1.2.2, .int .i64 x.2.2], undef, undef, undef, undef, undef, undef, undef, undef], defers := [] } ∧
    W.heap[b0]? = some (.cells #[.int .i64 x.1, .slice x.2.1.1 x.2.1.2.1.length x.2.1.2.2, .int .i64 x.2.2] 39 (0, 0))
  m : LaM S G B2 B3 Z L m en pre W
  v : VU L Z pre x W
theorem LaA.kc {w : World} {S G B2 B3 B4 Z : Nat} {p : Option Addr} {L : List En} {c m : Nat} {en : Array Value} {pre : List Ep} {x : Ep} {a' : Act} {W W' : World} (h : LaA w S G B2 B3 B4 Z p L c m en pre x a' W) (k : Kc W W') : LaA w S G B2 B3 B4 Z p L c m en pre x a' W' := by
  obtain ⟨b0, h1, h2⟩ := h.a
  exact ⟨⟨b0, h1, k.same _ _ h2 rfl⟩, h.m.kc k, h.v.kc k⟩

theorem kc_put {W : World} {D : Nat} {o o' : Obj} (h : W.heap[D]? = some o) (ho : o.isCells = false) : Kc W (W.putObj D o') := ⟨(grownBy_putObj' W D o').size, fun k ob hk hc => ((grownBy_putObj' W D o').block k (Array.getElem?_eq_some_iff.1 hk).1 (fun e => by
    have : k = D := by simpa using e
    rw [this, h] at hk; cases hk; rw [ho] at hc; cases hc)).trans hk⟩
theorem EFr.kc {B : Nat} {w w' : World} {p : Option Addr} {L : List En} {c : Nat} (h : EFr B w p L c) (k : Kc w w') : EFr B w' p L c := by
  obtain ⟨X, hX, ho, ht⟩ := h.ex
  exact ⟨X, hX, k.owns ho, fun x hx => k.owT (ht x hx)⟩
set_option maxRecDepth 100000 in
set_option maxHeartbeats 4000000 in
theorem laidAnew47 (p : Option Addr) (L : List En) (c m : Nat) (n : Int) (q : Option Addr) (t : List Int) (d : Nat) (w : World) (hE : ERow w.heap.size w p L) (hr : RiL hsT mayT L) (hl : L.length ≤ 1000) (hT : TRow w.heap.size w q t d) (ht : mayT t = true) (hN : NotIn L t) (h0 : 0 ≤ n)
    (hm : ∃ e, m = 8 * 2 ^ e) (hm2 : m ≤ 1000) (hLm : L.length ≤ m) (hq : 4 * ((L.filter usB).length + 1) ≤ 3 * m) (hx : (L.filter usB).length + 1 ≤ 4000) :
    Calls Try.prog 47 #[.slice p L.length c, .int .i64 (m : Int), .agg #[.int .i64 1, .slice q t.length d, .int .i64 n]] w fun e w' => ∃ T', AnsE T' w e w' ∧ RiL hsT mayT T' ∧ T'.length = m ∧ alL cmpL T' = wiL cmpL (alL cmpL L) (1, t, n) := by
  refine (callsIn_wide (n := 4)).1 ?_
  refine callsIn_of_wp_marks Try.func47 rfl trivial ?_ rfl
  simp only [Try.ntmps47, List.size_toArray, List.length_cons, List.length_nil, Nat.reduceAdd, Nat.reduceSub, Array.replicate_succ, Array.replicate_zero, List.push_toArray, List.append_toArray, List.nil_append, List.cons_append]
  have h36 : Fence.wide.fn 36 := trivial
  have h66 : Fence.wide.fn 66 := trivial
  have h61 : Fence.wide.fn 61 := trivial
  obtain ⟨i0, hi0, hz0, hz1, hz2⟩ := info_parts Try.info39
  obtain ⟨lt, hlt⟩ : ∃ lt, lt = t.length := ⟨_, rfl⟩
  have HLT := hidOg hlt
  rw [← hlt]
  have hbA : Below w.heap.size w (w.alloc (.cells #[.int .i64 1, .slice q lt d, .int .i64 n] 39)) := (Below.refl _ _).alloc (Nat.le_refl _) _
  have hsA : (w.alloc (.cells #[.int .i64 1, .slice q lt d, .int .i64 n] 39)).heap.size = w.heap.size + 1 := by simp
  have hzA : (w.alloc (.cells #[.int .i64 1, .slice q lt d, .int .i64 n] 39)).heap[w.heap.size]? = some (.cells #[.int .i64 1, .slice q lt d, .int .i64 n] 39 (0, 0)) := World.alloc_heap_new w _
  obtain ⟨w1, hrun, hown, hgrow⟩ := run_make_full (P := Try.prog) (w.alloc (.cells #[.int .i64 1, .slice q lt d, .int .i64 n] 39)) (w.heap.size + 1) 22 39 i0 (.agg #[.int .i64 0, .slice none 0 0, .int .i64 0]) 3 Try.underlying22 hi0 hz0 hz1 .i64 .i64 m (by rw [hz2]; omega) (by unfold maxLen; omega) (by simp)
  rw [cellsE_fr, hsA] at hown
  have hb1 : Below w.heap.size w w1 := hbA.trans (((Below.refl _ _).grown hgrow (Nat.le_refl _) (fun k e => by cases e)).mono hbA.size)
  have hs1 : w.heap.size + 1 < w1.heap.size := (hown.lt (w.heap.size + 1) rfl).2
  have hz1' : w1.heap[w.heap.size]? = some (.cells #[.int .i64 1, .slice q lt d, .int .i64 n] 39 (0, 0)) := (hgrow.block _ (by omega) (by simp)).trans hzA
  have hG1 : ERG (w.heap.size + 1) m w1 (frX m) := ⟨hown, by unfold frX; simp, fun x hx => by
    have : x = (0, (none, [], 0), 0) := by unfold frX at hx; exact (List.mem_replicate.1 hx).2
    rw [this]; exact ⟨⟨IRow.nil, by simp, fun y hy => by simp at hy⟩, fun h => by simp at h⟩⟩
  have hO1 : ∀ W : World, ∀ x ∈ frX m, OwT w1.heap.size W x.2.1.1 x.2.1.2.1 x.2.1.2.2 := fun W x hx => by
    have : x = (0, (none, [], 0), 0) := by unfold frX at hx; exact (List.mem_replicate.1 hx).2
    rw [this]; exact ⟨World.ownsRow_nil _ _ _ _, fun y hy => by simp at hy⟩
  have HG1 := hidOg hG1
  have HO1 := hidOg hO1
  have HB1 := hidOg hb1
  have HZ1 := hidOg hz1'
  have HS1 := hidOg hs1
  have HE := hidOg hE
  have HR := hidOg hr
  have HT := hidOg hT
  have HMY := hidOg ht
  have HNI := hidOg hN
  have HLB := hidOg (lb_of_ri hr)
  have HPW := hidOg hm
  have HQ := hidOg (And.intro hq hx)
  have HH0 := hidOg h0
  clear hown hgrow hG1 hO1 hb1 hz1' hE hr hT ht hN hm hq hx hbA hsA hzA hi0 hz0 hz1 hz2 hlt h0
  gi_wp2_with (first | (gi_at_call 36; refine (callsIn_wide.2 (used36 _ _ _ _)).mono ?_; rintro e w2 ⟨rfl, rfl⟩))
  obtain ⟨w5, hw5⟩ : ∃ w5, w5 = ((w1.alloc (.cells #[.slice (some ⟨w.heap.size + 1, 0, none⟩) m m] 22)).alloc (.cells #[.func (.func 66) #[] #[.pointer (some ⟨w1.heap.size, 0, none⟩)]] 96)).alloc (.cells #[.slice p L.length c] 22) := ⟨_, rfl⟩
  rw [← hw5]
  have s5 : w5.heap.size = w1.heap.size + 3 := by rw [hw5]; simp
  have B5 : Below w1.heap.size w1 w5 := by rw [hw5]; exact (((Below.refl _ _).alloc (Nat.le_refl _) _).alloc (by simp) _).alloc (by simp; omega) _
  have hb2 : Boxed w5 w1.heap.size 22 (.slice (some ⟨w.heap.size + 1, 0, none⟩) m m) := by rw [hw5]; exact ((Boxed.new w1 22 _).alloc _).alloc _
  have hb3 : Boxed w5 (w1.heap.size + 1) 96 (.func (.func 66) #[] #[.pointer (some ⟨w1.heap.size, 0, none⟩)]) := by
    have := (Boxed.new (w1.alloc (.cells #[.slice (some ⟨w.heap.size + 1, 0, none⟩) m m] 22)) 96 (.func (.func 66) #[] #[.pointer (some ⟨w1.heap.size, 0, none⟩)])).alloc (.cells #[.slice p L.length c] 22); rw [World.size_alloc] at this; rw [hw5]; exact this
  have hb4 : w5.cell? ⟨w1.heap.size + 1 + 1, 0, none⟩ = some (.slice p L.length c) := by rw [hw5]; exact World.cell?_alloc_at _ _ _ _ (by simp)
  clear hw5
  have hBw : Below w.heap.size w w5 := HB1.out.trans (B5.mono HB1.out.size)
  have hLM : LaM w.heap.size (w.heap.size + 1) w1.heap.size (w1.heap.size + 1) w1.heap.size L m #[.int .i64 1, .slice q lt d, .int .i64 n] [] w5 :=
    ⟨(B5.block _ (by have := HS1.out; omega)).trans HZ1.out, hb2, hb3, frX m, HG1.out.below B5, fun x hx => HO1.out w5 x hx, 0, Nat.zero_le _, by simp, by rw [frX_map]; exact lay_new HPW.out⟩
  have hseq : SeqV Fence.wide 3 Try.prog 60 #[.pointer (some ⟨w1.heap.size + 1 + 1, 0, none⟩)] encE (Below w.heap.size) (VU L w1.heap.size) (fun xs => xs.map eOf = L.filter usB) w5 := fun l J W hW hJ hY hj =>
    used60 3 (by omega) l (w1.heap.size + 1 + 1) w.heap.size w1.heap.size p L c HLB.out (by omega) J W hY hJ (by have := hW.size; have := HS1.out; omega) (by have := hW.size; omega) (HE.out.below (hBw.trans (hW.mono hBw.size)) (Nat.le_refl _)) ((hW.cell (p := ⟨w1.heap.size + 1 + 1, 0, none⟩) (by simp; omega)).trans hb4) hj
  have HLM := hidOg hLM
  have HBw := hidOg hBw
  clear hLM hBw hb2 hb3 hb4 B5
  have hs1' := HS1.out
  refine wpIn_rangeV rfl (by omega) (gf := 60) (lb := #[.pointer (some ⟨w1.heap.size + 1 + 1, 0, none⟩)]) rfl trivial (enters_of Try.func60 (by kernel_rfl) rfl)
    hseq belowK_t (belowK_b (by omega)) (Below.refl _ _) (fun _ => rfl)
    (fun pre W => LaM w.heap.size (w.heap.size + 1) w1.heap.size (w1.heap.size + 1) w1.heap.size L m #[.int .i64 1, .slice q lt d, .int .i64 n] pre W ∧ Below w.heap.size w W)
    (OwnFrom.and (own_kc fun _ _ _ k h => h.kc k) (ownFrom_below (Nat.le_refl _) (by omega))) ⟨HLM.out, HBw.out⟩
    (fun pre x a' W => LaA w w.heap.size (w.heap.size + 1) w1.heap.size (w1.heap.size + 1) (w1.heap.size + 1 + 1) w1.heap.size p L c m #[.int .i64 1, .slice q lt d, .int .i64 n] pre x a' W ∧ Below w.heap.size w W)
    (fun pre x a' => OwnFrom.and (own_kc fun _ _ _ k h => h.kc k) (ownFrom_below (Nat.le_refl _) (by omega))) ?assign ?body ?done
  case assign =>
    rintro l pre ⟨s', ⟨q', t', d'⟩, n'⟩ W K ⟨hM, hB⟩ hV hK
    have hbal : Below W.heap.size W (W.alloc (.cells #[.int .i64 s', .slice q' t'.length d', .int .i64 n'] 39)) := (Below.refl _ _).alloc (Nat.le_refl _) _
    have fin := hK { tmps := #[.slice p L.length c, .int .i64 (m : Int), .agg #[.int .i64 1, .slice q lt d, .int .i64 n], undef, undef, .pointer (some ⟨w.heap.size, 0, none⟩), .slice none 0 0, .pointer (some ⟨w1.heap.size, 0, none⟩), .pointer (some ⟨w1.heap.size + 1, 0, none⟩), .pointer (some ⟨W.heap.size, 0, none⟩), .int .i64 (m : Int), .slice (some ⟨w.heap.size + 1, 0, none⟩) m m, .func (.func 66) #[] #[.pointer (some ⟨w1.heap.size, 0, none⟩)], .slice p L.length c, .func (.func 60) #[] #[.pointer (some ⟨w1.heap.size + 1 + 1, 0, none⟩)], .agg #[.int .i64 s', .slice q' t'.length d', .int .i64 n'], undef, undef, undef, undef, undef, undef, undef, undef], defers := [] } _
      ((KeepsOthers.alloc W (.cells #[.int .i64 s', .slice q' t'.length d', .int .i64 n'] 39)).from _) (hbal.mono hB.size) ⟨⟨⟨W.heap.size, rfl, World.alloc_heap_new W _⟩, hM.kc (kc_below hbal), hV.kc (kc_below hbal)⟩, hB.trans (hbal.mono hB.size)⟩
    clear hK hM hV hB hbal hseq
    gi_wp2
    exact fin
  case body =>
    rintro l pre ⟨s', ⟨q', t', d'⟩, n'⟩ a' W ⟨⟨⟨b0, rfl, hb0⟩, hM, hV⟩, hB⟩
    obtain ⟨X, hG, hO, hk⟩ := hM.x
    obtain ⟨k, hk1, hk2, hk3⟩ := hk
    obtain ⟨fST, fLB, fF⟩ := (⟨ri_st hk3.ri, lb_of_ri hk3.ri, hk3.ri.free⟩ : ST (X.map eOf) ∧ LB (X.map eOf) ∧ ∃ k, k < (X.map eOf).length ∧ (gE (X.map eOf) k).1 = 0)
    have hlen : t'.length ≤ 1000 := by
      obtain ⟨k', hk', hu, he, _⟩ := hV.k
      have := HLB.out k' hk'
      rw [← he] at this; exact this
    have CL := lay66 (w.heap.size + 1) m w1.heap.size X (s', (q', t', d'), n') W hG hM.b2 ⟨hV.o.row, fun _ a ha => by have := hV.o.fresh a ha; omega⟩ hlen fLB fST fF (by omega)
    simp only at CL
    obtain ⟨y0, y1, y2, _⟩ := heap3_cell hb0
    have c3 := hM.b3.cell
    have HM := hidOg hM
    have HV := hidOg hV
    have HB := hidOg hB
    have HO := hidOg hO
    have HK : Hid (∃ k, k ≤ L.length ∧ (L.take k).filter usB = pre.map eOf ∧ LayI hsT mayT L m k (X.map eOf)) := ⟨k, hk1, hk2, hk3⟩
    simp only at y0 y1 y2
    obtain ⟨lt', hlt'⟩ : ∃ lt', lt' = t'.length := ⟨_, rfl⟩
    rw [← hlt'] at CL y1
    simp only []
    rw [← hlt']
    clear hM hV hB hO hG hb0 hk1 hk2 hk3 fST fLB fF hlen hlt' hseq
    gi_wp2_with (first | (gi_at_call 66; refine (callsIn_wide.2 CL).mono ?_; rintro e W' ⟨rfl, i, b, hs, hE, hg⟩; have HS := hidOg hs; have HE' := hidOg hE; have HGr := hidOg hg; clear hs hE hg))
    refine ⟨KeepsFrom.of_grownBy HGr.out (fun j e => by cases e; omega), ?_, ?_, ?_⟩
    · exact (Below.refl _ _).grown HGr.out (by have := HB.out.size; omega) (fun k e => by cases e; omega)
    · exact HM.out.step HGr.out (by omega) (by omega) (by omega) (by omega) HR.out hLm HO.out HK.out HV.out HS.out HE'.out
    · exact HB.out.grown HGr.out (by have := HB.out.size; omega) (fun k e => by cases e; omega)
  case done =>
    rintro D xs W hD hS ⟨hM, hB⟩ hK
    obtain ⟨X, hG, hO, k, hk1, hk2, hk3⟩ := hM.x
    have hLay : LayI hsT mayT L m L.length (X.map eOf) := lay_cong (by rw [hk2, hS, List.take_length]) hk3
    have ht12 : t.length ≤ 1000 := by have := ((mayT_iff _).1 HMY.out).1; omega
    have hsz := hB.size
    have hgl := hG.lt
    have CO := fun (W2 : World) (hb : Below w.heap.size w W2) => own61 1 n q t d W2 ((HT.out.below hb (Nat.le_refl _)).mono hb.size) ht12
    have CL := fun (W2 : World) (hb : Below W.heap.size W W2) (q' : Option Addr) (c' : Nat) (ho : OwT W.heap.size W2 q' t c') => lay66 (w.heap.size + 1) m w1.heap.size X (1, (q', t, c'), n) W2 (hG.below hb) (hM.b2.kept (grown_of_below hb) (by simp)) ⟨ho.row, fun _ a ha => by have := ho.fresh a ha; omega⟩ ht12 (lb_of_ri hLay.ri) (ri_st hLay.ri) hLay.ri.free (by omega)
    simp only at CL
    obtain ⟨e0, e1, e2, _⟩ := heap3_cell hM.b0
    have c3 := hM.b3.cell
    have FIN : Hid (∀ (W2 W3 : World) (q' : Option Addr) (c' i : Nat) (b : Bool), Below W.heap.size W W2 → OwT W.heap.size W2 q' t c' → SkR (X.map eOf) t i b → ERG (w.heap.size + 1) m W3 (X.set i (1, (q', t, c'), n)) → W2.grownBy W3 (some (w.heap.size + 1)) →
        W3.heap[D]? = some (.deferred (some [])) ∧ W3.cell? ⟨w1.heap.size, 0, none⟩ = some (.slice (some ⟨w.heap.size + 1, 0, none⟩) m m) ∧
        ∀ o', ∃ T', AnsE T' w (.returned (.slice (some ⟨w.heap.size + 1, 0, none⟩) m m)) (W3.putObj D o') ∧ RiL hsT mayT T' ∧ T'.length = m ∧ alL cmpL T' = wiL cmpL (alL cmpL L) (1, t, n)) := by
      intro W2 W3 q' c' i b hb ho hs hE3 hg
      have hDlt := (Array.getElem?_eq_some_iff.1 hK).1
      have hD2 : W2.heap[D]? = some (.deferred (some [])) := (hb.block D hDlt).trans hK
      have hD3 : W3.heap[D]? = some (.deferred (some [])) := (hg.block D (by have := hb.size; omega) (by simp; omega)).trans hD2
      have hbx := (hM.b2.kept (grown_of_below hb) (by simp)).kept hg (by simp; omega)
      refine ⟨hD3, hbx.cell, fun o' => ⟨(X.map eOf).set i (1, t, n), ?_, ?_⟩⟩
      · have hlen : ((X.map eOf).set i (1, t, n)).length = m := by rw [List.length_set, List.length_map]; exact hG.n
        have hEF : EFr w.heap.size W3 (some ⟨w.heap.size + 1, 0, none⟩) ((X.map eOf).set i (1, t, n)) m := ⟨X.set i (1, (q', t, c'), n), by rw [map_set]; rfl, by rw [hlen]; exact owns_base hE3.o (by omega), fun y hy => by
          rcases List.mem_or_eq_of_mem_set hy with hy | rfl
          · exact (owT_grown ((hO y hy).below hb) hg (by omega)).base (by omega)
          · exact (owT_grown ho hg (by omega)).base (by omega)⟩
        refine ⟨some ⟨w.heap.size + 1, 0, none⟩, m, by rw [hlen], hEF.kc (kc_put hD3 rfl), ?_⟩
        have hbw2 : Below w.heap.size w W2 := hB.trans (hb.mono hsz)
        have hbw3 : Below w.heap.size w W3 := hbw2.grown hg (by have := hbw2.size; omega) (fun k e => by cases e; omega)
        exact hbw3.trans (belowK_b (w := w) (Nat.le_refl _) W3 D _ _ (by omega) hD3 rfl rfl)
      · obtain ⟨h1, h2⟩ := lay_more hLay HR.out HNI.out HMY.out HH0.out HQ.out.1 HQ.out.2 hs
        exact ⟨h1, by rw [List.length_set, List.length_map]; exact hG.n, h2⟩
    have KB : Hid (∀ W2 : World, Below W.drew.heap.size W.drew W2 → Below W.heap.size W W2 ∧ W2.cell? ⟨w1.heap.size + 1, 0, none⟩ = some (.func (.func 66) #[] #[.pointer (some ⟨w1.heap.size, 0, none⟩)])) := fun W2 hb => by
      have h1 : Below W.heap.size W W2 := (below_drew _ _).trans hb
      exact ⟨h1, (hM.b3.kept (grown_of_below h1) (by simp)).cell⟩
    have HBD : Hid (Below w.heap.size w W.drew) := hB.trans (below_drew _ _)
    rw [← HLT.out] at CO CL
    clear hM hB hK hG hO hk1 hk2 hk3 hLay ht12 hS hseq
    gi_wp2
    gi_region_with (first | (gi_at_call 61; refine (callsIn_wide.2 (CO _ HBD.out)).mono ?_; rintro e W2 ⟨q', c', rfl, ho, hb⟩; obtain ⟨hb2, c3'⟩ := KB.out W2 hb; have HO2 : Hid (OwT W.heap.size W2 q' t c') := ho; have HB2 := hidOg hb2; clear hb hb2 ho) | (gi_at_call 66; refine (callsIn_wide.2 (CL W2 HB2.out q' c' HO2.out)).mono ?_; rintro e W3 ⟨rfl, i, b, hs, hE3, hg⟩; obtain ⟨f1, f2, f3⟩ := FIN.out W2 W3 q' c' i b HB2.out HO2.out hs hE3 hg; have F1 := hidOg f1; have F3 := hidOg f3; clear hs hE3 hg f1 f3))
    all_goals
      gi_wp2
      refine ⟨by simp, .inl ⟨_, _, rfl, run_takeDeferred F1.out, ?_⟩⟩
      exact ⟨_, results_tmp rfl _ _ _, by exact F3.out (.deferred none)⟩
end Go.Proofs.Ytjnhalomkmdcgaa
