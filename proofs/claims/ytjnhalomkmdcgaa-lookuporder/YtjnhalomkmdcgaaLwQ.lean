/- LookupOrder: the walk. -/
import Derived.Test.YtjnhalomkmdcgaaLwP
namespace Go.Proofs.Ytjnhalomkmdcgaa
open Go.RowKit

theorem RRow.take {N : Nat} {w : World} {p : Option Addr} {R : List (List Int)} (h : RRow N w p R) (i : Nat) : RRow N w p (R.take i) := by
  intro h0
  have hl : (R.take i).length ≤ R.length := by simp; omega
  obtain ⟨b, off, rfl, hN, hc⟩ := h (by omega)
  refine ⟨b, off, rfl, hN, fun k hk => ?_⟩
  have e : rG (R.take i) k = rG R k := by
    unfold rG; rw [List.getD_eq_getElem?_getD, List.getD_eq_getElem?_getD, List.getElem?_take_of_lt (by simp at hk; omega)]
  rw [e]
  exact hc k (by omega)
def cutR (x : Rp) : Rp := (x.1, x.2.1.take 14, x.2.2)
theorem RO.put {N B : Nat} {X : List Rp} {c G : Nat} {W : World} (h : RO N B X (some ⟨G, 0, none⟩) c W) (hN : N ≤ G) (k : Nat) (y : Rp) (hy : TRow N W y.1 y.2.1 y.2.2) : RO N B (X.set k y) (some ⟨G, 0, none⟩) c (W.setCell ⟨G, k, none⟩ (vR y)) := by
  have hb : Below N W (W.setCell ⟨G, k, none⟩ (vR y)) := (Below.refl N W).setCell (p := ⟨G, k, none⟩) hN _
  refine ⟨?_, fun x hx => ?_⟩
  · rw [List.length_set, List.map_set]
    exact ownsRow_set h.o k (vR y)
  · rcases List.mem_or_eq_of_mem_set hx with hx | rfl
    · exact (h.t x hx).below hb (Nat.le_refl _)
    · exact hy.below hb (Nat.le_refl _)
theorem gR_set_same {X : List Rp} {k : Nat} {y : Rp} (h : k < X.length) : gR (X.set k y) k = y := by rw [gR_eq (by simpa using h)]; simp
theorem gR_set_ne {X : List Rp} {k j : Nat} {y : Rp} (h : j ≠ k) : gR (X.set k y) j = gR X j := by
  unfold gR; simp [List.getD_eq_getElem?_getD, Ne.symm h]
/-- What LookupOrder keeps: two lookups in boxes, and the rows. -/
structure KpO (N MB Ba : Nat) (Y : List Rp) (q : Option Addr) (d : Nat) (pa : Option Addr) (Ta : List En) (ca : Nat) (A : List En) (pb : Option Addr) (Tb : List En) (cb : Nat) (C : List En) (W0 W : World) : Prop where
  xa : Boxed W Ba 24 (.slice pa Ta.length ca)
  xb : Boxed W (Ba + 1) 24 (.slice pb Tb.length cb)
  la : LkO MB W pa Ta ca A
  lb : LkO MB W pb Tb cb C
  ro : RO N N Y q d W
  be : Below N W0 W
  hN : N ≤ MB
  hM : MB ≤ Ba
section
variable {N MB Ba : Nat} {Y : List Rp} {q : Option Addr} {d : Nat} {pa : Option Addr} {Ta : List En} {ca : Nat} {A : List En} {pb : Option Addr} {Tb : List En} {cb : Nat} {C : List En} {W0 W W' : World}
theorem KpO.size (h : KpO N MB Ba Y q d pa Ta ca A pb Tb cb C W0 W) : N ≤ W.heap.size ∧ MB ≤ W.heap.size := by
  have := h.xa.lt; have := h.hN; have := h.hM; exact ⟨by omega, by omega⟩
theorem KpO.below (h : KpO N MB Ba Y q d pa Ta ca A pb Tb cb C W0 W) (hb : Below W.heap.size W W') : KpO N MB Ba Y q d pa Ta ca A pb Tb cb C W0 W' :=
  ⟨Boxed.stays h.xa hb, Boxed.stays h.xb hb, h.la.below hb, h.lb.below hb, h.ro.below hb h.size.1, h.be.trans (hb.mono h.size.1), h.hN, h.hM⟩
theorem RO.setBox {N B : Nat} {X : List Rp} {D : Nat} {v : Value} (h : RO N B X q d W) (hx : Boxed W D 24 v) (hD : N ≤ D) (u : Value) : RO N B X q d (W.setCell ⟨D, 0, none⟩ u) :=
  ⟨h.o.kept (grownBy_setCell' W D u) (.inr (hx.not_row (by decide) h.o).symm), fun x hx' => (h.t x hx').below ((Below.refl N W).setCell (p := ⟨D, 0, none⟩) hD u) (Nat.le_refl _)⟩
theorem KpO.setA (h : KpO N MB Ba Y q d pa Ta ca A pb Tb cb C W0 W) {p' : Option Addr} {T' : List En} {c' : Nat} {A' : List En} (hl : LkO MB W p' T' c' A') : KpO N MB Ba Y q d p' T' c' A' pb Tb cb C W0 (W.setCell ⟨Ba, 0, none⟩ (.slice p' T'.length c')) :=
  ⟨h.xa.set _, h.xb.other (by omega) _, hl.set h.xa _, h.lb.set h.xa _, h.ro.setBox h.xa (Nat.le_trans h.hN h.hM) _, h.be.setCell (p := ⟨Ba, 0, none⟩) (Nat.le_trans h.hN h.hM) _, h.hN, h.hM⟩
theorem KpO.setB (h : KpO N MB Ba Y q d pa Ta ca A pb Tb cb C W0 W) {p' : Option Addr} {T' : List En} {c' : Nat} {A' : List En} (hl : LkO MB W p' T' c' A') : KpO N MB Ba Y q d pa Ta ca A p' T' c' A' W0 (W.setCell ⟨Ba + 1, 0, none⟩ (.slice p' T'.length c')) :=
  ⟨h.xa.other (by omega) _, h.xb.set _, h.la.set h.xb _, hl.set h.xb _, h.ro.setBox h.xb (Nat.le_succ_of_le (Nat.le_trans h.hN h.hM)) _, h.be.setCell (p := ⟨Ba + 1, 0, none⟩) (Nat.le_succ_of_le (Nat.le_trans h.hN h.hM)) _, h.hN, h.hM⟩
theorem KpO.rev (h : KpO N MB Ba Y q d pa Ta ca A pb Tb cb C W0 W) (hr : RO N N Y.reverse q d W') (hb : Below N W W') (hg : W.grownBy W' (Value.slice q Y.length d).ownBlock) : KpO N MB Ba Y.reverse q d pa Ta ca A pb Tb cb C W0 W' :=
  ⟨h.xa.kept hg (h.xa.not_row (by decide) h.ro.o), h.xb.kept hg (h.xb.not_row (by decide) h.ro.o), h.la.grown h.ro.o hg, h.lb.grown h.ro.o hg, hr, h.be.trans hb, h.hN, h.hM⟩
end
theorem take_succ_gR {Y : List Rp} {i : Nat} (h : i < Y.length) : (Y.take (i + 1)).map lR = (Y.take i).map lR ++ [lR (gR Y i)] := by
  rw [List.take_succ_eq_append_getElem h, List.map_append, gR_eq h]; rfl
theorem fr8 : (frL 8).length = 8 := by simp [frL]
set_option maxRecDepth 20000 in
set_option maxHeartbeats 4000000 in
theorem order_walk (p : Option Addr) (R : List (List Int)) (c : Nat) (w : World) (hR : RRow w.heap.size w p R) (hl : R.length ≤ c) :
    Calls Try.prog 6 #[.slice p R.length c] w fun e w' => e = .returned (.bool true) ∧ Below w.heap.size w w' := by
  obtain ⟨n, hn⟩ : ∃ n, n = (R.take 30).length := ⟨_, rfl⟩
  have hmin : min (R.length : Int) 30 = (n : Int) := by rw [hn]; simp; omega
  have hmin2 : (if 30 < (R.length : Int) then 30 else (R.length : Int)) = (n : Int) := by rw [hn]; simp; split <;> omega
  have hkc : (n : Int) ≤ (c : Int) := by rw [hn]; simp only [List.length_take]; omega
  have hk0 : (0 : Int) ≤ (n : Int) := by omega
  have hn30 : n ≤ 30 := by rw [hn]; simp; omega
  have CW := fun (W : World) => wakes7 W
  have CL : ∀ (W : World), Below w.heap.size w W → Calls Try.prog 27 #[.slice p n c] W fun e w' => ∃ q' c' X, X.length = n ∧ e = .returned (.slice q' n c') ∧ RO W.heap.size W.heap.size X q' c' w' ∧ Below W.heap.size W w' := fun W hb => by
    have := clone27 p (R.take 30) c W ((hR.to hb).take 30) (by rw [← hn]; omega)
    rw [← hn] at this
    refine this.mono ?_
    rintro e w' ⟨q', c', X, hX, he, h1, h2⟩
    have e1 : X.length = n := by rw [hn, ← hX, List.length_map]
    exact ⟨q', c', X, e1, by rw [he, e1], h1, h2⟩
  obtain ⟨m, hm⟩ : ∃ m, m = R.length := ⟨_, rfl⟩
  rw [← hm] at hmin hmin2 ⊢
  clear hR hl hn hm
  go_enter Try.func6, Try.ntmps6
  go_wp2_with (first
    | (go_at_call 7; refine Calls.mono (CW _) ?_; rintro e w1 ⟨rfl, hb1⟩; have HB1 := hidOg hb1; clear hb1)
    | (go_at_call 27; refine Calls.mono (CL _ HB1.out) ?_; rintro e w2 ⟨q, d, X, hX, rfl, hRO, hb2⟩; have HRO := hidOg hRO; have HX := hidOg hX; have HB2 := hidOg hb2; clear hX hRO hb2))
  go_loopw [26] (fun i wr => ∃ (k : Nat) (Y : List Rp), k ≤ n ∧ i = .int .i64 k ∧ Y.length = n ∧ (∀ j, j < k → (gR Y j).2.1.length ≤ 14) ∧ RO w1.heap.size w1.heap.size Y q d wr ∧ Below w1.heap.size w1 wr) (fun i _ => n - (intOf i).toNat)
  case atStart => exact ⟨0, X, Nat.zero_le _, rfl, HX.out, fun j hj => by omega, HRO.out, HB2.out⟩
  case round =>
    obtain ⟨k, Y, hk, rfl, hYl, hall, hO, hB⟩ := hrel
    have HY := hidOg hYl
    have HA := hidOg hall
    have HO := hidOg hO
    have HB := hidOg hB
    clear hYl hall hO hB HRO HX HB2
    by_cases hlt : k < n
    · obtain ⟨G, rfl, hG1, hG2, hc, hf⟩ := HO.out.cells (k := k) (by rw [HY.out]; exact hlt)
      have hTx := HO.out.t _ (gR_mem (k := k) (by rw [HY.out]; exact hlt))
      obtain ⟨y, hy⟩ : ∃ y, y = gR Y k := ⟨_, rfl⟩
      rw [← hy] at hc hTx
      have Hy := hidOg hy
      obtain ⟨q', t', d'⟩ := y
      obtain ⟨lk, hlk⟩ : ∃ lk, lk = (t'.take 14).length := ⟨_, rfl⟩
      have hmi : min (t'.length : Int) 14 = (lk : Int) := by rw [hlk]; simp; omega
      have hmi2 : (if 14 < (t'.length : Int) then 14 else (t'.length : Int)) = (lk : Int) := by rw [hlk]; simp; split <;> omega
      have hkc' : (lk : Int) ≤ (d' : Int) := by have := hTx.r; rw [hlk]; simp only [List.length_take]; simp only at this; omega
      have hk0' : (0 : Int) ≤ (lk : Int) := by omega
      obtain ⟨lt, hlt'⟩ : ∃ lt, lt = t'.length := ⟨_, rfl⟩
      unfold vR at hc
      simp only at hc
      rw [← hlt'] at hc hmi hmi2
      have HT := hidOg hTx
      have HLK := hidOg hlk
      clear hy hTx hlk hlt'
      go_wp2
      go_region
      all_goals
        go_wp2
        go_roundw
        case rel =>
          have hyk : gR Y k = (q', t', d') := Hy.out.symm
          have hb : Below w1.heap.size wr (wr.setCell ⟨G, k, none⟩ (.slice q' lk d')).drew := ((Below.refl w1.heap.size wr).setCell (p := ⟨G, k, none⟩) hG1 _).trans (below_drew _ _)
          have hp := HO.out.put hG1 k (q', t'.take 14, d') (HT.out.take 14)
          unfold vR at hp
          simp only [← HLK.out] at hp
          refine ⟨k + 1, Y.set k (q', t'.take 14, d'), by omega, by go_num, by rw [List.length_set]; exact HY.out, fun j hj => ?_, hp.below (below_drew _ _) (by simpa using HB.out.size), HB.out.trans hb⟩
          by_cases e : j = k
          · subst e
            rw [gR_set_same (by rw [HY.out]; exact hlt)]
            simp; omega
          · rw [gR_set_ne e]; exact HA.out j (by omega)
        case measure => simp [intOf]; omega
    · obtain rfl : k = n := by omega
      have HBn : Hid (Below w.heap.size w wr) := HB1.out.trans (HB.out.mono HB1.out.size)
      have hfr : w1.heap.size ≤ wr.heap.size := HB.out.size
      go_wp2_with (first
        | (go_at_call 17; first
          | (refine Calls.mono (new_lk _) ?_; rintro e w4 ⟨pb, cb, rfl, hE4, hL4, hb4⟩; have HEb := hidOg hE4; have HEa2 := hidOg (HEa.out.below hb4); have HB4 := hidOg (HB3.out.trans (hb4.mono HB3.out.size)); clear hE4 hL4 hb4)
          | (refine Calls.mono (new_lk _) ?_; rintro e w3 ⟨pa, ca, rfl, hE3, hL3, hb3⟩; have HEa := hidOg hE3; have HB3 := hidOg hb3; clear hE3 hL3 hb3)))
      have K0 : Hid (KpO w1.heap.size wr.heap.size w4.heap.size Y q d pa (frL 8) ca [] pb (frL 8) cb [] w1 ((w4.alloc (.cells #[.slice pa 8 ca] 24)).alloc (.cells #[.slice pb 8 cb] 24))) := by
        have b4 : Below w4.heap.size w4 ((w4.alloc (.cells #[.slice pa 8 ca] 24)).alloc (.cells #[.slice pb 8 cb] 24)) := ((Below.refl _ _).alloc (Nat.le_refl _) _).alloc (by simp) _
        have xa : Boxed ((w4.alloc (.cells #[.slice pa 8 ca] 24)).alloc (.cells #[.slice pb 8 cb] 24)) w4.heap.size 24 (.slice pa 8 ca) := (Boxed.new w4 24 _).alloc _
        have xb : Boxed ((w4.alloc (.cells #[.slice pa 8 ca] 24)).alloc (.cells #[.slice pb 8 cb] 24)) (w4.heap.size + 1) 24 (.slice pb 8 cb) := by
          have := Boxed.new (w4.alloc (.cells #[.slice pa 8 ca] 24)) 24 (.slice pb 8 cb); rw [World.size_alloc] at this; exact this
        have hw4 := HB4.out.size
        refine ⟨by rw [fr8]; exact xa, by rw [fr8]; exact xb, ?_, ?_, ?_, ?_, hfr, hw4⟩
        · exact (LkO.mk HEa2.out lkr_new (by rw [fr8]; omega)).below b4
        · exact (LkO.mk (HEb.out.base HB3.out.size) lkr_new (by rw [fr8]; omega)).below b4
        · exact (HO.out.below HB4.out hfr).below b4 (by omega)
        · exact (HB.out.trans (HB4.out.mono hfr)).trans (b4.mono (by omega))
      generalize ((w4.alloc (.cells #[.slice pa 8 ca] 24)).alloc (.cells #[.slice pb 8 cb] 24)) = w5 at K0 ⊢
      clear HEa HEa2 HEb HB3 HB4
      have HTL : Hid (∀ j, j < k → (gR Y j).2.1.length ≤ 14) := HA.out
      clear HA HO HB CL CW
      generalize w4.heap.size = Ba at K0 ⊢
      generalize wr.heap.size = MB at K0 ⊢
      clear hfr HBn
      go_loopw [48] (fun v wx => ∃ (i : Nat) (p1 : Option Addr) (T1 : List En) (c1 : Nat) (A1 : List En), i ≤ k ∧ v = .int .i64 i ∧ A1.length ≤ i ∧ AS ((Y.take i).map lR) A1 ∧ KpO w1.heap.size MB Ba Y q d p1 T1 c1 A1 pb (frL 8) cb [] w1 wx) (fun v _ => k - (intOf v).toNat)
      case atStart => exact ⟨0, pa, frL 8, ca, [], Nat.zero_le _, rfl, Nat.le_refl _, AS.nil, K0.out⟩
      case round =>
        obtain ⟨i, p1, T1, c1, A1, hi, rfl, hA1, hAS, hK⟩ := hrel
        have HAS := hidOg hAS
        have HK := hidOg hK
        by_cases hlt : i < k
        · obtain ⟨G, hq, hG1, hG2, hc, _⟩ := hK.ro.cells (k := i) (by rw [HY.out]; exact hlt)
          have hTx := hK.ro.t _ (gR_mem (k := i) (by rw [HY.out]; exact hlt))
          have htl := HTL.out i hlt
          have HS : Hid ((Y.take (i + 1)).map lR = (Y.take i).map lR ++ [lR (gR Y i)]) := take_succ_gR (by rw [HY.out]; exact hlt)
          obtain ⟨y, hy⟩ : ∃ y, y = gR Y i := ⟨_, rfl⟩
          have HSy := HS
          rw [← hy] at hc hTx htl HSy
          obtain ⟨q', t', d'⟩ := y
          unfold vR at hc
          simp only at hc htl
          have CP := put28 MB p1 T1 A1 _ c1 q' t' d' wr hK.la hK.size.2 hAS (by omega) (hTx.mono hK.size.1) htl
          have x1 := hK.xa.cell
          have HTX := hidOg (And.intro hA1 (inA_len A1 t'))
          obtain ⟨lt, hlt'⟩ : ∃ lt, lt = t'.length := ⟨_, rfl⟩
          rw [← hlt'] at CP hc
          subst hq
          clear hK hAS hTx htl hy HS hlt'
          go_wp2_with (first | (go_at_call 28; refine Calls.mono CP ?_; clear CP; rintro e w6 ⟨p2, c2, T2, rfl, hL2, hb2⟩; have hK2 := HK.out.below hb2; have z1 := hK2.xa.cell; have z2 := hK2.xa.frozen; have HK3 := hidOg (hK2.setA hL2); clear hK2 hL2 hb2))
          go_roundw
          case rel => exact ⟨i + 1, p2, T2, c2, inA A1 t', by omega, by go_num, by have := HTX.out.1; have := HTX.out.2; omega, by rw [HSy.out]; exact HAS.out.step t', HK3.out⟩
          case measure => simp [intOf]; omega
        · obtain rfl : i = k := by omega
          have CR := reverse29 w1.heap.size w1.heap.size Y q d wr hK.ro (Nat.le_refl _) (by rw [HY.out]; omega)
          rw [HY.out] at CR
          have HTa : Hid (AS (Y.map lR) A1) := by
            have h0 := hAS
            rw [List.take_of_length_le (by rw [HY.out]; exact Nat.le_refl _)] at h0
            exact h0
          have HY' : Hid (Y.reverse.length = i) := by unfold Hid; rw [List.length_reverse]; exact HY.out
          have HTL' : Hid (∀ j, j < i → (gR Y.reverse j).2.1.length ≤ 14) := fun j hj => by
            have hm := gR_mem (X := Y.reverse) (k := j) (by rw [HY'.out]; exact hj)
            obtain ⟨k', hk', e⟩ := List.getElem_of_mem (List.mem_reverse.1 hm)
            rw [← e, ← gR_eq hk']
            exact HTL.out k' (by rw [← HY.out]; exact hk')
          have hA130 : A1.length ≤ 30 := by omega
          have HA130 := hidOg hA130
          clear hK hAS K0 HAS hA1 hA130
          go_wp2_with (first | (go_at_call 29; refine Calls.mono CR ?_; clear CR; rintro e w7 ⟨rfl, hr7, hb7, hg7⟩; have HK7 := hidOg (HK.out.rev hr7 hb7 (by rw [HY.out]; exact hg7)); clear hr7 hb7 hg7))
          have HEM : Hid (∀ t, t ∈ Y.map lR ↔ t ∈ Y.reverse.map lR) := fun t => by simp
          obtain ⟨Z, hZ⟩ : ∃ Z, Z = Y.reverse := ⟨_, rfl⟩
          rw [← hZ] at HY' HTL' HEM HK7
          clear hZ HY HTL HK
          have hA1le := HA130.out
          go_loopw [61] (fun v wx => ∃ (j : Nat) (p2 : Option Addr) (T2 : List En) (c2 : Nat) (A2 : List En), j ≤ i ∧ v = .int .i64 j ∧ A2.length ≤ j ∧ AS ((Z.take j).map lR) A2 ∧ KpO w1.heap.size MB Ba Z q d p1 T1 c1 A1 p2 T2 c2 A2 w1 wx) (fun v _ => i - (intOf v).toNat)
          case atStart => exact ⟨0, pb, frL 8, cb, [], Nat.zero_le _, rfl, Nat.le_refl _, AS.nil, HK7.out⟩
          case round =>
            obtain ⟨j, p2, T2, c2, A2, hj, rfl, hA2, hAS, hK⟩ := hrel
            have HAS := hidOg hAS
            have HK := hidOg hK
            clear HK7
            by_cases hlt : j < i
            · obtain ⟨G, hq, hG1, hG2, hc, _⟩ := hK.ro.cells (k := j) (by rw [HY'.out]; exact hlt)
              have hTx := hK.ro.t _ (gR_mem (k := j) (by rw [HY'.out]; exact hlt))
              have htl := HTL'.out j hlt
              have HS : Hid ((Z.take (j + 1)).map lR = (Z.take j).map lR ++ [lR (gR Z j)]) := take_succ_gR (by rw [HY'.out]; exact hlt)
              obtain ⟨y, hy⟩ : ∃ y, y = gR Z j := ⟨_, rfl⟩
              have HSy := HS
              rw [← hy] at hc hTx htl HSy
              obtain ⟨q', t', d'⟩ := y
              unfold vR at hc
              simp only at hc htl
              have CP := put28 MB p2 T2 A2 _ c2 q' t' d' wr hK.lb hK.size.2 hAS (by omega) (hTx.mono hK.size.1) htl
              have x1 := hK.xb.cell
              have HTX := hidOg (And.intro hA2 (inA_len A2 t'))
              obtain ⟨lt, hlt'⟩ : ∃ lt, lt = t'.length := ⟨_, rfl⟩
              rw [← hlt'] at CP hc
              subst hq
              clear hK hAS hTx htl hy HS hlt'
              go_wp2_with (first | (go_at_call 28; refine Calls.mono CP ?_; clear CP; rintro e w6 ⟨p3, c3, T3, rfl, hL2, hb2⟩; have hK2 := HK.out.below hb2; have z1 := hK2.xb.cell; have z2 := hK2.xb.frozen; have HK3 := hidOg (hK2.setB hL2); clear hK2 hL2 hb2))
              go_roundw
              case rel => exact ⟨j + 1, p3, T3, c3, inA A2 t', by omega, by go_num, by have := HTX.out.1; have := HTX.out.2; omega, by rw [HSy.out]; exact HAS.out.step t', HK3.out⟩
              case measure => simp [intOf]; omega
            · obtain rfl : j = i := by omega
              have HTb : Hid (A1 = A2) := by
                have h0 := hAS
                rw [List.take_of_length_le (by rw [HY'.out]; exact Nat.le_refl _)] at h0
                exact HTa.out.eq h0 HEM.out
              clear hK hAS HAS hA2
              go_wp2
              go_loopw [72] (fun v wx => ∃ k : Nat, k ≤ j ∧ v = .int .i64 k ∧ KpO w1.heap.size MB Ba Z q d p1 T1 c1 A1 p2 T2 c2 A2 w1 wx) (fun v _ => j - (intOf v).toNat)
              case atStart => exact ⟨0, Nat.zero_le _, rfl, HK.out⟩
              case round =>
                obtain ⟨k, hk, rfl, hK⟩ := hrel
                have HK := hidOg hK
                by_cases hlt : k < j
                · obtain ⟨G, hq, hG1, hG2, hc, _⟩ := hK.ro.cells (k := k) (by rw [HY'.out]; exact hlt)
                  have hTx := hK.ro.t _ (gR_mem (k := k) (by rw [HY'.out]; exact hlt))
                  have htl := HTL'.out k hlt
                  have hmem : lR (gR Z k) ∈ Y.map lR := (HEM.out _).2 (List.mem_map.2 ⟨_, gR_mem (k := k) (by rw [HY'.out]; exact hlt), rfl⟩)
                  obtain ⟨y, hy⟩ : ∃ y, y = gR Z k := ⟨_, rfl⟩
                  rw [← hy] at hc hTx htl hmem
                  obtain ⟨q', t', d'⟩ := y
                  unfold vR at hc
                  unfold lR at hmem
                  simp only at hc htl hmem
                  have hf := HTa.out.fi t'
                  have hTw := hTx.mono hK.size.1
                  have CK := fun (W : World) (hb : Below wr.heap.size wr W) => check30 q' t' d' W (hTw.to hb).i hTw.u (by omega)
                  have x1 := hK.xa.cell
                  cases hmt : mayT t'
                  · rw [if_neg (by rw [hmt]; simp)] at hf
                    have CF := find_yes p1 T1 A1 c1 q' t' d' (-1) wr hK.la.lk hTw (by omega) hf.symm
                    have e1 : max (-1 : Int) 0 = 0 := rfl
                    have e2 : decide (0 ≤ (-1 : Int)) = false := rfl
                    have e3 : chkE t' = 130 := by unfold chkE; rw [hmt]; rfl
                    rw [e1, e2] at CF
                    rw [e3] at CK
                    obtain ⟨lt, hlt'⟩ : ∃ lt, lt = t'.length := ⟨_, rfl⟩
                    rw [← hlt'] at CF CK hc
                    subst hq
                    clear hK hTx htl hy hlt' hmem hf hTw e1 e2 e3 hmt
                    go_wp2_with (first | (go_at_call 15; refine Calls.mono CF ?_; clear CF; rintro e w6 ⟨rfl, hb6⟩; have CK6 := CK _ hb6; have HK6 := hidOg (HK.out.below hb6); clear hb6 CK) | (go_at_call 30; refine Calls.mono CK6 ?_; clear CK6; rintro e w7 ⟨rfl, hb7⟩; have HK8 := hidOg (HK6.out.below hb7); clear hb7))
                    go_roundw
                    case rel => exact ⟨k + 1, by omega, by go_num, HK8.out⟩
                    case measure => simp [intOf]; omega
                  · rw [if_pos ⟨hmem, hmt⟩] at hf
                    have CF := find_yes p1 T1 A1 c1 q' t' d' (t'.length : Int) wr hK.la.lk hTw (by omega) hf.symm
                    have e1 : max (t'.length : Int) 0 = (t'.length : Int) := Int.max_eq_left (by omega)
                    have e2 : decide (0 ≤ (t'.length : Int)) = true := decide_eq_true (by omega)
                    have e3 : chkE t' = 0 := by unfold chkE; rw [hmt]; rfl
                    rw [e1, e2] at CF
                    rw [e3] at CK
                    obtain ⟨lt, hlt'⟩ : ∃ lt, lt = t'.length := ⟨_, rfl⟩
                    rw [← hlt'] at CF CK hc
                    subst hq
                    clear hK hTx htl hy hlt' hmem hf hTw e1 e2 e3 hmt
                    go_wp2_with (first | (go_at_call 15; refine Calls.mono CF ?_; clear CF; rintro e w6 ⟨rfl, hb6⟩; have CK6 := CK _ hb6; have HK6 := hidOg (HK.out.below hb6); clear hb6 CK) | (go_at_call 30; refine Calls.mono CK6 ?_; clear CK6; rintro e w7 ⟨rfl, hb7⟩; have HK8 := hidOg (HK6.out.below hb7); clear hb7))
                    go_roundw
                    case rel => exact ⟨k + 1, by omega, by go_num, HK8.out⟩
                    case measure => simp [intOf]; omega
                · obtain rfl : k = j := by omega
                  have CS : Calls Try.prog 26 #[.agg #[.slice p1 T1.length c1], .agg #[.slice p2 T2.length c2]] wr fun e w' => e = .returned (.bool true) ∧ Below wr.heap.size wr w' := by
                    have := same26 p1 T1 c1 p2 T2 c2 wr hK.la.lk.e hK.lb.lk.e (by have := hK.la.n; omega) (by have := hK.lb.n; omega) (lb_of_ri hK.la.r.r) (lb_of_ri hK.lb.r.r)
                    rwa [alO_of hK.la.r, alO_of hK.lb.r, HTb.out, saL_refl] at this
                  have CC : ∀ W, Below wr.heap.size wr W → Calls Try.prog 12 #[.agg #[.slice p1 T1.length c1]] W fun e w' => e = .returned (.int .i64 0) ∧ Below W.heap.size W w' := fun W hb => by
                    have hk := (hK.below hb).la
                    have := check12 p1 T1 c1 W hk.lk.e (by have := hk.n; omega) (lb_of_ri hk.r.r)
                    rwa [chL_of hk.r] at this
                  have x1 := hK.xa.cell
                  have x2 := hK.xb.cell
                  have HBw : Hid (Below w.heap.size w wr) := HB1.out.trans (hK.be.mono HB1.out.size)
                  have HKA := hidOg (fun W hb => (hK.below (W' := W) hb).xa.cell)
                  clear hK
                  go_wp2_with (first | (go_at_call 26; refine Calls.mono CS ?_; clear CS; rintro e w6 ⟨rfl, hb6⟩; have y1 := HKA.out _ hb6; have CC6 := CC _ hb6; have HB6 := hidOg (HBw.out.trans (hb6.mono HBw.out.size)); clear hb6 CC) | (go_at_call 12; refine Calls.mono CC6 ?_; clear CC6; rintro e w7 ⟨rfl, hb7⟩; have HB7 := hidOg (HB6.out.trans (hb7.mono HB6.out.size)); clear hb7))
                  go_ret
                  exact ⟨rfl, HB7.out⟩
end Go.Proofs.Ytjnhalomkmdcgaa
