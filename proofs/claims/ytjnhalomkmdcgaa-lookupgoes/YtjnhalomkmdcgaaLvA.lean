/- The document's answer: Same of types, Find, Same of entries, Found. -/
import Derived.Test.YtjnhalomkmdcgaaWk
namespace Go.Proofs.Ytjnhalomkmdcgaa
open Go.RowKit

theorem bal_lt {w : World} {n : Nat} (o : Obj) (h : n ≤ w.heap.size) : Below n w (w.alloc o) := (Below.refl _ _).alloc h o
theorem box3 (w : World) (a b c : Value) {W : World} (hb : Below (w.alloc (.cells #[a, b, c] 39)).heap.size (w.alloc (.cells #[a, b, c] 39)) W) : W.cell? ⟨w.heap.size, 0, none⟩ = some a ∧ W.cell? ⟨w.heap.size, 1, none⟩ = some b ∧ W.cell? ⟨w.heap.size, 2, none⟩ = some c := by
  obtain ⟨z0, z1, z2, _⟩ := heap3_cell ((hb.block w.heap.size (by simp)).trans (World.alloc_heap_new w _))
  exact ⟨z0, z1, z2⟩
/-- Are two rows one? -/
def eqB (l r : List Int) : Bool := decide (l = r)
theorem eqB_t (l : List Int) : eqB l l = true := by simp [eqB]
theorem eqB_ne {l r : List Int} (h : l ≠ r) : eqB l r = false := by simp [eqB, h]
theorem ext_iG {l r : List Int} (hl : l.length = r.length) (h : ∀ k, k < l.length → iG l k = iG r k) : l = r := by
  apply List.ext_getElem hl
  intro k h1 h2
  have := h k h1
  rwa [iG_eq h1, iG_eq h2] at this
set_option maxHeartbeats 1000000 in
theorem same33 (p : Option Addr) (l : List Int) (c : Nat) (q : Option Addr) (r : List Int) (d : Nat) (w : World) (hS : IRow .u64 w.heap.size w p l) (hR : IRow .u64 w.heap.size w q r) (l1 : l.length ≤ 1000000) :
    Calls Try.prog 33 #[.slice p l.length c, .slice q r.length d] w fun e w' => e = .returned (.bool (eqB l r)) ∧ Below w.heap.size w w' := by
  by_cases hlen : l.length = r.length
  · obtain ⟨v, hv⟩ : ∃ v, v = eqB l r := ⟨_, rfl⟩
    rw [← hv]
    have HV := hidOg hv
    have HLn := hidOg hlen
    obtain ⟨m, hm⟩ : ∃ m, m = l.length := ⟨_, rfl⟩
    have HM := hidOg hm
    have HSr := hidOg hS
    have HRr := hidOg hR
    rw [← hlen, ← hm]
    rw [← hm] at l1
    clear hv hlen hm hS hR
    go_enter Try.func33, Try.ntmps33
    go_wp2
    go_loopw [13] (fun i wr => ∃ k : Nat, k ≤ m ∧ i = .int .i64 k ∧ (∀ j, j < k → iG l j = iG r j) ∧ Below w.heap.size w wr) (fun i _ => m - (intOf i).toNat)
    case atStart => exact ⟨0, Nat.zero_le _, rfl, fun j h => by omega, Below.refl _ _⟩
    case round =>
      obtain ⟨k, hk, rfl, hall, hB⟩ := hrel
      have HA := hidOg hall
      have HB := hidOg hB
      clear hall hB
      by_cases hlt : k < m
      · obtain ⟨b, off, rfl, hbN, hcs⟩ := HSr.out (by have := HM.out; omega)
        obtain ⟨b', off', rfl, hbN', hcs'⟩ := HRr.out (by have := HM.out; have := HLn.out; omega)
        have k0 := (HB.out.cell (p := ⟨b, off + k, none⟩) hbN).trans (hcs k (by have := HM.out; omega))
        have j0 := (HB.out.cell (p := ⟨b', off' + k, none⟩) hbN').trans (hcs' k (by have := HM.out; have := HLn.out; omega))
        obtain ⟨x, hx⟩ : ∃ x, x = iG l k := ⟨_, rfl⟩
        obtain ⟨y, hy⟩ : ∃ y, y = iG r k := ⟨_, rfl⟩
        rw [← hx] at k0
        rw [← hy] at j0
        have HX := hidOg hx
        have HY := hidOg hy
        clear hcs hcs' hx hy
        by_cases hxy : x = y
        · have hxy' : (x == y) = true := by simpa using hxy
          have hxy2 : (x != y) = false := by simp [hxy]
          have HXY := hidOg hxy
          clear hxy
          go_wp2
          go_region
          all_goals
            go_wp2
            go_roundw
            case rel =>
              refine ⟨k + 1, by omega, by go_num, fun j hj => ?_, HB.out.trans (below_drew _ _)⟩
              by_cases e : j = k
              · rw [e, ← HX.out, ← HY.out]; exact HXY.out
              · exact HA.out j (by omega)
            case measure => simp [intOf]; omega
        · have hxy' : (x == y) = false := by simpa using hxy
          have hxy2 : (x != y) = true := by simp [hxy]
          have HXY := hidOg hxy
          clear hxy
          go_wp2
          go_region
          all_goals
            go_wp2
            go_ret
            refine ⟨ret_bool ?_, HB.out.trans (below_drew _ _)⟩
            rw [HV.out, eqB_ne]
            intro e
            exact HXY.out (by rw [HX.out, HY.out, e])
      · obtain rfl : k = m := by omega
        go_wp2
        go_ret
        refine ⟨ret_bool ?_, HB.out⟩
        rw [HV.out, ext_iG HLn.out (by rw [← HM.out]; exact HA.out), eqB_t]
  · have hl' : ((l.length : Int) == (r.length : Int)) = false := by simp; omega
    have hl2 : ((l.length : Int) != (r.length : Int)) = true := by simp; omega
    rw [eqB_ne (fun e => hlen (by rw [e]))]
    clear hS hR hlen
    go_enter Try.func33, Try.ntmps33
    go_wp2
    go_ret
    exact ⟨rfl, Below.refl _ _⟩
theorem fiL_step {L : List En} {k : Nat} {t : List Int} (h : k < L.length) : fiL (L.drop k) t = if (gE L k).2.1 = t then (gE L k).2.2 else fiL (L.drop (k + 1)) t := by
  rw [List.drop_eq_getElem_cons h, ← gE_eq h]; rfl
set_option maxHeartbeats 1000000 in
theorem find16 (p : Option Addr) (L : List En) (c : Nat) (q : Option Addr) (t : List Int) (d : Nat) (w : World) (hE : ERow w.heap.size w p L) (hm2 : L.length ≤ 1000) (hB : LB L) (hT : TRow w.heap.size w q t d) (ht : t.length ≤ 1000) :
    Calls Try.prog 16 #[.slice p L.length c, .slice q t.length d] w fun e w' => e = .returned (.int .i64 (fiL L t)) ∧ Below w.heap.size w w' := by
  obtain ⟨v, hv⟩ : ∃ v, v = fiL L t := ⟨_, rfl⟩
  rw [← hv]
  have HV := hidOg hv
  obtain ⟨m, hm⟩ : ∃ m, m = L.length := ⟨_, rfl⟩
  have HM := hidOg hm
  have HEr := hidOg hE
  have HTr := hidOg hT
  have HLB := hidOg hB
  have HTL := hidOg ht
  obtain ⟨lt, hlt0⟩ : ∃ lt, lt = t.length := ⟨_, rfl⟩
  have HLT := hidOg hlt0
  rw [← hm] at hm2 ⊢
  rw [← hlt0]
  clear hv hm hE hT hB ht hlt0
  go_enter Try.func16, Try.ntmps16
  go_wp2
  go_loopw [9] (fun i wr => ∃ k : Nat, k ≤ m ∧ i = .int .i64 k ∧ fiL (L.drop k) t = v ∧ Below w.heap.size w wr) (fun i _ => m - (intOf i).toNat)
  case atStart => exact ⟨0, Nat.zero_le _, rfl, HV.out.symm, Below.refl _ _⟩
  case round =>
    obtain ⟨k, hk, rfl, hall, hB⟩ := hrel
    have HA := hidOg hall
    have HB := hidOg hB
    clear hall hB
    by_cases hlt : k < m
    · obtain ⟨b, off, rfl, hbN, hcs⟩ := HEr.out (by have := HM.out; omega)
      obtain ⟨k0, ⟨qx, cx, k1, hTx⟩, k2⟩ := hcs k (by have := HM.out; omega)
      have k0' := (HB.out.cell (p := ⟨b, off + k * 3, none⟩) hbN).trans k0
      have k1' := (HB.out.cell (p := ⟨b, off + k * 3 + 1, none⟩) hbN).trans k1
      have k2' := (HB.out.cell (p := ⟨b, off + k * 3 + 2, none⟩) hbN).trans k2
      have hlb := HLB.out k (by have := HM.out; omega)
      have hst := fiL_step (t := t) (show k < L.length by have := HM.out; omega)
      have bal : ∀ o : Obj, Below w.heap.size w (wr.alloc o) := fun o => HB.out.trans (((Below.refl _ wr).alloc (Nat.le_refl _) o).mono HB.out.size)
      have HBA := hidOg bal
      obtain ⟨y, hy⟩ : ∃ y, y = gE L k := ⟨_, rfl⟩
      rw [← hy] at k0' k1' k2' hTx hlb hst
      obtain ⟨s', t', n'⟩ := y
      simp only at k0' k1' k2' hlb hst
      have CS := fun (W : World) (hb : Below w.heap.size w W) => same33 qx t' cx q t d W ((hTx.i.below hb (Nat.le_refl _)).mono hb.size) ((HTr.out.i.below hb (Nat.le_refl _)).mono hb.size) (by omega)
      rw [← HLT.out] at CS
      obtain ⟨lx, hlx⟩ : ∃ lx, lx = t'.length := ⟨_, rfl⟩
      rw [← hlx] at CS k1'
      have HST := hidOg hst
      by_cases he : t' = t
      · have e1 : eqB t' t = true := by rw [he, eqB_t]
        rw [e1] at CS
        have HE2 : Hid (n' = v) := by
          unfold Hid
          have := HA.out; rw [HST.out, if_pos he] at this; exact this
        clear hcs k0 k1 k2 hTx hlb hst hy hlx he e1 bal
        go_wp2_with (first | (go_at_call 33; refine Calls.mono (CS _ (HBA.out _)) ?_; rintro e w1 ⟨rfl, hb1⟩; have z2 := (hb1.block _ (by simp)).trans (World.alloc_heap_new wr (.cells #[.int .i64 s', .slice qx lx cx, .int .i64 n'] 39)); obtain ⟨_, _, z2, _⟩ := heap3_cell z2; have HB1 := hidOg ((HBA.out _).trans (hb1.mono (HBA.out _).size)); clear hb1))
        go_ret
        exact ⟨ret_int HE2.out, HB1.out⟩
      · have e1 : eqB t' t = false := eqB_ne he
        rw [e1] at CS
        have HE2 : Hid (fiL (L.drop (k + 1)) t = v) := by
          unfold Hid
          have := HA.out; rw [HST.out, if_neg he] at this; exact this
        clear hcs k0 k1 k2 hTx hlb hst hy hlx he e1 bal
        go_wp2_with (first | (go_at_call 33; refine Calls.mono (CS _ (HBA.out _)) ?_; rintro e w1 ⟨rfl, hb1⟩; have HB1 := hidOg ((HBA.out _).trans (hb1.mono (HBA.out _).size)); clear hb1))
        go_roundw
        case rel => exact ⟨k + 1, by omega, by go_num, HE2.out, HB1.out⟩
        case measure => simp [intOf]; omega
    · obtain rfl : k = m := by omega
      go_wp2
      go_ret
      refine ⟨ret_int ?_, HB.out⟩
      have := HA.out
      rw [HM.out, List.drop_length] at this
      exact this
/-- Are two rows of entries one? -/
def eqL (A C : List En) : Bool := decide (A = C)
theorem eqL_t (A : List En) : eqL A A = true := by simp [eqL]
theorem eqL_ne {A C : List En} (h : A ≠ C) : eqL A C = false := by simp [eqL, h]
theorem ext_gE {A C : List En} (hl : A.length = C.length) (h : ∀ k, k < A.length → gE A k = gE C k) : A = C := by
  apply List.ext_getElem hl
  intro k h1 h2
  have := h k h1
  rwa [gE_eq h1, gE_eq h2] at this
set_option maxRecDepth 20000 in
set_option maxHeartbeats 2000000 in
theorem same13 (p : Option Addr) (A : List En) (c : Nat) (q : Option Addr) (C : List En) (d : Nat) (w : World) (hA : ERow w.heap.size w p A) (hC : ERow w.heap.size w q C) (lA : LB A) (lC : LB C) (nA : A.length ≤ 1000) :
    Calls Try.prog 13 #[.slice p A.length c, .slice q C.length d] w fun e w' => e = .returned (.bool (eqL A C)) ∧ Below w.heap.size w w' := by
  by_cases hlen : A.length = C.length
  · obtain ⟨v, hv⟩ : ∃ v, v = eqL A C := ⟨_, rfl⟩
    rw [← hv]
    have HV := hidOg hv
    have HLn := hidOg hlen
    obtain ⟨m, hm⟩ : ∃ m, m = A.length := ⟨_, rfl⟩
    have HM := hidOg hm
    have HAr := hidOg hA
    have HCr := hidOg hC
    have HLA := hidOg lA
    have HLC := hidOg lC
    rw [← hlen, ← hm]
    rw [← hm] at nA
    clear hv hlen hm hA hC lA lC
    go_enter Try.func13, Try.ntmps13
    go_wp2
    go_loopw [14] (fun i wr => ∃ k : Nat, k ≤ m ∧ i = .int .i64 k ∧ (∀ j, j < k → gE A j = gE C j) ∧ Below w.heap.size w wr) (fun i _ => m - (intOf i).toNat)
    case atStart => exact ⟨0, Nat.zero_le _, rfl, fun j h => by omega, Below.refl _ _⟩
    case round =>
      obtain ⟨k, hk, rfl, hall, hB⟩ := hrel
      have HA := hidOg hall
      have HB := hidOg hB
      clear hall hB
      by_cases hlt : k < m
      · obtain ⟨b, off, rfl, hbN, hcs⟩ := HAr.out (by have := HM.out; omega)
        obtain ⟨b', off', rfl, hbN', hcs'⟩ := HCr.out (by have := HM.out; have := HLn.out; omega)
        obtain ⟨k0, ⟨qx, cx, k1, hTx⟩, k2⟩ := hcs k (by have := HM.out; omega)
        obtain ⟨j0, ⟨qy, cy, j1, hTy⟩, j2⟩ := hcs' k (by have := HM.out; have := HLn.out; omega)
        have k0' := (HB.out.cell (p := ⟨b, off + k * 3, none⟩) hbN).trans k0
        have k1' := (HB.out.cell (p := ⟨b, off + k * 3 + 1, none⟩) hbN).trans k1
        have k2' := (HB.out.cell (p := ⟨b, off + k * 3 + 2, none⟩) hbN).trans k2
        have hlx := HLA.out k (by have := HM.out; omega)
        have hly := HLC.out k (by have := HM.out; have := HLn.out; omega)
        obtain ⟨x, hx⟩ : ∃ x, x = gE A k := ⟨_, rfl⟩
        obtain ⟨y, hy⟩ : ∃ y, y = gE C k := ⟨_, rfl⟩
        have HX := hidOg hx
        have HY := hidOg hy
        rw [← hx] at k0' k1' k2' hTx hlx
        rw [← hy] at j0 j1 j2 hTy hly
        obtain ⟨s1, t1, n1⟩ := x
        obtain ⟨s2, t2, n2⟩ := y
        simp only at k0' k1' k2' j0 j1 j2 hlx hly
        have CS := fun (W : World) (hb : Below w.heap.size w W) => same33 qx t1 cx qy t2 cy W ((hTx.i.below hb (Nat.le_refl _)).mono hb.size) ((hTy.i.below hb (Nat.le_refl _)).mono hb.size) (by omega)
        obtain ⟨l1, hl1⟩ : ∃ l1, l1 = t1.length := ⟨_, rfl⟩
        obtain ⟨l2, hl2⟩ : ∃ l2, l2 = t2.length := ⟨_, rfl⟩
        rw [← hl1] at CS k1'
        rw [← hl2] at CS j1
        have KS : Hid (∀ W, Below (wr.alloc (.cells #[.int .i64 s1, .slice qx l1 cx, .int .i64 n1] 39)).heap.size (wr.alloc (.cells #[.int .i64 s1, .slice qx l1 cx, .int .i64 n1] 39)) W → (W.cell? ⟨wr.heap.size, 0, none⟩ = some (.int .i64 s1) ∧ W.cell? ⟨wr.heap.size, 1, none⟩ = some (.slice qx l1 cx) ∧ W.cell? ⟨wr.heap.size, 2, none⟩ = some (.int .i64 n1) ∧
            W.cell? ⟨b', off' + k * 3, none⟩ = some (.int .i64 s2) ∧ W.cell? ⟨b', off' + k * 3 + 1, none⟩ = some (.slice qy l2 cy) ∧ W.cell? ⟨b', off' + k * 3 + 2, none⟩ = some (.int .i64 n2)) ∧ Below w.heap.size w W) := fun W hb => by
          have z := (hb.block wr.heap.size (by simp)).trans (World.alloc_heap_new wr _)
          obtain ⟨z0, z1, z2, _⟩ := heap3_cell z
          have hbw : Below w.heap.size w W := HB.out.trans (((Below.refl _ wr).alloc (Nat.le_refl _) _).trans (hb.mono (by simp)) |>.mono HB.out.size)
          exact ⟨⟨z0, z1, z2, (hbw.cell (p := ⟨b', off' + k * 3, none⟩) hbN').trans j0, (hbw.cell (p := ⟨b', off' + k * 3 + 1, none⟩) hbN').trans j1, (hbw.cell (p := ⟨b', off' + k * 3 + 2, none⟩) hbN').trans j2⟩, hbw⟩
        have hlk := HLn.out
        have hmk := HM.out
        have hkC : (k : Int) < (C.length : Int) := by omega
        clear hcs hcs' k0 k1 k2 j0 j1 j2 hTx hTy hlx hly hl1 hl2 hx hy hlk hmk
        by_cases hs : s1 = s2
        · by_cases hn : n1 = n2
          · have es : (s1 != s2) = false := by simp [hs]
            have en : (n1 != n2) = false := by simp [hn]
            have HS := hidOg hs
            have HN := hidOg hn
            obtain ⟨r, hr⟩ : ∃ r, r = eqB t1 t2 := ⟨_, rfl⟩
            rw [← hr] at CS
            have HR := hidOg hr
            clear hs hn hr
            go_wp2
            have HB0 : Hid (Below (wr.alloc (.cells #[.int .i64 s1, .slice qx l1 cx, .int .i64 n1] 39)).heap.size (wr.alloc (.cells #[.int .i64 s1, .slice qx l1 cx, .int .i64 n1] 39)) (wr.alloc (.cells #[.int .i64 s1, .slice qx l1 cx, .int .i64 n1] 39)).drew) := below_drew _ _
            obtain ⟨⟨y0, y1, y2, y3, y4, y5⟩, _⟩ := KS.out _ (Below.refl _ _)
            go_region_held3 (fun w' => w'.cell? ⟨wr.heap.size, 0, none⟩ = some (.int .i64 s1) ∧ w'.cell? ⟨wr.heap.size, 1, none⟩ = some (.slice qx l1 cx) ∧ w'.cell? ⟨wr.heap.size, 2, none⟩ = some (.int .i64 n1) ∧ w'.cell? ⟨b', off' + k * 3, none⟩ = some (.int .i64 s2) ∧ w'.cell? ⟨b', off' + k * 3 + 1, none⟩ = some (.slice qy l2 cy) ∧ w'.cell? ⟨b', off' + k * 3 + 2, none⟩ = some (.int .i64 n2)) (first | with_reducible exact ⟨z0, z1, z2, z3, z4, z5⟩ | go_keep) (first
              | (go_at_call 33; refine Calls.mono (CS _ (KS.out _ HB0.out).2) ?_; rintro e w2 ⟨rfl, hb2⟩; have HB2 := hidOg (HB0.out.trans (hb2.mono HB0.out.size)); obtain ⟨⟨z0, z1, z2, z3, z4, z5⟩, _⟩ := KS.out _ HB2.out; clear hb2))
            all_goals
              cases r
              · go_wp2
                go_ret
                refine ⟨ret_bool ?_, (KS.out _ HB2.out).2⟩
                rw [HV.out, eqL_ne]
                intro e
                have e1 : (s1, t1, n1) = (s2, t2, n2) := by rw [HX.out, HY.out, e]
                have e2 : t1 = t2 := by injection e1 with _ e3; injection e3
                have := HR.out
                rw [e2, eqB_t] at this
                cases this
              · go_wp2
                go_roundw
                case rel =>
                  refine ⟨k + 1, by omega, by go_num, fun j hj => ?_, (KS.out _ HB2.out).2⟩
                  by_cases e : j = k
                  · rw [e, ← HX.out, ← HY.out, HS.out, HN.out]
                    have h0 : t1 = t2 := by have := HR.out; unfold eqB at this; exact of_decide_eq_true this.symm
                    rw [h0]
                  · exact HA.out j (by omega)
                case measure => simp [intOf]; omega
          · have es : (s1 != s2) = false := by simp [hs]
            have en : (n1 != n2) = true := by simpa using hn
            have HN := hidOg hn
            obtain ⟨⟨y0, y1, y2, y3, y4, y5⟩, hbk⟩ := KS.out _ (Below.refl _ _)
            have HBk := hidOg hbk
            clear hs hn hbk CS
            go_wp2
            go_quiet (fail)
            go_wp2
            go_ret
            refine ⟨ret_bool ?_, below_drewN HBk.out _⟩
            rw [HV.out, eqL_ne]
            intro e
            have e1 : (s1, t1, n1) = (s2, t2, n2) := by rw [HX.out, HY.out, e]
            injection e1 with _ e3
            injection e3 with _ e4
            exact HN.out e4
        · have es : (s1 != s2) = true := by simpa using hs
          have HS := hidOg hs
          obtain ⟨⟨y0, y1, y2, y3, y4, y5⟩, hbk⟩ := KS.out _ (Below.refl _ _)
          have HBk := hidOg hbk
          clear hs hbk CS
          go_wp2
          go_quiet (fail)
          go_wp2
          go_ret
          refine ⟨ret_bool ?_, below_drewN HBk.out _⟩
          rw [HV.out, eqL_ne]
          intro e
          have e1 : (s1, t1, n1) = (s2, t2, n2) := by rw [HX.out, HY.out, e]
          injection e1 with e3 _
          exact HS.out e3
      · obtain rfl : k = m := by omega
        go_wp2
        go_ret
        refine ⟨ret_bool ?_, HB.out⟩
        rw [HV.out, ext_gE HLn.out (by rw [← HM.out]; exact HA.out), eqL_t]
  · have hl' : ((A.length : Int) == (C.length : Int)) = false := by simp; omega
    have hl2 : ((A.length : Int) != (C.length : Int)) = true := by simp; omega
    rw [eqL_ne (fun e => hlen (by rw [e]))]
    clear hA hC hlen lA lC
    go_enter Try.func13, Try.ntmps13
    go_wp2
    go_ret
    exact ⟨rfl, Below.refl _ _⟩
end Go.Proofs.Ytjnhalomkmdcgaa
