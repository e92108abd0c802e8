/- mayBe; Check, Many, Find, New. -/
import Derived.Test.YtjnhalomkmdcgaaLuD
namespace Go.Proofs.Ytjnhalomkmdcgaa
open Go.RowKit

theorem hr_iff {m t : Nat} (h : ∃ e, m = 8 * 2 ^ e) : hrB m t = true ↔ 4 * t ≤ 3 * m ∧ t ≤ 4000 := by
  obtain ⟨e, rfl⟩ := h
  unfold hrB
  simp only [Bool.and_eq_true, decide_eq_true_eq]
  have : 8 * 2 ^ e / 4 * 3 = 6 * 2 ^ e := by omega
  omega
theorem ri_iff {L : List En} (hp : ∃ e, L.length = 8 * 2 ^ e) (hok : ∀ k, k < L.length → okE (gE L k) = true) (hr : hrB L.length (taK L) = true) : RiL hsT mayT L ↔ Laid hsT L ∧ DT L :=
  ⟨fun h => ⟨h.la, h.dt⟩, fun ⟨h1, h2⟩ => ⟨hp, fun i hi => (ok_iff L i).1 (hok i hi), h1, h2, ((hr_iff hp).1 hr).1, ((hr_iff hp).1 hr).2⟩⟩

set_option maxRecDepth 20000 in
set_option maxHeartbeats 4000000 in
theorem mayBe34 (p : Option Addr) (L : List En) (c : Nat) (w : World) (hE : ERow w.heap.size w p L) (hm2 : L.length ≤ 512) (hB : LB L) :
    Calls Try.prog 34 #[.slice p L.length c] w fun e w' => e = .returned (.bool (riB L)) ∧ Below w.heap.size w w' := by
  obtain ⟨n, hn⟩ : ∃ n, n = L.length := ⟨_, rfl⟩
  obtain ⟨r, hr⟩ : ∃ r, r = riB L := ⟨_, rfl⟩
  have HN := hidOg hn
  have HR := hidOg hr
  have HE := hidOg hE
  have HLB := hidOg hB
  rw [← hr, ← hn]
  rw [← hn] at hm2
  clear hE hr hn hB
  by_cases h8 : n < 8
  · have e : r = false := by rw [HR.out]; exact riB_f fun h => by have := h.pos; have := HN.out; omega
    subst e
    go_enter Try.func34, Try.ntmps34
    go_wp2
    go_ret
    exact ⟨rfl, Below.refl _ _⟩
  · have CO := fun (W : World) => ones55 n hm2 W
    have hw : IntKind.u64.wrap (n : Int) = (n : Int) := by simp [IntKind.wrap, IntKind.bits, IntKind.signed]; omega
    by_cases h1 : pcN n = 1
    · have HP : Hid (∃ e, L.length = 8 * 2 ^ e) := by
        have := (pow_is (by omega) hm2).1 (by rw [← pcN_is hm2]; exact h1)
        rwa [HN.out] at this
      rw [h1] at CO
      have e1 : (((1 : Nat) : Int)) = 1 := rfl
      rw [e1] at CO
      clear h1 e1
      go_enter Try.func34, Try.ntmps34
      go_wp2_with (first | (go_at_call 55; refine Calls.mono (CO _) ?_; rintro e w1 ⟨rfl, hw1⟩; rw [hw1]; clear hw1 w1))
      go_loopw [17] (fun i wr => ∃ k : Nat, k ≤ n ∧ i = .int .i64 k ∧ (∀ i, i < k → okE (gE L i) = true) ∧ Below w.heap.size w wr) (fun i _ => n - (intOf i).toNat)
      case atStart => exact ⟨0, Nat.zero_le _, rfl, fun i h => by omega, Below.refl _ _⟩
      case round =>
        obtain ⟨k, hk, rfl, hall, hB⟩ := hrel
        have HA := hidOg hall
        have HB := hidOg hB
        clear hall hB CO
        by_cases hlt : k < n
        · obtain ⟨b, off, rfl, hbN, hcs⟩ := HE.out (by have := HN.out; omega)
          obtain ⟨k0, ⟨qx, cx, k1, hTx⟩, k2⟩ := hcs k (by have := HN.out; omega)
          have k0' := (HB.out.cell (p := ⟨b, off + k * 3, none⟩) hbN).trans k0
          have k1' := (HB.out.cell (p := ⟨b, off + k * 3 + 1, none⟩) hbN).trans k1
          have k2' := (HB.out.cell (p := ⟨b, off + k * 3 + 2, none⟩) hbN).trans k2
          have HBA := hidOg (fun (o : Obj) => HB.out.trans (((Below.refl _ wr).alloc (Nat.le_refl _) o).mono HB.out.size))
          have CE := fun (W : World) (hb : Below w.heap.size w W) => entry56 (gE L k).1 (gE L k).2.2 qx (gE L k).2.1 cx W ((hTx.i.below hb (Nat.le_refl _)).mono hb.size) hTx.u (HLB.out k (by have := HN.out; omega))
          obtain ⟨o, ho⟩ : ∃ o, o = okE ((gE L k).1, (gE L k).2.1, (gE L k).2.2) := ⟨_, rfl⟩
          rw [← ho] at CE
          have HO : Hid (o = okE (gE L k)) := ho
          obtain ⟨la, hla⟩ : ∃ la, la = (gE L k).2.1.length := ⟨_, rfl⟩
          rw [← hla] at CE k1'
          obtain ⟨s, hs⟩ : ∃ s, s = (gE L k).1 := ⟨_, rfl⟩
          rw [← hs] at CE k0'
          obtain ⟨z, hz⟩ : ∃ z, z = (gE L k).2.2 := ⟨_, rfl⟩
          rw [← hz] at CE k2'
          clear hla hs hz ho hcs k0 k1 k2 hTx
          cases o
          · have e : r = false := by
              rw [HR.out]
              exact riB_f fun h => by
                have := (ok_iff L k).2 (h.ok k (by have := HN.out; omega))
                rw [← HO.out] at this
                cases this
            subst e
            go_wp2_with (first | (go_at_call 56; refine Calls.mono (CE _ (HBA.out _)) ?_; rintro e w1 ⟨rfl, hb1⟩))
            go_ret
            exact ⟨rfl, (HBA.out _).trans (hb1.mono (HBA.out _).size)⟩
          · go_wp2_with (first | (go_at_call 56; refine Calls.mono (CE _ (HBA.out _)) ?_; rintro e w1 ⟨rfl, hb1⟩))
            go_roundw
            case rel =>
              refine ⟨k + 1, by omega, by go_num, fun j hj => ?_, (HBA.out _).trans (hb1.mono (HBA.out _).size)⟩
              by_cases e : j = k
              · rw [e]; exact HO.out.symm
              · exact HA.out j (by omega)
            case measure => simp [intOf]; omega
        · obtain rfl : k = n := by omega
          have hok : ∀ i, i < L.length → okE (gE L i) = true := fun i hi => HA.out i (by rw [HN.out]; exact hi)
          have hst := st_of_ok hok
          have CC := fun (W : World) (hb : Below w.heap.size w W) => count39 p L c W (HE.out.to hb) (by have := HN.out; omega) hst
          have le1 := ctS_le L 1
          have le2 := ctS_le L 2
          have CN := fun (W : World) => notFree46 (ctS L 0 : Nat) (ctS L 1 : Nat) (ctS L 2 : Nat) (by have := HN.out; omega) (by have := HN.out; omega) W
          have CH := fun (W : World) => hasRoom45 k (ctS L 1 + ctS L 2) (by omega) W
          have HTA := hidOg (ta_st hst)
          have HOK := hidOg hok
          have HST := hidOg hst
          rw [← HN.out] at CC
          obtain ⟨y0, hy0⟩ : ∃ y, y = ctS L 0 := ⟨_, rfl⟩
          obtain ⟨y1, hy1⟩ : ∃ y, y = ctS L 1 := ⟨_, rfl⟩
          obtain ⟨y2, hy2⟩ : ∃ y, y = ctS L 2 := ⟨_, rfl⟩
          rw [← hy0, ← hy1, ← hy2] at CC CN
          rw [← hy1, ← hy2] at CH HTA
          clear hy0 hy1 hy2 le1 le2 hok hst
          have e2 : (((y1 + y2 : Nat) : Int)) = (y1 : Int) + (y2 : Int) := by omega
          rw [e2] at CH
          cases hhr : hrB k (y1 + y2)
          · have e : r = false := by
              rw [HR.out]
              exact riB_f fun h => by
                have := (hr_iff HP.out (t := taK L)).2 ⟨h.q3, h.mx⟩
                rw [HTA.out, ← HN.out, hhr] at this
                cases this
            subst e
            rw [hhr] at CH
            clear hhr
            go_wp2_with (first | (go_at_call 39; refine Calls.mono (CC _ HB.out) ?_; rintro e w1 ⟨rfl, hb1⟩) | (go_at_call 46; refine Calls.mono (CN _) ?_; rintro e w2 ⟨rfl, hb2⟩) | (go_at_call 45; refine Calls.mono (CH _) ?_; rintro e w3 ⟨rfl, hw3⟩; rw [hw3]; clear hw3 w3))
            go_ret
            have hb12 := HB.out.trans (hb1.mono HB.out.size)
            exact ⟨rfl, hb12.trans (hb2.mono hb12.size)⟩
          · have HI : Hid (RiL hsT mayT L ↔ Laid hsT L ∧ DT L) := ri_iff HP.out HOK.out (by rw [HTA.out, ← HN.out, hhr])
            have hfr : ∃ k, k < L.length ∧ (gE L k).1 = 0 := taK_free (by
              have := ((hr_iff (m := L.length) (t := taK L) HP.out).1 (by rw [HTA.out, ← HN.out, hhr])).1
              have := HN.out; omega)
            have CW := fun (W : World) (hb : Below w.heap.size w W) => wellLaid57 p L c W (HE.out.to hb) (by have := HN.out; omega) (by have := HN.out; omega) HLB.out HST.out hfr
            rw [← HN.out] at CW
            rw [hhr] at CH
            clear hhr hfr
            go_wp2_with (first | (go_at_call 39; refine Calls.mono (CC _ HB.out) ?_; rintro e w1 ⟨rfl, hb1⟩; have hb12 := hidOg (HB.out.trans (hb1.mono HB.out.size)); clear hb1) | (go_at_call 46; refine Calls.mono (CN _) ?_; rintro e w2 ⟨rfl, hb2⟩; have hb22 := hidOg (hb12.out.trans (hb2.mono hb12.out.size)); clear hb2) | (go_at_call 45; refine Calls.mono (CH _) ?_; rintro e w3 ⟨rfl, hw3⟩; rw [hw3]; clear hw3 w3) | (go_at_call 57; refine Calls.mono (CW _ hb22.out) ?_; rintro e w4 ⟨q, rfl, hq, hb4⟩; have HQ := hidOg hq; clear hq; have hb42 := hidOg (hb22.out.trans (hb4.mono hb22.out.size)); clear hb4))
            go_ret
            refine ⟨ret_bool ?_, hb42.out⟩
            rw [HR.out]
            cases q
            · exact (riB_f fun h => by have := HQ.out.2 (HI.out.1 h); cases this).symm
            · exact (riB_t (HI.out.2 (HQ.out.1 rfl))).symm
    · have e : r = false := by
        rw [HR.out]
        exact riB_f fun h => by
          have hp := h.pw
          rw [← HN.out] at hp
          have := (pow_is (by omega) hm2).2 hp
          rw [← pcN_is hm2] at this
          exact h1 this
      obtain ⟨y, hy⟩ : ∃ y, y = pcN n := ⟨_, rfl⟩
      rw [← hy] at CO h1
      have h1' : ((y : Int) != 1) = true := by simp; omega
      subst e
      clear hy h1
      go_enter Try.func34, Try.ntmps34
      go_wp2_with (first | (go_at_call 55; refine Calls.mono (CO _) ?_; rintro e w1 ⟨rfl, hw1⟩; rw [hw1]; clear hw1 w1))
      go_ret
      exact ⟨rfl, Below.refl _ _⟩

noncomputable def chL (L : List En) : Int := if riB L then 0 else 170
theorem check12 (p : Option Addr) (L : List En) (c : Nat) (w : World) (hE : ERow w.heap.size w p L) (hm2 : L.length ≤ 512) (hB : LB L) :
    Calls Try.prog 12 #[.agg #[.slice p L.length c]] w fun e w' => e = .returned (.int .i64 (chL L)) ∧ Below w.heap.size w w' := by
  have CM := fun (W : World) (hb : Below w.heap.size w W) => mayBe34 p L c W (hE.to hb) hm2 hB
  cases hr : riB L
  · have E : Hid (chL L = 170) := by unfold Hid chL; rw [hr]; rfl
    rw [hr] at CM
    clear hr hE hB
    go_enter Try.func12, Try.ntmps12
    go_wp2_with (first | (go_at_call 34; refine Calls.mono (CM _ ((Below.refl _ _).alloc (Nat.le_refl _) _)) ?_; rintro e w1 ⟨rfl, hb⟩))
    go_ret
    exact ⟨ret_int E.out.symm, below1 hb⟩
  · have E : Hid (chL L = 0) := by unfold Hid chL; rw [hr]; rfl
    rw [hr] at CM
    clear hr hE hB
    go_enter Try.func12, Try.ntmps12
    go_wp2_with (first | (go_at_call 34; refine Calls.mono (CM _ ((Below.refl _ _).alloc (Nat.le_refl _) _)) ?_; rintro e w1 ⟨rfl, hb⟩))
    go_ret
    exact ⟨ret_int E.out.symm, below1 hb⟩
theorem ri_st {L : List En} (h : RiL hsT mayT L) : ST L := fun k hk => by
  rcases h.ok k hk with ⟨h1 | h1, _⟩ | ⟨h1, _⟩
  · exact .inl h1
  · exact .inr (.inr h1)
  · exact .inr (.inl h1)
/-- How many types it says. -/
noncomputable def maL (L : List En) : Nat := if riB L then (L.filter usB).length else 0
theorem ix72 (a b c : Value) (w : World) : (Instr.index 72 (.agg #[a, b, c]) (.int .i64 1)).run Try.prog w = .ok b w := by kernel_rfl
set_option maxRecDepth 20000 in
set_option maxHeartbeats 1000000 in
theorem many14 (p : Option Addr) (L : List En) (c : Nat) (w : World) (hE : ERow w.heap.size w p L) (hm2 : L.length ≤ 512) (hB : LB L) :
    Calls Try.prog 14 #[.agg #[.slice p L.length c]] w fun e w' => e = .returned (.int .i64 ((maL L : Nat) : Int)) ∧ Below w.heap.size w w' := by
  have CM := fun (W : World) (hb : Below w.heap.size w W) => mayBe34 p L c W (hE.to hb) hm2 hB
  cases hr : riB L
  · have E : Hid (maL L = 0) := by unfold Hid maL; rw [hr]; rfl
    rw [hr] at CM
    clear hr hE hB
    go_enter Try.func14, Try.ntmps14
    go_wp2_with (first | (go_at_call 34; refine Calls.mono (CM _ ((Below.refl _ _).alloc (Nat.le_refl _) _)) ?_; rintro e w1 ⟨rfl, hb⟩))
    go_ret
    exact ⟨ret_int (by rw [E.out]; rfl), below1 hb⟩
  · have E : Hid (maL L = ctS L 1) := by unfold Hid maL; rw [hr]; rfl
    have CC := fun (W : World) (hb : Below w.heap.size w W) => count39 p L c W (hE.to hb) (by omega) (ri_st (riB_of hr))
    have ix := fun (W : World) => ix72 (.int .i64 (ctS L 0 : Nat)) (.int .i64 (ctS L 1 : Nat)) (.int .i64 (ctS L 2 : Nat)) W
    have bA : Below w.heap.size w (w.alloc (.cells #[.slice p L.length c] 24)) := (Below.refl _ _).alloc (Nat.le_refl _) _
    have cA : (w.alloc (.cells #[.slice p L.length c] 24)).cell? ⟨w.heap.size, 0, none⟩ = some (.slice p L.length c) := World.cell?_alloc_at _ _ _ _ rfl
    have sA : w.heap.size < (w.alloc (.cells #[.slice p L.length c] 24)).heap.size := by simp
    rw [hr] at CM
    clear hr hE hB
    go_enter Try.func14, Try.ntmps14
    go_wp2_with (first | (go_at_call 34; refine Calls.mono (CM _ bA) ?_; rintro e w1 ⟨rfl, hb⟩; have hb1 := hidOg (bA.trans (hb.mono bA.size)); have cB := (hb.cell (p := ⟨w.heap.size, 0, none⟩) sA).trans cA; clear hb) | (go_at_call 39; refine Calls.mono (CC _ hb1.out) ?_; rintro e w2 ⟨rfl, hb2⟩))
    go_ret
    exact ⟨ret_int (by rw [E.out]), hb1.out.trans (hb2.mono hb1.out.size)⟩
/-- What is found of a type. -/
noncomputable def fdN (L : List En) (t : List Int) : Int := if riB L then fiL (alL cmpL L) t else -1
theorem sk_found {L : List En} {t : List Int} {i : Nat} (hr : RiL hsT mayT L) (h : SkR L t i true) : i < L.length ∧ (gE L i).1 = 1 ∧ (gE L i).2.1 = t ∧ fiL (alL cmpL L) t = (gE L i).2.2 ∧ 0 ≤ (gE L i).2.2 := by
  obtain ⟨hi, j, hj, hg, hx⟩ := h
  rcases hx with ⟨_, _, hu, hty⟩ | ⟨hb, _⟩
  · refine ⟨hi, hu, hty, ?_, ?_⟩
    · rw [← hty]; exact fi_some isCmp hr.dt hi hu
    · rcases hr.ok i hi with ⟨h0 | h0, _⟩ | ⟨_, _, h0⟩
      · rw [hu] at h0; exact absurd h0 (by decide)
      · rw [hu] at h0; exact absurd h0 (by decide)
      · exact h0
  · cases hb
theorem sk_none {L : List En} {t : List Int} {i : Nat} (hr : RiL hsT mayT L) (h : SkR L t i false) : i < L.length ∧ (gE L i).1 ≠ 1 ∧ Met hsT L t i ∧ NotIn L t := by
  obtain ⟨hi, j, hj, hg, hx⟩ := h
  rcases hx with ⟨hb, _⟩ | ⟨_, hz, f, hf, ef, hn⟩
  · cases hb
  · refine ⟨hi, hn, ⟨f, by omega, ef.symm, fun k hk => (hg k (by omega)).1⟩, (notIn_iff L t).2 fun k hk uk ek => ?_⟩
    obtain ⟨j', hj', e', hf'⟩ := look_some hr.dt hr.la hk uk
    rw [ek] at e' hf'
    have h1 : ¬ j' < j := fun hlt => (hg j' hlt).2 (by rw [e']; exact ⟨uk, ek⟩)
    have h2 : ¬ j < j' := fun hlt => (hf' j hlt).1 hz
    obtain rfl : j = j' := by omega
    rw [e', uk] at hz
    exact absurd hz (by decide)
set_option maxHeartbeats 1000000 in
theorem find15 (p : Option Addr) (L : List En) (c : Nat) (q : Option Addr) (t : List Int) (d : Nat) (w : World) (hE : ERow w.heap.size w p L) (hm2 : L.length ≤ 512) (hB : LB L) (hT : TRow w.heap.size w q t d) (ht : t.length ≤ 1000) :
    Calls Try.prog 15 #[.agg #[.slice p L.length c], .slice q t.length d] w fun e w' => e = .returned (.tuple #[.int .i64 (max (fdN L t) 0), .bool (decide (0 ≤ fdN L t))]) ∧ Below w.heap.size w w' := by
  have CM := fun (W : World) (hb : Below w.heap.size w W) => mayBe34 p L c W (hE.to hb) hm2 hB
  have bA : Below w.heap.size w (w.alloc (.cells #[.slice p L.length c] 24)) := (Below.refl _ _).alloc (Nat.le_refl _) _
  have cA : (w.alloc (.cells #[.slice p L.length c] 24)).cell? ⟨w.heap.size, 0, none⟩ = some (.slice p L.length c) := World.cell?_alloc_at _ _ _ _ rfl
  have sA : w.heap.size < (w.alloc (.cells #[.slice p L.length c] 24)).heap.size := by simp
  cases hr : riB L
  · have E : fdN L t = -1 := by unfold fdN; rw [hr]; rfl
    rw [E]
    rw [hr] at CM
    clear hr hE hB hT
    go_enter Try.func15, Try.ntmps15
    go_wp2_with (first | (go_at_call 34; refine Calls.mono (CM _ bA) ?_; rintro e w1 ⟨rfl, hb⟩))
    go_ret2
    exact ⟨rfl, bA.trans (hb.mono bA.size)⟩
  · have hri := riB_of hr
    have CS := fun (W : World) (hb : Below w.heap.size w W) => seek40 p L c q t d W (hE.to hb) ((hT.below hb (Nat.le_refl _)).mono hb.size) (by have := hri.pos; omega) (by omega) hB ht (ri_st hri) hri.free
    have E0 : fdN L t = fiL (alL cmpL L) t := by unfold fdN; rw [hr]; rfl
    rw [E0]
    have HRI := hidOg hri
    obtain ⟨b, off, rfl, hbN, hcs⟩ := hE (by have := hri.pos; omega)
    have HCS := hidOg hcs
    rw [hr] at CM
    clear hr hE hB hT hcs hri E0
    obtain ⟨f, hf⟩ : ∃ f, f = fiL (alL cmpL L) t := ⟨_, rfl⟩
    rw [← hf]
    have HFf := hidOg hf
    clear hf
    have K2 : Hid (∀ W : World, Below w.heap.size w W → ∀ (i : Nat) (bb : Bool), SkR L t i bb → (bb = false ∧ Hid (f = -1)) ∨ (bb = true ∧ i < L.length ∧ ∃ z : Int, W.cell? ⟨b, off + i * 3 + 2, none⟩ = some (.int .i64 z) ∧ Hid (f = z ∧ 0 ≤ z))) := by
      intro W hb i bb hsk
      cases bb
      · exact .inl ⟨rfl, by unfold Hid; rw [HFf.out]; exact fi_none (sk_none HRI.out hsk).2.2.2⟩
      · obtain ⟨hi, hu, hty, hfi, h0⟩ := sk_found HRI.out hsk
        exact .inr ⟨rfl, hi, _, (hb.cell (p := ⟨b, off + i * 3 + 2, none⟩) hbN).trans (HCS.out i hi).2.2, by rw [HFf.out]; exact hfi, h0⟩
    go_enter Try.func15, Try.ntmps15
    go_wp2_with (first | (go_at_call 34; refine Calls.mono (CM _ bA) ?_; rintro e w1 ⟨rfl, hb⟩; have hb1 := hidOg (bA.trans (hb.mono bA.size)); have cB := (hb.cell (p := ⟨w.heap.size, 0, none⟩) sA).trans cA; have sB := hb.size; clear hb) | (go_at_call 40; refine Calls.mono (CS _ hb1.out) ?_; rintro e w2 ⟨i, bb, rfl, hsk, hb⟩; have hb2 := hidOg (hb1.out.trans (hb.mono hb1.out.size)); have cC := (hb.cell (p := ⟨w.heap.size, 0, none⟩) (Nat.lt_of_lt_of_le sA sB)).trans cB; clear hb; rcases K2.out _ hb2.out i bb hsk with ⟨rfl, hno⟩ | ⟨rfl, hi, z, k2, hz⟩))
    · go_ret2
      exact ⟨by rw [hno.out]; rfl, hb2.out⟩
    · go_ret2
      refine ⟨?_, hb2.out⟩
      obtain ⟨e1, hz0⟩ := hz.out
      rw [e1, Int.max_eq_left hz0, decide_eq_true hz0]
      rfl
end Go.Proofs.Ytjnhalomkmdcgaa
