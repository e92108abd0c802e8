/- LookupTells: the walk. -/
import Derived.Test.YtjnhalomkmdcgaaLvC
import Derived.Test.YtjnhalomkmdcgaaLvE
import Derived.Test.YtjnhalomkmdcgaaLvG
import Derived.Test.YtjnhalomkmdcgaaLwT
import Derived.Deep.CutRange
import Derived.Deep.CutBlock
namespace Go.Proofs.Ytjnhalomkmdcgaa
open Go.RowKit

theorem fdN_alO (L : List En) (t : List Int) : fdN L t = fiL (alO L) t := by
  unfold fdN alO
  cases riB L <;> simp [fiL]
theorem maL_alO (L : List En) : maL L = (alO L).length := by
  unfold maL alO
  cases riB L
  · simp
  · simp [alL_len]
set_option maxRecDepth 20000 in
set_option maxHeartbeats 4000000 in
theorem tells_walk (p : Option Addr) (L : List En) (c : Nat) (pr : Option Addr) (R : List (List Int)) (cr : Nat) (w : World) (hE : ERow w.heap.size w p L) (hl : L.length ≤ maxLen) (hR : RRow w.heap.size w pr R) (hrl : R.length ≤ maxLen) :
    Calls Try.prog 3 #[.agg #[.slice p L.length c], .slice pr R.length cr] w fun e w' => e = .returned (.bool true) ∧ Below w.heap.size w w' := by
  unfold maxLen at hrl
  have CW := fun (W : World) => wakes7 W
  have CO := fun (W : World) (hb : Below w.heap.size w W) => own8 p L c W (hE.to hb) hl
  have HRR := hidOg hR
  obtain ⟨L0, hL0⟩ : ∃ L0, L0 = ownL L := ⟨_, rfl⟩
  have h130 : Hid (L0.length ≤ 130) := by unfold Hid; rw [hL0]; exact ownL_len L
  have hlb : Hid (LB L0) := by
    unfold Hid; rw [hL0]
    intro k hk
    have := ownL_lb L k hk; omega
  rw [← hL0] at CO
  obtain ⟨m, hm⟩ : ∃ m, m = L.length := ⟨_, rfl⟩
  obtain ⟨nr, hnr⟩ : ∃ nr, nr = R.length := ⟨_, rfl⟩
  have HNR := hidOg hnr
  rw [← hm] at CO ⊢
  rw [← hnr] at hrl ⊢
  have X0 := hidOg (Boxed.new w 24 (.slice p m c))
  have bw : Below w.heap.size w (w.alloc (.cells #[.slice p m c] 24)) := bal_lt _ (Nat.le_refl _)
  have HBw := hidOg bw
  obtain ⟨l0, hl0⟩ : ∃ l0, l0 = L0.length := ⟨_, rfl⟩
  have CR := fun (p1 : Option Addr) (c1 : Nat) (W : World) (h : ERow W.heap.size W p1 L0) (hc : L0.length ≤ c1) => right9 p1 L0 c1 W h (by have := h130.out; omega) hc hlb.out
  have CA := fun (p1 : Option Addr) (c1 : Nat) (W : World) (h : ERow W.heap.size W p1 L0) => all10 p1 L0 c1 W h (by have := h130.out; omega) hlb.out
  have CG := fun (p1 : Option Addr) (c1 : Nat) (W : World) (h : ERow W.heap.size W p1 L0) => all11 p1 L0 c1 W h (by have := h130.out; omega) hlb.out
  have CC := fun (p1 : Option Addr) (c1 : Nat) (W : World) (h : ERow W.heap.size W p1 L0) => check12 p1 L0 c1 W h (by have := h130.out; omega) hlb.out
  have CM := fun (p1 : Option Addr) (c1 : Nat) (W : World) (h : ERow W.heap.size W p1 L0) => many14 p1 L0 c1 W h (by have := h130.out; omega) hlb.out
  have CF := fun (p1 : Option Addr) (c1 : Nat) (q : Option Addr) (t : List Int) (d : Nat) (W : World) (h : ERow W.heap.size W p1 L0) (hT : TRow W.heap.size W q t d) (ht : t.length ≤ 1000) => find15 p1 L0 c1 q t d W h (by have := h130.out; omega) hlb.out hT ht
  obtain ⟨AO, hAO⟩ : ∃ AO, AO = alO L0 := ⟨_, rfl⟩
  have hAl : Hid (LB AO) := by unfold Hid; rw [hAO]; exact alO_lb hlb.out
  have hA130 : AO.length ≤ 130 := by have := alO_len L0; have := h130.out; rw [hAO]; omega
  have HA130 := hidOg hA130
  simp only [maL_alO, fdN_alO] at CM CF
  rw [← hAO] at CG CM CF
  obtain ⟨na, hna⟩ : ∃ na, na = AO.length := ⟨_, rfl⟩
  have HNA := hidOg hna
  have CS := fun (p1 : Option Addr) (c1 : Nat) (p2 : Option Addr) (c2 : Nat) (W : World) (h1 : ERow W.heap.size W p1 AO) (h2 : ERow W.heap.size W p2 AO) => same13 p1 AO c1 p2 AO c2 W h1 h2 hAl.out hAl.out (by have := HA130.out; omega)
  simp only [eqL_t] at CS
  have CI := fun (p1 : Option Addr) (c1 : Nat) (q : Option Addr) (t : List Int) (d : Nat) (W : World) (h : ERow W.heap.size W p1 AO) (hT : TRow W.heap.size W q t d) (ht : t.length ≤ 1000) => find16 p1 AO c1 q t d W h (by have := HA130.out; omega) hAl.out hT ht
  rw [← hna] at CM CS CI
  have hna130 : (na : Int) ≤ 130 := by rw [hna]; omega
  obtain ⟨r, hr⟩ : ∃ r, r = riB L0 := ⟨_, rfl⟩
  rw [← hr] at CR
  have HAc : Hid (r = true → alL cmpL L0 = AO) := fun h => by rw [hAO]; unfold alO; rw [← hr, h]; rfl
  have HAn : Hid (r = false → AO = []) := fun h => by rw [hAO]; unfold alO; rw [← hr, h]; rfl
  obtain ⟨ch, hch⟩ : ∃ ch, ch = chL L0 := ⟨_, rfl⟩
  rw [← hch] at CC
  have HCh : Hid (r = true ∧ ch = 0 ∨ r = false ∧ ch = 170) := by
    unfold Hid
    rw [hch]; unfold chL; rw [← hr]
    cases r
    · exact .inr ⟨rfl, rfl⟩
    · exact .inl ⟨rfl, rfl⟩
  have HL0 := hidOg hl0
  rw [← hl0] at CO CR CA CG CC CM CF
  clear hE hl hR hL0 hm hnr bw hl0 hAO hA130 hna hr hch
  have HA := hidOg (fun (W : World) (o : Obj) => (Below.refl W.heap.size W).alloc (Nat.le_refl _) o)
  go_enter Try.func3, Try.ntmps3
  go_upto_if 24 with (first
    | (go_at_call 7; refine Calls.mono (CW _) ?_; rintro e w1 ⟨rfl, hb1⟩; have X1 := hidOg (Boxed.stays X0.out hb1); have x1 := Boxed.cell X1.out; have HB1 := hidOg (HBw.out.trans (hb1.mono HBw.out.size)); clear hb1)
    | (go_at_call 8; refine Calls.mono (CO _ HB1.out) ?_; rintro e w2 ⟨p2, c2, rfl, hE2, hb2⟩; have HR2 : Hid (l0 ≤ c2) := (by unfold Hid; rw [HL0.out]; exact hE2.room); have HE2 := hidOg (hE2.row.to (HA.out w2 (.cells #[.slice p2 l0 c2] 24))); have X2 := hidOg (Boxed.new w2 24 (.slice p2 l0 c2)); have X1s := hidOg (Boxed.stays (Boxed.stays X1.out hb2) (HA.out w2 (.cells #[.slice p2 l0 c2] 24))); have HB2 := hidOg ((HB1.out.trans (hb2.mono HB1.out.size)).trans ((HA.out w2 (.cells #[.slice p2 l0 c2] 24)).mono (Nat.le_trans HB1.out.size hb2.size))); clear hE2 hb2)
    | (go_at_call 9; refine Calls.mono (CR _ _ _ HE2.out HR2.out) ?_; rintro e w3 ⟨rfl, hb3⟩; have X2s := hidOg (Boxed.stays X2.out hb3); have x2 := Boxed.cell X2s.out; have HB3 := hidOg hb3; clear hb3))
  go_cut [7] from 24 (fun a wx => ∃ (qa : Option Addr) (ca : Nat), a = .slice qa na ca ∧ ERow wx.heap.size wx qa AO ∧ Below w3.heap.size w3 wx)
  case first =>
    cases r
    · have H0 : Hid (AO = []) := HAn.out rfl
      have e0 : na = 0 := by rw [HNA.out, H0.out]; rfl
      subst e0
      go_wp2
      go_meet
      case rel => exact ⟨none, 0, rfl, by rw [H0.out]; exact ERow.nil, Below.refl _ _⟩
    · have CA2 := CA p2 c2 w3 (HE2.out.to HB3.out)
      rw [HAc.out rfl] at CA2
      go_wp2_with (first | (go_at_call 10; refine Calls.mono CA2 ?_; clear CA2; rintro e w4 ⟨qa, ca, rfl, hEa, hb4⟩; rw [← HNA.out]; have HEa := hidOg hEa; have HB4 := hidOg hb4; clear hEa hb4))
      go_meet
      case rel => exact ⟨qa, ca, rfl, HEa.out, HB4.out⟩
  case rest =>
    obtain ⟨qa, ca, rfl, hEa, hbc⟩ := hcut
    have HEa := hidOg hEa
    have HBc := hidOg (HB3.out.trans (hbc.mono HB3.out.size))
    obtain ⟨Bg, hBg⟩ : ∃ Bg, Bg = wc.heap.size := ⟨_, rfl⟩
    have HBg := hidOg hBg
    clear hEa hbc CA x1 x2 X2s
    have HEc := hidOg (HE2.out.to HBc.out)
    have X2c := hidOg (Boxed.stays X2.out HBc.out)
    have X1c := hidOg (Boxed.stays X1s.out HBc.out)
    have HBW := hidOg (HB2.out.trans (HBc.out.mono HB2.out.size))
    have x2 := Boxed.cell X2c.out
    go_upto_region 10 with (first
      | (go_at_call 11; refine Calls.mono (CG _ _ _ HEc.out) ?_; clear CG; rintro e w5 ⟨q8, c8, rfl, hE5, hb5⟩; rw [← HNA.out]; have HE8 : Hid (EFr Bg w5 q8 AO c8) := (by rw [hBg]; exact hE5); have HB5 := hidOg hb5; have HEd := hidOg (HEc.out.to hb5); have x5 := Boxed.cell (Boxed.stays X2c.out hb5); clear hE5 hb5)
      | (go_at_call 12; refine Calls.mono (CC _ _ _ HEd.out) ?_; clear CC; rintro e w6 ⟨rfl, hb6⟩; have HE9 := hidOg (HE8.out.below hb6); have HB6 := hidOg (HB5.out.trans (hb6.mono HB5.out.size)); have HEe := hidOg (HEd.out.to hb6); clear hb6))
    have X26 := hidOg (Boxed.stays X2c.out HB6.out)
    have x6 := Boxed.cell X26.out
    have HAa := hidOg (HEa.out.to HB6.out)
    have HG := hidOg HE9.out.row
    clear x2 x5
    go_cut [55] from 31 (fun s wx => s = .bool false ∧ Below w6.heap.size w6 wx)
    case first =>
      have K6 : Hid (∀ W, Below w6.heap.size w6 W → W.cell? ⟨w2.heap.size, 0, none⟩ = some (.slice p2 l0 c2) ∧ ERow W.heap.size W p2 L0) := fun W hb => ⟨Boxed.cell (Boxed.stays X26.out hb), HEe.out.to hb⟩
      rcases HCh.out with ⟨rfl, rfl⟩ | ⟨rfl, rfl⟩
      all_goals
        go_wp2_with (first
          | (go_at_call 13; refine Calls.mono (CS _ _ _ _ _ HG.out HAa.out) ?_; clear CS; rintro e w7 ⟨rfl, hb7⟩; have y7 := (K6.out _ hb7).1; have HB7 := hidOg hb7; clear hb7)
          | (go_at_call 14; refine Calls.mono (CM _ _ _ (K6.out _ HB7.out).2) ?_; clear CM; rintro e w8 ⟨rfl, hb8⟩; have HB8 := hidOg (HB7.out.trans (hb8.mono HB7.out.size)); clear hb8))
        go_meet
        case rel => exact ⟨rfl, HB8.out⟩
    case rest =>
      obtain ⟨rfl, hbd⟩ := hcut
      have HEgd := hidOg (HE9.out.below hbd)
      have HAd := hidOg (HAa.out.to hbd)
      have HBgd : Hid (Bg ≤ wc.heap.size) := by
        have h1 := HB6.out.size; have h2 := hbd.size
        unfold Hid; rw [HBg.out]; omega
      have hb6d := HB6.out.trans (hbd.mono HB6.out.size)
      rw [← HBg.out] at hb6d
      have hBgle := HBg.out
      have KD : Hid (∀ W, Below Bg wc W → (W.cell? ⟨w2.heap.size, 0, none⟩ = some (.slice p2 l0 c2) ∧ W.cell? ⟨w.heap.size, 0, none⟩ = some (.slice p m c)) ∧ ERow Bg W p2 L0 ∧ Below w.heap.size w W) := fun W hb => by
        have h1 := hb6d.trans hb
        rw [hBgle] at h1
        refine ⟨⟨Boxed.cell (Boxed.stays X2c.out h1), Boxed.cell (Boxed.stays X1c.out h1)⟩, ?_, HBW.out.trans (h1.mono HBW.out.size)⟩
        rw [hBgle]
        exact HEc.out.below h1 (Nat.le_refl _)
      clear hbd hb6d hBgle hBg HEc HEd HEe HE8 HE9 HB5 HB6 HAa HG X26 x6 HEa HBc X2c X1c HBW HE2 HR2 X2 X1s HB2 X1 HB1 X0 HBw CM HB3
      have hk0 := (KD.out _ (Below.refl _ _)).1
      obtain ⟨y2, y0⟩ := hk0
      go_upto_block 0 with fail
      go_cut [10, 11, 12, 13, 14] from 58 (fun _ _ _ _ _ wx => Below wc.heap.size wc wx)
      case first =>
        have KL : Hid (∀ W, Below wc.heap.size wc W → W.cell? ⟨w2.heap.size, 0, none⟩ = some (.slice p2 l0 c2) ∧ ERow W.heap.size W p2 L0 ∧ ERow W.heap.size W qa AO ∧ RRow W.heap.size W pr R) := fun W hb => by
          have h1 := hb.mono HBgd.out
          obtain ⟨⟨a, _⟩, b, d⟩ := KD.out W h1
          exact ⟨a, b.mono (Nat.le_trans HBgd.out hb.size), HAd.out.to hb, HRR.out.to d⟩
        clear KD y2 y0 HEgd
        go_wp2
        go_loopw [58] (fun i wr => ∃ k : Nat, k ≤ nr ∧ k ≤ 8 ∧ i = .int .i64 k ∧ Below wc.heap.size wc wr) (fun i _ => nr - (intOf i).toNat)
        case atStart => exact ⟨0, Nat.zero_le _, Nat.zero_le _, rfl, Below.refl _ _⟩
        case round =>
          obtain ⟨k, hk, hk8, rfl, hB⟩ := hrel
          have HB := hidOg hB
          by_cases hlt : k < nr
          · by_cases h8 : k = 8
            · have e8 : ((k : Int) == 8) = true := by simp; omega
              obtain ⟨b, off, rfl, hbN, hcs⟩ := (KL.out _ hB).2.2.2 (by rw [← HNR.out]; omega)
              obtain ⟨qt, ct, hct, _⟩ := hcs k (by rw [← HNR.out]; exact hlt)
              clear hcs hB CF CI h8
              go_wp2
              go_meet
              case rel => exact HB.out
            · have e8 : ((k : Int) == 8) = false := by simp; omega
              have hk7 : k < 8 := by omega
              obtain ⟨x2, hEa, hAa, hRa⟩ := KL.out _ hB
              obtain ⟨b, off, rfl, hbN, hcs⟩ := hRa (by rw [← HNR.out]; omega)
              obtain ⟨qt, ct, hct, hTt⟩ := hcs k (by rw [← HNR.out]; exact hlt)
              obtain ⟨t, ht⟩ : ∃ t, t = rG R k := ⟨_, rfl⟩
              rw [← ht] at hct hTt
              obtain ⟨lk, hlk⟩ : ∃ lk, lk = (t.take 14).length := ⟨_, rfl⟩
              have hmin : min (t.length : Int) 14 = (lk : Int) := by rw [hlk]; simp; omega
              have hmin2 : (if 14 < (t.length : Int) then 14 else (t.length : Int)) = (lk : Int) := by rw [hlk]; simp; split <;> omega
              have hkc : (lk : Int) ≤ (ct : Int) := by have := hTt.r; rw [hlk]; simp only [List.length_take]; omega
              have hk0 : (0 : Int) ≤ (lk : Int) := by omega
              have hlk14 : lk ≤ 14 := by rw [hlk]; simp; omega
              have CFk := fun (W : World) (hb : Below wr.heap.size wr W) => CF p2 c2 qt (t.take 14) ct W (hEa.to hb) ((hTt.to hb).take 14) (by omega)
              have CIk := fun (W : World) (hb : Below wr.heap.size wr W) => CI qa ca qt (t.take 14) ct W (hAa.to hb) ((hTt.to hb).take 14) (by omega)
              obtain ⟨f, hf⟩ : ∃ f, f = fiL AO (t.take 14) := ⟨_, rfl⟩
              rw [← hf, ← hlk] at CFk CIk
              obtain ⟨lt, hlt'⟩ : ∃ lt, lt = t.length := ⟨_, rfl⟩
              rw [← hlt'] at hct hmin hmin2
              have HKS : Hid (∀ W, Below wr.heap.size wr W → W.cell? ⟨w2.heap.size, 0, none⟩ = some (.slice p2 l0 c2)) := fun W hb => (KL.out W (HB.out.trans (hb.mono HB.out.size))).1
              have HD0 : Hid (Below wr.heap.size wr wr.drew) := below_drew _ _
              clear hcs hB CF CI h8 hEa hAa hRa ht hTt hlk hf hlt'
              go_wp2
              go_region_held3 (fun w' => w'.cell? ⟨w2.heap.size, 0, none⟩ = some (.slice p2 l0 c2)) (first | with_reducible exact k0 | go_keep) (first
                | (go_at_call 15; refine Calls.mono (CFk _ HD0.out) ?_; rintro e w7 ⟨rfl, hb7⟩; have HB7 := hidOg (HD0.out.trans (hb7.mono HD0.out.size)); have k0 := HKS.out _ HB7.out; clear hb7))
              all_goals
                go_wp2_with (first | (go_at_call 16; refine Calls.mono (CIk _ HB7.out) ?_; rintro e w8 ⟨rfl, hb8⟩; have HB8 := hidOg (HB.out.trans ((HB7.out.trans (hb8.mono HB7.out.size)).mono HB.out.size)); clear hb8))
                go_roundw
                case rel => exact ⟨k + 1, by omega, by omega, by go_num, HB8.out⟩
                case measure => simp [intOf]; omega
          · obtain rfl : k = nr := by omega
            go_wp2
            go_meet
            case rel => exact HB.out
      case rest =>
        have HB1 := hidOg hcut
        have HG1 := hidOg (gtm_of (HEgd.out.below hcut) HNA.out)
        have HBg1 : Hid (Bg ≤ wc.heap.size) := Nat.le_trans HBgd.out hcut.size
        have KE : Hid (∀ W, Below Bg wc W → (W.cell? ⟨w2.heap.size, 0, none⟩ = some (.slice p2 l0 c2) ∧ W.cell? ⟨w.heap.size, 0, none⟩ = some (.slice p m c)) ∧ ERow Bg W p2 L0 ∧ Below w.heap.size w W) := fun W hb => KD.out W ((hcut.mono HBgd.out).trans hb)
        clear KD y2 y0 HEgd hcut HB1 HAd CF CI HBgd
        go_wp2
        go_loopw [95] (fun i wr => ∃ k : Nat, k ≤ na ∧ i = .int .i64 k ∧ GtM Bg na q8 c8 wr ∧ Below Bg wc wr) (fun i _ => na - (intOf i).toNat)
        case atStart => exact ⟨0, Nat.zero_le _, rfl, HG1.out, Below.refl _ _⟩
        case round =>
          obtain ⟨k, hk, rfl, hG, hB⟩ := hrel
          have HG := hidOg hG
          have HB := hidOg hB
          clear HG1
          by_cases hlt : k < na
          · obtain ⟨G, s, n, qy, l, cy, hq8, hGlt, k0, k1, k2, hO⟩ := hG.cells hlt
            subst hq8
            obtain ⟨ly, hly⟩ : ∃ ly, ly = l.length := ⟨_, rfl⟩
            rw [← hly] at k1
            have hlyb : ly ≤ 9223372036854775807 := by rw [hly]; exact hO.len
            have hBs : Bg ≤ wr.heap.size := Nat.le_trans HBg1.out hB.size
            have hba : Below wr.heap.size wr (wr.alloc (.cells #[.int .i64 s, .slice qy ly cy, .int .i64 n] 39)) := bal_lt _ (Nat.le_refl _)
            have HO1 := hidOg (hO.below hba)
            have HG1 := hidOg (hG.below hba)
            have HB1 := hidOg (hB.trans (hba.mono hBs))
            have HZ : Hid ((wr.alloc (.cells #[.int .i64 s, .slice qy ly cy, .int .i64 n] 39)).heap[wr.heap.size]? = some (.cells #[.int .i64 s, .slice qy ly cy, .int .i64 n] 39 (0, 0))) := World.alloc_heap_new wr _
            have HLy := hidOg hly
            clear hG hB hO hly hba
            go_wp2
            generalize (wr.alloc (.cells #[.int .i64 s, .slice qy ly cy, .int .i64 n] 39)) = wD at HO1 HG1 HB1 HZ ⊢
            generalize wr.heap.size = D at HZ ⊢
            go_loopw [102] (fun i wr => ∃ (j : Nat) (l' : List Int), j ≤ ly ∧ i = .int .i64 j ∧ l'.length = ly ∧ OwT Bg wr qy l' cy ∧ GtM Bg na (some ⟨G, 0, none⟩) c8 wr ∧ wr.heap[D]? = some (.cells #[.int .i64 s, .slice qy ly cy, .int .i64 n] 39 (0, 0)) ∧ Below Bg wc wr) (fun i _ => ly - (intOf i).toNat)
            case atStart => exact ⟨0, l, Nat.zero_le _, rfl, HLy.out.symm, HO1.out, HG1.out, HZ.out, HB1.out⟩
            case round =>
              obtain ⟨j, l', hj, rfl, hl', hO, hG, hZ, hB⟩ := hrel
              have HG2 := hidOg hG
              have HB2 := hidOg hB
              have HO2 := hidOg hO
              have HZ2 := hidOg hZ
              have HL2 := hidOg hl'
              obtain ⟨z0, z1, z2, _⟩ := heap3_cell hZ
              clear HO1 HG1 HB1 HZ hG hB hZ
              by_cases hlt2 : j < ly
              · obtain ⟨b, rfl, hbB, hc, hf, ht⟩ := hO.at (k := j) (by omega)
                have hzr := hO.u.at (k := j) (by omega)
                obtain ⟨z, hz⟩ : ∃ z, z = iG l' j := ⟨_, rfl⟩
                rw [← hz] at hc hzr
                have HDb : Hid (D ≠ b) := fun e => by
                  have := ht 39 _ (by rw [← e]; exact HZ2.out)
                  exact absurd this (by decide)
                clear hO ht hz hl' k0 k1 k2
                go_wp2
                go_roundw
                case rel =>
                  have hz' : 0 ≤ IntKind.u64.wrap (z + 1) ∧ IntKind.u64.wrap (z + 1) < 18446744073709551616 := by rw [IntKind.wrap_u64]; omega
                  refine ⟨j + 1, l'.set j _, by omega, by go_num, by rw [List.length_set]; exact HL2.out, owt_set HO2.out j hz', HG2.out.bump HO2.out j hz', ?_, HB2.out.setCell (p := ⟨b, j, none⟩) hbB _⟩
                  rw [heap_setCell_other _ ⟨b, j, none⟩ D _ HDb.out]
                  exact HZ2.out
                case measure => simp [intOf]; omega
              · obtain rfl : j = ly := by omega
                clear hO k0 k1 k2
                go_wp2
                go_roundw
                case rel => exact ⟨k + 1, by omega, by go_num, HG2.out, HB2.out⟩
                case measure => simp [intOf]; omega
          · obtain rfl : k = na := by omega
            have KZ : Hid (∀ W, Below wr.heap.size wr W → (W.cell? ⟨w2.heap.size, 0, none⟩ = some (.slice p2 l0 c2) ∧ W.cell? ⟨w.heap.size, 0, none⟩ = some (.slice p m c)) ∧ ERow W.heap.size W p2 L0 ∧ Below w.heap.size w W) := fun W hb => by
              have h1 := hb.mono (Nat.le_trans HBg1.out hB.size)
              obtain ⟨a, b, d⟩ := KE.out W (hB.trans h1)
              exact ⟨a, b.mono (Nat.le_trans (Nat.le_trans HBg1.out hB.size) hb.size), d⟩
            obtain ⟨⟨y2, y0⟩, _⟩ := KZ.out _ (Below.refl _ _)
            have CS2 := fun (p1 : Option Addr) (c1 : Nat) (W : World) (h1 : ERow W.heap.size W p2 L0) (h2 : ERow W.heap.size W p1 L0) => same13 p2 L0 c2 p1 L0 c1 W h1 h2 hlb.out hlb.out (by have := h130.out; omega)
            simp only [eqL_t] at CS2
            have CN : ∀ (W : World) (p1 : Option Addr) (c1 : Nat), ERow W.heap.size W p1 (frL 8) → Calls Try.prog 10 #[.agg #[.slice p1 8 c1]] W fun e w' => ∃ p' c', e = .returned (.slice p' 0 c') ∧ Below W.heap.size W w' := fun W p1 c1 h => by
              have := all10 p1 (frL 8) c1 W h (by simp [frL]) (lb_of_ri lkr_new.r)
              rw [lkr_new.a, show (frL 8).length = 8 by simp [frL]] at this
              exact this.mono fun e w' ⟨p', c', he, _, hb⟩ => ⟨p', c', he, hb⟩
            have fd := fd24
            rw [← HL0.out] at CS2
            have HD0 : Hid (Below wr.heap.size wr wr.drew) := below_drew _ _
            clear hB hG HG HB
            go_wp2
            go_region_held3 (fun w' => w'.cell? ⟨w2.heap.size, 0, none⟩ = some (.slice p2 l0 c2) ∧ w'.cell? ⟨w.heap.size, 0, none⟩ = some (.slice p m c)) (first | with_reducible exact ⟨k0, k1⟩ | go_keep) (first
              | (go_at_call 8; refine Calls.mono (CO _ (KZ.out _ HD0.out).2.2) ?_; clear CO; rintro e v1 ⟨pv, cv, rfl, hE1, hb⟩; have HV1 := hidOg hE1.row; have HD1 := hidOg (HD0.out.trans (hb.mono HD0.out.size)); obtain ⟨⟨k0, k1⟩, _⟩ := KZ.out _ HD1.out; clear hE1 hb)
              | (go_at_call 13; refine Calls.mono (CS2 _ _ _ (KZ.out _ HD1.out).2.1 HV1.out) ?_; clear CS2; rintro e v2 ⟨rfl, hb⟩; have HD2 := hidOg (HD1.out.trans (hb.mono HD1.out.size)); obtain ⟨⟨k0, k1⟩, _⟩ := KZ.out _ HD2.out; clear hb)
              | (go_at_call 17; first
                | (refine Calls.mono (new_lk _) ?_; rintro e v5 ⟨p5, c5, rfl, hE5, _, hb⟩; have HD5 := hidOg (HD4.out.trans (hb.mono HD4.out.size)); obtain ⟨⟨k0, k1⟩, _⟩ := KZ.out _ HD5.out; clear hE5 hb)
                | (refine Calls.mono (new_lk _) ?_; rintro e v3 ⟨p3, c3, rfl, hE3, _, hb⟩; have HV3 := hidOg hE3.row; have HD3 := hidOg (HD2.out.trans (hb.mono HD2.out.size)); obtain ⟨⟨k0, k1⟩, _⟩ := KZ.out _ HD3.out; clear hE3 hb))
              | (go_at_call 10; refine Calls.mono (CN _ _ _ HV3.out) ?_; clear CN; rintro e v4 ⟨p4, c4, rfl, hb⟩; have HD4 := hidOg (HD3.out.trans (hb.mono HD3.out.size)); obtain ⟨⟨k0, k1⟩, _⟩ := KZ.out _ HD4.out; clear hb))
            all_goals
              go_wp2
              go_ret
              exact ⟨rfl, (KZ.out _ HD5.out).2.2⟩
end Go.Proofs.Ytjnhalomkmdcgaa
