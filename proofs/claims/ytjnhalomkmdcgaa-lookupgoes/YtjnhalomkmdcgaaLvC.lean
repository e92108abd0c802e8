/- The document's answer: Right. -/
import Derived.Test.YtjnhalomkmdcgaaLvB
namespace Go.Proofs.Ytjnhalomkmdcgaa
open Go.RowKit

/-- What is asked of one slot. -/
def okR (L : List En) (j : Nat) : Prop := (((gE L j).1 = 0 ∨ (gE L j).1 = 2) ∧ (gE L j).2.1 = [] ∧ (gE L j).2.2 = 0 ∨ (gE L j).1 = 1 ∧ mayT (gE L j).2.1 = true ∧ 0 ≤ (gE L j).2.2) ∧
  ((gE L j).1 = 1 → Met hsT L (gE L j).2.1 j ∧ ∀ i, i < j → (gE L i).1 = 1 → (gE L j).2.1 ≠ (gE L i).2.1)
theorem ri_okR {L : List En} (h : RiL hsT mayT L) (j : Nat) (hj : j < L.length) : okR L j :=
  ⟨h.ok j hj, fun hu => ⟨h.la j hj hu, fun i hi hui e => by
    have := (dt_iff L).1 h.dt j i hj (by omega) hu hui e
    omega⟩⟩
theorem okR_ri {L : List En} (hp : ∃ e, L.length = 8 * 2 ^ e) (h : ∀ j, j < L.length → okR L j) (q : 4 * taK L ≤ 3 * L.length) (x : taK L ≤ 4000) : RiL hsT mayT L :=
  ⟨hp, fun i hi => (h i hi).1, fun i hi hu => ((h i hi).2 hu).1, (dt_iff L).2 fun i k hi hk hu hv e => by
    rcases Nat.lt_trichotomy i k with hlt | heq | hgt
    · exact absurd e.symm (((h k hk).2 hv).2 i hlt hu)
    · exact heq
    · exact absurd e (((h i hi).2 hu).2 k hgt hv), q, x⟩
theorem taK_snoc {L : List En} {k : Nat} (h : k < L.length) : taK (L.take (k + 1)) = taK (L.take k) + if (gE L k).1 = 0 then 0 else 1 := by
  unfold taK
  rw [take_succ_gE h, List.filter_append, List.length_append]
  by_cases e : (gE L k).1 = 0 <;> simp [e]
theorem taK_le (L : List En) : taK L ≤ L.length := by unfold taK; exact List.length_filter_le _ _
set_option maxRecDepth 20000 in
set_option maxHeartbeats 4000000 in
theorem right9 (p : Option Addr) (L : List En) (c : Nat) (w : World) (hE : ERow w.heap.size w p L) (hm : L.length ≤ 1000) (hLc : L.length ≤ c) (hB : LB L) :
    Calls Try.prog 9 #[.agg #[.slice p L.length c]] w fun e w' => e = .returned (.bool (riB L)) ∧ Below w.heap.size w w' := by
  obtain ⟨v, hv⟩ : ∃ v, v = riB L := ⟨_, rfl⟩
  rw [← hv]
  have HV := hidOg hv
  have HLB := hidOg hB
  have HEr := hidOg hE
  obtain ⟨m, hm'⟩ : ∃ m, m = L.length := ⟨_, rfl⟩
  have HM := hidOg hm'
  have HF : Hid (∀ k, k < m → ¬ okR L k → v = false) := fun k hk hn => by
    rw [HV.out]; exact riB_f fun h => hn (ri_okR h k (by rw [← hm']; exact hk))
  have CF := fun (W : World) (hb : Below w.heap.size w W) (q : Option Addr) (d i : Nat) (hT : TRow w.heap.size w q (gE L i).2.1 d) (hi : i < L.length) (hu : (gE L i).1 = 1) => found32 p L c q (gE L i).2.1 d i W (hE.to hb) hm ((hT.below hb (Nat.le_refl _)).mono hb.size) (hB i hi) hi hu rfl
  rw [← hm'] at hm hLc CF ⊢
  have bw : Below w.heap.size w (w.alloc (.cells #[.slice p m c] 24)) := (Below.refl _ _).alloc (Nat.le_refl _) _
  have HK : Hid (∀ W, Below (w.alloc (.cells #[.slice p m c] 24)).heap.size (w.alloc (.cells #[.slice p m c] 24)) W → Below w.heap.size w W ∧ W.cell? ⟨w.heap.size, 0, none⟩ = some (.slice p m c)) := fun W hb =>
    ⟨bw.trans (hb.mono bw.size), Boxed.cell (Boxed.stays (Boxed.new w 24 _) hb)⟩
  clear hv hm' hE hB bw
  go_enter Try.func9, Try.ntmps9
  go_wp2
  generalize (w.alloc (.cells #[.slice p m c] 24)) = wb at HK ⊢
  have xb := (HK.out wb (Below.refl _ _)).2
  go_loop [3] (fun s => ∃ e M : Nat, M = 8 * 2 ^ e ∧ s = .int .i64 M ∧ ∀ j, j < e → 8 * 2 ^ j < m) (fun s => m - (intOf s).toNat)
  case atStart => exact ⟨0, 8, rfl, rfl, fun j hj => by omega⟩
  case round =>
    obtain ⟨e, M, hM, rfl, hall⟩ := hrel
    have HA := hidOg hall
    have hp := Nat.two_pow_pos e
    have hM8 : 8 ≤ M := by omega
    have HMe := hidOg hM
    clear hall hM hp
    by_cases hlt : M < m
    · have hwr : IntKind.i64.wrap (2 * (M : Int)) = 2 * (M : Int) := by rw [IntKind.wrap_i64]; omega
      go_wp2
      go_round
      case rel =>
        refine ⟨e + 1, 2 * M, by rw [HMe.out, Nat.pow_succ]; omega, by go_num, fun j hj => ?_⟩
        by_cases ej : j = e
        · rw [ej, ← HMe.out]; exact hlt
        · exact HA.out j (by omega)
      case measure => simp [intOf]; omega
    · by_cases hne : m = M
      · have hne' : ((m : Int) != (M : Int)) = false := by simp [hne]
        have HP : Hid (∃ e, L.length = 8 * 2 ^ e) := ⟨e, by rw [← HM.out, ← HMe.out]; exact hne⟩
        have HNE := hidOg hne
        clear hne HA HMe
        go_wp2
        go_loopw [4, 24] (fun s i wr => ∃ k T : Nat, k ≤ m ∧ i = .int .i64 k ∧ s = .int .i64 T ∧ T = taK (L.take k) ∧ (∀ j, j < k → okR L j) ∧ Below wb.heap.size wb wr) (fun _ i _ => m - (intOf i).toNat)
        case atStart => exact ⟨0, 0, Nat.zero_le _, rfl, rfl, by simp [taK], fun j hj => by omega, Below.refl _ _⟩
        case round =>
          obtain ⟨k, T, hk, rfl, rfl, hT, hall, hBw⟩ := hrel
          have HT := hidOg hT
          have HA := hidOg hall
          have HB := hidOg hBw
          have hTk : T ≤ k := by
            have := taK_le (L.take k); rw [hT]; simp at this; omega
          obtain ⟨hbw, x0⟩ := HK.out _ hBw
          have HBw := hidOg hbw
          clear hall hBw hT xb
          by_cases hlt2 : k < m
          · obtain ⟨b, off, rfl, hbN, hcs⟩ := HEr.out (by have := HM.out; omega)
            obtain ⟨k0, ⟨qx, cx, k1, hTx⟩, k2⟩ := hcs k (by have := HM.out; omega)
            have k0' := (hbw.cell (p := ⟨b, off + k * 3, none⟩) hbN).trans k0
            have k1' := (hbw.cell (p := ⟨b, off + k * 3 + 1, none⟩) hbN).trans k1
            have k2' := (hbw.cell (p := ⟨b, off + k * 3 + 2, none⟩) hbN).trans k2
            have hlb := HLB.out k (by have := HM.out; omega)
            have HTx := hidOg hTx
            have hTs : Hid (T + (if (gE L k).1 = 0 then 0 else 1) = taK (L.take (k + 1))) := by unfold Hid; rw [taK_snoc (by rw [← HM.out]; exact hlt2), HT.out]
            have CFk := fun (W : World) (hb : Below w.heap.size w W) (hu : (gE L k).1 = 1) => CF W hb qx cx k hTx hlt2 hu
            obtain ⟨s1, hs1⟩ : ∃ s1, s1 = (gE L k).1 := ⟨_, rfl⟩
            obtain ⟨t1, ht1⟩ : ∃ t1, t1 = (gE L k).2.1 := ⟨_, rfl⟩
            obtain ⟨n1, hn1⟩ : ∃ n1, n1 = (gE L k).2.2 := ⟨_, rfl⟩
            have HS1 := hidOg hs1
            have HT1 := hidOg ht1
            have HN1 := hidOg hn1
            rw [← hs1] at k0' hTs CFk
            rw [← ht1] at k1' hlb HTx CFk
            rw [← hn1] at k2'
            obtain ⟨l1, hl1⟩ : ∃ l1, l1 = t1.length := ⟨_, rfl⟩
            have HL1 := hidOg hl1
            rw [← hl1] at k1' hlb CFk
            have HBal := hidOg (fun (o : Obj) => hbw.trans (bal_lt o hbw.size))
            have HBalb := hidOg (fun (o : Obj) => HB.out.trans (bal_lt o HB.out.size))
            clear hcs k0 k1 k2 hTx hbw hs1 ht1 hn1 hl1 CF
            by_cases h0 : s1 = 0
            · have e0 : (s1 == 0) = true := by simp [h0]
              have e3 : (s1 != 0) = false := by simp [h0]
              have HT0 : Hid (T = taK (L.take (k + 1))) := by have := hTs.out; rw [if_pos h0] at this; exact this
              by_cases hl : l1 = 0
              · by_cases hn : n1 = 0
                · have el : ¬ (0 : Int) < (l1 : Int) := by omega
                  have en : (n1 != 0) = false := by simp [hn]
                  have HOK : Hid (okR L k) := ⟨.inl ⟨.inl (by rw [← HS1.out]; exact h0), by rw [← HT1.out]; exact List.eq_nil_of_length_eq_zero (by rw [← HL1.out]; exact hl), by rw [← HN1.out]; exact hn⟩, fun hu => by rw [← HS1.out, h0] at hu; exact absurd hu (by decide)⟩
                  clear h0 hl hn CFk hlb
                  go_wp2
                  go_roundw
                  case rel =>
                    refine ⟨k + 1, T, by omega, by go_num, rfl, HT0.out, fun j hj => ?_, HBalb.out _⟩
                    by_cases e : j = k
                    · rw [e]; exact HOK.out
                    · exact HA.out j (by omega)
                  case measure => simp [intOf]; omega
                · have el : ¬ (0 : Int) < (l1 : Int) := by omega
                  have en : (n1 != 0) = true := by simpa using hn
                  have E : Hid (v = false) := HF.out k hlt2 fun h => by
                    rcases h.1 with ⟨_, _, h3⟩ | ⟨h3, _⟩
                    · rw [← HN1.out] at h3; exact hn h3
                    · rw [← HS1.out, h0] at h3; exact absurd h3 (by decide)
                  clear h0 hl hn CFk hlb
                  go_wp2
                  go_ret
                  exact ⟨ret_bool E.out.symm, HBal.out _⟩
              · have el : (0 : Int) < (l1 : Int) := by omega
                have E : Hid (v = false) := HF.out k hlt2 fun h => by
                  rcases h.1 with ⟨_, h3, _⟩ | ⟨h3, _⟩
                  · rw [← HT1.out] at h3; rw [HL1.out, h3] at hl; exact hl rfl
                  · rw [← HS1.out, h0] at h3; exact absurd h3 (by decide)
                clear h0 hl CFk hlb
                go_wp2
                go_ret
                exact ⟨ret_bool E.out.symm, HBal.out _⟩
            · have e0 : (s1 == 0) = false := by simpa using h0
              have e3 : (s1 != 0) = true := by simpa using h0
              have HT1' : Hid (T + 1 = taK (L.take (k + 1))) := by have := hTs.out; rw [if_neg h0] at this; exact this
              by_cases h2 : s1 = 2
              · have e2 : (s1 == 2) = true := by simp [h2]
                by_cases hl : l1 = 0
                · by_cases hn : n1 = 0
                  · have el : ¬ (0 : Int) < (l1 : Int) := by omega
                    have en : (n1 != 0) = false := by simp [hn]
                    have HOK : Hid (okR L k) := ⟨.inl ⟨.inr (by rw [← HS1.out]; exact h2), by rw [← HT1.out]; exact List.eq_nil_of_length_eq_zero (by rw [← HL1.out]; exact hl), by rw [← HN1.out]; exact hn⟩, fun hu => by rw [← HS1.out, h2] at hu; exact absurd hu (by decide)⟩
                    clear h0 h2 hl hn CFk hlb
                    go_wp2
                    go_roundw
                    case rel =>
                      refine ⟨k + 1, T + 1, by omega, by go_num, by go_num, HT1'.out, fun j hj => ?_, HBalb.out _⟩
                      by_cases e : j = k
                      · rw [e]; exact HOK.out
                      · exact HA.out j (by omega)
                    case measure => simp [intOf]; omega
                  · have el : ¬ (0 : Int) < (l1 : Int) := by omega
                    have en : (n1 != 0) = true := by simpa using hn
                    have E : Hid (v = false) := HF.out k hlt2 fun h => by
                      rcases h.1 with ⟨_, _, h3⟩ | ⟨h3, _⟩
                      · rw [← HN1.out] at h3; exact hn h3
                      · rw [← HS1.out, h2] at h3; exact absurd h3 (by decide)
                    clear h0 h2 hl hn CFk hlb
                    go_wp2
                    go_ret
                    exact ⟨ret_bool E.out.symm, HBal.out _⟩
                · have el : (0 : Int) < (l1 : Int) := by omega
                  have E : Hid (v = false) := HF.out k hlt2 fun h => by
                    rcases h.1 with ⟨_, h3, _⟩ | ⟨h3, _⟩
                    · rw [← HT1.out] at h3; rw [HL1.out, h3] at hl; exact hl rfl
                    · rw [← HS1.out, h2] at h3; exact absurd h3 (by decide)
                  clear h0 h2 hl CFk hlb
                  go_wp2
                  go_ret
                  exact ⟨ret_bool E.out.symm, HBal.out _⟩
              · have e2 : (s1 == 2) = false := by simpa using h2
                by_cases h1 : s1 = 1
                · have e1 : (s1 == 1) = true := by simp [h1]
                  have HH1 := hidOg h1
                  have CR := fun (W : World) (hb : Below w.heap.size w W) => right12 qx t1 cx W ((HTx.out.i.below hb (Nat.le_refl _)).mono hb.size) HTx.out.u (by have := HL1.out; omega)
                  rw [← HL1.out] at CR
                  have CFj := fun (W : World) (hb : Below w.heap.size w W) => CFk W hb h1
                  clear CFk h0 h2 h1
                  cases hmt : mayT t1
                  · have E : Hid (v = false) := HF.out k hlt2 fun h => by
                      rcases h.1 with ⟨h3, _⟩ | ⟨_, h3, _⟩
                      · rw [← HS1.out, HH1.out] at h3; rcases h3 with h3 | h3 <;> exact absurd h3 (by decide)
                      · rw [← HT1.out, hmt] at h3; cases h3
                    rw [hmt] at CR
                    clear hmt hlb CFj
                    go_wp2_with (first | (go_at_call 21; refine Calls.mono (CR _ (HBal.out _)) ?_; clear CR; rintro e w2 ⟨rfl, hw2⟩; rw [hw2]; clear hw2 w2))
                    go_ret
                    exact ⟨ret_bool E.out.symm, HBal.out _⟩
                  · rw [hmt] at CR
                    by_cases hn : n1 < 0
                    · have E : Hid (v = false) := HF.out k hlt2 fun h => by
                        rcases h.1 with ⟨h3, _⟩ | ⟨_, _, h3⟩
                        · rw [← HS1.out, HH1.out] at h3; rcases h3 with h3 | h3 <;> exact absurd h3 (by decide)
                        · rw [← HN1.out] at h3; omega
                      clear hmt hlb CFj
                      go_wp2_with (first | (go_at_call 21; refine Calls.mono (CR _ (HBal.out _)) ?_; clear CR; rintro e w2 ⟨rfl, hw2⟩; rw [hw2]; clear hw2 w2))
                      go_ret
                      exact ⟨ret_bool E.out.symm, HBal.out _⟩
                    · cases hmet : meB L t1 k
                      · have E : Hid (v = false) := HF.out k hlt2 fun h => by
                          have h3 := (h.2 (by rw [← HS1.out]; exact HH1.out)).1
                          rw [← HT1.out] at h3
                          rw [meB_t h3] at hmet; cases hmet
                        rw [hmet] at CFj
                        have x0' := (HK.out _ (HBalb.out (.cells #[.int .i64 s1, .slice qx l1 cx, .int .i64 n1] 39))).2
                        clear hmt hlb hmet
                        go_wp2_with (first | (go_at_call 21; refine Calls.mono (CR _ (HBal.out _)) ?_; clear CR; rintro e w2 ⟨rfl, hw2⟩; rw [hw2]; clear hw2 w2) | (go_at_call 32; refine Calls.mono (CFj _ (HBal.out _)) ?_; clear CFj; rintro e w3 ⟨rfl, hb3⟩; have HB3 := hidOg ((HBal.out _).trans (hb3.mono (HBal.out _).size)); clear hb3))
                        go_ret
                        exact ⟨ret_bool E.out.symm, HB3.out⟩
                      · have HMe := hidOg (meB_of hmet)
                        rw [hmet] at CFj
                        have HMT := hidOg hmt
                        have HN0 := hidOg hn
                        have x0' := (HK.out _ (HBalb.out (.cells #[.int .i64 s1, .slice qx l1 cx, .int .i64 n1] 39))).2
                        have KD : Hid (∀ W, Below (wr.alloc (.cells #[.int .i64 s1, .slice qx l1 cx, .int .i64 n1] 39)).heap.size (wr.alloc (.cells #[.int .i64 s1, .slice qx l1 cx, .int .i64 n1] 39)) W → (W.cell? ⟨wr.heap.size, 0, none⟩ = some (.int .i64 s1) ∧ W.cell? ⟨wr.heap.size, 1, none⟩ = some (.slice qx l1 cx)) ∧ Below w.heap.size w W ∧ Below wb.heap.size wb W ∧ W.cell? ⟨w.heap.size, 0, none⟩ = some (.slice (some ⟨b, off, none⟩) m c)) := fun W hb => by
                          obtain ⟨z0, z1, _⟩ := box3 wr _ _ _ hb
                          have h1 := (HBalb.out (.cells #[.int .i64 s1, .slice qx l1 cx, .int .i64 n1] 39)).trans (hb.mono (HBalb.out _).size)
                          exact ⟨⟨z0, z1⟩, (HK.out _ h1).1, h1, (HK.out _ h1).2⟩
                        clear hmt hmet
                        go_wp2_with (first | (go_at_call 21; refine Calls.mono (CR _ (HBal.out _)) ?_; clear CR; rintro e w2 ⟨rfl, hw2⟩; rw [hw2]; clear hw2 w2) | (go_at_call 32; refine Calls.mono (CFj _ (HBal.out _)) ?_; clear CFj; rintro e w3 ⟨rfl, hb3⟩; have K3 : Hid (∀ W, Below w3.heap.size w3 W → (W.cell? ⟨wr.heap.size, 0, none⟩ = some (.int .i64 s1) ∧ W.cell? ⟨wr.heap.size, 1, none⟩ = some (.slice qx l1 cx)) ∧ Below w.heap.size w W ∧ Below wb.heap.size wb W ∧ W.cell? ⟨w.heap.size, 0, none⟩ = some (.slice (some ⟨b, off, none⟩) m c)) := (fun W hb => KD.out W (hb3.trans (hb.mono hb3.size))); have x3 := (K3.out _ (Below.refl _ _)).2.2.2; clear hb3))
                        clear KD x0' x0 HB HBw HBal HBalb k0' k1' k2'
                        generalize wr.heap.size = D at K3 ⊢
                        have hkc : (k : Int) ≤ (c : Int) := by omega
                        have HMk := hidOg hk
                        go_loopw [67] (fun x wr => ∃ j : Nat, j ≤ k ∧ x = .int .i64 j ∧ (∀ i, i < j → (gE L i).1 = 1 → t1 ≠ (gE L i).2.1) ∧ Below w3.heap.size w3 wr) (fun x _ => k - (intOf x).toNat)
                        case atStart => exact ⟨0, Nat.zero_le _, rfl, fun i hi => by omega, Below.refl _ _⟩
                        case round =>
                          obtain ⟨j, hj, rfl, hnone, hB3⟩ := hrel
                          have HNo := hidOg hnone
                          have HB3 := hidOg hB3
                          obtain ⟨⟨d0, d1⟩, hbw, hbb, x4⟩ := K3.out _ hB3
                          clear hnone x3
                          by_cases hlt3 : j < k
                          · obtain ⟨b', off', he, hbN', hcs⟩ := HEr.out (by have := HM.out; omega)
                            cases he
                            obtain ⟨k0, ⟨qy, cy, k1, hTy⟩, k2⟩ := hcs j (by have := HM.out; omega)
                            have k0' := (hbw.cell (p := ⟨b, off + j * 3, none⟩) hbN).trans k0
                            have k1' := (hbw.cell (p := ⟨b, off + j * 3 + 1, none⟩) hbN).trans k1
                            have k2' := (hbw.cell (p := ⟨b, off + j * 3 + 2, none⟩) hbN).trans k2
                            obtain ⟨s2, hs2⟩ : ∃ s2, s2 = (gE L j).1 := ⟨_, rfl⟩
                            obtain ⟨t2, ht2⟩ : ∃ t2, t2 = (gE L j).2.1 := ⟨_, rfl⟩
                            obtain ⟨n2, hn2⟩ : ∃ n2, n2 = (gE L j).2.2 := ⟨_, rfl⟩
                            have HS2 := hidOg hs2
                            have HT2 := hidOg ht2
                            rw [← hs2] at k0'
                            rw [← ht2] at k1' hTy
                            rw [← hn2] at k2'
                            have CS := fun (W : World) (hb : Below w.heap.size w W) => same33 qx t1 cx qy t2 cy W ((HTx.out.i.below hb (Nat.le_refl _)).mono hb.size) ((hTy.i.below hb (Nat.le_refl _)).mono hb.size) (by have := HL1.out; omega)
                            obtain ⟨l2, hl2⟩ : ∃ l2, l2 = t2.length := ⟨_, rfl⟩
                            rw [← hl2] at k1' CS
                            rw [← HL1.out] at CS
                            have HBy := hidOg (hB3.trans (bal_lt (.cells #[.int .i64 s2, .slice qy l2 cy, .int .i64 n2] 39) hB3.size))
                            have y1 := (K3.out _ HBy.out).1.2
                            have HWy := hidOg (K3.out _ HBy.out).2.1
                            clear hcs k0 k1 k2 hTy hbw hbb hs2 ht2 hn2 hl2 hB3
                            by_cases h12 : s2 = 1
                            · have e5 : (s2 == 1) = true := by simp [h12]
                              by_cases htt : t1 = t2
                              · have E : Hid (v = false) := HF.out k hlt2 fun h => by
                                  refine (h.2 (by rw [← HS1.out]; exact HH1.out)).2 j hlt3 (by rw [← HS2.out]; exact h12) ?_
                                  rw [← HT1.out, ← HT2.out]; exact htt
                                have e6 : eqB t1 t2 = true := by rw [htt, eqB_t]
                                rw [e6] at CS
                                clear htt e6 h12
                                go_wp2_with (first | (go_at_call 33; refine Calls.mono (CS _ HWy.out) ?_; clear CS; rintro e w5 ⟨rfl, hb5⟩; have HB5 := hidOg (HWy.out.trans (hb5.mono HWy.out.size)); clear hb5))
                                go_ret
                                exact ⟨ret_bool E.out.symm, HB5.out⟩
                              · have e6 : eqB t1 t2 = false := eqB_ne htt
                                have HTT := hidOg htt
                                rw [e6] at CS
                                clear htt e6 h12
                                go_wp2_with (first | (go_at_call 33; refine Calls.mono (CS _ HWy.out) ?_; clear CS; rintro e w5 ⟨rfl, hb5⟩; have HB5 := hidOg (HBy.out.trans (hb5.mono HBy.out.size)); clear hb5))
                                go_roundw
                                case rel =>
                                  refine ⟨j + 1, by omega, by go_num, fun i hi hu => ?_, HB5.out⟩
                                  by_cases e : i = j
                                  · rw [e, ← HT2.out]; exact HTT.out
                                  · exact HNo.out i (by omega) hu
                                case measure => simp [intOf]; omega
                            · have e5 : (s2 == 1) = false := by simpa using h12
                              have H12 := hidOg h12
                              clear h12 CS
                              go_wp2
                              go_roundw
                              case rel =>
                                refine ⟨j + 1, by omega, by go_num, fun i hi hu => ?_, HBy.out⟩
                                by_cases e : i = j
                                · rw [e, ← HS2.out] at hu; exact absurd hu H12.out
                                · exact HNo.out i (by omega) hu
                              case measure => simp [intOf]; omega
                          · obtain rfl : j = k := by omega
                            have HOK : Hid (okR L j) := ⟨.inr ⟨by rw [← HS1.out]; exact HH1.out, by rw [← HT1.out]; exact HMT.out, by rw [← HN1.out]; have := HN0.out; omega⟩, fun _ => ⟨by rw [← HT1.out]; exact HMe.out, fun i hi hu => by rw [← HT1.out]; exact HNo.out i hi hu⟩⟩
                            have HBB := hidOg hbb
                            clear hbb hbw hB3
                            go_wp2
                            go_roundw
                            case rel =>
                              refine ⟨j + 1, T + 1, by omega, by go_num, by go_num, HT1'.out, fun i hi => ?_, HBB.out⟩
                              by_cases e : i = j
                              · rw [e]; exact HOK.out
                              · exact HA.out i (by omega)
                            case measure => simp [intOf]; omega
                · have e1 : (s1 == 1) = false := by simpa using h1
                  have E : Hid (v = false) := HF.out k hlt2 fun h => by
                    rcases h.1 with ⟨h3, _⟩ | ⟨h3, _⟩
                    · rw [← HS1.out] at h3; rcases h3 with h3 | h3
                      · exact h0 h3
                      · exact h2 h3
                    · rw [← HS1.out] at h3; exact h1 h3
                  clear h0 h1 h2 CFk hlb
                  go_wp2
                  go_ret
                  exact ⟨ret_bool E.out.symm, HBal.out _⟩
          · obtain rfl : k = m := by omega
            have hall : ∀ j, j < L.length → okR L j := fun j hj => HA.out j (by rw [HM.out]; exact hj)
            have hTl : T = taK L := by rw [HT.out, HM.out, List.take_length]
            have hT40 : decide ((T : Int) ≤ 4000) = true := decide_eq_true (by omega)
            by_cases hq : 4 * T ≤ 3 * k
            · have E : Hid (v = true) := by
                unfold Hid; rw [HV.out]
                exact riB_t (okR_ri HP.out hall (by rw [← hTl, ← HM.out]; exact hq) (by omega))
              have hMk : M = k := HNE.out.symm
              clear hall hTl
              subst hMk
              go_wp2
              go_ret
              exact ⟨ret_bool E.out.symm, HBw.out⟩
            · have E : Hid (v = false) := by
                unfold Hid; rw [HV.out]
                exact riB_f fun h => hq (by have := h.q3; rw [← hTl, ← HM.out] at this; exact this)
              have hMk : M = k := HNE.out.symm
              clear hall hTl
              subst hMk
              go_wp2
              go_ret
              exact ⟨ret_bool E.out.symm, HBw.out⟩
      · have hne' : ((m : Int) != (M : Int)) = true := by simp; omega
        have E : Hid (v = false) := by
          unfold Hid; rw [HV.out]
          exact riB_f fun h => hne (by
            have := (pw_iff (len := m) (k := e) (by rw [← HMe.out]; omega) HA.out).1 (by rw [HM.out]; exact h.pw)
            rw [this, HMe.out])
        clear HA HMe hne
        go_wp2
        go_ret
        exact ⟨ret_bool E.out.symm, (HK.out wb (Below.refl _ _)).1⟩
end Go.Proofs.Ytjnhalomkmdcgaa
