/- The document's Read. -/
import Derived.Test.YtofobpijkceldaaDoorReM
import Derived.Test.YtofobpijkceldaaDoorOrA
import Derived.Test.YtofobpijkceldaaDoorReT
namespace Go.Proofs.YtofobpijkceldaaDoor
open Go.RowKit Go.Shelf

theorem idx16 (k : Nat) (hk : k < 16) (w : World) : (Instr.index 9 (.string ⟨#[48, 49, 50, 51, 52, 53, 54, 55, 56, 57, 97, 98, 99, 100, 101, 102]⟩) (.int .i64 k)).run Tryd.prog w = .ok (.int .u8 ((hexD k).toNat : Int)) w := by
  have h : ∀ d, d < 16 → digs16[d]? = some (hexD d) := by decide +kernel
  have := h k hk
  unfold digs16 at this
  simp [Instr.index, run_underlying Tryd.underlying9, asIntOf, this]
theorem refRead_dash (s : ByteArray) (w : World) (h : (s.toList == [45]) = true) :
    Calls Tryd.prog 23 #[.string s] w fun e w' => e = .returned (.tuple #[.slice none 0 0, .bool true]) ∧ Below w.heap.size w w' := by
  go_enter Tryd.func23, Tryd.ntmps23
  go_wp2
  go_ret2
  exact ⟨rfl, Below.refl _ _⟩
/-- What the document's Read answers. -/
def RdA (l : List UInt8) (w : World) (e : Ending) (w' : World) : Prop :=
  ∃ q m c, e = .returned (.tuple #[.slice q m c, .bool (rdOk l)]) ∧ (rdOk l = true → OwnR w.heap.size w' q (rdL l) c ∧ m = (rdL l).length) ∧ Below w.heap.size w w'
theorem rdA_no {l : List UInt8} {w w' : World} (h : rdOk l = false) (hb : Below w.heap.size w w') {q : Option Addr} {m c : Nat} : RdA l w (.returned (.tuple #[.slice q m c, .bool false])) w' :=
  ⟨q, m, c, by rw [h], fun h' => (by rw [h] at h'; cases h'), hb⟩
/-- What its loop keeps. -/
structure RL (l : List UInt8) (w wr : World) (q : Option Addr) (m c n many i : Nat) (done : List (List UInt8)) (cur : List UInt8) : Prop where
  row : OwnR w.heap.size wr q (done.map wdI) c
  ml : m = done.length
  en : n = numH cur
  em : many = cur.length
  st : RdI l i done cur
  bel : Below w.heap.size w wr

set_option maxRecDepth 100000 in
set_option maxHeartbeats 8000000 in
theorem refRead_more (s : ByteArray) (w : World) (hs : s.size ≤ 500) (h : (s.toList == [45]) = false) :
    Calls Tryd.prog 23 #[.string s] w fun e w' => RdA (bL s) w e w' := by
  obtain ⟨i0, hi, hz0, hz1, hz2⟩ := info_parts Tryd.info33
  have HLn := hidOg (bL_len s)
  go_enter Tryd.func23, Tryd.ntmps23
  go_wp2
  go_loopw [4, 5, 6, 7] (fun uo un um ui wr => ∃ (q : Option Addr) (m c n many i : Nat), uo = .slice q m c ∧ un = .int .u64 n ∧ um = .int .i64 many ∧ ui = .int .i64 i ∧
      ((i ≤ s.size ∧ ∃ done cur, RL (bL s) w wr q m c n many i done cur) ∨ (i = s.size + 1 ∧ ∃ done, OwnR w.heap.size wr q (done.map wdI) c ∧ m = done.length ∧ prts (bL s) = done ∧ done.all okW = true ∧ Below w.heap.size w wr))) (fun _ _ _ ui _ => s.size + 1 - (intOf ui).toNat)
  case atStart => exact ⟨none, 0, 0, 0, 0, 0, rfl, rfl, rfl, rfl, .inl ⟨Nat.zero_le _, [], [], ⟨OwnR.nil _ _, rfl, rfl, rfl, RdI.start _, Below.refl _ _⟩⟩⟩
  case round =>
    obtain ⟨q, m, c, n, many, i, rfl, rfl, rfl, rfl, hrel⟩ := hrel
    rcases hrel with ⟨hle, done, cur, hL⟩ | ⟨hie, done, hown, hm, hpr, hall, hbel⟩
    · obtain ⟨hrow, rfl, rfl, rfl, hst, hbel⟩ := hL
      have hle' : (i : Int) ≤ (s.size : Int) := by omega
      have hdl := done_len hst
      rw [HLn.out] at hdl
      have hn64 := num_64 hst
      obtain ⟨L, hLd⟩ : ∃ L, L = done.map wdI := ⟨_, rfl⟩
      have hLl : L.length = done.length := by rw [hLd]; simp
      rw [← hLd] at hrow
      rw [← hLl] at hdl ⊢
      have HR := hidOg hrow
      have HBl := hidOg hbel
      have HLd := hidOg hLd
      have HLl := hidOg hLl
      have HW : Hid (cur ≠ [] → wordV cur = numH cur) := by
        intro h0; unfold wordV; rw [okW_cur h0 hst.cn hst.c16 hst.hd]; rfl
      have HSt := hidOg hst
      obtain ⟨n, hn⟩ : ∃ n, n = numH cur := ⟨_, rfl⟩
      obtain ⟨many, hmany⟩ : ∃ many, many = cur.length := ⟨_, rfl⟩
      have HNm := hidOg hn
      have HMm := hidOg hmany
      have HC16 := hidOg hst.c16
      rw [← hn] at hn64 HW ⊢
      rw [← hmany] at HC16 ⊢
      clear hrow hbel hLd hLl hst hn hmany
      by_cases hend : i = s.size
      · have he : ((i : Int) == (s.size : Int)) = true := by rw [beq_iff_eq]; omega
        by_cases h0 : many = 0
        · have hm0 : ((many : Int) == 0) = true := by rw [beq_iff_eq]; omega
          have hc0 : cur = [] := List.eq_nil_of_length_eq_zero (by rw [← HMm.out]; exact h0)
          have HN : Hid (rdOk (bL s) = false) := by
            have := HSt.out; rw [hc0] at this
            exact this.none (.inl (by rw [HLn.out]; exact hend))
          clear h0 hc0 hend
          go_wp2
          go_ret2
          exact rdA_no HN.out HBl.out
        · have hm0 : ((many : Int) == 0) = false := by rw [beq_eq_false_iff_ne]; omega
          have hc0 : cur ≠ [] := fun e => h0 (by rw [HMm.out, e]; rfl)
          have HF := hidOg (HSt.out.fin (by rw [HLn.out]; exact hend) hc0)
          have HWc := hidOg (HW.out hc0)
          have HEnd := hidOg hend
          clear h0 hc0 hend HW
          go_wp2_with (first | (at_builtin; refine wpList_append_g _ _ _ rfl (by simp [Region.wanted]) w.heap.size q L c rfl (HR.out.to (bal _ _)) _ [(n : Int)] 1 1 rfl rfl (cells1 _ _ _) (by simp; omega) (by have := HBl.out.size; simp; omega) ?_; intro q' L' c' w8 eL ho hg; have HO := hidOg ho; have HEL := hidOg eL; have HB8 := hidOg (grown_below (HBl.out.alloc HBl.out.size _) (HR.out.to (bal _ _)) (by have := HBl.out.size; simp; omega) hg); clear ho eL hg))
          go_roundw
          case rel => exact ⟨q', L'.length, c', 0, 0, i + 1, rfl, rfl, rfl, by go_num, .inr ⟨by rw [HEnd.out], done ++ [cur], by rw [List.map_append, ← HLd.out]; have e : [cur].map wdI = [(n : Int)] := (by show [((wordV cur : Nat) : Int)] = _; rw [HWc.out]); rw [e, ← HEL.out]; exact HO.out, by rw [HEL.out]; simp [HLl.out], HF.out.1, HF.out.2, HB8.out⟩⟩
          case measure => simp [intOf]; omega
      · have he : ((i : Int) == (s.size : Int)) = false := by rw [beq_eq_false_iff_ne]; omega
        have hlt : i < s.size := by omega
        have hltL : i < (bL s).length := by rw [HLn.out]; exact hlt
        obtain ⟨x, hx⟩ : ∃ x, x = s[i]'hlt := ⟨_, rfl⟩
        have HXl : Hid ((bL s)[i]'hltL = x) := by rw [hx]; rfl
        by_cases hcm : x = 44
        · have hx44 : (((s[i]'hlt).toNat : Int) == 44) = true := by rw [← hx, hcm]; decide
          have HX44 : Hid ((bL s)[i]'hltL = 44) := by unfold Hid; rw [HXl.out]; exact hcm
          clear hx hcm
          by_cases h0 : many = 0
          · have hm0 : ((many : Int) == 0) = true := by rw [beq_iff_eq]; omega
            have hc0 : cur = [] := List.eq_nil_of_length_eq_zero (by rw [← HMm.out]; exact h0)
            have HN : Hid (rdOk (bL s) = false) := by
              have := HSt.out; rw [hc0] at this
              exact this.none (.inr ⟨hltL, HX44.out⟩)
            clear h0 hc0 hend
            go_wp2
            go_ret2
            exact rdA_no HN.out HBl.out
          · have hm0 : ((many : Int) == 0) = false := by rw [beq_eq_false_iff_ne]; omega
            have hc0 : cur ≠ [] := fun e => h0 (by rw [HMm.out, e]; rfl)
            have HF := hidOg (HSt.out.comma hltL HX44.out hc0)
            have HWc := hidOg (HW.out hc0)
            clear h0 hc0 hend HW
            go_wp2_with (first | (at_builtin; refine wpList_append_g _ _ _ rfl (by simp [Region.wanted]) w.heap.size q L c rfl (HR.out.to (bal _ _)) _ [(n : Int)] 1 1 rfl rfl (cells1 _ _ _) (by simp; omega) (by have := HBl.out.size; simp; omega) ?_; intro q' L' c' w8 eL ho hg; have HO := hidOg ho; have HEL := hidOg eL; have HB8 := hidOg (grown_below (HBl.out.alloc HBl.out.size _) (HR.out.to (bal _ _)) (by have := HBl.out.size; simp; omega) hg); clear ho eL hg))
            go_roundw
            case rel => exact ⟨q', L'.length, c', 0, 0, i + 1, rfl, rfl, rfl, by go_num, .inl ⟨by omega, done ++ [cur], [], ⟨by rw [List.map_append, ← HLd.out]; have e : [cur].map wdI = [(n : Int)] := (by show [((wordV cur : Nat) : Int)] = _; rw [HWc.out]); rw [e, ← HEL.out]; exact HO.out, by rw [HEL.out]; simp [HLl.out], rfl, rfl, HF.out, HB8.out⟩⟩⟩
            case measure => simp [intOf]; omega
        · have hx44 : (((s[i]'hlt).toNat : Int) == 44) = false := by
            rw [← hx, beq_eq_false_iff_ne]; intro e; apply hcm; apply UInt8.toNat_inj.1; simpa using (by omega : x.toNat = 44)
          have HCM : Hid ((bL s)[i]'hltL ≠ 44) := by unfold Hid; rw [HXl.out]; exact hcm
          have HXs := hidOg hx
          clear hend
          go_wp2
          go_loopw [8, 34] (fun ud uk wx => ∃ k : Nat, k ≤ 16 ∧ uk = .int .i64 k ∧ ud = .int .i64 (dgN x k) ∧ Below wr.heap.size wr wx) (fun _ uk _ => 16 - (intOf uk).toNat)
          case atStart => exact ⟨0, by omega, rfl, by simp [dgN], Below.refl _ _⟩
          case round =>
            obtain ⟨k, hk, rfl, rfl, hbx⟩ := hrel
            have HBx := hidOg hbx
            clear hbx
            by_cases hk16 : k < 16
            · have ix := idx16 k hk16
              have hk16' : (k : Int) < 16 := by omega
              by_cases hit : hexD k = x
              · have HD := hidOg (dg_hit hk16 hit)
                have hq : (((hexD k).toNat : Int) == ((s[i]'hlt).toNat : Int)) = true := by rw [hit, HXs.out]; simp
                obtain ⟨D, hD⟩ : ∃ D, D = dgN x k := ⟨_, rfl⟩
                obtain ⟨y, hy⟩ : ∃ y : Int, y = ((hexD k).toNat : Int) := ⟨_, rfl⟩
                rw [← hy] at hq ix
                rw [← hD]
                clear hit hD hy
                go_wp2
                go_region
                go_wp2
                go_roundw
                case rel => exact ⟨k + 1, by omega, by go_num, by rw [HD.out], below_drewN' HBx.out _⟩
                case measure => simp [intOf]; omega
              · have HD := hidOg (dg_miss hit)
                have hq : (((hexD k).toNat : Int) == ((s[i]'hlt).toNat : Int)) = false := by
                  rw [beq_eq_false_iff_ne]; intro e; apply hit; rw [HXs.out]; apply UInt8.toNat_inj.1; omega
                obtain ⟨y, hy⟩ : ∃ y : Int, y = ((hexD k).toNat : Int) := ⟨_, rfl⟩
                obtain ⟨D, hD⟩ : ∃ D, D = dgN x k := ⟨_, rfl⟩
                rw [← hy] at hq ix
                rw [← hD] at HD ⊢
                clear hit hy hD
                go_wp2
                go_region
                go_wp2
                go_roundw
                case rel => exact ⟨k + 1, by omega, by go_num, by rw [HD.out], below_drewN' HBx.out _⟩
                case measure => simp [intOf]; omega
            · obtain rfl : k = 16 := by omega
              have HBt := hidOg (HBl.out.trans (HBx.out.mono HBl.out.size))
              cases hH : isH x
              · have HN : Hid (rdOk (bL s) = false) := HSt.out.bad hltL HCM.out (.inl (by rw [HXl.out]; exact hH))
                have hdv : dgN x 16 = -1 := dg_no hH
                rw [hdv]
                clear hH hdv
                go_wp2
                go_ret2
                exact rdA_no HN.out HBt.out
              · have hdv : dgN x 16 = (vH x : Int) := dg_yes hH
                have hv16 := vH_lt hH
                obtain ⟨v, hv⟩ : ∃ v, v = vH x := ⟨_, rfl⟩
                rw [← hv] at hdv hv16
                rw [hdv]
                have hnn : ¬ ((v : Int) < 0) := by omega
                have dnn : decide ((v : Int) < 0) = false := by rw [decide_eq_false]; omega
                by_cases h16 : many = 16
                · have HN : Hid (rdOk (bL s) = false) := HSt.out.bad hltL HCM.out (.inr (.inl (by rw [← HMm.out]; exact h16)))
                  have hm16 : ((many : Int) == 16) = true := by rw [beq_iff_eq]; omega
                  clear hH hdv h16 hv
                  go_wp2
                  go_ret2
                  exact rdA_no HN.out HBt.out
                · have hm16 : ((many : Int) == 16) = false := by rw [beq_eq_false_iff_ne]; omega
                  by_cases h1 : many = 1
                  · have hm1 : ((many : Int) == 1) = true := by rw [beq_iff_eq]; omega
                    by_cases hn0 : n = 0
                    · have HN : Hid (rdOk (bL s) = false) := HSt.out.bad hltL HCM.out (.inr (.inr ⟨by rw [← HMm.out]; exact h1, by rw [← HNm.out]; exact hn0⟩))
                      have hnz : ((n : Int) == 0) = true := by rw [beq_iff_eq]; omega
                      clear hH hdv h16 h1 hn0 hv
                      go_wp2
                      go_ret2
                      exact rdA_no HN.out HBt.out
                    · have hnz : ((n : Int) == 0) = false := by rw [beq_eq_false_iff_ne]; omega
                      have hc16 := HC16.out
                      have hnb : n < 1152921504606846976 := by rw [HNm.out]; exact num_lt HSt.out (by rw [← HMm.out]; omega)
                      have HF := hidOg (HSt.out.step hltL (by rw [HXl.out]; exact hH) (by rw [← HMm.out]; omega) (fun e => hn0 (by rw [HNm.out]; exact e.2)))
                      have HV : Hid (16 * n + v = numH (cur ++ [(bL s)[i]'hltL])) := by unfold Hid; rw [numH_snoc, HXl.out, ← HNm.out, ← hv]
                      clear hH hdv h16 h1 hn0 hv
                      go_wp2
                      go_roundw
                      case rel => exact ⟨q, L.length, c, 16 * n + v, many + 1, i + 1, rfl, by first | rfl | go_num, by go_num, by go_num, .inl ⟨by omega, done, _, ⟨by rw [← HLd.out]; exact HR.out.to HBx.out, HLl.out, HV.out, by simp [HMm.out], HF.out, HBt.out⟩⟩⟩
                      case measure => simp [intOf]; omega
                  · have hm1 : ((many : Int) == 1) = false := by rw [beq_eq_false_iff_ne]; omega
                    have hc16 := HC16.out
                    have hnb : n < 1152921504606846976 := by rw [HNm.out]; exact num_lt HSt.out (by rw [← HMm.out]; omega)
                    have HF := hidOg (HSt.out.step hltL (by rw [HXl.out]; exact hH) (by rw [← HMm.out]; omega) (fun e => h1 (by rw [HMm.out]; exact e.1)))
                    have HV : Hid (16 * n + v = numH (cur ++ [(bL s)[i]'hltL])) := by unfold Hid; rw [numH_snoc, HXl.out, ← HNm.out, ← hv]
                    clear hH hdv h16 h1 hv
                    go_wp2
                    go_roundw
                    case rel => exact ⟨q, L.length, c, 16 * n + v, many + 1, i + 1, rfl, by first | rfl | go_num, by go_num, by go_num, .inl ⟨by omega, done, _, ⟨by rw [← HLd.out]; exact HR.out.to HBx.out, HLl.out, HV.out, by simp [HMm.out], HF.out, HBt.out⟩⟩⟩
                    case measure => simp [intOf]; omega
    · have hgt : ¬ ((i : Int) ≤ (s.size : Int)) := by omega
      have CR := fun (W : World) => right11 q m c W
      have HO : Hid (isW (m : Int) = rdOk (bL s)) := by
        unfold Hid rdOk; rw [hpr, hall, hm]
        unfold isW
        rw [decide_eq_true (by omega : (0 : Int) ≤ (done.length : Int)), Bool.true_and, Bool.true_and]
        simp; constructor <;> intro h <;> omega
      rw [HO.out] at CR
      have HA : Hid (rdOk (bL s) = true → OwnR w.heap.size wr q (rdL (bL s)) c ∧ m = (rdL (bL s)).length) := by
        intro hk
        rw [rdL_t hk, hpr]
        exact ⟨hown, by rw [List.length_map]; exact hm⟩
      obtain ⟨B, hB⟩ : ∃ B, B = rdOk (bL s) := ⟨_, rfl⟩
      rw [← hB] at CR
      have HBe := hidOg hB
      have HBl := hidOg hbel
      clear hpr hall hown hm hie HO hB hbel
      go_wp2_with (first | (go_at_call 11; refine Calls.mono (CR _) ?_; rintro e w1 ⟨rfl, hw⟩; rw [hw]; clear hw w1))
      go_ret2
      exact ⟨q, m, c, by rw [HBe.out]; rfl, HA.out, HBl.out⟩

/-- The document's Read, where it answers that it is one's. -/
theorem refRead_yes (s : ByteArray) (w : World) (hs : s.size ≤ 500) (hr : rdE (bL s) = 0) :
    Calls Tryd.prog 23 #[.string s] w fun e w' => ∃ q c, e = .returned (.tuple #[.slice q (rdV (bL s)).length c, .bool true]) ∧ OwnR w.heap.size w' q (rdV (bL s)) c ∧ Below w.heap.size w w' := by
  have e0 : (bL s == [45]) = (s.toList == [45]) := by unfold bL; rw [Lib.toList_data]
  cases h : (s.toList == [45])
  · rw [h] at e0
    have e1 : rdV (bL s) = rdL (bL s) := by unfold rdV; rw [e0]; rfl
    have e2 : rdE (bL s) = rdN (bL s) := by unfold rdE; rw [e0]; rfl
    have hk : rdOk (bL s) = true := by
      cases hk : rdOk (bL s)
      · rw [e2, rdN_f hk] at hr; simp at hr
      · rfl
    refine Calls.mono (refRead_more s w hs h) ?_
    rintro e w' ⟨q, m, c, rfl, hA, hb⟩
    obtain ⟨ho, rfl⟩ := hA hk
    rw [e1]
    exact ⟨q, c, by rw [hk], ho, hb⟩
  · rw [h] at e0
    have e1 : rdV (bL s) = [] := by unfold rdV; rw [e0]; rfl
    rw [e1]
    refine Calls.mono (refRead_dash s w h) ?_
    rintro e w' ⟨rfl, hb⟩
    exact ⟨none, 0, rfl, OwnR.nil _ _, hb⟩
theorem refRead_no (s : ByteArray) (w : World) (hs : s.size ≤ 500) (hr : rdE (bL s) ≠ 0) :
    Calls Tryd.prog 23 #[.string s] w fun e w' => ∃ q m c, e = .returned (.tuple #[.slice q m c, .bool false]) ∧ Below w.heap.size w w' := by
  have e0 : (bL s == [45]) = (s.toList == [45]) := by unfold bL; rw [Lib.toList_data]
  cases h : (s.toList == [45])
  · rw [h] at e0
    have e2 : rdE (bL s) = rdN (bL s) := by unfold rdE; rw [e0]; rfl
    have hk : rdOk (bL s) = false := by
      cases hk : rdOk (bL s)
      · rfl
      · exact absurd (e2.trans (rdN_t hk)) hr
    refine Calls.mono (refRead_more s w hs h) ?_
    rintro e w' ⟨q, m, c, rfl, hA, hb⟩
    exact ⟨q, m, c, by rw [hk], hb⟩
  · rw [h] at e0
    exact absurd (by unfold rdE; rw [e0]; rfl) hr
end Go.Proofs.YtofobpijkceldaaDoor
