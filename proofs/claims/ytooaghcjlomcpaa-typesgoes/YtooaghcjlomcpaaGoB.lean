/- TypesGoes: its mathematics and its walk. -/
import Derived.Test.YtooaghcjlomcpaaGoA
namespace Go.Proofs.Ytooaghcjlomcpaa
open Go.RowKit

theorem take20' (l : List Int) : (l.take 20).length ≤ 20 := by simp; omega
theorem wit_bad {m : List Int} {x : Int} (hm : mayT m = false) : witL m x = [] ∧ witE m x = 130 := by
  unfold witL witE witOk; rw [hm]; exact ⟨rfl, rfl⟩
theorem wit_arg {m : List Int} {x : Int} (hm : mayT m = true) (hc : canB x = false) : witL m x = [] ∧ witE m x = 2 := by
  unfold witL witE witOk; rw [hm, hc]; exact ⟨rfl, rfl⟩
theorem ins_more {m : List Int} {x : Int} (hm : mayT m = true) : (x ∈ m ∨ m.length < 12) ↔ (insL m x).length ≤ 12 := by
  obtain ⟨h12, _, hs⟩ := (mayT_iff m).1 hm
  by_cases h : x ∈ m
  · rw [insL_old hs h]; exact ⟨fun _ => h12, fun _ => .inl h⟩
  · rw [insL_len h]; exact ⟨fun g => by rcases g with g | g; { exact absurd g h }; { omega }, fun _ => .inr (by omega)⟩
theorem wit_full {m : List Int} {x : Int} (hm : mayT m = true) (hc : canB x = true) (hl : ¬ (insL m x).length ≤ 12) : witL m x = [] ∧ witE m x = 6 := by
  have e : (decide (x ∈ m) || decide (m.length < 12)) = false := by
    rw [Bool.eq_false_iff]; intro h; exact hl ((ins_more hm).1 (by simpa using h))
  unfold witL witE witOk; rw [hm, hc, e]; exact ⟨rfl, rfl⟩
theorem wit_good {m : List Int} {x : Int} (hm : mayT m = true) (hc : canB x = true) (hl : (insL m x).length ≤ 12) : witL m x = insL m x ∧ witE m x = 0 := by
  have e : (decide (x ∈ m) || decide (m.length < 12)) = true := by
    have := (ins_more hm).2 hl; simpa using this
  unfold witL witE witOk; rw [hm, hc, e]; exact ⟨rfl, rfl⟩
theorem wou_bad {m : List Int} {x : Int} (hm : mayT m = false) : wouL m x = [] ∧ wouE m x = 130 := by
  unfold wouL wouE hasB; rw [hm]; exact ⟨rfl, rfl⟩
theorem wou_none {m : List Int} {x : Int} (hm : mayT m = true) (hx : x ∉ m) : wouL m x = [] ∧ wouE m x = 4 := by
  unfold wouL wouE hasB; rw [hm, decide_eq_false hx]; exact ⟨rfl, rfl⟩
theorem del_ne (m : List Int) (x : Int) : m.filter (neB x) = delL m x := rfl

set_option maxRecDepth 20000 in
set_option maxHeartbeats 8000000 in
theorem goes_t (px : Option Addr) (X : List Int) (cx : Nat) (py : Option Addr) (Y : List Int) (cy : Nat) (pz : Option Addr) (Z : List Int) (cz : Nat) (w : World) (hx : InR w px X cx) (hy : InR w py Y cy) (hz : InR w pz Z cz) (hly : Y.length ≤ 9223372036854775807) (hlz : Z.length ≤ 9223372036854775807) (hm : mayT (X.take 20) = true) :
    Calls Try.prog 5 #[.slice px X.length cx, .slice py Y.length cy, .slice pz Z.length cz] w fun e w' => e = .returned (.bool true) ∧ Below w.heap.size w w' := by
  have CK := wakes_any w
  have CF := fun (w1 : World) (hb : Below w.heap.size w w1) => turn_few px X cx w1 (hx.to hb)
  have um := hx.u.take 20
  have l20 := take20' X
  obtain ⟨m, hm'⟩ : ∃ m, m = X.take 20 := ⟨_, rfl⟩
  rw [← hm'] at CF um l20 hm
  clear hm' hx
  have HM := hidOg hm
  have CR := fun (q : Option Addr) (d : Nat) (w2 : World) (hr : Row w2 q m d) => right12 q m d w2 hr.i um hr.n
  rw [hm] at CR
  have CW32 := fun (x : Int) (h0 : 0 ≤ x) (h1 : x < 18446744073709551616) (q : Option Addr) (d : Nat) (w2 : World) (hr : Row w2 q m d) => withO_any q m d x w2 hr um h0 h1
  have CO34 := fun (x : Int) (q : Option Addr) (d : Nat) (w2 : World) (hr : Row w2 q m d) => without_any q m d x w2 hr um
  have CEm := fun (q : Option Addr) (d : Nat) (q' : Option Addr) (d' : Nat) (w2 : World) (hr : Row w2 q m d) (hr' : Row w2 q' m d') => equal18 q m d q' m d' w2 hr.i hr'.i (by omega)
  have CEn := fun (q : Option Addr) (d : Nat) (q' : Option Addr) (d' : Nat) (w2 : World) (hr : Row w2 q [] d) (hr' : Row w2 q' [] d') => equal18 q [] d q' [] d' w2 hr.i hr'.i (by simp)
  simp only [samI_refl] at CEm CEn
  have CW33 := fun (x : Int) (q : Option Addr) (d : Nat) (w2 : World) (hr : Row w2 q m d) => with33r q m d x w2 hr (by omega)
  have CH25 := fun (x : Int) (q : Option Addr) (d : Nat) (w2 : World) (hr : Row w2 q m d) => has25 q m d x w2 hr.i hr.n
  have CW35 := fun (x : Int) (q : Option Addr) (d : Nat) (w2 : World) (hr : Row w2 q m d) => without35 q m d x w2 hr.i um hr.n
  clear hm
  obtain ⟨ny, hny⟩ : ∃ ny, ny = Y.length := ⟨_, rfl⟩
  obtain ⟨nz, hnz⟩ : ∃ nz, nz = Z.length := ⟨_, rfl⟩
  have HNy := hidOg hny
  have HNz := hidOg hnz
  have HY := hidOg hy
  have HZ := hidOg hz
  rw [← hny] at hly ⊢
  rw [← hnz] at hlz ⊢
  clear hny hnz hy hz
  go_enter Try.func5, Try.ntmps5
  go_wp2_with (first
    | (go_at_call 9; refine Calls.mono CK ?_; clear CK; rintro e w1 ⟨rfl, hb1⟩; have CF1 := CF _ hb1)
    | (go_at_call 10; refine Calls.mono CF1 ?_; clear CF1; rintro e w2 ⟨q, d, rfl, hr2, hb2⟩; have g2 := hb1.trans (hb2.mono hb1.size); have CR1 := CR q d _ hr2; clear CR hb2)
    | (go_at_call 12; refine Calls.mono CR1 ?_; clear CR1; rintro e w3 ⟨rfl, hw3⟩; rw [hw3]; clear hw3 w3))
  go_loopw [30] (fun i wr => ∃ k : Nat, k ≤ ny ∧ k ≤ 8 ∧ i = .int .i64 k ∧ Row wr q m d ∧ Below w.heap.size w wr) (fun i _ => ny - (intOf i).toNat)
  case atStart => exact ⟨0, Nat.zero_le _, Nat.zero_le _, rfl, hr2, g2⟩
  case round =>
    clear hr2 g2
    obtain ⟨k, hk, hk8, rfl, hr, hB⟩ := hrel
    have HR := hidOg hr
    have HB := hidOg hB
    have hsz := hB.size
    clear hr hB
    by_cases hky : k < ny
    · obtain ⟨b, off, rfl, hbB, hcs⟩ := (HY.out.i.below HB.out (Nat.le_refl _)) (by have := HNy.out; omega)
      have c0 := hcs k (by have := HNy.out; omega)
      obtain ⟨u0, u1⟩ := HY.out.u.at (k := k) (by have := HNy.out; omega)
      clear hcs
      obtain ⟨x, hxx⟩ : ∃ x, x = iG Y k := ⟨_, rfl⟩
      rw [← hxx] at c0 u0 u1
      clear hxx
      by_cases h8 : k = 8
      · have h8' : ((k : Int) == 8) = true := (by simp; omega); clear h8
        go_wp2
        go_loopw [84] (fun i wr => ∃ k : Nat, k ≤ nz ∧ k ≤ 8 ∧ i = .int .i64 k ∧ Row wr q m d ∧ Below w.heap.size w wr) (fun i _ => nz - (intOf i).toNat)
        case atStart => exact ⟨0, Nat.zero_le _, Nat.zero_le _, rfl, HR.out, HB.out⟩
        case round =>
          clear HR HB hsz
          obtain ⟨j, hj, hj8, rfl, hr, hB⟩ := hrel
          have HR := hidOg hr
          have HB := hidOg hB
          have hsz := hB.size
          clear hr hB
          by_cases hjz : j < nz
          · obtain ⟨b, off, rfl, hbB, hcs⟩ := (HZ.out.i.below HB.out (Nat.le_refl _)) (by have := HNz.out; omega)
            have c0 := hcs j (by have := HNz.out; omega)
            clear hcs
            obtain ⟨y, hyy⟩ : ∃ y, y = iG Z j := ⟨_, rfl⟩
            rw [← hyy] at c0
            clear hyy
            by_cases h8 : j = 8
            · have h8' : ((j : Int) == 8) = true := (by simp; omega); clear h8
              go_wp2
              go_ret
              exact ⟨rfl, HB.out⟩
            · have h8' : ((j : Int) == 8) = false := by simp; omega
              have hj9 : j + 1 ≤ 8 := by omega
              clear h8
              by_cases hy : y ∈ m
              · have CO3 := CO34 y
                rw [(wou_there HM.out hy).1, (wou_there HM.out hy).2] at CO3
                have CH3 := CH25 y
                rw [decide_eq_true hy] at CH3
                have CW3 := CW35 y
                rw [del_ne] at CW3
                have lD : (delL m y).length ≤ 20 := Nat.le_trans (List.length_filter_le _ m) l20
                have CE3 := fun (q : Option Addr) (d : Nat) (q' : Option Addr) (d' : Nat) (w2 : World) (hr : Row w2 q (delL m y) d) (hr' : Row w2 q' (delL m y) d') => equal18 q _ d q' _ d' w2 hr.i hr'.i (by omega)
                simp only [samI_refl] at CE3
                obtain ⟨D, hD⟩ : ∃ D, D = delL m y := ⟨_, rfl⟩
                rw [← hD] at CO3 CW3 CE3
                clear hD lD hy
                go_wp2_with (first
                  | (go_at_call 34; refine Calls.mono (CO3 q d _ HR.out) ?_; clear CO3; rintro e w3 ⟨q3, d3, rfl, hr3, hb3⟩; have g3 := HB.out.trans (hb3.mono HB.out.size); have r3 := HR.out.to hb3; have s3 := hr3.row; have CH31 := CH3 q d _ r3; clear CH3 hr3 hb3)
                  | (go_at_call 25; refine Calls.mono CH31 ?_; clear CH31; rintro e w4 ⟨rfl, hw4⟩; rw [hw4]; clear hw4 w4; have CW31 := CW3 q d _ r3; clear CW3)
                  | (go_at_call 35; refine Calls.mono CW31 ?_; clear CW31; rintro e w5 ⟨q5, d5, rfl, hr5, hb5⟩; have g5 := g3.trans (hb5.mono g3.size); have r5 := r3.to hb5; have s5 := s3.to hb5; have CQ1 := CE3 q3 d3 q5 d5 _ s5 hr5.row; clear CE3 g3 r3 s3 hr5 hb5)
                  | (go_at_call 18; refine Calls.mono CQ1 ?_; clear CQ1; rintro e w6 ⟨rfl, hb6⟩; have g6 := g5.trans (hb6.mono g5.size); have r6 := r5.to hb6; have CF1 := CF _ g6; clear g5 r5 hb6)
                  | (go_at_call 10; refine Calls.mono CF1 ?_; clear CF1; rintro e w7 ⟨q7, d7, rfl, hr7, hb7⟩; have g7 := g6.trans (hb7.mono g6.size); have r7 := r6.to hb7; have CQ2 := CEm q d q7 d7 _ r7 hr7; clear g6 r6 hb7)
                  | (go_at_call 18; refine Calls.mono CQ2 ?_; clear CQ2; rintro e w8 ⟨rfl, hb8⟩; have g8 := g7.trans (hb8.mono g7.size); have r8 := r7.to hb8; clear g7 r7 hb8))
                go_roundw
                case rel => exact ⟨j + 1, by omega, by omega, by go_num, r8, g8⟩
                case measure => simp [intOf]; omega
              · have CO3 := CO34 y
                rw [(wou_none HM.out hy).1, (wou_none HM.out hy).2] at CO3
                have CH3 := CH25 y
                rw [decide_eq_false hy] at CH3
                clear hy
                go_wp2_with (first
                  | (go_at_call 34; refine Calls.mono (CO3 q d _ HR.out) ?_; clear CO3; rintro e w3 ⟨q3, d3, rfl, hr3, hb3⟩; have g3 := HB.out.trans (hb3.mono HB.out.size); have r3 := HR.out.to hb3; have s3 := hr3.row; have CH31 := CH3 q d _ r3; clear CH3 hr3 hb3; have CQ1 := CEn q3 d3 none 0 _ s3 (Row.nil _); have g5 := g3; have r5 := r3; clear g3 r3)
                  | (go_at_call 25; refine Calls.mono CH31 ?_; clear CH31; rintro e w4 ⟨rfl, hw4⟩; rw [hw4]; clear hw4 w4)
                  | (go_at_call 18; refine Calls.mono CQ1 ?_; clear CQ1; rintro e w6 ⟨rfl, hb6⟩; have g6 := g5.trans (hb6.mono g5.size); have r6 := r5.to hb6; have CF1 := CF _ g6; clear g5 r5 hb6)
                  | (go_at_call 10; refine Calls.mono CF1 ?_; clear CF1; rintro e w7 ⟨q7, d7, rfl, hr7, hb7⟩; have g7 := g6.trans (hb7.mono g6.size); have r7 := r6.to hb7; have CQ2 := CEm q d q7 d7 _ r7 hr7; clear g6 r6 hb7)
                  | (go_at_call 18; refine Calls.mono CQ2 ?_; clear CQ2; rintro e w8 ⟨rfl, hb8⟩; have g8 := g7.trans (hb8.mono g7.size); have r8 := r7.to hb8; clear g7 r7 hb8))
                go_roundw
                case rel => exact ⟨j + 1, by omega, by omega, by go_num, r8, g8⟩
                case measure => simp [intOf]; omega
          · obtain rfl : j = nz := by omega
            go_wp2
            go_ret
            exact ⟨rfl, HB.out⟩
      · have h8' : ((k : Int) == 8) = false := by simp; omega
        have hk9 : k + 1 ≤ 8 := by omega
        clear h8
        cases hc : canB x
        · skip
          have CW1 := CW32 x u0 u1
          unfold WithOwn at CW1
          rw [(wit_arg HM.out hc).1, (wit_arg HM.out hc).2] at CW1
          have CI1 := CW33 x
          have CM1 := fun (W : World) => may17 x W u0 u1
          rw [hc] at CM1
          obtain ⟨I, hI⟩ : ∃ I, I = insL m x := ⟨_, rfl⟩
          rw [← hI] at CI1
          clear hI hc
          obtain ⟨T, hT⟩ : ∃ T, T = ([] : List Int) := ⟨_, rfl⟩
          rw [← hT] at CW1
          have CE1 := fun (q : Option Addr) (d : Nat) (w2 : World) (hr : Row w2 q T d) => equal18 q T d none [] 0 w2 hr.i IRow.nil (by rw [hT]; simp)
          rw [show samI T [] = true by rw [hT]; exact samI_refl []] at CE1
          simp only [List.length_nil] at CE1
          have lT : T.length ≤ 20 := by rw [hT]; simp
          obtain ⟨nt, hnt⟩ : ∃ nt, nt = T.length := ⟨_, rfl⟩
          have HNt := hidOg hnt
          rw [← hnt] at CW1 CE1 lT
          clear hT hnt
          go_wp2_with (first
            | (go_at_call 32; refine Calls.mono (CW1 q d _ HR.out) ?_; clear CW1; rintro e w3 ⟨q3, d3, rfl, ho3, hb3⟩; have r3 := HR.out.to hb3; have CI2 := CI1 q d _ r3; clear CI1)
            | (go_at_call 33; refine Calls.mono CI2 ?_; clear CI2; rintro e w4 ⟨q4, d4, rfl, hr4, hb4⟩; have t4 := ho3.to hb4; have b5 := hb3.trans (hb4.mono hb3.size); have CQ1 := CE1 q3 d3 _ t4.row; clear CE1)
            | (go_at_call 17; refine Calls.mono (CM1 _) ?_; rintro e w' ⟨rfl, hw'⟩; rw [hw']; clear hw' w')
            | (go_at_call 18; refine Calls.mono CQ1 ?_; clear CQ1; rintro e w5 ⟨rfl, hb5⟩; have b5 := b5.trans (hb5.mono b5.size); have t5 := t4.to hb5; clear hb5))
          have r0 : Row wr q m d := HR.out
          have HT5 := hidOg t5
          have HR3 := hidOg r0
          have HB5 := hidOg b5
          clear t5 r0 b5
          go_loopw [66] (fun i wr2 => ∃ (k2 : Nat) (T' : List Int), k2 ≤ nt ∧ i = .int .i64 k2 ∧ T'.length = nt ∧ OwnR wr.heap.size wr2 q3 T' d3 ∧ w5.grownBy wr2 (q3.map (·.block))) (fun i _ => nt - (intOf i).toNat)
          case atStart => exact ⟨0, T, Nat.zero_le _, rfl, HNt.out.symm, HT5.out, World.grownBy.refl _ _⟩
          case round =>
            obtain ⟨k2, T', hk2, rfl, hT', hO, hG⟩ := hrel
            have HO := hidOg hO
            have HG := hidOg hG
            have HT' := hidOg hT'
            clear hO hG hT'
            by_cases hk2t : k2 < nt
            · obtain ⟨G, rfl, e1, e2, hset⟩ := HO.out.set (k := k2) (by rw [HT'.out]; exact hk2t)
              have HSet := hidOg hset
              have hGl := HO.out.lt ⟨G, 0, none⟩ rfl
              clear hset
              go_wp2
              go_roundw
              case rel => exact ⟨k2 + 1, _, by omega, by go_num, by rw [List.length_set]; exact HT'.out, (HSet.out _).1, grownBy_trans HG.out (HSet.out _).2⟩
              case measure => simp [intOf]; omega
            · obtain rfl : k2 = nt := by omega
              have hf := HO.out.fr
              have r6 : Row wr q m d := HR3.out.turned HB5.out HG.out hf
              have g6 : Below w.heap.size w wr := below_turned (HB.out.trans (HB5.out.mono hsz)) (Nat.le_trans hsz HB5.out.size) HG.out (fun a ha => Nat.le_trans hsz (hf a ha))
              have CF6 := CF _ g6
              clear HO HG
              go_wp2_with (first
                | (go_at_call 10; refine Calls.mono CF6 ?_; clear CF6; rintro e w7 ⟨q7, d7, rfl, hr7, hb7⟩; have g7 := g6.trans (hb7.mono g6.size); have r7 := r6.to hb7; have CQ2 := CEm q d q7 d7 _ r7 hr7; clear g6 r6 hb7)
                | (go_at_call 18; refine Calls.mono CQ2 ?_; clear CQ2; rintro e w8 ⟨rfl, hb8⟩; have g8 := g7.trans (hb8.mono g7.size); have r8 := r7.to hb8; clear g7 r7 hb8))
              go_roundw
              case rel => exact ⟨k + 1, by omega, by omega, by go_num, r8, g8⟩
              case measure => simp [intOf]; omega
        · by_cases hl : (insL m x).length ≤ 12
          · skip
            have CW1 := CW32 x u0 u1
            unfold WithOwn at CW1
            rw [(wit_good HM.out hc hl).1, (wit_good HM.out hc hl).2] at CW1
            have CI1 := CW33 x
            have CM1 := fun (W : World) => may17 x W u0 u1
            rw [hc] at CM1
            obtain ⟨I, hI⟩ : ∃ I, I = insL m x := ⟨_, rfl⟩
            rw [← hI] at CI1 CW1 hl
            clear hI hc
            have hIl : ¬ ((12 : Int) < (I.length : Int)) := by omega
            obtain ⟨T, hT⟩ : ∃ T, T = I := ⟨_, rfl⟩
            rw [← hT] at CW1
            have CE1 := fun (q : Option Addr) (d : Nat) (q' : Option Addr) (d' : Nat) (w2 : World) (hr : Row w2 q T d) (hr' : Row w2 q' I d') => equal18 q T d q' I d' w2 hr.i hr'.i (by rw [hT]; omega)
            rw [show samI T I = true by rw [hT]; exact samI_refl I] at CE1
            have lT : T.length ≤ 20 := by rw [hT]; omega
            obtain ⟨nt, hnt⟩ : ∃ nt, nt = T.length := ⟨_, rfl⟩
            have HNt := hidOg hnt
            rw [← hnt] at CW1 CE1 lT
            clear hT hnt hl
            go_wp2_with (first
              | (go_at_call 32; refine Calls.mono (CW1 q d _ HR.out) ?_; clear CW1; rintro e w3 ⟨q3, d3, rfl, ho3, hb3⟩; have r3 := HR.out.to hb3; have CI2 := CI1 q d _ r3; clear CI1)
              | (go_at_call 33; refine Calls.mono CI2 ?_; clear CI2; rintro e w4 ⟨q4, d4, rfl, hr4, hb4⟩; have t4 := ho3.to hb4; have b5 := hb3.trans (hb4.mono hb3.size); have CQ1 := CE1 q3 d3 q4 d4 _ t4.row hr4.row; clear CE1)
              | (go_at_call 17; refine Calls.mono (CM1 _) ?_; rintro e w' ⟨rfl, hw'⟩; rw [hw']; clear hw' w')
              | (go_at_call 18; refine Calls.mono CQ1 ?_; clear CQ1; rintro e w5 ⟨rfl, hb5⟩; have b5 := b5.trans (hb5.mono b5.size); have t5 := t4.to hb5; clear hb5))
            have r0 : Row wr q m d := HR.out
            have HT5 := hidOg t5
            have HR3 := hidOg r0
            have HB5 := hidOg b5
            clear t5 r0 b5
            go_loopw [66] (fun i wr2 => ∃ (k2 : Nat) (T' : List Int), k2 ≤ nt ∧ i = .int .i64 k2 ∧ T'.length = nt ∧ OwnR wr.heap.size wr2 q3 T' d3 ∧ w5.grownBy wr2 (q3.map (·.block))) (fun i _ => nt - (intOf i).toNat)
            case atStart => exact ⟨0, T, Nat.zero_le _, rfl, HNt.out.symm, HT5.out, World.grownBy.refl _ _⟩
            case round =>
              obtain ⟨k2, T', hk2, rfl, hT', hO, hG⟩ := hrel
              have HO := hidOg hO
              have HG := hidOg hG
              have HT' := hidOg hT'
              clear hO hG hT'
              by_cases hk2t : k2 < nt
              · obtain ⟨G, rfl, e1, e2, hset⟩ := HO.out.set (k := k2) (by rw [HT'.out]; exact hk2t)
                have HSet := hidOg hset
                have hGl := HO.out.lt ⟨G, 0, none⟩ rfl
                clear hset
                go_wp2
                go_roundw
                case rel => exact ⟨k2 + 1, _, by omega, by go_num, by rw [List.length_set]; exact HT'.out, (HSet.out _).1, grownBy_trans HG.out (HSet.out _).2⟩
                case measure => simp [intOf]; omega
              · obtain rfl : k2 = nt := by omega
                have hf := HO.out.fr
                have r6 : Row wr q m d := HR3.out.turned HB5.out HG.out hf
                have g6 : Below w.heap.size w wr := below_turned (HB.out.trans (HB5.out.mono hsz)) (Nat.le_trans hsz HB5.out.size) HG.out (fun a ha => Nat.le_trans hsz (hf a ha))
                have CF6 := CF _ g6
                clear HO HG
                go_wp2_with (first
                  | (go_at_call 10; refine Calls.mono CF6 ?_; clear CF6; rintro e w7 ⟨q7, d7, rfl, hr7, hb7⟩; have g7 := g6.trans (hb7.mono g6.size); have r7 := r6.to hb7; have CQ2 := CEm q d q7 d7 _ r7 hr7; clear g6 r6 hb7)
                  | (go_at_call 18; refine Calls.mono CQ2 ?_; clear CQ2; rintro e w8 ⟨rfl, hb8⟩; have g8 := g7.trans (hb8.mono g7.size); have r8 := r7.to hb8; clear g7 r7 hb8))
                go_roundw
                case rel => exact ⟨k + 1, by omega, by omega, by go_num, r8, g8⟩
                case measure => simp [intOf]; omega
          · skip
            have CW1 := CW32 x u0 u1
            unfold WithOwn at CW1
            rw [(wit_full HM.out hc hl).1, (wit_full HM.out hc hl).2] at CW1
            have CI1 := CW33 x
            have CM1 := fun (W : World) => may17 x W u0 u1
            rw [hc] at CM1
            obtain ⟨I, hI⟩ : ∃ I, I = insL m x := ⟨_, rfl⟩
            rw [← hI] at CI1 hl
            clear hI hc
            have hIl : (12 : Int) < (I.length : Int) := by omega
            obtain ⟨T, hT⟩ : ∃ T, T = ([] : List Int) := ⟨_, rfl⟩
            rw [← hT] at CW1
            have CE1 := fun (q : Option Addr) (d : Nat) (w2 : World) (hr : Row w2 q T d) => equal18 q T d none [] 0 w2 hr.i IRow.nil (by rw [hT]; simp)
            rw [show samI T [] = true by rw [hT]; exact samI_refl []] at CE1
            simp only [List.length_nil] at CE1
            have lT : T.length ≤ 20 := by rw [hT]; simp
            obtain ⟨nt, hnt⟩ : ∃ nt, nt = T.length := ⟨_, rfl⟩
            have HNt := hidOg hnt
            rw [← hnt] at CW1 CE1 lT
            clear hT hnt hl
            go_wp2_with (first
              | (go_at_call 32; refine Calls.mono (CW1 q d _ HR.out) ?_; clear CW1; rintro e w3 ⟨q3, d3, rfl, ho3, hb3⟩; have r3 := HR.out.to hb3; have CI2 := CI1 q d _ r3; clear CI1)
              | (go_at_call 33; refine Calls.mono CI2 ?_; clear CI2; rintro e w4 ⟨q4, d4, rfl, hr4, hb4⟩; have t4 := ho3.to hb4; have b5 := hb3.trans (hb4.mono hb3.size); have CQ1 := CE1 q3 d3 _ t4.row; clear CE1)
              | (go_at_call 17; refine Calls.mono (CM1 _) ?_; rintro e w' ⟨rfl, hw'⟩; rw [hw']; clear hw' w')
              | (go_at_call 18; refine Calls.mono CQ1 ?_; clear CQ1; rintro e w5 ⟨rfl, hb5⟩; have b5 := b5.trans (hb5.mono b5.size); have t5 := t4.to hb5; clear hb5))
            have r0 : Row wr q m d := HR.out
            have HT5 := hidOg t5
            have HR3 := hidOg r0
            have HB5 := hidOg b5
            clear t5 r0 b5
            go_loopw [66] (fun i wr2 => ∃ (k2 : Nat) (T' : List Int), k2 ≤ nt ∧ i = .int .i64 k2 ∧ T'.length = nt ∧ OwnR wr.heap.size wr2 q3 T' d3 ∧ w5.grownBy wr2 (q3.map (·.block))) (fun i _ => nt - (intOf i).toNat)
            case atStart => exact ⟨0, T, Nat.zero_le _, rfl, HNt.out.symm, HT5.out, World.grownBy.refl _ _⟩
            case round =>
              obtain ⟨k2, T', hk2, rfl, hT', hO, hG⟩ := hrel
              have HO := hidOg hO
              have HG := hidOg hG
              have HT' := hidOg hT'
              clear hO hG hT'
              by_cases hk2t : k2 < nt
              · obtain ⟨G, rfl, e1, e2, hset⟩ := HO.out.set (k := k2) (by rw [HT'.out]; exact hk2t)
                have HSet := hidOg hset
                have hGl := HO.out.lt ⟨G, 0, none⟩ rfl
                clear hset
                go_wp2
                go_roundw
                case rel => exact ⟨k2 + 1, _, by omega, by go_num, by rw [List.length_set]; exact HT'.out, (HSet.out _).1, grownBy_trans HG.out (HSet.out _).2⟩
                case measure => simp [intOf]; omega
              · obtain rfl : k2 = nt := by omega
                have hf := HO.out.fr
                have r6 : Row wr q m d := HR3.out.turned HB5.out HG.out hf
                have g6 : Below w.heap.size w wr := below_turned (HB.out.trans (HB5.out.mono hsz)) (Nat.le_trans hsz HB5.out.size) HG.out (fun a ha => Nat.le_trans hsz (hf a ha))
                have CF6 := CF _ g6
                clear HO HG
                go_wp2_with (first
                  | (go_at_call 10; refine Calls.mono CF6 ?_; clear CF6; rintro e w7 ⟨q7, d7, rfl, hr7, hb7⟩; have g7 := g6.trans (hb7.mono g6.size); have r7 := r6.to hb7; have CQ2 := CEm q d q7 d7 _ r7 hr7; clear g6 r6 hb7)
                  | (go_at_call 18; refine Calls.mono CQ2 ?_; clear CQ2; rintro e w8 ⟨rfl, hb8⟩; have g8 := g7.trans (hb8.mono g7.size); have r8 := r7.to hb8; clear g7 r7 hb8))
                go_roundw
                case rel => exact ⟨k + 1, by omega, by omega, by go_num, r8, g8⟩
                case measure => simp [intOf]; omega
    · obtain rfl : k = ny := by omega
      go_wp2
      go_loopw [84] (fun i wr => ∃ k : Nat, k ≤ nz ∧ k ≤ 8 ∧ i = .int .i64 k ∧ Row wr q m d ∧ Below w.heap.size w wr) (fun i _ => nz - (intOf i).toNat)
      case atStart => exact ⟨0, Nat.zero_le _, Nat.zero_le _, rfl, HR.out, HB.out⟩
      case round =>
        clear HR HB hsz
        obtain ⟨j, hj, hj8, rfl, hr, hB⟩ := hrel
        have HR := hidOg hr
        have HB := hidOg hB
        have hsz := hB.size
        clear hr hB
        by_cases hjz : j < nz
        · obtain ⟨b, off, rfl, hbB, hcs⟩ := (HZ.out.i.below HB.out (Nat.le_refl _)) (by have := HNz.out; omega)
          have c0 := hcs j (by have := HNz.out; omega)
          clear hcs
          obtain ⟨y, hyy⟩ : ∃ y, y = iG Z j := ⟨_, rfl⟩
          rw [← hyy] at c0
          clear hyy
          by_cases h8 : j = 8
          · have h8' : ((j : Int) == 8) = true := (by simp; omega); clear h8
            go_wp2
            go_ret
            exact ⟨rfl, HB.out⟩
          · have h8' : ((j : Int) == 8) = false := by simp; omega
            have hj9 : j + 1 ≤ 8 := by omega
            clear h8
            by_cases hy : y ∈ m
            · have CO3 := CO34 y
              rw [(wou_there HM.out hy).1, (wou_there HM.out hy).2] at CO3
              have CH3 := CH25 y
              rw [decide_eq_true hy] at CH3
              have CW3 := CW35 y
              rw [del_ne] at CW3
              have lD : (delL m y).length ≤ 20 := Nat.le_trans (List.length_filter_le _ m) l20
              have CE3 := fun (q : Option Addr) (d : Nat) (q' : Option Addr) (d' : Nat) (w2 : World) (hr : Row w2 q (delL m y) d) (hr' : Row w2 q' (delL m y) d') => equal18 q _ d q' _ d' w2 hr.i hr'.i (by omega)
              simp only [samI_refl] at CE3
              obtain ⟨D, hD⟩ : ∃ D, D = delL m y := ⟨_, rfl⟩
              rw [← hD] at CO3 CW3 CE3
              clear hD lD hy
              go_wp2_with (first
                | (go_at_call 34; refine Calls.mono (CO3 q d _ HR.out) ?_; clear CO3; rintro e w3 ⟨q3, d3, rfl, hr3, hb3⟩; have g3 := HB.out.trans (hb3.mono HB.out.size); have r3 := HR.out.to hb3; have s3 := hr3.row; have CH31 := CH3 q d _ r3; clear CH3 hr3 hb3)
                | (go_at_call 25; refine Calls.mono CH31 ?_; clear CH31; rintro e w4 ⟨rfl, hw4⟩; rw [hw4]; clear hw4 w4; have CW31 := CW3 q d _ r3; clear CW3)
                | (go_at_call 35; refine Calls.mono CW31 ?_; clear CW31; rintro e w5 ⟨q5, d5, rfl, hr5, hb5⟩; have g5 := g3.trans (hb5.mono g3.size); have r5 := r3.to hb5; have s5 := s3.to hb5; have CQ1 := CE3 q3 d3 q5 d5 _ s5 hr5.row; clear CE3 g3 r3 s3 hr5 hb5)
                | (go_at_call 18; refine Calls.mono CQ1 ?_; clear CQ1; rintro e w6 ⟨rfl, hb6⟩; have g6 := g5.trans (hb6.mono g5.size); have r6 := r5.to hb6; have CF1 := CF _ g6; clear g5 r5 hb6)
                | (go_at_call 10; refine Calls.mono CF1 ?_; clear CF1; rintro e w7 ⟨q7, d7, rfl, hr7, hb7⟩; have g7 := g6.trans (hb7.mono g6.size); have r7 := r6.to hb7; have CQ2 := CEm q d q7 d7 _ r7 hr7; clear g6 r6 hb7)
                | (go_at_call 18; refine Calls.mono CQ2 ?_; clear CQ2; rintro e w8 ⟨rfl, hb8⟩; have g8 := g7.trans (hb8.mono g7.size); have r8 := r7.to hb8; clear g7 r7 hb8))
              go_roundw
              case rel => exact ⟨j + 1, by omega, by omega, by go_num, r8, g8⟩
              case measure => simp [intOf]; omega
            · have CO3 := CO34 y
              rw [(wou_none HM.out hy).1, (wou_none HM.out hy).2] at CO3
              have CH3 := CH25 y
              rw [decide_eq_false hy] at CH3
              clear hy
              go_wp2_with (first
                | (go_at_call 34; refine Calls.mono (CO3 q d _ HR.out) ?_; clear CO3; rintro e w3 ⟨q3, d3, rfl, hr3, hb3⟩; have g3 := HB.out.trans (hb3.mono HB.out.size); have r3 := HR.out.to hb3; have s3 := hr3.row; have CH31 := CH3 q d _ r3; clear CH3 hr3 hb3; have CQ1 := CEn q3 d3 none 0 _ s3 (Row.nil _); have g5 := g3; have r5 := r3; clear g3 r3)
                | (go_at_call 25; refine Calls.mono CH31 ?_; clear CH31; rintro e w4 ⟨rfl, hw4⟩; rw [hw4]; clear hw4 w4)
                | (go_at_call 18; refine Calls.mono CQ1 ?_; clear CQ1; rintro e w6 ⟨rfl, hb6⟩; have g6 := g5.trans (hb6.mono g5.size); have r6 := r5.to hb6; have CF1 := CF _ g6; clear g5 r5 hb6)
                | (go_at_call 10; refine Calls.mono CF1 ?_; clear CF1; rintro e w7 ⟨q7, d7, rfl, hr7, hb7⟩; have g7 := g6.trans (hb7.mono g6.size); have r7 := r6.to hb7; have CQ2 := CEm q d q7 d7 _ r7 hr7; clear g6 r6 hb7)
                | (go_at_call 18; refine Calls.mono CQ2 ?_; clear CQ2; rintro e w8 ⟨rfl, hb8⟩; have g8 := g7.trans (hb8.mono g7.size); have r8 := r7.to hb8; clear g7 r7 hb8))
              go_roundw
              case rel => exact ⟨j + 1, by omega, by omega, by go_num, r8, g8⟩
              case measure => simp [intOf]; omega
        · obtain rfl : j = nz := by omega
          go_wp2
          go_ret
          exact ⟨rfl, HB.out⟩

set_option maxRecDepth 20000 in
set_option maxHeartbeats 8000000 in
theorem goes_f (px : Option Addr) (X : List Int) (cx : Nat) (py : Option Addr) (Y : List Int) (cy : Nat) (pz : Option Addr) (Z : List Int) (cz : Nat) (w : World) (hx : InR w px X cx) (hy : InR w py Y cy) (hz : InR w pz Z cz) (hly : Y.length ≤ 9223372036854775807) (hlz : Z.length ≤ 9223372036854775807) (hm : mayT (X.take 20) = false) :
    Calls Try.prog 5 #[.slice px X.length cx, .slice py Y.length cy, .slice pz Z.length cz] w fun e w' => e = .returned (.bool true) ∧ Below w.heap.size w w' := by
  have CK := wakes_any w
  have CF := fun (w1 : World) (hb : Below w.heap.size w w1) => turn_few px X cx w1 (hx.to hb)
  have um := hx.u.take 20
  have l20 := take20' X
  obtain ⟨m, hm'⟩ : ∃ m, m = X.take 20 := ⟨_, rfl⟩
  rw [← hm'] at CF um l20 hm
  clear hm' hx
  have HM := hidOg hm
  have CR := fun (q : Option Addr) (d : Nat) (w2 : World) (hr : Row w2 q m d) => right12 q m d w2 hr.i um hr.n
  rw [hm] at CR
  have CW32 := fun (x : Int) (h0 : 0 ≤ x) (h1 : x < 18446744073709551616) (q : Option Addr) (d : Nat) (w2 : World) (hr : Row w2 q m d) => withO_any q m d x w2 hr um h0 h1
  have CO34 := fun (x : Int) (q : Option Addr) (d : Nat) (w2 : World) (hr : Row w2 q m d) => without_any q m d x w2 hr um
  have CEm := fun (q : Option Addr) (d : Nat) (q' : Option Addr) (d' : Nat) (w2 : World) (hr : Row w2 q m d) (hr' : Row w2 q' m d') => equal18 q m d q' m d' w2 hr.i hr'.i (by omega)
  have CEn := fun (q : Option Addr) (d : Nat) (q' : Option Addr) (d' : Nat) (w2 : World) (hr : Row w2 q [] d) (hr' : Row w2 q' [] d') => equal18 q [] d q' [] d' w2 hr.i hr'.i (by simp)
  simp only [samI_refl] at CEm CEn
  clear hm
  obtain ⟨ny, hny⟩ : ∃ ny, ny = Y.length := ⟨_, rfl⟩
  obtain ⟨nz, hnz⟩ : ∃ nz, nz = Z.length := ⟨_, rfl⟩
  have HNy := hidOg hny
  have HNz := hidOg hnz
  have HY := hidOg hy
  have HZ := hidOg hz
  rw [← hny] at hly ⊢
  rw [← hnz] at hlz ⊢
  clear hny hnz hy hz
  go_enter Try.func5, Try.ntmps5
  go_wp2_with (first
    | (go_at_call 9; refine Calls.mono CK ?_; clear CK; rintro e w1 ⟨rfl, hb1⟩; have CF1 := CF _ hb1)
    | (go_at_call 10; refine Calls.mono CF1 ?_; clear CF1; rintro e w2 ⟨q, d, rfl, hr2, hb2⟩; have g2 := hb1.trans (hb2.mono hb1.size); have CR1 := CR q d _ hr2; clear CR hb2)
    | (go_at_call 12; refine Calls.mono CR1 ?_; clear CR1; rintro e w3 ⟨rfl, hw3⟩; rw [hw3]; clear hw3 w3))
  go_loopw [30] (fun i wr => ∃ k : Nat, k ≤ ny ∧ k ≤ 8 ∧ i = .int .i64 k ∧ Row wr q m d ∧ Below w.heap.size w wr) (fun i _ => ny - (intOf i).toNat)
  case atStart => exact ⟨0, Nat.zero_le _, Nat.zero_le _, rfl, hr2, g2⟩
  case round =>
    clear hr2 g2
    obtain ⟨k, hk, hk8, rfl, hr, hB⟩ := hrel
    have HR := hidOg hr
    have HB := hidOg hB
    have hsz := hB.size
    clear hr hB
    by_cases hky : k < ny
    · obtain ⟨b, off, rfl, hbB, hcs⟩ := (HY.out.i.below HB.out (Nat.le_refl _)) (by have := HNy.out; omega)
      have c0 := hcs k (by have := HNy.out; omega)
      obtain ⟨u0, u1⟩ := HY.out.u.at (k := k) (by have := HNy.out; omega)
      clear hcs
      obtain ⟨x, hxx⟩ : ∃ x, x = iG Y k := ⟨_, rfl⟩
      rw [← hxx] at c0 u0 u1
      clear hxx
      by_cases h8 : k = 8
      · have h8' : ((k : Int) == 8) = true := (by simp; omega); clear h8
        go_wp2
        go_loopw [84] (fun i wr => ∃ k : Nat, k ≤ nz ∧ k ≤ 8 ∧ i = .int .i64 k ∧ Row wr q m d ∧ Below w.heap.size w wr) (fun i _ => nz - (intOf i).toNat)
        case atStart => exact ⟨0, Nat.zero_le _, Nat.zero_le _, rfl, HR.out, HB.out⟩
        case round =>
          clear HR HB hsz
          obtain ⟨j, hj, hj8, rfl, hr, hB⟩ := hrel
          have HR := hidOg hr
          have HB := hidOg hB
          have hsz := hB.size
          clear hr hB
          by_cases hjz : j < nz
          · obtain ⟨b, off, rfl, hbB, hcs⟩ := (HZ.out.i.below HB.out (Nat.le_refl _)) (by have := HNz.out; omega)
            have c0 := hcs j (by have := HNz.out; omega)
            clear hcs
            obtain ⟨y, hyy⟩ : ∃ y, y = iG Z j := ⟨_, rfl⟩
            rw [← hyy] at c0
            clear hyy
            by_cases h8 : j = 8
            · have h8' : ((j : Int) == 8) = true := (by simp; omega); clear h8
              go_wp2
              go_ret
              exact ⟨rfl, HB.out⟩
            · have h8' : ((j : Int) == 8) = false := by simp; omega
              have hj9 : j + 1 ≤ 8 := by omega
              clear h8
              have CO3 := CO34 y
              rw [(wou_bad HM.out).1, (wou_bad HM.out).2] at CO3
              go_wp2_with (first
                | (go_at_call 34; refine Calls.mono (CO3 q d _ HR.out) ?_; clear CO3; rintro e w3 ⟨q3, d3, rfl, hr3, hb3⟩; have g3 := HB.out.trans (hb3.mono HB.out.size); have r3 := HR.out.to hb3; have s3 := hr3.row; have CQ1 := CEn q3 d3 none 0 _ s3 (Row.nil _); have g5 := g3; have r5 := r3; clear g3 r3 hb3)
                | (go_at_call 18; refine Calls.mono CQ1 ?_; clear CQ1; rintro e w6 ⟨rfl, hb6⟩; have g6 := g5.trans (hb6.mono g5.size); have r6 := r5.to hb6; have CF1 := CF _ g6; clear g5 r5 hb6)
                | (go_at_call 10; refine Calls.mono CF1 ?_; clear CF1; rintro e w7 ⟨q7, d7, rfl, hr7, hb7⟩; have g7 := g6.trans (hb7.mono g6.size); have r7 := r6.to hb7; have CQ2 := CEm q d q7 d7 _ r7 hr7; clear g6 r6 hb7)
                | (go_at_call 18; refine Calls.mono CQ2 ?_; clear CQ2; rintro e w8 ⟨rfl, hb8⟩; have g8 := g7.trans (hb8.mono g7.size); have r8 := r7.to hb8; clear g7 r7 hb8))
              go_roundw
              case rel => exact ⟨j + 1, by omega, by omega, by go_num, r8, g8⟩
              case measure => simp [intOf]; omega
          · obtain rfl : j = nz := by omega
            go_wp2
            go_ret
            exact ⟨rfl, HB.out⟩
      · have h8' : ((k : Int) == 8) = false := by simp; omega
        have hk9 : k + 1 ≤ 8 := by omega
        clear h8
        have CW1 := CW32 x u0 u1
        unfold WithOwn at CW1
        rw [(wit_bad HM.out).1, (wit_bad HM.out).2] at CW1
        obtain ⟨T, hT⟩ : ∃ T, T = ([] : List Int) := ⟨_, rfl⟩
        rw [← hT] at CW1
        have CE1 := fun (q : Option Addr) (d : Nat) (w2 : World) (hr : Row w2 q T d) => equal18 q T d none [] 0 w2 hr.i IRow.nil (by rw [hT]; simp)
        rw [show samI T [] = true by rw [hT]; exact samI_refl []] at CE1
        simp only [List.length_nil] at CE1
        have lT : T.length ≤ 20 := by rw [hT]; simp
        obtain ⟨nt, hnt⟩ : ∃ nt, nt = T.length := ⟨_, rfl⟩
        have HNt := hidOg hnt
        rw [← hnt] at CW1 CE1 lT
        clear hT hnt
        go_wp2_with (first
          | (go_at_call 32; refine Calls.mono (CW1 q d _ HR.out) ?_; clear CW1; rintro e w3 ⟨q3, d3, rfl, ho3, hb3⟩; have r3 := HR.out.to hb3; have b5 := hb3; have CQ1 := CE1 q3 d3 _ ho3.row)
          | (go_at_call 18; refine Calls.mono CQ1 ?_; clear CQ1; rintro e w5 ⟨rfl, hb5⟩; have b5 := b5.trans (hb5.mono b5.size); have t5 := ho3.to hb5; clear hb5))
        have r0 : Row wr q m d := HR.out
        have HT5 := hidOg t5
        have HR3 := hidOg r0
        have HB5 := hidOg b5
        clear t5 r0 b5
        go_loopw [66] (fun i wr2 => ∃ (k2 : Nat) (T' : List Int), k2 ≤ nt ∧ i = .int .i64 k2 ∧ T'.length = nt ∧ OwnR wr.heap.size wr2 q3 T' d3 ∧ w5.grownBy wr2 (q3.map (·.block))) (fun i _ => nt - (intOf i).toNat)
        case atStart => exact ⟨0, T, Nat.zero_le _, rfl, HNt.out.symm, HT5.out, World.grownBy.refl _ _⟩
        case round =>
          obtain ⟨k2, T', hk2, rfl, hT', hO, hG⟩ := hrel
          have HO := hidOg hO
          have HG := hidOg hG
          have HT' := hidOg hT'
          clear hO hG hT'
          by_cases hk2t : k2 < nt
          · obtain ⟨G, rfl, e1, e2, hset⟩ := HO.out.set (k := k2) (by rw [HT'.out]; exact hk2t)
            have HSet := hidOg hset
            have hGl := HO.out.lt ⟨G, 0, none⟩ rfl
            clear hset
            go_wp2
            go_roundw
            case rel => exact ⟨k2 + 1, _, by omega, by go_num, by rw [List.length_set]; exact HT'.out, (HSet.out _).1, grownBy_trans HG.out (HSet.out _).2⟩
            case measure => simp [intOf]; omega
          · obtain rfl : k2 = nt := by omega
            have hf := HO.out.fr
            have r6 : Row wr q m d := HR3.out.turned HB5.out HG.out hf
            have g6 : Below w.heap.size w wr := below_turned (HB.out.trans (HB5.out.mono hsz)) (Nat.le_trans hsz HB5.out.size) HG.out (fun a ha => Nat.le_trans hsz (hf a ha))
            have CF6 := CF _ g6
            clear HO HG
            go_wp2_with (first
              | (go_at_call 10; refine Calls.mono CF6 ?_; clear CF6; rintro e w7 ⟨q7, d7, rfl, hr7, hb7⟩; have g7 := g6.trans (hb7.mono g6.size); have r7 := r6.to hb7; have CQ2 := CEm q d q7 d7 _ r7 hr7; clear g6 r6 hb7)
              | (go_at_call 18; refine Calls.mono CQ2 ?_; clear CQ2; rintro e w8 ⟨rfl, hb8⟩; have g8 := g7.trans (hb8.mono g7.size); have r8 := r7.to hb8; clear g7 r7 hb8))
            go_roundw
            case rel => exact ⟨k + 1, by omega, by omega, by go_num, r8, g8⟩
            case measure => simp [intOf]; omega
    · obtain rfl : k = ny := by omega
      go_wp2
      go_loopw [84] (fun i wr => ∃ k : Nat, k ≤ nz ∧ k ≤ 8 ∧ i = .int .i64 k ∧ Row wr q m d ∧ Below w.heap.size w wr) (fun i _ => nz - (intOf i).toNat)
      case atStart => exact ⟨0, Nat.zero_le _, Nat.zero_le _, rfl, HR.out, HB.out⟩
      case round =>
        clear HR HB hsz
        obtain ⟨j, hj, hj8, rfl, hr, hB⟩ := hrel
        have HR := hidOg hr
        have HB := hidOg hB
        have hsz := hB.size
        clear hr hB
        by_cases hjz : j < nz
        · obtain ⟨b, off, rfl, hbB, hcs⟩ := (HZ.out.i.below HB.out (Nat.le_refl _)) (by have := HNz.out; omega)
          have c0 := hcs j (by have := HNz.out; omega)
          clear hcs
          obtain ⟨y, hyy⟩ : ∃ y, y = iG Z j := ⟨_, rfl⟩
          rw [← hyy] at c0
          clear hyy
          by_cases h8 : j = 8
          · have h8' : ((j : Int) == 8) = true := (by simp; omega); clear h8
            go_wp2
            go_ret
            exact ⟨rfl, HB.out⟩
          · have h8' : ((j : Int) == 8) = false := by simp; omega
            have hj9 : j + 1 ≤ 8 := by omega
            clear h8
            have CO3 := CO34 y
            rw [(wou_bad HM.out).1, (wou_bad HM.out).2] at CO3
            go_wp2_with (first
              | (go_at_call 34; refine Calls.mono (CO3 q d _ HR.out) ?_; clear CO3; rintro e w3 ⟨q3, d3, rfl, hr3, hb3⟩; have g3 := HB.out.trans (hb3.mono HB.out.size); have r3 := HR.out.to hb3; have s3 := hr3.row; have CQ1 := CEn q3 d3 none 0 _ s3 (Row.nil _); have g5 := g3; have r5 := r3; clear g3 r3 hb3)
              | (go_at_call 18; refine Calls.mono CQ1 ?_; clear CQ1; rintro e w6 ⟨rfl, hb6⟩; have g6 := g5.trans (hb6.mono g5.size); have r6 := r5.to hb6; have CF1 := CF _ g6; clear g5 r5 hb6)
              | (go_at_call 10; refine Calls.mono CF1 ?_; clear CF1; rintro e w7 ⟨q7, d7, rfl, hr7, hb7⟩; have g7 := g6.trans (hb7.mono g6.size); have r7 := r6.to hb7; have CQ2 := CEm q d q7 d7 _ r7 hr7; clear g6 r6 hb7)
              | (go_at_call 18; refine Calls.mono CQ2 ?_; clear CQ2; rintro e w8 ⟨rfl, hb8⟩; have g8 := g7.trans (hb8.mono g7.size); have r8 := r7.to hb8; clear g7 r7 hb8))
            go_roundw
            case rel => exact ⟨j + 1, by omega, by omega, by go_num, r8, g8⟩
            case measure => simp [intOf]; omega
        · obtain rfl : j = nz := by omega
          go_wp2
          go_ret
          exact ⟨rfl, HB.out⟩

theorem goes_walk (px : Option Addr) (X : List Int) (cx : Nat) (py : Option Addr) (Y : List Int) (cy : Nat) (pz : Option Addr) (Z : List Int) (cz : Nat) (w : World) (hx : InR w px X cx) (hy : InR w py Y cy) (hz : InR w pz Z cz) (hly : Y.length ≤ 9223372036854775807) (hlz : Z.length ≤ 9223372036854775807) :
    Calls Try.prog 5 #[.slice px X.length cx, .slice py Y.length cy, .slice pz Z.length cz] w fun e w' => e = .returned (.bool true) ∧ Below w.heap.size w w' := by
  cases hm : mayT (X.take 20)
  · exact goes_f px X cx py Y cy pz Z cz w hx hy hz hly hlz hm
  · exact goes_t px X cx py Y cy pz Z cz w hx hy hz hly hlz hm
end Go.Proofs.Ytooaghcjlomcpaa
