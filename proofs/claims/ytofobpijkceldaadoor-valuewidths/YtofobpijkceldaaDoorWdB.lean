/- ValueWidths: its walk where the widths may be. -/
import Derived.Test.YtofobpijkceldaaDoorWdA
namespace Go.Proofs.YtofobpijkceldaaDoor
open Go.RowKit Go.Shelf

set_option maxRecDepth 100000 in
set_option maxHeartbeats 16000000 in
theorem widths_yes (ws : List Int) (hl : ws.length = 24) (q : Option Addr) (N : List Int) (d : Nat) (p : Option Addr) (R : List RR) (c : Nat) (w : World) (hT : Tb w) (ht : IRow .i64 w.heap.size w q N) (hv : VRow w.heap.size w p R) (lN : N.length ≤ maxLen) (lR : R.length ≤ maxLen) (hw : wideB ws = true) :
    Calls Tryd.prog 5 #[.agg (wsA ws), .slice q N.length d, .slice p R.length c] w fun e w' => e = .returned (.bool true) ∧ Below w.heap.size w w' := by
  unfold maxLen at lR lN
  have F0 := hidOg (Fi.new w ws)
  have CK := wakes9 (w.alloc (.cells (wsA ws) 47)) (hT.to F0.out.bel)
  have CG1 := fun (W : World) => refWide24 ws hl W
  have CE := fun (W : World) => wide25 ws hl W
  have ew : wideE ws = 0 := by unfold wideE; rw [hw]; rfl
  rw [hw] at CG1
  rw [ew] at CE
  have HL := hidOg hl
  have HWd := hidOg hw
  have HV := hidOg hv
  have HX := hidOg ht
  obtain ⟨cs, hcs⟩ : ∃ cs : List Value, cs.toArray = wsA ws := ⟨ws.map (Value.int .i64), rfl⟩
  have HCS := hidOg hcs
  have hu47 := Tryd.underlying47
  have hi47 : (Tryd.prog.info? 47).map (·.size) = some cs.length := by
    have : cs.length = 24 := by have := wsA_size hl; rw [← hcs] at this; simpa using this
    have e24 : (Tryd.prog.info? 47).map (·.size) = some 24 := by kernel_rfl
    rw [this]; exact e24
  clear hv ht hT hl hw ew hcs
  obtain ⟨nR, hnR⟩ : ∃ n, n = R.length := ⟨_, rfl⟩
  obtain ⟨nN, hnN⟩ : ∃ n, n = N.length := ⟨_, rfl⟩
  have HNR := hidOg hnR
  have HNN := hidOg hnN
  rw [← hnR] at lR ⊢
  rw [← hnN] at lN ⊢
  clear hnR hnN
  go_enter Tryd.func5, Tryd.ntmps5
  go_wp2_with (first
    | (go_at_call 9; refine Calls.mono CK ?_; rintro e w1 ⟨rfl, hb⟩; have H := hidOg (F0.out.to hb); clear hb)
    | (refine wpList_load47 _ rfl _ rfl _ ws rfl (H.out.box.load HL.out) ?_)
    | (go_at_call 24; refine Calls.mono (CG1 _) ?_; rintro e w2 ⟨rfl, hb⟩; have H := hidOg (H.out.to hb); clear hb)
    | (go_at_call 25; refine Calls.mono (CE _) ?_; rintro e w3 ⟨rfl, hb⟩; have H := hidOg (H.out.to hb); clear hb))
  go_loopw [37] (fun ui wr => ∃ k : Nat, k ≤ nN ∧ ui = .int .i64 k ∧ Fi w wr ws) (fun ui _ => nN - (intOf ui).toNat)
  case atStart => exact ⟨0, Nat.zero_le _, rfl, H.out⟩
  case round =>
    obtain ⟨k, hk, rfl, hW0⟩ := hrel
    have H := hidOg hW0
    clear hW0
    by_cases hlt : k < nN
    · obtain ⟨b, off, e1, hbB, hcs⟩ := HX.out (by have := HNN.out; omega)
      have c0 := hcs k (by have := HNN.out; omega)
      have c0 := (H.out.bel.cell (p := ⟨b, off + k, none⟩) hbB).trans c0
      subst e1
      clear hcs
      by_cases h8 : k = 8
      · have h8' : ((k : Int) == 8) = true := by rw [beq_iff_eq]; omega
        clear h8
        go_wp2
        go_ret
        exact ⟨rfl, H.out.bel⟩
      · have h8' : ((k : Int) == 8) = false := by rw [beq_eq_false_iff_ne]; omega
        clear h8
        obtain ⟨n, hn⟩ : ∃ n, n = iG N k := ⟨_, rfl⟩
        rw [← hn] at c0
        clear hn
        have CW := fun (W : World) => width26 ws HL.out n W
        have CC := fun (W : World) => component27 n W
        cases hc : comB n
        · have e2 : wiV ws n = 0 ∧ wiE ws n = 2 := by
            unfold comB at hc; rw [decide_eq_false_iff_not] at hc
            unfold wiV wiE; rw [HWd.out]; simp [hc]
          rw [e2.1, e2.2] at CW
          rw [hc] at CC
          clear e2 hc
          go_wp2_with (first
            | (refine wpList_load47 _ rfl _ rfl _ ws rfl (H.out.box.load HL.out) ?_)
            | (go_at_call 26; refine Calls.mono (CW _) ?_; rintro e w2 ⟨rfl, hb⟩; have H := hidOg (H.out.to hb); clear hb)
            | (go_at_call 27; refine Calls.mono (CC _) ?_; rintro e w3 ⟨rfl, hw⟩; rw [hw]; clear hw w3))
          go_loopw [67] (fun ui wx => ∃ j : Nat, j ≤ nR ∧ ui = .int .i64 j ∧ Fi w wx ws) (fun ui _ => nR - (intOf ui).toNat)
          case atStart => exact ⟨0, Nat.zero_le _, rfl, H.out⟩
          case round =>
            obtain ⟨j, hj, rfl, hW⟩ := hrel
            have H := hidOg hW
            by_cases hjr : j < nR
            · obtain ⟨b3, off3, e3, hbB3, hcs3⟩ := HV.out (by have := HNR.out; omega)
              obtain ⟨c3, hin⟩ := hcs3 j (by have := HNR.out; omega)
              have c3 := (hW.bel.cell (p := ⟨b3, off3 + j, none⟩) hbB3).trans c3
              subst e3
              have HIy := hidOg hin
              clear hcs3 hin
              obtain ⟨py, hpy⟩ : ∃ x, x = rP R j := ⟨_, rfl⟩
              obtain ⟨ly, hly⟩ : ∃ x, x = rL R j := ⟨_, rfl⟩
              obtain ⟨cy, hcy⟩ : ∃ x, x = rC R j := ⟨_, rfl⟩
              rw [← hpy, ← hly, ← hcy] at c3 HIy
              obtain ⟨lb, hlb⟩ : ∃ lb, lb = ly.take 8 := ⟨_, rfl⟩
              have CB := fun (W : World) (h : Fi w W ws) => own10r py ly cy W (HIy.out.to h.bel)
              have CF := fun (W : World) (q : Option Addr) (d : Nat) => fits28 ws HL.out n q lb.length d W
              have CG := fun (W : World) (q : Option Addr) (d : Nat) => refFits29 ws HL.out n q lb.length d W
              rw [← hlb] at CB
              obtain ⟨B, hB⟩ : ∃ B, B = fitB ws n lb.length := ⟨_, rfl⟩
              rw [← hB, ← HCS.out] at CF CG
              clear hpy hly hcy hlb hB
              by_cases hj6 : j < 6
              · have hj6' : decide ((j : Int) < 6) = true := by rw [decide_eq_true]; omega
                have hj6n : decide (j < 6) = true := decide_eq_true hj6
                have hS0 : wr.drew.rangeAt w.heap.size 0 cs ∧ Fi w wr.drew ws := sf_drew HCS.out H.out
                clear hW hj6
                go_wp2
                refine wp_region_held_drew (S := fun w' => w'.rangeAt w.heap.size 0 cs ∧ Fi w w' ws) (by kernel_rfl) hS0 (fun hHeld => ?_)
                refine wpAnyH_take (i := 0) (oi := { dst := some 72, op := Op.move (Operand.tmp 15), type := 3, pos := "law.go:124", after := #[], guard := none }) (v := ?_) rfl (by kernel_rfl) (by kernel_rfl) (by kernel_rfl) (fun _ _ _ h => h) (Or.inl ⟨by rfl, ?_⟩) hHeld ?_
                rotate_left
                · first | (intro w0 hSw; go_simp; done) | (intro w0 hSw; go_simp; with_reducible rfl)
                simp only [Act.put, List.setIfInBounds_toArray, List.set_cons_zero, List.set_cons_succ]
                refine wpAnyH_take (i := 1) (oi := { dst := some 73, op := Op.binOp BinOp.lss 3 (Operand.tmp 72) (Operand.const (Value.int IntKind.i64 6)) 3, type := 4, pos := "law.go:124", after := #[{ on := 0, ground := Ground.data }], guard := none }) (v := ?_) rfl (by kernel_rfl) (by kernel_rfl) (by kernel_rfl) (fun _ _ _ h => h) (Or.inl ⟨by rfl, ?_⟩) hHeld ?_
                rotate_left
                · first | (intro w0 hSw; go_simp; done) | (intro w0 hSw; go_simp; with_reducible rfl)
                simp only [Act.put, List.setIfInBounds_toArray, List.set_cons_zero, List.set_cons_succ]
                refine wpAnyH_take (i := 2) (oi := { dst := some 74, op := Op.move (Operand.tmp 73), type := 4, pos := "law.go:124", after := #[{ on := 1, ground := Ground.data }], guard := none }) (v := ?_) rfl (by kernel_rfl) (by kernel_rfl) (by kernel_rfl) (fun _ _ _ h => h) (Or.inl ⟨by rfl, ?_⟩) hHeld ?_
                rotate_left
                · first | (intro w0 hSw; go_simp; done) | (intro w0 hSw; go_simp; with_reducible rfl)
                simp only [Act.put, List.setIfInBounds_toArray, List.set_cons_zero, List.set_cons_succ]
                refine wpAnyH_take (i := 3) (oi := { dst := some 75, op := Op.load 47 (Operand.tmp 3), type := 47, pos := "law.go:124", after := #[{ on := 2, ground := Ground.guard }], guard := some (2, true) }) (v := .agg cs.toArray) rfl (by kernel_rfl) (by kernel_rfl) (by kernel_rfl) (fun _ _ _ h => h) (yieldsIf_load_mid (by rfl) 47 (.tmp 3) rfl w.heap.size 0 rfl cs _ (fun _ h => h.1) hu47 rfl hi47) hHeld ?_
                simp only [Act.put, List.setIfInBounds_toArray, List.set_cons_zero, List.set_cons_succ]
                refine wpAnyH_take (i := 4) (oi := { dst := some 76, op := Op.move (Operand.tmp 10), type := 3, pos := "law.go:124", after := #[{ on := 2, ground := Ground.guard }], guard := some (2, true) }) (v := ?_) rfl (by kernel_rfl) (by kernel_rfl) (by kernel_rfl) (fun _ _ _ h => h) (Or.inl ⟨by rfl, ?_⟩) hHeld ?_
                rotate_left
                · first | (intro w0 hSw; go_simp; done) | (intro w0 hSw; go_simp; with_reducible rfl)
                simp only [Act.put, List.setIfInBounds_toArray, List.set_cons_zero, List.set_cons_succ]
                refine wpAnyH_take (i := 5) (oi := { dst := some 77, op := Op.move (Operand.tmp 16), type := 26, pos := "law.go:124", after := #[{ on := 2, ground := Ground.guard }], guard := some (2, true) }) (v := ?_) rfl (by kernel_rfl) (by kernel_rfl) (by kernel_rfl) (fun _ _ _ h => h) (Or.inl ⟨by rfl, ?_⟩) hHeld ?_
                rotate_left
                · first | (intro w0 hSw; go_simp; done) | (intro w0 hSw; go_simp; with_reducible rfl)
                simp only [Act.put, List.setIfInBounds_toArray, List.set_cons_zero, List.set_cons_succ]
                refine wpAnyH_take (i := 8) (oi := { dst := some 80, op := Op.load 47 (Operand.tmp 3), type := 47, pos := "law.go:124", after := #[{ on := 2, ground := Ground.guard }], guard := some (2, true) }) (v := .agg cs.toArray) rfl (by kernel_rfl) (by kernel_rfl) (by kernel_rfl) (fun _ _ _ h => h) (yieldsIf_load_mid (by rfl) 47 (.tmp 3) rfl w.heap.size 0 rfl cs _ (fun _ h => h.1) hu47 rfl hi47) hHeld ?_
                simp only [Act.put, List.setIfInBounds_toArray, List.set_cons_zero, List.set_cons_succ]
                refine wpAnyH_take (i := 9) (oi := { dst := some 81, op := Op.move (Operand.tmp 10), type := 3, pos := "law.go:124", after := #[{ on := 2, ground := Ground.guard }], guard := some (2, true) }) (v := ?_) rfl (by kernel_rfl) (by kernel_rfl) (by kernel_rfl) (fun _ _ _ h => h) (Or.inl ⟨by rfl, ?_⟩) hHeld ?_
                rotate_left
                · first | (intro w0 hSw; go_simp; done) | (intro w0 hSw; go_simp; with_reducible rfl)
                simp only [Act.put, List.setIfInBounds_toArray, List.set_cons_zero, List.set_cons_succ]
                refine wpAnyH_take (i := 10) (oi := { dst := some 82, op := Op.move (Operand.tmp 16), type := 26, pos := "law.go:124", after := #[{ on := 2, ground := Ground.guard }], guard := some (2, true) }) (v := ?_) rfl (by kernel_rfl) (by kernel_rfl) (by kernel_rfl) (fun _ _ _ h => h) (Or.inl ⟨by rfl, ?_⟩) hHeld ?_
                rotate_left
                · first | (intro w0 hSw; go_simp; done) | (intro w0 hSw; go_simp; with_reducible rfl)
                simp only [Act.put, List.setIfInBounds_toArray, List.set_cons_zero, List.set_cons_succ]
                refine wpAnyH_ready (rs := [6]) (by kernel_rfl) (by simp) ?_
                refine AllReadyH.cons (o := { dst := some 78, op := Op.call { callee := Callee.value (Operand.func 10), args := #[Operand.tmp 77], argTypes := #[26] }, type := 26, pos := "law.go:124", after := #[{ on := 5, ground := Ground.data }, { on := 2, ground := Ground.chain }, { on := 2, ground := Ground.guard }], guard := some (2, true) }) rfl (fun K hK => ?_) ?_
                · go_simp
                  refine Calls.mono (CB _ hHeld.2) ?_
                  rintro e w9 ⟨qb, cb, rfl, _, hb⟩
                  refine hK.out _ _ (sf_to HCS.out hHeld hb) (fun hHeld => ?_)
                  clear hK K
                  try simp only [Act.put, List.setIfInBounds_toArray, List.set_cons_zero, List.set_cons_succ]
                  refine wpAnyH_ready (rs := [7]) (by kernel_rfl) (by simp) ?_
                  refine AllReadyH.cons (o := { dst := some 79, op := Op.call { callee := Callee.value (Operand.func 28), args := #[Operand.tmp 75, Operand.tmp 76, Operand.tmp 78], argTypes := #[47, 3, 26] }, type := 4, pos := "law.go:124", after := #[{ on := 3, ground := Ground.data }, { on := 4, ground := Ground.data }, { on := 6, ground := Ground.data }, { on := 6, ground := Ground.chain }, { on := 2, ground := Ground.guard }], guard := some (2, true) }) rfl (fun K hK => ?_) ?_
                  · go_simp
                    refine Calls.mono (CF _ _ _) ?_
                    rintro e w9 ⟨rfl, hb⟩
                    refine hK.out _ _ (sf_to HCS.out hHeld hb) (fun hHeld => ?_)
                    clear hK K
                    try simp only [Act.put, List.setIfInBounds_toArray, List.set_cons_zero, List.set_cons_succ]
                    refine wpAnyH_ready (rs := [11]) (by kernel_rfl) (by simp) ?_
                    refine AllReadyH.cons (o := { dst := some 83, op := Op.call { callee := Callee.value (Operand.func 10), args := #[Operand.tmp 82], argTypes := #[26] }, type := 26, pos := "law.go:124", after := #[{ on := 10, ground := Ground.data }, { on := 7, ground := Ground.chain }, { on := 2, ground := Ground.guard }], guard := some (2, true) }) rfl (fun K hK => ?_) ?_
                    · go_simp
                      refine Calls.mono (CB _ hHeld.2) ?_
                      rintro e w9 ⟨qb, cb, rfl, _, hb⟩
                      refine hK.out _ _ (sf_to HCS.out hHeld hb) (fun hHeld => ?_)
                      clear hK K
                      try simp only [Act.put, List.setIfInBounds_toArray, List.set_cons_zero, List.set_cons_succ]
                      refine wpAnyH_ready (rs := [12]) (by kernel_rfl) (by simp) ?_
                      refine AllReadyH.cons (o := { dst := some 84, op := Op.call { callee := Callee.value (Operand.func 29), args := #[Operand.tmp 80, Operand.tmp 81, Operand.tmp 83], argTypes := #[47, 3, 26] }, type := 4, pos := "law.go:124", after := #[{ on := 8, ground := Ground.data }, { on := 9, ground := Ground.data }, { on := 11, ground := Ground.data }, { on := 11, ground := Ground.chain }, { on := 2, ground := Ground.guard }], guard := some (2, true) }) rfl (fun K hK => ?_) ?_
                      · go_simp
                        refine Calls.mono (CG _ _ _) ?_
                        rintro e w9 ⟨rfl, hb⟩
                        refine hK.out _ _ (sf_to HCS.out hHeld hb) (fun hHeld => ?_)
                        clear hK K
                        try simp only [Act.put, List.setIfInBounds_toArray, List.set_cons_zero, List.set_cons_succ]
                        refine wpAnyH_take (i := 13) (oi := { dst := some 85, op := Op.binOp BinOp.neq 4 (Operand.tmp 79) (Operand.tmp 84) 4, type := 4, pos := "law.go:124", after := #[{ on := 7, ground := Ground.data }, { on := 12, ground := Ground.data }, { on := 2, ground := Ground.guard }], guard := some (2, true) }) (v := ?_) rfl (by kernel_rfl) (by kernel_rfl) (by kernel_rfl) (fun _ _ _ h => h) (Or.inl ⟨by rfl, ?_⟩) hHeld ?_
                        rotate_left
                        · first | (intro w0 hSw; go_simp; done) | (intro w0 hSw; go_simp; with_reducible rfl)
                        simp only [Act.put, List.setIfInBounds_toArray, List.set_cons_zero, List.set_cons_succ]
                        refine wpAnyH_take (i := 14) (oi := { dst := some 86, op := Op.pick (Operand.tmp 74) (Operand.tmp 85) (Operand.const (Value.bool false)), type := 4, pos := "law.go:124", after := #[{ on := 2, ground := Ground.data }, { on := 13, ground := Ground.data }], guard := none }) (v := ?_) rfl (by kernel_rfl) (by kernel_rfl) (by kernel_rfl) (fun _ _ _ h => h) (Or.inl ⟨by rfl, ?_⟩) hHeld ?_
                        rotate_left
                        · first | (intro w0 hSw; go_simp; done) | (intro w0 hSw; go_simp; with_reducible rfl)
                        simp only [Act.put, List.setIfInBounds_toArray, List.set_cons_zero, List.set_cons_succ]
                        refine wpAnyH_done (by kernel_rfl) ?_ _
                        go_wp2
                        go_roundw
                        case rel => exact ⟨j + 1, by omega, by go_num, hHeld.2⟩
                        case measure => simp [intOf]; omega
          
                      exact AllReadyH.nil
          
                    exact AllReadyH.nil
          
                  exact AllReadyH.nil
          
                exact AllReadyH.nil
              · have hj6' : decide ((j : Int) < 6) = false := by rw [decide_eq_false]; omega
                have hj6n : decide (j < 6) = false := decide_eq_false hj6
                clear hW hj6
                go_wp2
                go_quiet (fail)
                go_wp2
                go_roundw
                case rel => exact ⟨j + 1, by omega, by go_num, fi_drewN H.out _⟩
                case measure => simp [intOf]; omega
            · clear hW
              go_wp2
              go_roundw
              case rel => exact ⟨k + 1, by omega, by go_num, H.out⟩
              case measure => simp [intOf]; omega
        · have hn12 : 1 ≤ n ∧ n ≤ 24 := by unfold comB at hc; exact of_decide_eq_true hc
          have e2 : wiV ws n = iG ws (n - 1).toNat ∧ wiE ws n = 0 := by
            unfold wiV wiE; rw [HWd.out]; simp [hn12]
          rw [e2.1, e2.2] at CW
          rw [hc] at CC
          obtain ⟨i, hi⟩ : ∃ i : Nat, n = (i : Int) + 1 := ⟨(n - 1).toNat, by omega⟩
          have hi24 : i < 24 := by omega
          have ei : (n - 1).toNat = i := by omega
          rw [ei] at CW
          have hn1 : n - 1 = (i : Int) := by omega
          obtain ⟨V, hVi⟩ : ∃ V, V = iG ws i := ⟨_, rfl⟩
          have HCell : Hid (∀ W, Fi w W ws → W.cell? ⟨w.heap.size, i, none⟩ = some (.int .i64 V)) := by
            intro W hF; rw [hVi]; exact hF.box.cell i (by rw [HL.out]; exact hi24)
          rw [← hVi] at CW
          clear e2 hc hVi ei
          obtain ⟨h1n, h24n⟩ := hn12
          clear hi
          go_wp2_with (first
            | (refine wpList_load47 _ rfl _ rfl _ ws rfl (H.out.box.load HL.out) ?_)
            | (go_at_call 26; refine Calls.mono (CW _) ?_; rintro e w2 ⟨rfl, hb⟩; have H := hidOg (H.out.to hb); have hcl := HCell.out w2 H.out; clear hb)
            | (go_at_call 27; refine Calls.mono (CC _) ?_; rintro e w3 ⟨rfl, hw⟩; rw [hw]; clear hw w3))
          go_loopw [67] (fun ui wx => ∃ j : Nat, j ≤ nR ∧ ui = .int .i64 j ∧ Fi w wx ws) (fun ui _ => nR - (intOf ui).toNat)
          case atStart => exact ⟨0, Nat.zero_le _, rfl, H.out⟩
          case round =>
            obtain ⟨j, hj, rfl, hW⟩ := hrel
            have H := hidOg hW
            by_cases hjr : j < nR
            · obtain ⟨b3, off3, e3, hbB3, hcs3⟩ := HV.out (by have := HNR.out; omega)
              obtain ⟨c3, hin⟩ := hcs3 j (by have := HNR.out; omega)
              have c3 := (hW.bel.cell (p := ⟨b3, off3 + j, none⟩) hbB3).trans c3
              subst e3
              have HIy := hidOg hin
              clear hcs3 hin
              obtain ⟨py, hpy⟩ : ∃ x, x = rP R j := ⟨_, rfl⟩
              obtain ⟨ly, hly⟩ : ∃ x, x = rL R j := ⟨_, rfl⟩
              obtain ⟨cy, hcy⟩ : ∃ x, x = rC R j := ⟨_, rfl⟩
              rw [← hpy, ← hly, ← hcy] at c3 HIy
              obtain ⟨lb, hlb⟩ : ∃ lb, lb = ly.take 8 := ⟨_, rfl⟩
              have CB := fun (W : World) (h : Fi w W ws) => own10r py ly cy W (HIy.out.to h.bel)
              have CF := fun (W : World) (q : Option Addr) (d : Nat) => fits28 ws HL.out n q lb.length d W
              have CG := fun (W : World) (q : Option Addr) (d : Nat) => refFits29 ws HL.out n q lb.length d W
              rw [← hlb] at CB
              obtain ⟨B, hB⟩ : ∃ B, B = fitB ws n lb.length := ⟨_, rfl⟩
              rw [← hB, ← HCS.out] at CF CG
              clear hpy hly hcy hlb hB
              by_cases hj6 : j < 6
              · have hj6' : decide ((j : Int) < 6) = true := by rw [decide_eq_true]; omega
                have hj6n : decide (j < 6) = true := decide_eq_true hj6
                have hS0 : wr.drew.rangeAt w.heap.size 0 cs ∧ Fi w wr.drew ws := sf_drew HCS.out H.out
                clear hW hj6
                go_wp2
                refine wp_region_held_drew (S := fun w' => w'.rangeAt w.heap.size 0 cs ∧ Fi w w' ws) (by kernel_rfl) hS0 (fun hHeld => ?_)
                refine wpAnyH_take (i := 0) (oi := { dst := some 72, op := Op.move (Operand.tmp 15), type := 3, pos := "law.go:124", after := #[], guard := none }) (v := ?_) rfl (by kernel_rfl) (by kernel_rfl) (by kernel_rfl) (fun _ _ _ h => h) (Or.inl ⟨by rfl, ?_⟩) hHeld ?_
                rotate_left
                · first | (intro w0 hSw; go_simp; done) | (intro w0 hSw; go_simp; with_reducible rfl)
                simp only [Act.put, List.setIfInBounds_toArray, List.set_cons_zero, List.set_cons_succ]
                refine wpAnyH_take (i := 1) (oi := { dst := some 73, op := Op.binOp BinOp.lss 3 (Operand.tmp 72) (Operand.const (Value.int IntKind.i64 6)) 3, type := 4, pos := "law.go:124", after := #[{ on := 0, ground := Ground.data }], guard := none }) (v := ?_) rfl (by kernel_rfl) (by kernel_rfl) (by kernel_rfl) (fun _ _ _ h => h) (Or.inl ⟨by rfl, ?_⟩) hHeld ?_
                rotate_left
                · first | (intro w0 hSw; go_simp; done) | (intro w0 hSw; go_simp; with_reducible rfl)
                simp only [Act.put, List.setIfInBounds_toArray, List.set_cons_zero, List.set_cons_succ]
                refine wpAnyH_take (i := 2) (oi := { dst := some 74, op := Op.move (Operand.tmp 73), type := 4, pos := "law.go:124", after := #[{ on := 1, ground := Ground.data }], guard := none }) (v := ?_) rfl (by kernel_rfl) (by kernel_rfl) (by kernel_rfl) (fun _ _ _ h => h) (Or.inl ⟨by rfl, ?_⟩) hHeld ?_
                rotate_left
                · first | (intro w0 hSw; go_simp; done) | (intro w0 hSw; go_simp; with_reducible rfl)
                simp only [Act.put, List.setIfInBounds_toArray, List.set_cons_zero, List.set_cons_succ]
                refine wpAnyH_take (i := 3) (oi := { dst := some 75, op := Op.load 47 (Operand.tmp 3), type := 47, pos := "law.go:124", after := #[{ on := 2, ground := Ground.guard }], guard := some (2, true) }) (v := .agg cs.toArray) rfl (by kernel_rfl) (by kernel_rfl) (by kernel_rfl) (fun _ _ _ h => h) (yieldsIf_load_mid (by rfl) 47 (.tmp 3) rfl w.heap.size 0 rfl cs _ (fun _ h => h.1) hu47 rfl hi47) hHeld ?_
                simp only [Act.put, List.setIfInBounds_toArray, List.set_cons_zero, List.set_cons_succ]
                refine wpAnyH_take (i := 4) (oi := { dst := some 76, op := Op.move (Operand.tmp 10), type := 3, pos := "law.go:124", after := #[{ on := 2, ground := Ground.guard }], guard := some (2, true) }) (v := ?_) rfl (by kernel_rfl) (by kernel_rfl) (by kernel_rfl) (fun _ _ _ h => h) (Or.inl ⟨by rfl, ?_⟩) hHeld ?_
                rotate_left
                · first | (intro w0 hSw; go_simp; done) | (intro w0 hSw; go_simp; with_reducible rfl)
                simp only [Act.put, List.setIfInBounds_toArray, List.set_cons_zero, List.set_cons_succ]
                refine wpAnyH_take (i := 5) (oi := { dst := some 77, op := Op.move (Operand.tmp 16), type := 26, pos := "law.go:124", after := #[{ on := 2, ground := Ground.guard }], guard := some (2, true) }) (v := ?_) rfl (by kernel_rfl) (by kernel_rfl) (by kernel_rfl) (fun _ _ _ h => h) (Or.inl ⟨by rfl, ?_⟩) hHeld ?_
                rotate_left
                · first | (intro w0 hSw; go_simp; done) | (intro w0 hSw; go_simp; with_reducible rfl)
                simp only [Act.put, List.setIfInBounds_toArray, List.set_cons_zero, List.set_cons_succ]
                refine wpAnyH_take (i := 8) (oi := { dst := some 80, op := Op.load 47 (Operand.tmp 3), type := 47, pos := "law.go:124", after := #[{ on := 2, ground := Ground.guard }], guard := some (2, true) }) (v := .agg cs.toArray) rfl (by kernel_rfl) (by kernel_rfl) (by kernel_rfl) (fun _ _ _ h => h) (yieldsIf_load_mid (by rfl) 47 (.tmp 3) rfl w.heap.size 0 rfl cs _ (fun _ h => h.1) hu47 rfl hi47) hHeld ?_
                simp only [Act.put, List.setIfInBounds_toArray, List.set_cons_zero, List.set_cons_succ]
                refine wpAnyH_take (i := 9) (oi := { dst := some 81, op := Op.move (Operand.tmp 10), type := 3, pos := "law.go:124", after := #[{ on := 2, ground := Ground.guard }], guard := some (2, true) }) (v := ?_) rfl (by kernel_rfl) (by kernel_rfl) (by kernel_rfl) (fun _ _ _ h => h) (Or.inl ⟨by rfl, ?_⟩) hHeld ?_
                rotate_left
                · first | (intro w0 hSw; go_simp; done) | (intro w0 hSw; go_simp; with_reducible rfl)
                simp only [Act.put, List.setIfInBounds_toArray, List.set_cons_zero, List.set_cons_succ]
                refine wpAnyH_take (i := 10) (oi := { dst := some 82, op := Op.move (Operand.tmp 16), type := 26, pos := "law.go:124", after := #[{ on := 2, ground := Ground.guard }], guard := some (2, true) }) (v := ?_) rfl (by kernel_rfl) (by kernel_rfl) (by kernel_rfl) (fun _ _ _ h => h) (Or.inl ⟨by rfl, ?_⟩) hHeld ?_
                rotate_left
                · first | (intro w0 hSw; go_simp; done) | (intro w0 hSw; go_simp; with_reducible rfl)
                simp only [Act.put, List.setIfInBounds_toArray, List.set_cons_zero, List.set_cons_succ]
                refine wpAnyH_ready (rs := [6]) (by kernel_rfl) (by simp) ?_
                refine AllReadyH.cons (o := { dst := some 78, op := Op.call { callee := Callee.value (Operand.func 10), args := #[Operand.tmp 77], argTypes := #[26] }, type := 26, pos := "law.go:124", after := #[{ on := 5, ground := Ground.data }, { on := 2, ground := Ground.chain }, { on := 2, ground := Ground.guard }], guard := some (2, true) }) rfl (fun K hK => ?_) ?_
                · go_simp
                  refine Calls.mono (CB _ hHeld.2) ?_
                  rintro e w9 ⟨qb, cb, rfl, _, hb⟩
                  refine hK.out _ _ (sf_to HCS.out hHeld hb) (fun hHeld => ?_)
                  clear hK K
                  try simp only [Act.put, List.setIfInBounds_toArray, List.set_cons_zero, List.set_cons_succ]
                  refine wpAnyH_ready (rs := [7]) (by kernel_rfl) (by simp) ?_
                  refine AllReadyH.cons (o := { dst := some 79, op := Op.call { callee := Callee.value (Operand.func 28), args := #[Operand.tmp 75, Operand.tmp 76, Operand.tmp 78], argTypes := #[47, 3, 26] }, type := 4, pos := "law.go:124", after := #[{ on := 3, ground := Ground.data }, { on := 4, ground := Ground.data }, { on := 6, ground := Ground.data }, { on := 6, ground := Ground.chain }, { on := 2, ground := Ground.guard }], guard := some (2, true) }) rfl (fun K hK => ?_) ?_
                  · go_simp
                    refine Calls.mono (CF _ _ _) ?_
                    rintro e w9 ⟨rfl, hb⟩
                    refine hK.out _ _ (sf_to HCS.out hHeld hb) (fun hHeld => ?_)
                    clear hK K
                    try simp only [Act.put, List.setIfInBounds_toArray, List.set_cons_zero, List.set_cons_succ]
                    refine wpAnyH_ready (rs := [11]) (by kernel_rfl) (by simp) ?_
                    refine AllReadyH.cons (o := { dst := some 83, op := Op.call { callee := Callee.value (Operand.func 10), args := #[Operand.tmp 82], argTypes := #[26] }, type := 26, pos := "law.go:124", after := #[{ on := 10, ground := Ground.data }, { on := 7, ground := Ground.chain }, { on := 2, ground := Ground.guard }], guard := some (2, true) }) rfl (fun K hK => ?_) ?_
                    · go_simp
                      refine Calls.mono (CB _ hHeld.2) ?_
                      rintro e w9 ⟨qb, cb, rfl, _, hb⟩
                      refine hK.out _ _ (sf_to HCS.out hHeld hb) (fun hHeld => ?_)
                      clear hK K
                      try simp only [Act.put, List.setIfInBounds_toArray, List.set_cons_zero, List.set_cons_succ]
                      refine wpAnyH_ready (rs := [12]) (by kernel_rfl) (by simp) ?_
                      refine AllReadyH.cons (o := { dst := some 84, op := Op.call { callee := Callee.value (Operand.func 29), args := #[Operand.tmp 80, Operand.tmp 81, Operand.tmp 83], argTypes := #[47, 3, 26] }, type := 4, pos := "law.go:124", after := #[{ on := 8, ground := Ground.data }, { on := 9, ground := Ground.data }, { on := 11, ground := Ground.data }, { on := 11, ground := Ground.chain }, { on := 2, ground := Ground.guard }], guard := some (2, true) }) rfl (fun K hK => ?_) ?_
                      · go_simp
                        refine Calls.mono (CG _ _ _) ?_
                        rintro e w9 ⟨rfl, hb⟩
                        refine hK.out _ _ (sf_to HCS.out hHeld hb) (fun hHeld => ?_)
                        clear hK K
                        try simp only [Act.put, List.setIfInBounds_toArray, List.set_cons_zero, List.set_cons_succ]
                        refine wpAnyH_take (i := 13) (oi := { dst := some 85, op := Op.binOp BinOp.neq 4 (Operand.tmp 79) (Operand.tmp 84) 4, type := 4, pos := "law.go:124", after := #[{ on := 7, ground := Ground.data }, { on := 12, ground := Ground.data }, { on := 2, ground := Ground.guard }], guard := some (2, true) }) (v := ?_) rfl (by kernel_rfl) (by kernel_rfl) (by kernel_rfl) (fun _ _ _ h => h) (Or.inl ⟨by rfl, ?_⟩) hHeld ?_
                        rotate_left
                        · first | (intro w0 hSw; go_simp; done) | (intro w0 hSw; go_simp; with_reducible rfl)
                        simp only [Act.put, List.setIfInBounds_toArray, List.set_cons_zero, List.set_cons_succ]
                        refine wpAnyH_take (i := 14) (oi := { dst := some 86, op := Op.pick (Operand.tmp 74) (Operand.tmp 85) (Operand.const (Value.bool false)), type := 4, pos := "law.go:124", after := #[{ on := 2, ground := Ground.data }, { on := 13, ground := Ground.data }], guard := none }) (v := ?_) rfl (by kernel_rfl) (by kernel_rfl) (by kernel_rfl) (fun _ _ _ h => h) (Or.inl ⟨by rfl, ?_⟩) hHeld ?_
                        rotate_left
                        · first | (intro w0 hSw; go_simp; done) | (intro w0 hSw; go_simp; with_reducible rfl)
                        simp only [Act.put, List.setIfInBounds_toArray, List.set_cons_zero, List.set_cons_succ]
                        refine wpAnyH_done (by kernel_rfl) ?_ _
                        go_wp2
                        go_roundw
                        case rel => exact ⟨j + 1, by omega, by go_num, hHeld.2⟩
                        case measure => simp [intOf]; omega
          
                      exact AllReadyH.nil
          
                    exact AllReadyH.nil
          
                  exact AllReadyH.nil
          
                exact AllReadyH.nil
              · have hj6' : decide ((j : Int) < 6) = false := by rw [decide_eq_false]; omega
                have hj6n : decide (j < 6) = false := decide_eq_false hj6
                clear hW hj6
                go_wp2
                go_quiet (fail)
                go_wp2
                go_roundw
                case rel => exact ⟨j + 1, by omega, by go_num, fi_drewN H.out _⟩
                case measure => simp [intOf]; omega
            · clear hW
              go_wp2
              go_roundw
              case rel => exact ⟨k + 1, by omega, by go_num, H.out⟩
              case measure => simp [intOf]; omega
    · go_wp2
      go_ret
      exact ⟨rfl, H.out.bel⟩

theorem widths_walk (ws : List Int) (hl : ws.length = 24) (q : Option Addr) (N : List Int) (d : Nat) (p : Option Addr) (R : List RR) (c : Nat) (w : World) (hT : Tb w) (ht : IRow .i64 w.heap.size w q N) (hv : VRow w.heap.size w p R) (lN : N.length ≤ maxLen) (lR : R.length ≤ maxLen) :
    Calls Tryd.prog 5 #[.agg (wsA ws), .slice q N.length d, .slice p R.length c] w fun e w' => e = .returned (.bool true) ∧ Below w.heap.size w w' := by
  cases hw : wideB ws
  · exact widths_no ws hl q N d p R c w hT ht hv lN lR hw
  · exact widths_yes ws hl q N d p R c w hT ht hv lN lR hw
end Go.Proofs.YtofobpijkceldaaDoor
