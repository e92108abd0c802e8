/- ValueFits: its walk. -/
import Derived.Test.YtofobpijkceldaaDoorVaK
namespace Go.Proofs.YtofobpijkceldaaDoor
open Go.RowKit Go.Shelf

/-- Widths that lie in a box. -/
def BoxW (W : World) (b : Nat) (ws : List Int) : Prop := W.heap[b]? = some (.cells (wsA ws) 47 (0, 0))
theorem BoxW.new (w : World) (ws : List Int) : BoxW (w.alloc (.cells (wsA ws) 47)) w.heap.size ws := heap_alloc_last w _
theorem BoxW.to {W W' : World} {b : Nat} {ws : List Int} (h : BoxW W b ws) (hb : Below W.heap.size W W') : BoxW W' b ws := (hb.block b (Array.getElem?_eq_some_iff.1 h).1).trans h
theorem BoxW.load {W : World} {b : Nat} {ws : List Int} (h : BoxW W b ws) (hl : ws.length = 24) : (Instr.loadAt 47 (.pointer (some ⟨b, 0, none⟩))).run Tryd.prog W = .ok (.agg (wsA ws)) W := by
  simp only [Instr.loadAt, Instr.sureAddr, Sem.run_bind, Sem.run_pure, Result.andThen]
  exact run_loadVar_row W b 47 47 (wsA ws) (0, 0) _ h Tryd.underlying47 rfl (by rw [wsA_size hl]; kernel_rfl)
theorem BoxW.cell {W : World} {b : Nat} {ws : List Int} (h : BoxW W b ws) (k : Nat) (hk : k < ws.length) : W.cell? ⟨b, k, none⟩ = some (.int .i64 (iG ws k)) := by
  unfold BoxW at h
  simp only [World.cell?, h]
  simpa using wsA_at ws k hk
theorem wi_ok {ws : List Int} {n : Int} (h : wiE ws n = 0) (hl : ws.length = 24) : wideB ws = true ∧ 0 ≤ wiV ws n ∧ wiV ws n ≤ 4 := by
  unfold wiE at h
  cases hw : wideB ws
  · rw [hw] at h; simp at h
  · rw [hw] at h
    by_cases hn : 1 ≤ n ∧ n ≤ 24
    · refine ⟨rfl, ?_⟩
      unfold wiV
      rw [hw, if_pos ⟨rfl, hn⟩]
      unfold wideB at hw
      rw [List.all_eq_true] at hw
      exact isW_t (hw _ (iG_mem (by omega)))
    · simp [hn] at h
theorem zer_len {n : Int} (h : isW n = true) : ((zerL n).length : Int) = n := by
  have := isW_t h
  unfold zerL; rw [h]; simp; omega

theorem wpList_load47g {ops : Array Oper} {rest : List Oper} {o : Oper} {a : Act} {Q : Exit → Act → World → Prop} (w : World) (x : Operand) (ho : o.op = .load 47 x) (hw : Region.wanted o (yielded ops a.tmps) = true) (p : Value) (ws : List Int) (hx : a.eval x = p)
    (hr : (Instr.loadAt 47 p).run Tryd.prog w = .ok (.agg (wsA ws)) w) (h : wpList Tryd.prog ops Q rest (a.put o.dst (.agg (wsA ws))) w) : wpList Tryd.prog ops Q (o :: rest) a w := by
  refine BigFrame.wpList_want hw fun K hK => ?_
  unfold Oper.wp
  simp [execOp, ho, hx, hr, Result.andThen]
  exact hK _ _ h
/-- What the walk keeps. -/
structure Fi (w W : World) (ws : List Int) : Prop where
  box : BoxW W w.heap.size ws
  bel : Below w.heap.size w W
theorem Fi.to {w W W' : World} {ws : List Int} (h : Fi w W ws) (hb : Below W.heap.size W W') : Fi w W' ws := ⟨h.box.to hb, h.bel.trans (hb.mono h.bel.size)⟩
theorem Fi.new (w : World) (ws : List Int) : Fi w (w.alloc (.cells (wsA ws) 47)) ws := ⟨BoxW.new w ws, (Below.refl _ _).alloc (Nat.le_refl _) _⟩

set_option maxRecDepth 100000 in
set_option maxHeartbeats 4000000 in
theorem fits_walk (ws : List Int) (hl : ws.length = 24) (m n : Int) (w : World) (hT : Tb w) :
    Calls Tryd.prog 8 #[.agg (wsA ws), .int .i64 m, .int .i64 n] w fun e w' => e = .returned (.bool true) ∧ Below w.heap.size w w' := by
  have F0 := hidOg (Fi.new w ws)
  have CK := wakes9 (w.alloc (.cells (wsA ws) 47)) (hT.to F0.out.bel)
  have CW := fun (W : World) => width26 ws hl m W
  have CE := fun (W : World) => wide25 ws hl W
  have CZ := fun (W : World) => zero18 n W
  have CF := fun (W : World) (p : Option Addr) (c : Nat) => fits28 ws hl m p (zerL n).length c W
  have HL := hidOg hl
  have HF := hidOg (fit_of ws m (zerL n).length)
  have HO := hidOg (fun h => wi_ok (n := m) h hl)
  have HZ := hidOg (fun h => zer_len (n := n) h)
  obtain ⟨V, hV⟩ : ∃ V, V = wiV ws m := ⟨_, rfl⟩
  obtain ⟨E, hE⟩ : ∃ E, E = wiE ws m := ⟨_, rfl⟩
  obtain ⟨z, hz⟩ : ∃ z, z = (zerL n).length := ⟨_, rfl⟩
  obtain ⟨b, hb⟩ : ∃ b, b = fitB ws m z := ⟨_, rfl⟩
  rw [← hz] at CF HF HZ
  simp only [← hz] at CZ
  rw [← hV, ← hE] at CW HO HF
  rw [← hb] at CF HF
  clear hT hl hV hE hz hb
  by_cases hE0 : E = 0
  · subst hE0
    obtain ⟨o1, o2, o3⟩ := HO.out rfl
    have ew : wideE ws = 0 := by unfold wideE; rw [o1]; rfl
    rw [ew] at CE
    have d2 : decide (V < 0) = false := by rw [decide_eq_false]; omega
    have d3 : decide (4 < V) = false := by rw [decide_eq_false]; omega
    clear o1 HO ew
    cases hw : isW n
    · have ez : zerE n = 2 := by unfold zerE; rw [hw]; rfl
      simp only [ez] at CZ
      have hn := isW_f hw
      clear hw ez HZ HF
      by_cases hn0 : n < 0
      · clear hn
        go_enter Tryd.func8, Tryd.ntmps8
        go_wp2_with (first
            | (go_at_call 9; refine Calls.mono CK ?_; rintro e w1 ⟨rfl, hb⟩; have H := hidOg (F0.out.to hb); clear hb)
            | (refine wpList_load47 _ rfl _ rfl _ ws rfl (H.out.box.load HL.out) ?_)
            | (refine wpList_load47g _ _ rfl (by simp [Region.wanted, yielded]) _ ws rfl (H.out.box.load HL.out) ?_)
            | (go_at_call 26; refine Calls.mono (CW _) ?_; rintro e w2 ⟨rfl, hb⟩; have H := hidOg (H.out.to hb); clear hb)
            | (go_at_call 18; refine Calls.mono (CZ _) ?_; rintro e w3 ⟨p3, c3, rfl, ho, hb⟩; have H := hidOg (H.out.to hb); clear hb ho)
            | (go_at_call 28; refine Calls.mono (CF _ _ _) ?_; rintro e w4 ⟨rfl, hb⟩; have H := hidOg (H.out.to hb); clear hb)
            | (go_at_call 25; refine Calls.mono (CE _) ?_; rintro e w5 ⟨rfl, hb⟩; have H := hidOg (H.out.to hb); clear hb))
        go_ret
        exact ⟨rfl, H.out.bel⟩
      · have hn4 : 4 < n := by omega
        clear hn
        go_enter Tryd.func8, Tryd.ntmps8
        go_wp2_with (first
            | (go_at_call 9; refine Calls.mono CK ?_; rintro e w1 ⟨rfl, hb⟩; have H := hidOg (F0.out.to hb); clear hb)
            | (refine wpList_load47 _ rfl _ rfl _ ws rfl (H.out.box.load HL.out) ?_)
            | (refine wpList_load47g _ _ rfl (by simp [Region.wanted, yielded]) _ ws rfl (H.out.box.load HL.out) ?_)
            | (go_at_call 26; refine Calls.mono (CW _) ?_; rintro e w2 ⟨rfl, hb⟩; have H := hidOg (H.out.to hb); clear hb)
            | (go_at_call 18; refine Calls.mono (CZ _) ?_; rintro e w3 ⟨p3, c3, rfl, ho, hb⟩; have H := hidOg (H.out.to hb); clear hb ho)
            | (go_at_call 28; refine Calls.mono (CF _ _ _) ?_; rintro e w4 ⟨rfl, hb⟩; have H := hidOg (H.out.to hb); clear hb)
            | (go_at_call 25; refine Calls.mono (CE _) ?_; rintro e w5 ⟨rfl, hb⟩; have H := hidOg (H.out.to hb); clear hb))
        go_ret
        exact ⟨rfl, H.out.bel⟩
    · have ez : zerE n = 0 := by unfold zerE; rw [hw]; rfl
      simp only [ez] at CZ
      have hzn := HZ.out hw
      by_cases hnv : n = V
      · have hb : b = true := by rw [HF.out, hzn, decide_eq_true hnv]; rfl
        have hq : (n == V) = true := by simpa using hnv
        subst hb
        clear hw ez HZ HF hzn hnv
        go_enter Tryd.func8, Tryd.ntmps8
        go_wp2_with (first
            | (go_at_call 9; refine Calls.mono CK ?_; rintro e w1 ⟨rfl, hb⟩; have H := hidOg (F0.out.to hb); clear hb)
            | (refine wpList_load47 _ rfl _ rfl _ ws rfl (H.out.box.load HL.out) ?_)
            | (refine wpList_load47g _ _ rfl (by simp [Region.wanted, yielded]) _ ws rfl (H.out.box.load HL.out) ?_)
            | (go_at_call 26; refine Calls.mono (CW _) ?_; rintro e w2 ⟨rfl, hb⟩; have H := hidOg (H.out.to hb); clear hb)
            | (go_at_call 18; refine Calls.mono (CZ _) ?_; rintro e w3 ⟨p3, c3, rfl, ho, hb⟩; have H := hidOg (H.out.to hb); clear hb ho)
            | (go_at_call 28; refine Calls.mono (CF _ _ _) ?_; rintro e w4 ⟨rfl, hb⟩; have H := hidOg (H.out.to hb); clear hb)
            | (go_at_call 25; refine Calls.mono (CE _) ?_; rintro e w5 ⟨rfl, hb⟩; have H := hidOg (H.out.to hb); clear hb))
        go_ret
        exact ⟨rfl, H.out.bel⟩
      · have hb : b = false := by rw [HF.out, hzn, decide_eq_false hnv]; rfl
        have hq : (n == V) = false := by simpa using hnv
        subst hb
        clear hw ez HZ HF hzn hnv
        go_enter Tryd.func8, Tryd.ntmps8
        go_wp2_with (first
            | (go_at_call 9; refine Calls.mono CK ?_; rintro e w1 ⟨rfl, hb⟩; have H := hidOg (F0.out.to hb); clear hb)
            | (refine wpList_load47 _ rfl _ rfl _ ws rfl (H.out.box.load HL.out) ?_)
            | (refine wpList_load47g _ _ rfl (by simp [Region.wanted, yielded]) _ ws rfl (H.out.box.load HL.out) ?_)
            | (go_at_call 26; refine Calls.mono (CW _) ?_; rintro e w2 ⟨rfl, hb⟩; have H := hidOg (H.out.to hb); clear hb)
            | (go_at_call 18; refine Calls.mono (CZ _) ?_; rintro e w3 ⟨p3, c3, rfl, ho, hb⟩; have H := hidOg (H.out.to hb); clear hb ho)
            | (go_at_call 28; refine Calls.mono (CF _ _ _) ?_; rintro e w4 ⟨rfl, hb⟩; have H := hidOg (H.out.to hb); clear hb)
            | (go_at_call 25; refine Calls.mono (CE _) ?_; rintro e w5 ⟨rfl, hb⟩; have H := hidOg (H.out.to hb); clear hb))
        go_ret
        exact ⟨rfl, H.out.bel⟩
  · have hb : b = false := by rw [HF.out, decide_eq_false hE0]; rfl
    have hq : (E != 0) = true := by simpa using hE0
    subst hb
    clear HO HZ HF hE0
    go_enter Tryd.func8, Tryd.ntmps8
    go_wp2_with (first
        | (go_at_call 9; refine Calls.mono CK ?_; rintro e w1 ⟨rfl, hb⟩; have H := hidOg (F0.out.to hb); clear hb)
        | (refine wpList_load47 _ rfl _ rfl _ ws rfl (H.out.box.load HL.out) ?_)
        | (refine wpList_load47g _ _ rfl (by simp [Region.wanted, yielded]) _ ws rfl (H.out.box.load HL.out) ?_)
        | (go_at_call 26; refine Calls.mono (CW _) ?_; rintro e w2 ⟨rfl, hb⟩; have H := hidOg (H.out.to hb); clear hb)
        | (go_at_call 18; refine Calls.mono (CZ _) ?_; rintro e w3 ⟨p3, c3, rfl, ho, hb⟩; have H := hidOg (H.out.to hb); clear hb ho)
        | (go_at_call 28; refine Calls.mono (CF _ _ _) ?_; rintro e w4 ⟨rfl, hb⟩; have H := hidOg (H.out.to hb); clear hb)
        | (go_at_call 25; refine Calls.mono (CE _) ?_; rintro e w5 ⟨rfl, hb⟩; have H := hidOg (H.out.to hb); clear hb))
    go_ret
    exact ⟨rfl, H.out.bel⟩
end Go.Proofs.YtofobpijkceldaaDoor
