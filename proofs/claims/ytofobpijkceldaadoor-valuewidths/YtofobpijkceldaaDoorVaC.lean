/- Widths: Wide, Width, Fits, and the document's. -/
import Derived.Test.YtofobpijkceldaaDoorVaB
import Derived.Deep.WholeRow
namespace Go.Proofs.YtofobpijkceldaaDoor
open Go.RowKit

/-- Widths as an array's value. -/
def wsA (ws : List Int) : Array Value := (ws.map (Value.int .i64)).toArray
theorem wsA_size {ws : List Int} (h : ws.length = 24) : (wsA ws).size = 24 := by simp [wsA, h]
theorem wsA_at (ws : List Int) (k : Nat) (h : k < ws.length) : (wsA ws)[k]? = some (.int .i64 (iG ws k)) := by simp [wsA, iG, h]
theorem cell_box (w : World) (ws : List Int) (t : TypeId) (k : Nat) (h : k < ws.length) : (w.alloc (.cells (wsA ws) t)).cell? ⟨w.heap.size, k, none⟩ = some (.int .i64 (iG ws k)) := by
  rw [World.cell?_alloc_at _ _ _ _ rfl, wsA_at ws k h]
theorem wpList_load47 {ops : Array Oper} {rest : List Oper} {o : Oper} {a : Act} {Q : Exit → Act → World → Prop} (w : World) (hgd : o.guard = none) (x : Operand) (ho : o.op = .load 47 x) (p : Value) (ws : List Int) (hx : a.eval x = p)
    (hr : (Instr.loadAt 47 p).run Tryd.prog w = .ok (.agg (wsA ws)) w) (h : wpList Tryd.prog ops Q rest (a.put o.dst (.agg (wsA ws))) w) : wpList Tryd.prog ops Q (o :: rest) a w := by
  refine wpList_plain hgd fun K hK => ?_
  unfold Oper.wp
  simp [execOp, ho, hx, hr, Result.andThen]
  exact hK _ _ h
theorem load_box (w : World) (ws : List Int) (hl : ws.length = 24) : (Instr.loadAt 47 (.pointer (some ⟨w.heap.size, 0, none⟩))).run Tryd.prog (w.alloc (.cells (wsA ws) 47)) = .ok (.agg (wsA ws)) (w.alloc (.cells (wsA ws) 47)) :=
  run_loadAt_new (P := Tryd.prog) w 47 (wsA ws) 24 3 Tryd.underlying47 (by rw [wsA_size hl]; kernel_rfl)
theorem index_ws (ws : List Int) (h : ws.length = 24) (k : Nat) (hk : k < 24) (w : World) : (Instr.index 47 (.agg (wsA ws)) (.int .i64 k)).run Tryd.prog w = .ok (.int .i64 (iG ws k)) w := by
  have e := wsA_at ws k (by omega)
  simp [Instr.index, run_underlying Tryd.underlying47, asIntOf, part, e, go_sem]
  intro h'; omega
def wideB (ws : List Int) : Bool := ws.all isW
theorem wide_no {ws : List Int} {k : Nat} (hk : k < ws.length) (h : isW (iG ws k) = false) : wideB ws = false := by
  rw [Bool.eq_false_iff]; intro e; unfold wideB at e; rw [List.all_eq_true] at e
  have := e _ (iG_mem hk); rw [h] at this; cases this
theorem wide_yes {ws : List Int} (h : ∀ k, k < ws.length → isW (iG ws k) = true) : wideB ws = true := by
  unfold wideB; rw [List.all_eq_true]; intro x hx
  obtain ⟨k, hk, rfl⟩ := List.getElem_of_mem hx
  rw [← iG_eq hk]; exact h k hk
def wideE (ws : List Int) : Int := if wideB ws then 0 else 141

set_option maxRecDepth 20000 in
set_option maxHeartbeats 1000000 in
theorem wide25 (ws : List Int) (hl : ws.length = 24) (w : World) :
    Calls Tryd.prog 25 #[.agg (wsA ws)] w fun e w' => e = .returned (.int .i64 (wideE ws)) ∧ Below w.heap.size w w' := by
  go_enter Tryd.func25, Tryd.ntmps25
  go_wp2
  go_loop [4] (fun i => ∃ k : Nat, k ≤ 24 ∧ i = .int .i64 k ∧ ∀ j, j < k → isW (iG ws j) = true) (fun i => 24 - (intOf i).toNat)
  case atStart => exact ⟨0, Nat.zero_le _, rfl, fun j h => by omega⟩
  case round =>
    obtain ⟨k, hk, rfl, hall⟩ := hrel
    have HA := hidOg hall
    clear hall
    by_cases hlt : k < 24
    · have c0 := cell_box w ws 47 k (by omega)
      have HK := hidOg (show k < ws.length by omega)
      have HL := hidOg hl
      obtain ⟨x, hx⟩ : ∃ x, x = iG ws k := ⟨_, rfl⟩
      rw [← hx] at c0
      have HX := hidOg hx
      have CC := fun (W : World) => isWidth34 x W
      clear hx hl
      cases hm : isW x
      · have HE : Hid (wideE ws = 141) := by unfold Hid wideE; rw [wide_no HK.out (by rw [← HX.out]; exact hm)]; rfl
        rw [hm] at CC
        clear hm
        go_wp2_with (first | (go_at_call 34; refine Calls.mono (CC _) ?_; rintro e w1 ⟨rfl, hw⟩; rw [hw]; clear hw w1))
        go_ret
        exact ⟨ret_int HE.out.symm, (Below.refl _ _).alloc (Nat.le_refl _) _⟩
      · have HM := hidOg hm
        rw [hm] at CC
        clear hm
        go_wp2_with (first | (go_at_call 34; refine Calls.mono (CC _) ?_; rintro e w1 ⟨rfl, hw⟩; rw [hw]; clear hw w1))
        go_round
        case rel => exact ⟨k + 1, by omega, by go_num, fun j hj => (by by_cases e : j = k; { subst e; rw [← HX.out]; exact HM.out }; { exact HA.out j (by omega) })⟩
        case measure => simp [intOf]; omega
    · obtain rfl : k = 24 := by omega
      have HE : Hid (wideE ws = 0) := by unfold Hid wideE; rw [wide_yes (by rw [hl]; exact HA.out)]; rfl
      go_wp2
      go_ret
      exact ⟨ret_int HE.out.symm, (Below.refl _ _).alloc (Nat.le_refl _) _⟩

set_option maxRecDepth 20000 in
set_option maxHeartbeats 1000000 in
theorem refWide24 (ws : List Int) (hl : ws.length = 24) (w : World) :
    Calls Tryd.prog 24 #[.agg (wsA ws)] w fun e w' => e = .returned (.bool (wideB ws)) ∧ Below w.heap.size w w' := by
  have LB := load_box w ws hl
  have IX := index_ws ws hl
  go_enter Tryd.func24, Tryd.ntmps24
  go_wp2_with (first | (refine wpList_load47 _ rfl _ rfl _ ws rfl LB ?_))
  go_loop [6] (fun i => ∃ k : Nat, k ≤ 24 ∧ i = .int .i64 k ∧ ∀ j, j < k → isW (iG ws j) = true) (fun i => 24 - (intOf i).toNat)
  case atStart => exact ⟨0, Nat.zero_le _, rfl, fun j h => by omega⟩
  case round =>
    obtain ⟨k, hk, rfl, hall⟩ := hrel
    have HA := hidOg hall
    clear hall
    by_cases hlt : k < 24
    · have ix := IX k hlt
      clear IX LB
      have HK := hidOg (show k < ws.length by omega)
      have HL := hidOg hl
      obtain ⟨x, hx⟩ : ∃ x, x = iG ws k := ⟨_, rfl⟩
      rw [← hx] at ix
      have HX := hidOg hx
      clear hx hl
      by_cases hm : 0 ≤ x
      · by_cases hm' : x ≤ 4
        · have HM : Hid (isW x = true) := by unfold Hid isW; simp [hm, hm']
          have h1 : ¬ x < 0 := by omega
          have h2 : ¬ 4 < x := by omega
          go_wp2
          go_round
          case rel => exact ⟨k + 1, by omega, by go_num, fun j hj => (by by_cases e : j = k; { subst e; rw [← HX.out]; exact HM.out }; { exact HA.out j (by omega) })⟩
          case measure => simp [intOf]; omega
        · have HE : Hid (wideB ws = false) := wide_no HK.out (by rw [← HX.out]; simp [isW, hm'])
          have h1 : ¬ x < 0 := by omega
          have h2 : 4 < x := by omega
          go_wp2
          go_ret
          exact ⟨ret_bool HE.out.symm, (Below.refl _ _).alloc (Nat.le_refl _) _⟩
      · have HE : Hid (wideB ws = false) := wide_no HK.out (by rw [← HX.out]; simp [isW, hm])
        have h1 : x < 0 := by omega
        go_wp2
        go_ret
        exact ⟨ret_bool HE.out.symm, (Below.refl _ _).alloc (Nat.le_refl _) _⟩
    · obtain rfl : k = 24 := by omega
      have HE : Hid (wideB ws = true) := wide_yes (by rw [hl]; exact HA.out)
      clear IX LB
      go_wp2
      go_ret
      exact ⟨ret_bool HE.out.symm, (Below.refl _ _).alloc (Nat.le_refl _) _⟩

def wiE (ws : List Int) (n : Int) : Int := if wideB ws then (if 1 ≤ n ∧ n ≤ 24 then 0 else 2) else 141
def wiV (ws : List Int) (n : Int) : Int := if wideB ws ∧ 1 ≤ n ∧ n ≤ 24 then iG ws (n - 1).toNat else 0

set_option maxRecDepth 20000 in
set_option maxHeartbeats 1000000 in
theorem width26 (ws : List Int) (hl : ws.length = 24) (n : Int) (w : World) :
    Calls Tryd.prog 26 #[.agg (wsA ws), .int .i64 n] w fun e w' => e = .returned (.tuple #[.int .i64 (wiV ws n), .int .i64 (wiE ws n)]) ∧ Below w.heap.size w w' := by
  have LB := load_box w ws hl
  have CW := fun (W : World) => wide25 ws hl W
  cases hm : wideB ws
  · have HE : Hid (wiE ws n = 141 ∧ wiV ws n = 0) := by unfold Hid wiE wiV; rw [hm]; simp
    have he : wideE ws = 141 := by unfold wideE; rw [hm]; rfl
    rw [he] at CW
    clear hm he
    go_enter Tryd.func26, Tryd.ntmps26
    go_wp2_with (first | (refine wpList_load47 _ rfl _ rfl _ ws rfl LB ?_) | (go_at_call 25; refine Calls.mono (CW _) ?_; rintro e w1 ⟨rfl, hb⟩))
    go_ret2
    exact ⟨by rw [HE.out.1, HE.out.2]; rfl, below1 hb⟩
  · have he : wideE ws = 0 := by unfold wideE; rw [hm]; rfl
    rw [he] at CW
    by_cases h1 : 1 ≤ n
    · by_cases h2 : n ≤ 24
      · have HE : Hid (wiE ws n = 0 ∧ wiV ws n = iG ws (n - 1).toNat) := by unfold Hid wiE wiV; rw [hm]; simp [h1, h2]
        obtain ⟨k, hk⟩ : ∃ k : Nat, n = (k : Int) + 1 := ⟨(n - 1).toNat, by omega⟩
        have HK : Hid ((n - 1).toNat = k) := by unfold Hid; omega
        have hk24 : k < 24 := by omega
        have c0 := cell_box w ws 47 k (by omega)
        subst hk
        have g1 : ¬ ((k : Int) + 1 < 1) := by omega
        have g2 : ¬ (24 < (k : Int) + 1) := by omega
        clear hm he hl
        go_enter Tryd.func26, Tryd.ntmps26
        go_wp2_with (first | (refine wpList_load47 _ rfl _ rfl _ ws rfl LB ?_) | (go_at_call 25; refine Calls.mono (CW _) ?_; rintro e w1 ⟨rfl, hb⟩; have c1 : w1.cell? ⟨w.heap.size, k, none⟩ = some (.int .i64 (iG ws k)) := (hb.cell (p := ⟨w.heap.size, k, none⟩) (by simp)).trans c0))
        go_ret2
        exact ⟨by rw [HE.out.1, HE.out.2, HK.out]; rfl, below1 hb⟩
      · have HE : Hid (wiE ws n = 2 ∧ wiV ws n = 0) := by unfold Hid wiE wiV; rw [hm]; simp [h2]
        have g1 : ¬ (n < 1) := by omega
        have g2 : 24 < n := by omega
        clear hm he hl
        go_enter Tryd.func26, Tryd.ntmps26
        go_wp2_with (first | (refine wpList_load47 _ rfl _ rfl _ ws rfl LB ?_) | (go_at_call 25; refine Calls.mono (CW _) ?_; rintro e w1 ⟨rfl, hb⟩))
        go_ret2
        exact ⟨by rw [HE.out.1, HE.out.2]; rfl, below1 hb⟩
    · have HE : Hid (wiE ws n = 2 ∧ wiV ws n = 0) := by unfold Hid wiE wiV; rw [hm]; simp [h1]
      have g1 : n < 1 := by omega
      clear hm he hl
      go_enter Tryd.func26, Tryd.ntmps26
      go_wp2_with (first | (refine wpList_load47 _ rfl _ rfl _ ws rfl LB ?_) | (go_at_call 25; refine Calls.mono (CW _) ?_; rintro e w1 ⟨rfl, hb⟩))
      go_ret2
      exact ⟨by rw [HE.out.1, HE.out.2]; rfl, below1 hb⟩

def comB (n : Int) : Bool := decide (1 ≤ n ∧ n ≤ 24)
theorem component27 (n : Int) (w : World) : Calls Tryd.prog 27 #[.int .i64 n] w fun e w' => e = .returned (.bool (comB n)) ∧ w' = w := by
  by_cases h : 1 ≤ n
  · by_cases h' : n ≤ 24
    · have e : comB n = true := by simp [comB, h, h']
      rw [e]
      go_enter Tryd.func27, Tryd.ntmps27
      go_wp2
      go_ret
      exact ⟨rfl, rfl⟩
    · have e : comB n = false := by simp [comB, h']
      rw [e]
      go_enter Tryd.func27, Tryd.ntmps27
      go_wp2
      go_ret
      exact ⟨rfl, rfl⟩
  · have e : comB n = false := by simp [comB, h]
    rw [e]
    go_enter Tryd.func27, Tryd.ntmps27
    go_wp2
    go_ret
    exact ⟨rfl, rfl⟩
/-- Does a value of so many words fit? -/
def fitB (ws : List Int) (n : Int) (k : Nat) : Bool := wideB ws && comB n && decide ((k : Int) = iG ws (n - 1).toNat)
theorem fit_of (ws : List Int) (n : Int) (k : Nat) : fitB ws n k = (decide (wiE ws n = 0) && decide ((k : Int) = wiV ws n)) := by
  unfold fitB wiE wiV comB
  cases wideB ws
  · simp
  · by_cases h : 1 ≤ n ∧ n ≤ 24
    · simp [h]
    · have h' : ¬ (True ∧ 1 ≤ n ∧ n ≤ 24) := by simpa using h
      simp [h]
set_option maxRecDepth 20000 in
theorem fits28 (ws : List Int) (hl : ws.length = 24) (n : Int) (p : Option Addr) (k c : Nat) (w : World) :
    Calls Tryd.prog 28 #[.agg (wsA ws), .int .i64 n, .slice p k c] w fun e w' => e = .returned (.bool (fitB ws n k)) ∧ Below w.heap.size w w' := by
  have LB := load_box w ws hl
  have CW := fun (W : World) => width26 ws hl n W
  have HF := hidOg (fit_of ws n k)
  obtain ⟨v, hv⟩ : ∃ v, v = wiV ws n := ⟨_, rfl⟩
  obtain ⟨x, hx⟩ : ∃ x, x = wiE ws n := ⟨_, rfl⟩
  rw [← hv, ← hx] at HF CW
  clear hv hx hl
  by_cases h0 : x = 0
  · subst h0
    by_cases h1 : (k : Int) = v
    · have HR : Hid (fitB ws n k = true) := by unfold Hid; rw [HF.out, decide_eq_true h1]; rfl
      have h1' : ((k : Int) == v) = true := by simpa using h1
      clear h1 HF
      go_enter Tryd.func28, Tryd.ntmps28
      go_wp2_with (first | (refine wpList_load47 _ rfl _ rfl _ ws rfl LB ?_) | (go_at_call 26; refine Calls.mono (CW _) ?_; rintro e w1 ⟨rfl, hb⟩))
      go_ret
      exact ⟨ret_bool HR.out.symm, below1 hb⟩
    · have HR : Hid (fitB ws n k = false) := by unfold Hid; rw [HF.out, decide_eq_false h1]; rfl
      have h1' : ((k : Int) == v) = false := by simpa using h1
      clear h1 HF
      go_enter Tryd.func28, Tryd.ntmps28
      go_wp2_with (first | (refine wpList_load47 _ rfl _ rfl _ ws rfl LB ?_) | (go_at_call 26; refine Calls.mono (CW _) ?_; rintro e w1 ⟨rfl, hb⟩))
      go_ret
      exact ⟨ret_bool HR.out.symm, below1 hb⟩
  · have HR : Hid (fitB ws n k = false) := by unfold Hid; rw [HF.out, decide_eq_false h0]; rfl
    have h0' : (x == 0) = false := by simpa using h0
    clear h0 HF
    go_enter Tryd.func28, Tryd.ntmps28
    go_wp2_with (first | (refine wpList_load47 _ rfl _ rfl _ ws rfl LB ?_) | (go_at_call 26; refine Calls.mono (CW _) ?_; rintro e w1 ⟨rfl, hb⟩))
    go_ret
    exact ⟨ret_bool HR.out.symm, below1 hb⟩
set_option maxRecDepth 20000 in
theorem refFits29 (ws : List Int) (hl : ws.length = 24) (n : Int) (p : Option Addr) (k c : Nat) (w : World) :
    Calls Tryd.prog 29 #[.agg (wsA ws), .int .i64 n, .slice p k c] w fun e w' => e = .returned (.bool (fitB ws n k)) ∧ Below w.heap.size w w' := by
  have LB := load_box w ws hl
  have CW := fun (W : World) => refWide24 ws hl W
  have CC := fun (W : World) => component27 n W
  have HF : Hid (fitB ws n k = (wideB ws && comB n && decide ((k : Int) = iG ws (n - 1).toNat))) := rfl
  cases hm : wideB ws
  · have HR : Hid (fitB ws n k = false) := by unfold Hid; rw [HF.out, hm]; rfl
    rw [hm] at CW
    clear hm hl
    go_enter Tryd.func29, Tryd.ntmps29
    go_wp2_with (first | (refine wpList_load47 _ rfl _ rfl _ ws rfl LB ?_) | (go_at_call 24; refine Calls.mono (CW _) ?_; rintro e w1 ⟨rfl, hb⟩))
    go_ret
    exact ⟨ret_bool HR.out.symm, below1 hb⟩
  · rw [hm] at CW
    cases hc : comB n
    · have HR : Hid (fitB ws n k = false) := by unfold Hid; rw [HF.out, hm, hc]; rfl
      rw [hc] at CC
      clear hm hl hc
      go_enter Tryd.func29, Tryd.ntmps29
      go_wp2_with (first | (refine wpList_load47 _ rfl _ rfl _ ws rfl LB ?_) | (go_at_call 24; refine Calls.mono (CW _) ?_; rintro e w1 ⟨rfl, hb⟩) | (go_at_call 27; refine Calls.mono (CC _) ?_; rintro e w2 ⟨rfl, hw⟩; rw [hw]; clear hw w2))
      go_ret
      exact ⟨ret_bool HR.out.symm, below1 hb⟩
    · rw [hc] at CC
      have hn : 1 ≤ n ∧ n ≤ 24 := by simpa [comB] using hc
      have HR : Hid (fitB ws n k = decide ((k : Int) = iG ws (n - 1).toNat)) := by unfold Hid; rw [HF.out, hm, hc]; rfl
      obtain ⟨j, hk⟩ : ∃ j : Nat, n = (j : Int) + 1 := ⟨(n - 1).toNat, by omega⟩
      have hj24 : j < 24 := by omega
      have c0 := cell_box w ws 47 j (by omega)
      subst hk
      have HK : Hid (((j : Int) + 1 - 1).toNat = j) := by unfold Hid; omega
      rw [HK.out] at HR
      obtain ⟨v, hv⟩ : ∃ v, v = iG ws j := ⟨_, rfl⟩
      rw [← hv] at HR c0
      clear hm hl hc hn HF hv
      go_enter Tryd.func29, Tryd.ntmps29
      go_wp2_with (first | (refine wpList_load47 _ rfl _ rfl _ ws rfl LB ?_) | (go_at_call 24; refine Calls.mono (CW _) ?_; rintro e w1 ⟨rfl, hb⟩; have c1 : w1.cell? ⟨w.heap.size, j, none⟩ = some (.int .i64 v) := (hb.cell (p := ⟨w.heap.size, j, none⟩) (by simp)).trans c0) | (go_at_call 27; refine Calls.mono (CC _) ?_; rintro e w2 ⟨rfl, hw⟩; rw [hw]; clear hw w2))
      go_ret
      exact ⟨ret_bool (by rw [HR.out]; rfl), below1 hb⟩
end Go.Proofs.YtofobpijkceldaaDoor
