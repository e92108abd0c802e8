/- put, Zero and the document's; the parts of a text; words, and what it hands back. -/
import Derived.Test.YtofobpijkceldaaDoorVaE
import Derived.Test.YtofobpijkceldaaDoorVaH
import Derived.Lib.AppendZeros
namespace Go.Proofs.YtofobpijkceldaaDoor
open Go.RowKit Go.Shelf
attribute [local go_sem] Oper.semAt_some

theorem append_25 (w : World) (ty : TypeId) (b : Option Addr) (n c : Nat) (x : Value) : (Builtin.append_ #[26, 25] ty #[.slice b n c, x]).run Tryd.prog w = (Builtin.append_ #[26, 26] ty #[.slice b n c, x]).run Tryd.prog w := by
  simp [Builtin.append_, run_underlying Tryd.underlying25, run_underlying Tryd.underlying26]
theorem put35 (B : Nat) (v : Value) (l m : List Int) (ad : Addr) (c : Nat) (w : World) (hown : w.ownsRow B 33 1 v l.length (l.map (Value.int .u64)))
    (hm : ∀ j u, (cellsI .u64 m)[j]? = some u → w.cell? (ad.add j) = some u) (hl : l.length + m.length ≤ 1000) (hB : B ≤ w.heap.size) :
    Calls Tryd.prog 35 #[v, .slice (some ad) m.length c] w fun e w' => ∃ v', e = .returned v' ∧ w'.ownsRow B 33 1 v' (l ++ m).length ((l ++ m).map (Value.int .u64)) ∧ w.grownBy w' v.ownBlock := by
  obtain ⟨i0, hi, hz0, hz1, hz2⟩ := info_parts Tryd.info33
  have hr := fun ty => run_append_own (P := Tryd.prog) w B 26 ty 33 i0 (.int .u64 0) 1 8 Tryd.underlying26 hi hz0 hz1 hz2 rfl (by decide) v l.length _ hown ad m.length c (cellsI .u64 m) (cellsI_len _ _) hm (cellsI_one _ _) (by unfold maxLen; omega) (by omega) hB
  obtain ⟨v', w', h1, h2, h3, _⟩ := hr 26
  have hsl : ∃ b nn cc, v = Value.slice b nn cc := by rcases hown.2 with ⟨rfl, _⟩ | ⟨g, cap, _, rfl, _⟩ <;> exact ⟨_, _, _, rfl⟩
  have h1' : (Builtin.append_ #[26, 25] 26 #[v, .slice (some ad) m.length c]).run Tryd.prog w = .ok v' w' := by
    obtain ⟨b, nn, cc, rfl⟩ := hsl
    rw [append_25]; exact h1
  have HO : Hid (w'.ownsRow B 33 1 v' (l ++ m).length ((l ++ m).map (Value.int .u64))) := by unfold Hid; simpa [cellsI] using h2
  have HG := hidOg h3
  clear hown hm hr h1 h2 h3 hsl
  go_enter Tryd.func35, Tryd.ntmps35
  go_wp2_with (first | (at_builtin; refine Lib.wpList_append_run _ rfl _ _ 26 25 rfl _ _ rfl rfl v' w' h1' ?_))
  go_ret
  exact ⟨v', rfl, HO.out, HG.out⟩

def zerL (n : Int) : List Int := if isW n then List.replicate n.toNat 0 else []
def zerE (n : Int) : Int := if isW n then 0 else 2
theorem zero_no (n : Int) (w : World) (h : isW n = false) :
    Calls Tryd.prog 18 #[.int .i64 n] w fun e w' => e = .returned (.tuple #[.slice none 0 0, .int .i64 2]) ∧ Below w.heap.size w w' := by
  have CC := fun (W : World) => isWidth34 n W
  rw [h] at CC
  clear h
  go_enter Tryd.func18, Tryd.ntmps18
  go_wp2_with (first | (go_at_call 34; refine Calls.mono (CC _) ?_; rintro e w1 ⟨rfl, hw⟩; rw [hw]; clear hw w1))
  go_ret2
  exact ⟨rfl, Below.refl _ _⟩
theorem zero_yes (k : Nat) (hk : k ≤ 4) (w : World) :
    Calls Tryd.prog 18 #[.int .i64 k] w fun e w' => ∃ v, e = .returned (.tuple #[v, .int .i64 0]) ∧ w'.ownsRow w.heap.size 33 1 v k ((List.replicate k 0).map (Value.int .u64)) ∧ Below w.heap.size w w' := by
  have CC := fun (W : World) => isWidth34 (k : Int) W
  have h : isW (k : Int) = true := by unfold isW; rw [decide_eq_true (by omega), decide_eq_true (by omega)]; rfl
  rw [h] at CC
  have H := hidOg (show ∀ j u, (cellsI .u64 (List.replicate k 0))[j]? = some u → (w.alloc (.cells #[.int .u64 0, .int .u64 0, .int .u64 0, .int .u64 0] 60)).cell? ((⟨w.heap.size, 0, none⟩ : Addr).add j) = some u from fun j u hj => by
    have hlt : j < k := by have := (List.getElem?_eq_some_iff.1 hj).1; simpa [cellsI] using this
    rw [addr_add, World.cell?_alloc_at _ _ _ _ rfl]
    simp [cellsI, hlt] at hj
    rcases (show j = 0 ∨ j = 1 ∨ j = 2 ∨ j = 3 by omega) with rfl | rfl | rfl | rfl <;> simpa using hj)
  have k0 : (0 : Int) ≤ (k : Int) := by omega
  have k4 : (k : Int) ≤ 4 := by omega
  have HC : Hid (∀ W : World, (∀ j u, (cellsI .u64 (List.replicate k 0))[j]? = some u → W.cell? ((⟨w.heap.size, 0, none⟩ : Addr).add j) = some u) → w.heap.size ≤ W.heap.size → Calls Tryd.prog 35 #[.slice none 0 0, .slice (some ⟨w.heap.size, 0, none⟩) k 4] W fun e w' => ∃ v', e = .returned v' ∧ w'.ownsRow w.heap.size 33 1 v' k ((List.replicate k 0).map (Value.int .u64)) ∧ W.grownBy w' none) := by
    intro W h1 h2
    have := put35 w.heap.size (.slice none 0 0) [] (List.replicate k 0) ⟨w.heap.size, 0, none⟩ 4 W (World.ownsRow_nil _ _ _ _) h1 (by simp; omega) h2
    simpa [Value.ownBlock] using this
  clear h
  go_enter Tryd.func18, Tryd.ntmps18
  go_wp2_with (first | (go_at_call 34; refine Calls.mono (CC _) ?_; rintro e w1 ⟨rfl, hw⟩; rw [hw]; clear hw w1) | (go_at_call 35; refine Calls.mono (HC.out _ H.out (by simp)) ?_; rintro e w1 ⟨v, rfl, ho, hg⟩))
  go_ret2
  refine ⟨v, rfl, ho, ((Below.refl _ w).alloc (Nat.le_refl _) _).grown hg (by simp) (fun k e => by cases e)⟩

/-- Zero. -/
theorem zero18 (n : Int) (w : World) :
    Calls Tryd.prog 18 #[.int .i64 n] w fun e w' => ∃ p c, e = .returned (.tuple #[.slice p (zerL n).length c, .int .i64 (zerE n)]) ∧ OwnR w.heap.size w' p (zerL n) c ∧ Below w.heap.size w w' := by
  cases h : isW n
  · have e1 : zerL n = [] := by unfold zerL; rw [h]; rfl
    have e2 : zerE n = 2 := by unfold zerE; rw [h]; rfl
    rw [e1, e2]
    refine Calls.mono (zero_no n w h) ?_
    rintro e w' ⟨rfl, hb⟩
    exact ⟨none, 0, rfl, OwnR.nil _ _, hb⟩
  · obtain ⟨h0, h4⟩ := isW_t h
    have e1 : zerL n = List.replicate n.toNat 0 := by unfold zerL; rw [h]; rfl
    have e2 : zerE n = 0 := by unfold zerE; rw [h]; rfl
    rw [e1, e2]
    obtain ⟨k, rfl⟩ : ∃ k : Nat, n = (k : Int) := ⟨n.toNat, by omega⟩
    refine Calls.mono (zero_yes k (by omega) w) ?_
    rintro e w' ⟨v, rfl, ho, hb⟩
    have el : (List.replicate (k : Int).toNat (0 : Int)) = List.replicate k 0 := by simp
    rw [el]
    have ho' : w'.ownsRow w.heap.size 33 1 v (List.replicate k (0 : Int)).length ((List.replicate k (0 : Int)).map (Value.int .u64)) := by rw [List.length_replicate]; exact ho
    obtain ⟨p, c, rfl, _⟩ := irow_owns ho'
    exact ⟨p, c, rfl, ⟨ho', by simp; omega⟩, hb⟩
theorem made_zeros (k : Nat) (hk : k ≤ 4) : (madeCells (Value.int .u64 0).cells (k * 1)).toList = (List.replicate k (0 : Int)).map (Value.int .u64) := by
  rcases (show k = 0 ∨ k = 1 ∨ k = 2 ∨ k = 3 ∨ k = 4 by omega) with rfl | rfl | rfl | rfl | rfl <;> simp [madeCells, Value.cells, List.range_succ]
set_option maxRecDepth 20000 in
theorem refZero19 (n : Int) (w : World) (h : isW n = true) :
    Calls Tryd.prog 19 #[.int .i64 n] w fun e w' => ∃ p c, e = .returned (.slice p (zerL n).length c) ∧ OwnR w.heap.size w' p (zerL n) c ∧ Below w.heap.size w w' := by
  obtain ⟨h0, h4⟩ := isW_t h
  have e1 : zerL n = List.replicate n.toNat 0 := by unfold zerL; rw [h]; rfl
  rw [e1]
  obtain ⟨k, rfl⟩ : ∃ k : Nat, n = (k : Int) := ⟨n.toNat, by omega⟩
  have el : (List.replicate (k : Int).toNat (0 : Int)) = List.replicate k 0 := by simp
  rw [el]
  obtain ⟨i0, hi, hz0, hz1, hz2⟩ := info_parts Tryd.info33
  have hk : k ≤ 4 := by omega
  clear h h0 h4 e1 el
  go_enter Tryd.func19, Tryd.ntmps19
  go_wp2_with (first | (at_make; refine wpList_make_full _ rfl _ _ 26 rfl w.heap.size 33 i0 (.int .u64 0) 1 Tryd.underlying26 hi hz0 hz1 .i64 .i64 _ _ k rfl rfl rfl rfl (by rw [hz2]; omega) (by unfold maxLen; omega) (by simp) ?_; intro w1 hown hgrow))
  go_ret
  rw [made_zeros k hk] at hown
  have ho' : w1.ownsRow w.heap.size 33 1 (.slice (some ⟨w.heap.size, 0, none⟩) (List.replicate k (0 : Int)).length k) (List.replicate k (0 : Int)).length ((List.replicate k (0 : Int)).map (Value.int .u64)) := by rw [List.length_replicate]; exact hown
  exact ⟨some ⟨w.heap.size, 0, none⟩, k, by rw [List.length_replicate]; rfl, ⟨ho', by simp; omega⟩, (Below.refl _ _).grown hgrow (Nat.le_refl _) (fun k e => by cases e)⟩

/-- The parts of a text. -/
def prts (l : List UInt8) : List (List UInt8) := ahd l :: if _h : hasC l = true then prts (bhd l) else []
termination_by l.length
decreasing_by have := (ix_yes l _h).2; unfold bhd; simp; omega
theorem prts_no {l : List UInt8} (h : hasC l = false) : prts l = [ahd l] := by rw [prts]; simp [h]
theorem prts_yes {l : List UInt8} (h : hasC l = true) : prts l = ahd l :: prts (bhd l) := by rw [prts]; simp [h]
theorem bhd_len (l : List UInt8) : (bhd l).length ≤ l.length := by unfold bhd; simp

theorem words38 (s : ByteArray) (w : World) :
    Calls Tryd.prog 38 #[.string s] w fun e w' => e = .returned (.func (.func 43) #[] #[.pointer (some ⟨w.heap.size, 0, none⟩)]) ∧ w' = w.alloc (.cells #[.string s] 9) := by
  go_enter Tryd.func38, Tryd.ntmps38
  go_wp2
  go_ret
  exact ⟨rfl, rfl⟩
abbrev encP (x : List UInt8) : Array Value := #[.int .u64 (wordV x), .bool (okW x)]

set_option maxRecDepth 100000 in
set_option maxHeartbeats 2000000 in
theorem words1_43 (n : Nat) (hn : 1 ≤ n) (yl Bl n₀ : Nat) (s : ByteArray) (hlen : s.size < 1152921504606846976) (J Jx : List (List UInt8) → World → Prop)
    (hY : ∀ pre x W, J pre W → pre.length < (prts (bL s)).length → YieldAt Fence.wide (n - 1) Tryd.prog yl (encP x) W fun e W' =>
      (e = .returned (.bool true) ∧ J (pre ++ [x]) W' ∧ Below n₀ W W') ∨ (e = .returned (.bool false) ∧ Jx (pre ++ [x]) W'))
    (W : World) (hJ : AbidesFrom W.heap.size J) (hn₀ : n₀ ≤ W.heap.size) (hBl : W.cell? ⟨Bl, 0, none⟩ = some (.string s))
    (h0 : J [] W) :
    CallsIn Fence.wide n Tryd.prog 43 #[.func (.yield yl) #[] #[], .pointer (some ⟨Bl, 0, none⟩)] W fun e W' => (∃ v, e = .returned v) ∧
      ((∃ ys, ys = prts (bL s) ∧ J ys W') ∨ (∃ pre, pre <+: prts (bL s) ∧ Jx pre W')) := by
  refine callsIn_of_wp Tryd.func43 rfl trivial ?_ rfl
  simp only [Tryd.ntmps43, List.size_toArray, List.length_cons, List.length_nil, Nat.reduceAdd, Nat.reduceSub, Array.replicate_succ, Array.replicate_zero, List.push_toArray, List.append_toArray, List.nil_append, List.cons_append]
  have h44 : Fence.wide.fn 44 := trivial
  have h45 : Fence.wide.fn 45 := trivial
  gi_wp2
  gi_loopw [3, 4] (fun ur um wr => ∃ (t : ByteArray) (pre : List (List UInt8)) (b : Bool), ur = .string t ∧ um = .bool b ∧ t.size ≤ s.size ∧ (prts (bL s) = pre ++ if b then prts (bL t) else []) ∧ J pre wr ∧ Below n₀ W wr)
    (fun ur um _ => match ur, um with | .string t, .bool b => if b then t.size + 1 else 0 | _, _ => 0)
  case atStart => exact ⟨s, [], true, rfl, rfl, Nat.le_refl _, by simp, h0, Below.refl _ _⟩
  case round =>
    obtain ⟨t, pre, b, rfl, rfl, ht, hpre, hJs, hnx⟩ := hrel
    have hsz := hnx.size
    have HJ := hidOg hJs
    have HX := hidOg hnx
    have HP := hidOg hpre
    clear hJs hnx h0 hpre
    cases b
    · gi_wp2
      go_end0
      exact ⟨⟨_, rfl⟩, .inl ⟨_, (by have := HP.out; simp at this; exact this.symm), HJ.out⟩⟩
    · obtain ⟨A, hA⟩ : ∃ A, A = ahd (bL t) := ⟨_, rfl⟩
      obtain ⟨T, hT⟩ : ∃ T, T = bA (bhd (bL t)) := ⟨_, rfl⟩
      obtain ⟨b, hb⟩ : ∃ b, b = hasC (bL t) := ⟨_, rfl⟩
      have CC := cut44 t wr (by omega)
      rw [← hA, ← hT, ← hb] at CC
      have CW := fun (W : World) => word45 (bA A) W
      rw [bL_bA] at CW
      have hP : prts (bL s) = (pre ++ [A]) ++ if b then prts (bL T) else [] := by
        rw [HP.out, hA, hT, hb, bL_bA]
        cases h : hasC (bL t)
        · simp [prts_no h]
        · simp [prts_yes h]
      have hTs : T.size ≤ t.size := by rw [hT, ← bL_len, bL_bA, ← bL_len]; exact bhd_len _
      have hTm : b = true → T.size < t.size := fun h => by
        have h1 := (ix_yes _ (hb ▸ h)).2
        rw [hT, ← bL_len, bL_bA, ← bL_len t]; unfold bhd; simp only [List.length_drop]; omega
      have HP2 := hidOg hP
      have HTs := hidOg (Nat.le_trans hTs ht)
      have HTm := hidOg hTm
      have HLn : Hid (pre.length < (prts (bL s)).length) := by unfold Hid; rw [hP]; simp
      have HLt := hidOg ht
      clear hA hT hb hP hTs hTm HP ht
      gi_wp2_with (first | (gi_at_call 44; refine (callsIn_wide.2 CC).mono ?_; rintro e w1 ⟨rfl, hb1⟩) | (gi_at_call 45; refine (callsIn_wide.2 (CW _)).mono ?_; rintro e w2 ⟨rfl, hb2⟩; have hb12 := hidOg (hb1.trans (hb2.mono hb1.size)); obtain ⟨fn, tmps, assign, body, hy, hR⟩ := hY pre A w2 (hJ _ _ w2 none HJ.out (grown_of_below hb12.out) (fun r e => by cases e)) HLn.out))
      refine hR.mono ?_
      rintro e W3 (⟨rfl, hJ3, hk3⟩ | ⟨rfl, hJx3⟩)
      · gi_wp2
        go_roundw
        case rel => exact ⟨T, pre ++ [A], b, rfl, rfl, HTs.out, HP2.out, hJ3, (HX.out.trans (hb12.out.mono (by omega))).trans hk3⟩
        case measure => have := HTm.out; cases b <;> simp at this ⊢; omega
      · gi_wp2
        refine bodyPost_ret (results_none rfl _ _ _) rfl ?_
        exact ⟨⟨_, rfl⟩, .inr ⟨_, (by rw [HP2.out]; exact List.prefix_append _ _), hJx3⟩⟩
theorem words_stops (n : Nat) (hn : 1 ≤ n) (Bl n₀ : Nat) (s : ByteArray) (hlen : s.size < 1152921504606846976) (w : World) (hn₀ : n₀ ≤ w.heap.size)
    (hBl : w.cell? ⟨Bl, 0, none⟩ = some (.string s)) (lBl : Bl < w.heap.size) :
    SeqStopsK Fence.wide n Tryd.prog 43 #[.pointer (some ⟨Bl, 0, none⟩)] encP (Below n₀) (fun ys => ys = prts (bL s)) (fun pre => pre <+: prts (bL s)) (prts (bL s)).length w := fun yl J Jx W hW hJ _ hY h0 =>
  words1_43 n hn yl Bl n₀ s hlen J Jx (fun pre x W hj hl => hY pre x W hj hl) W hJ (Nat.le_trans hn₀ hW.size) ((hW.cell (p := ⟨Bl, 0, none⟩) lBl).trans hBl) h0
end Go.Proofs.YtofobpijkceldaaDoor
