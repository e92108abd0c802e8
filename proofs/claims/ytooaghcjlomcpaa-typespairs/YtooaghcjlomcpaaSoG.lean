/- slices.Grow of nothing, slices.Concat of two rows of ids. -/
import Derived.Test.YtooaghcjlomcpaaSoA
import Derived.Lib.AppendZeros
namespace Go.Proofs.Ytooaghcjlomcpaa
open Go.RowKit Go.Sort

theorem run_append_none {i : TypeInfo} (w : World) (ty : TypeId) (hi : Try.prog.info? 33 = some i) {B : Nat} {v : Value} {n : Nat} {xs : List Value} (h : w.ownsRow B 33 1 v n xs) (c : Nat) :
    (Builtin.append_ #[22, 22] ty #[v, .slice none 0 c]).run Try.prog w = .ok v w := by
  rcases h.2 with ⟨rfl, h0⟩ | ⟨g, cap, cur, rfl, _, hh, h1, _⟩
  · simp [Builtin.append_, run_underlying Try.underlying22, sizeOf, typeInfo, hi, Builtin.lenOf, Builtin.firstCells]
  · simp [Builtin.append_, run_underlying Try.underlying22, sizeOf, typeInfo, hi, Builtin.lenOf, Builtin.firstCells, h1, storeCells]

/-- append(row, row...) where the source may be nil. -/
theorem wpList_append_row {ops : Array Oper} {rest : List Oper} {o : Oper} {a : Act} {Q : Exit → Act → World → Prop} (w : World) (hgd : o.guard = none) (s x : Operand)
    (ho : o.op = .call { callee := .builtin .append, args := #[s, x], argTypes := #[22, 22] }) (B : Nat) (v : Value) (l : List Int) (hs : a.eval s = v) (hown : w.ownsRow B 33 1 v l.length (l.map (Value.int .u64)))
    (p : Option Addr) (m : List Int) (c : Nat) (n : Nat) (hn : n = m.length) (hx : a.eval x = .slice p n c) (hR : Row w p m c) (hl : l.length + m.length ≤ 100) (hB : B ≤ w.heap.size)
    (h : ∀ v' w', w'.ownsRow B 33 1 v' (l ++ m).length ((l ++ m).map (Value.int .u64)) → w.grownBy w' v.ownBlock → wpList Try.prog ops Q rest (a.put o.dst v') w') : wpList Try.prog ops Q (o :: rest) a w := by
  obtain ⟨i0, hi, hz0, hz1, hz2⟩ := info_parts Try.info33
  subst hn
  rcases hR.a with ⟨rfl, rfl, rfl⟩ | ⟨b, off, rfl⟩
  · refine Lib.wpList_append_run w hgd s x 22 22 ho _ _ hs hx v w (run_append_none w _ hi hown 0) (h v w ?_ (World.grownBy.refl _ _))
    simpa using hown
  · by_cases h0 : m.length = 0
    · obtain rfl : m = [] := List.eq_nil_of_length_eq_zero h0
      refine wpList_append_own w hgd s x 22 ho B 33 i0 (.int .u64 0) 1 8 Try.underlying22 hi hz0 hz1 hz2 rfl (by decide) v l.length _ hs hown ⟨b, off, none⟩ 0 c [] hx rfl (fun j u h => by simp at h) (by simp) (by unfold maxLen; simp at hl; omega) (by simp at hl; omega) hB ?_
      intro v' w' h1 h2 _
      exact h v' w' (by simpa using h1) h2
    · obtain ⟨b', off', e, _, hc⟩ := hR.i (by omega)
      cases e
      refine wpList_append_own w hgd s x 22 ho B 33 i0 (.int .u64 0) 1 8 Try.underlying22 hi hz0 hz1 hz2 rfl (by decide) v l.length _ hs hown ⟨b, off, none⟩ m.length c (cellsI .u64 m) hx (cellsI_len _ _) (cellsI_src hc) (cellsI_one _ _) (by unfold maxLen; omega) (by omega) hB ?_
      intro v' w' h1 h2 _
      exact h v' w' (by simpa [cellsI] using h1) h2

set_option maxRecDepth 20000 in
theorem grow74 (n : Nat) (hn : n ≤ 100) (w : World) :
    Calls Try.prog 79 #[.slice none 0 0, .int .i64 n] w fun e w' => ∃ v, e = .returned v ∧ w'.ownsRow w.heap.size 33 1 v 0 [] ∧ Below w.heap.size w w' := by
  obtain ⟨i0, hi, hz0, hz1, hz2⟩ := info_parts Try.info33
  by_cases h0 : n = 0
  · subst h0
    go_enter Try.func79, Try.ntmps79
    go_wp2
    go_ret
    exact ⟨_, rfl, World.ownsRow_nil _ _ _ _, Below.refl _ _⟩
  · have hpos : 0 < n := by omega
    have HR := fun (ty : TypeId) => Lib.run_append_nil_zeros (P := Try.prog) w 22 3 ty 33 i0 (.int .u64 0) .i64 .i64 Try.underlying22 Try.underlying3 hi hz0 n hpos (by rw [hz1]; decide) (by omega) (by rw [hz2]; omega)
    have hge := grownCap_ge w n 0 33
    have hle := grownCap_le_maxLen w n 0 33 (by unfold maxLen; omega)
    have HO := fun (cur : Array Value) (hc : cur.size = grownCap w n 0 33 * 1) => World.ownsRow_made (base := w.heap.size) (e := 33) (size := 1) w.drew cur (grownCap w n 0 33) (Nat.le_refl _) hle hc
    obtain ⟨cp, hcp⟩ : ∃ cp, cp = grownCap w n 0 33 := ⟨_, rfl⟩
    rw [← hcp] at HR HO hge hle
    have HO2 := hidOg (HO (Builtin.zeroCells (Value.int .u64 0).cells n ++ Builtin.zeroCells (Value.int .u64 0).cells (cp - n)) (by rw [Array.size_append, size_zeroCells, size_zeroCells]; show n * 1 + (cp - n) * 1 = cp * 1; omega))
    obtain ⟨w1, hw1⟩ : ∃ w1, w1 = w.drew.alloc (.cells (Builtin.zeroCells (Value.int .u64 0).cells n ++ Builtin.zeroCells (Value.int .u64 0).cells (cp - n)) 33) := ⟨_, rfl⟩
    have HB : Hid (Below w.heap.size w w1) := by rw [hw1]; exact ((Below.refl _ w).drew).alloc (Nat.le_refl _) _
    rw [← hw1] at HR HO2
    unfold maxLen at hle
    clear HO hcp hw1 hi hz0 hz1 hz2
    go_enter Try.func79, Try.ntmps79
    go_wp2_with (first | (at_builtin; refine Lib.wpList_append_run _ rfl _ _ _ _ rfl _ _ rfl rfl _ _ (HR _) ?_))
    go_ret
    exact ⟨_, rfl, HO2.out, HB.out⟩

set_option maxRecDepth 20000 in
set_option maxHeartbeats 4000000 in
theorem concat40 (A : Nat) (p : Option Addr) (a : List Int) (c : Nat) (q : Option Addr) (b : List Int) (d : Nat) (w : World) (hA : A < w.heap.size) (c0 : w.cell? ⟨A, 0, none⟩ = some (.slice p a.length c)) (c1 : w.cell? ⟨A, 1, none⟩ = some (.slice q b.length d)) (ha : Row w p a c) (hb : Row w q b d) (hl : a.length + b.length ≤ 100) :
    Calls Try.prog 40 #[.slice (some ⟨A, 0, none⟩) 2 2] w fun e w' => ∃ r k, e = .returned (.slice r (a ++ b).length k) ∧ OwnR w.heap.size w' r (a ++ b) k ∧ Below w.heap.size w w' := by
  have CG := fun (n : Nat) (hn : n ≤ 100) => grow74 n hn w
  have HC0 := fun (W : World) (hB : Below w.heap.size w W) => (hB.cell (p := ⟨A, 0, none⟩) hA).trans c0
  have HC1 := fun (W : World) (hB : Below w.heap.size w W) => (hB.cell (p := ⟨A, 1, none⟩) hA).trans c1
  obtain ⟨n, hn⟩ : ∃ n, n = a.length := ⟨_, rfl⟩
  obtain ⟨m, hm⟩ : ∃ m, m = b.length := ⟨_, rfl⟩
  have HN := hidOg hn
  have HM := hidOg hm
  have HA := hidOg ha
  have HB := hidOg hb
  have HL := hidOg hl
  rw [← hn, ← hm] at hl
  rw [← hn] at c0 HC0
  rw [← hm] at c1 HC1
  clear hn hm ha hb
  go_enter Try.func40, Try.ntmps40
  go_wp2
  go_loop [3, 11] (fun s i => (s = .int .i64 0 ∧ i = .int .i64 0) ∨ (s = .int .i64 n ∧ i = .int .i64 1) ∨ (s = .int .i64 ((n : Int) + m) ∧ i = .int .i64 2)) (fun _ i => 2 - (intOf i).toNat)
  case atStart => exact .inl ⟨rfl, rfl⟩
  case round =>
    rcases hrel with ⟨rfl, rfl⟩ | ⟨rfl, rfl⟩ | ⟨rfl, rfl⟩
    · go_wp2
      go_round
      case rel => exact .inr (.inl ⟨by go_num, rfl⟩)
      case measure => simp [intOf]
    · go_wp2
      go_round
      case rel => exact .inr (.inr ⟨by go_num, rfl⟩)
      case measure => simp [intOf]
    · go_wp2_with (first | (go_at_call 79; refine Calls.mono (CG (n + m) hl) ?_; rintro e w1 ⟨v, rfl, ho, hb1⟩; have HO1 := hidOg ho; have HB1 := hidOg hb1; clear ho hb1))
      clear CG c0 c1
      go_loopw [6, 27] (fun o i wr => Below w.heap.size w wr ∧ ((i = .int .i64 0 ∧ wr.ownsRow w.heap.size 33 1 o 0 []) ∨ (i = .int .i64 1 ∧ wr.ownsRow w.heap.size 33 1 o a.length (a.map (Value.int .u64))) ∨ (i = .int .i64 2 ∧ wr.ownsRow w.heap.size 33 1 o (a ++ b).length ((a ++ b).map (Value.int .u64))))) (fun _ i _ => 2 - (intOf i).toNat)
      case atStart => exact ⟨HB1.out, .inl ⟨rfl, HO1.out⟩⟩
      case round =>
        obtain ⟨hb2, hh⟩ := hrel
        have HB2 := hidOg hb2
        rcases hh with ⟨rfl, ho⟩ | ⟨rfl, ho⟩ | ⟨rfl, ho⟩
        · have c0 := HC0 _ hb2
          have HO := hidOg ho
          clear hb2 ho HC0 HC1
          go_wp2_with (first | (at_builtin; refine wpList_append_row _ rfl _ _ rfl w.heap.size _ [] rfl HO.out p a c n HN.out rfl (HA.out.to HB2.out) (by have := HL.out; simp; omega) HB2.out.size ?_; intro v6 w6 hown6 hgrow6))
          go_roundw
          case rel => exact ⟨HB2.out.grown hgrow6 HB2.out.size (fun j hj => own_ge HO.out hj), .inr (.inl ⟨rfl, hown6⟩)⟩
          case measure => simp [intOf]
        · have c1 := HC1 _ hb2
          have HO := hidOg ho
          clear hb2 ho HC0 HC1
          go_wp2_with (first | (at_builtin; refine wpList_append_row _ rfl _ _ rfl w.heap.size _ a rfl HO.out q b d m HM.out rfl (HB.out.to HB2.out) HL.out HB2.out.size ?_; intro v6 w6 hown6 hgrow6))
          go_roundw
          case rel => exact ⟨HB2.out.grown hgrow6 HB2.out.size (fun j hj => own_ge HO.out hj), .inr (.inr ⟨rfl, hown6⟩)⟩
          case measure => simp [intOf]
        · have HO := hidOg ho
          clear hb2 ho HC0 HC1
          go_wp2
          go_ret
          obtain ⟨r, k, rfl, _⟩ := irow_owns HO.out
          exact ⟨r, k, rfl, ⟨HO.out, by have := HL.out; simp; omega⟩, HB2.out⟩
end Go.Proofs.Ytooaghcjlomcpaa
