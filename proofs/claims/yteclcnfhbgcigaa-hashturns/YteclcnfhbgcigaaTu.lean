/- HashTurns: its walk. -/
import Derived.Test.YteclcnfhbgcigaaLa
import Derived.Maps.OwnSet
namespace Go.Proofs.Yteclcnfhbgcigaa
open Go.RowKit Go.Maps

theorem keyInt : Keyed Try.prog 3 := int_keyed Try.underlying3
theorem zeroB (w : World) : (zeroValue 4).run Try.prog w = .ok (.bool false) w := by kernel_rfl
theorem wfI {x : Nat} (h1 : x ≤ 1000) : (Lit.int .i64 (x : Int)).wf = true := by
  have a : IntKind.i64.min = -9223372036854775808 := by decide
  have b : IntKind.i64.max = 9223372036854775807 := by decide
  simp [Lit.wf, a, b]; omega
theorem keyLit (x : Int) : WideAt.IsKeyLit (.int .i64 x) := by simp [WideAt.IsKeyLit]
theorem plain_bool {P : Program} {e : TypeId} (he : P.underlying e = some .bool) {v : Value} {y : Bool} {ps : List MemPlace} (h : plainElem (H := Unit) P e v = some (.lit (.bool y), ps)) : v = .bool y := by
  unfold plainElem at h
  rw [he] at h
  cases v <;> simp at h
  rw [h.1]
/-- Block b is a map whose keys are the slots of the first k turns. -/
def MetT (W : World) (b a m k : Nat) : Prop := ∃ D : DataW Unit, W.ownsMap Try.prog 3 (plainElem Try.prog 4) b k D ∧ Maps.size D = k ∧ ∀ x : Nat, Maps.has D (.int .i64 (x : Int)) = true → ∃ j, j < k ∧ x = (a + j) % m
theorem met_new (W : World) (a m : Nat) : MetT (W.alloc (.map #[] 0)) W.heap.size a m 0 := ⟨_, World.ownsMap_made W _ _ _, rfl, fun x h => by cases h⟩
theorem MetT.lt {W : World} {b a m k : Nat} (h : MetT W b a m k) : b < W.heap.size := by obtain ⟨D, ho, _⟩ := h; exact ho.lt
theorem MetT.len {W : World} {b a m k : Nat} (h : MetT W b a m k) (ty : TypeId) : (Builtin.len_ #[41] ty #[.map (some b)]).run Try.prog W = .ok (.int .i64 (k : Int)) W := by
  obtain ⟨D, ho, hs, _⟩ := h
  have := ho.len Try.underlying41 ty
  rw [hs] at this; exact this
theorem met_not {a m k : Nat} {D : DataW Unit} (hD : ∀ x : Nat, Maps.has D (.int .i64 (x : Int)) = true → ∃ j, j < k ∧ x = (a + j) % m) (hk : k < m) : Maps.has D (.int .i64 (((a + k) % m : Nat) : Int)) = false := by
  cases h : Maps.has D (.int .i64 (((a + k) % m : Nat) : Int)) with
  | false => rfl
  | true =>
    obtain ⟨j, hj, e⟩ := hD _ h
    exact absurd e.symm (turns_inj hj hk)
theorem MetT.look {W : World} {b a m k : Nat} (h : MetT W b a m k) (hk : k < m) (hm : m ≤ 300) : (Instr.lookup 41 (.map (some b)) (.int .i64 (((a + k) % m : Nat) : Int)) false).run Try.prog W = .ok (.bool false) W := by
  obtain ⟨D, ho, _, hD⟩ := h
  have hx : (a + k) % m ≤ 1000 := by have := Nat.mod_lt (a + k) (show m > 0 by omega); omega
  obtain ⟨v, ps, hrun, hv⟩ := ho.lookup keyInt Try.underlying41 (zeroB _) (plainElem_bool Try.underlying4 false) (keyOf_int_mk Try.underlying3 (wfI hx))
  rw [atKey_of_not_has (met_not hD hk)] at hv
  rw [plain_bool Try.underlying4 hv] at hrun; exact hrun
theorem MetT.put {W : World} {b a m k : Nat} (h : MetT W b a m k) (hk : k < m) (hm : m ≤ 300) :
    ∃ W', (Instr.mapUpdate 41 (.map (some b)) (.int .i64 (((a + k) % m : Nat) : Int)) (.bool true)).run Try.prog W = .ok () W' ∧ MetT W' b a m (k + 1) ∧ W.grownBy W' (some b) := by
  obtain ⟨D, ho, hs, hD⟩ := h
  have hx : (a + k) % m ≤ 1000 := by have := Nat.mod_lt (a + k) (show m > 0 by omega); omega
  obtain ⟨W', hrun, ho', hg⟩ := ho.update keyInt Try.underlying41 (by unfold maxLen; omega) (keyOf_int_mk Try.underlying3 (wfI hx)) (plainElem_bool Try.underlying4 true)
  refine ⟨W', hrun, ⟨_, ho', ?_, fun y hy => ?_⟩, hg⟩
  · rw [size_put (ho.tidy keyInt), met_not hD hk, hs]; rfl
  · by_cases e : y = (a + k) % m
    · exact ⟨k, by omega, e⟩
    · rw [has_put_other (by intro h'; simp only [Lit.int.injEq, true_and, Int.natCast_inj] at h'; exact e h')] at hy
      obtain ⟨j, hj, ej⟩ := hD y hy
      exact ⟨j, by omega, ej⟩
theorem MetT.to {W W' : World} {b a m k : Nat} (h : MetT W b a m k) (hb : Below W.heap.size W W') : MetT W' b a m k := by
  obtain ⟨D, ho, r⟩ := h
  exact ⟨D, ho.kept (row := none) ⟨hb.os, hb.tape, hb.output, hb.size, fun j hj _ => hb.block j hj⟩ (by simp), r⟩
/-- The slot of the turn ahead. -/
def lasT (a m k : Nat) : Nat := if k = 0 then a else (a + (k - 1)) % m
theorem lasT_next {a m k : Nat} (hk : 0 < k) : (lasT a m k + 1) % m = (a + k) % m := by
  unfold lasT
  rw [if_neg (by omega)]
  have := turns_next a m (k - 1)
  rw [show k - 1 + 1 = k by omega] at this
  exact this.symm
theorem lasT_succ (a m k : Nat) : lasT a m (k + 1) = (a + k) % m := by unfold lasT; rw [if_neg (by omega)]; rfl
theorem many_of (v : Int) : ∃ U M : Nat, IntKind.u64.wrap v = (U : Int) ∧ 1 + (U : Int) % 300 = (M : Int) ∧ 1 ≤ M ∧ M ≤ 300 := by
  have h := wrap_u64_nonneg v
  refine ⟨(IntKind.u64.wrap v).toNat, 1 + (IntKind.u64.wrap v).toNat % 300, by omega, by omega, by omega, by omega⟩

set_option maxHeartbeats 2000000 in
set_option maxRecDepth 20000 in
theorem turns_walk (h : Nat) (v : Int) (w : World) :
    Calls Try.prog 7 #[.int .u64 (h : Int), .int .i64 v] w fun e w' => e = .returned (.bool true) ∧ Below w.heap.size w w' := by
  obtain ⟨U, M, eU, eM, h1, h300⟩ := many_of v
  have CS := fun (W : World) => slot_ok h M h1 (by omega) W
  have CP := fun (t : Nat) (ht : t ≤ 1000) (W : World) => probe_ok h M t h1 (by omega) (by omega) W
  have ha : h % M < M := Nat.mod_lt _ h1
  obtain ⟨a, ea⟩ : ∃ a, a = h % M := ⟨_, rfl⟩
  rw [← ea] at CS CP ha
  clear ea
  have hmm := @run_makeMap Try.prog
  go_enter Try.func7, Try.ntmps7
  go_wp2_with (first
    | (go_at_call 8; refine Calls.mono (wakes8 _) ?_; rintro e w1 ⟨rfl, hb1⟩)
    | (go_at_call 15; refine Calls.mono (CS _) ?_; rintro e w2 ⟨rfl, hw⟩; rw [hw]; clear hw w2))
  have hM0 := met_new w1 a M
  have hB0 : Below w.heap.size w (w1.alloc (.map #[] 0)) := hb1.alloc hb1.size _
  have hsz1 := hb1.size
  clear hb1
  obtain ⟨B, hB⟩ : ∃ B, B = w1.heap.size := ⟨_, rfl⟩
  rw [← hB] at hM0 hsz1 ⊢
  obtain ⟨wA, hwA⟩ : ∃ wA, wA = w1.alloc (.map #[] 0) := ⟨_, rfl⟩
  rw [← hwA] at hM0 hB0 ⊢
  clear hB hwA hmm eU
  go_loopw [6, 31] (fun l i wr => ∃ k : Nat, k ≤ M ∧ i = .int .i64 k ∧ l = .int .i64 (lasT a M k : Nat) ∧ MetT wr B a M k ∧ Below w.heap.size w wr) (fun _ i _ => M - (intOf i).toNat)
  case atStart => exact ⟨0, Nat.zero_le _, rfl, rfl, hM0, hB0⟩
  case round =>
    clear hM0 hB0
    obtain ⟨k, hk, rfl, rfl, hmet, hnx⟩ := hrel
    have HX := hidOg hnx
    clear hnx
    by_cases hlt : k < M
    · have L1 := hmet.look hlt h300
      obtain ⟨W', P1, hmet', hg⟩ := hmet.put hlt h300
      have C1 := CP k (by omega)
      have hr : (a + k) % M < M := Nat.mod_lt _ h1
      have HN := hidOg (lasT_succ a M k)
      have HB : Hid (Below w.heap.size w W') := HX.out.grown hg HX.out.size (fun j hj => by cases hj; exact hsz1)
      have HM := hidOg hmet'
      have En := fun h0 => lasT_next (a := a) (m := M) (k := k) h0
      by_cases h0 : k = 0
      · subst h0
        have e0 : lasT a M 0 = a := rfl
        have e1 : (a + 0) % M = a := Nat.mod_eq_of_lt ha
        rw [e1] at L1 P1 C1 hr HN
        clear CP CS hmet hmet' hg En e1 HX
        rw [e0]
        clear e0
        go_wp2_with (first | (go_at_call 16; refine Calls.mono (C1 _) ?_; rintro e w2 ⟨rfl, hw⟩; rw [hw]; clear hw w2))
        go_roundw
        case rel => exact ⟨1, by omega, by go_num, by rw [HN.out], HM.out, HB.out⟩
        case measure => simp [intOf]; omega
      · have e0 := En (by omega)
        obtain ⟨q, hq⟩ : ∃ q, q = lasT a M k := ⟨_, rfl⟩
        obtain ⟨r, hr'⟩ : ∃ r, r = (a + k) % M := ⟨_, rfl⟩
        have hq3 : lasT a M k < M := by unfold lasT; split <;> first | omega | exact Nat.mod_lt _ h1
        rw [← hr'] at L1 P1 C1 hr HN e0
        rw [← hq] at e0 hq3
        rw [← hq]
        have e2 : ((q : Int) + 1) % (M : Int) = (r : Int) := by rw [← e0]; simp
        clear CP CS hmet hmet' hg En e0 HX hq hr'
        go_wp2_with (first | (go_at_call 16; refine Calls.mono (C1 _) ?_; rintro e w2 ⟨rfl, hw⟩; rw [hw]; clear hw w2))
        go_roundw
        case rel => exact ⟨k + 1, by omega, by go_num, by rw [HN.out], HM.out, HB.out⟩
        case measure => simp [intOf]; omega
    · obtain rfl : k = M := by omega
      have C1 := CP k (by omega)
      have e1 : (a + k) % k = a := by rw [Nat.add_mod_right]; exact Nat.mod_eq_of_lt ha
      rw [e1] at C1
      have LL := hmet.len
      clear CP e1 hmet
      go_wp2_with (first | (go_at_call 16; refine Calls.mono (C1 _) ?_; rintro e w2 ⟨rfl, hw⟩; rw [hw]; clear hw w2) | (go_at_call 15; refine Calls.mono (CS _) ?_; rintro e w2 ⟨rfl, hw⟩; rw [hw]; clear hw w2))
      go_ret
      exact ⟨rfl, HX.out⟩
end Go.Proofs.Yteclcnfhbgcigaa
