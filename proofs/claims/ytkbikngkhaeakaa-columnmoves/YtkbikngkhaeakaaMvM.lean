/- ColumnMoves: three boxes, what is written over, what Push and Move come to. -/
import Derived.Test.YtkbikngkhaeakaaRwM
import Derived.Test.YtkbikngkhaeakaaThM
import Derived.Test.YtkbikngkhaeakaaCoN
namespace Go.Proofs.Ytkbikngkhaeakaa
open Go.RowKit

/-- Three boxes that a law's arguments lie in. -/
structure Tr (w W : World) (x y z x' y' z' u v : Value) : Prop where
  a : W.heap[w.heap.size]? = some (.cells #[x, y, z] 24 (0, 0))
  r : W.heap[w.heap.size + 1]? = some (.cells #[x', y', z'] 24 (0, 0))
  t : W.heap[w.heap.size + 2]? = some (.cells #[u, v] 52 (0, 0))
  b : Below w.heap.size w W
theorem Tr.start (w : World) (x y z x' y' z' u v : Value) : Tr w (((w.alloc (.cells #[x, y, z] 24)).alloc (.cells #[x', y', z'] 24)).alloc (.cells #[u, v] 52)) x y z x' y' z' u v := by
  obtain ⟨h1, h2, h3⟩ := al3 w (.cells #[x, y, z] 24) (.cells #[x', y', z'] 24) (.cells #[u, v] 52)
  exact ⟨h1, h2, h3, (((Below.refl _ _).alloc (Nat.le_refl _) _).alloc (by simp) _).alloc (by simp; omega) _⟩
section
variable {w W W' : World} {x y z x' y' z' u v : Value}
theorem Tr.below (h : Tr w W x y z x' y' z' u v) (hb : Below W.heap.size W W') : Tr w W' x y z x' y' z' u v :=
  ⟨atW hb h.a, atW hb h.r, atW hb h.t, h.b.trans (hb.mono h.b.size)⟩
theorem Tr.alloc (h : Tr w W x y z x' y' z' u v) (o : Obj) : Tr w (W.alloc o) x y z x' y' z' u v := h.below ((Below.refl _ _).alloc (Nat.le_refl _) _)
theorem Tr.drew (h : Tr w W x y z x' y' z' u v) : Tr w W.drew x y z x' y' z' u v := h.below (Below.refl _ _).drew
theorem Tr.set3 (h : Tr w W x y z x' y' z' u v) {A : Nat} {a b c : Value} (hA : w.heap.size + 2 < A) : Tr w (((W.setCell ⟨A, 0, none⟩ a).setCell ⟨A, 1, none⟩ b).setCell ⟨A, 2, none⟩ c) x y z x' y' z' u v :=
  ⟨(set3_other (by omega)).trans h.a, (set3_other (by omega)).trans h.r, (set3_other (by omega)).trans h.t, below_set3 h.b (by omega) a b c⟩
theorem Tr.s8 (h : Tr w W x y z x' y' z' u v) : W.cell? ⟨w.heap.size, 0, none⟩ = some x ∧ W.cell? ⟨w.heap.size, 1, none⟩ = some y ∧ W.cell? ⟨w.heap.size, 2, none⟩ = some z ∧ W.cell? ⟨w.heap.size + 1, 0, none⟩ = some x' ∧ W.cell? ⟨w.heap.size + 1, 1, none⟩ = some y' ∧ W.cell? ⟨w.heap.size + 1, 2, none⟩ = some z' ∧ W.cell? ⟨w.heap.size + 2, 0, none⟩ = some u ∧ W.cell? ⟨w.heap.size + 2, 1, none⟩ = some v := by
  obtain ⟨a0, a1, a2, _, _⟩ := cells3 h.a
  obtain ⟨b0, b1, b2, _, _⟩ := cells3 h.r
  have ht := h.t
  exact ⟨a0, a1, a2, b0, b1, b2, by simp [World.cell?, ht], by simp [World.cell?, ht]⟩
end
/-- A box is no block of a row's. -/
theorem OwnR.nobox {B K : Nat} {W : World} {q : Option Addr} {l : List Int} {c : Nat} {cs : Array Value} (h : OwnR B W q l c) (hK : W.heap[K]? = some (.cells cs 24 (0, 0))) : ∀ a, q = some a → a.block ≠ K := by
  intro a ha
  rcases h.o.2 with ⟨e, _⟩ | ⟨G, cap, cur, e, hG, hh, _⟩
  · rw [ha] at e; injection e with e1; cases e1
  · rw [ha] at e
    injection e with e1
    injection e1 with e1
    subst e1
    intro hk
    simp only at hk
    subst hk
    rw [hh] at hK
    injection hK with hK
    injection hK with _ h2
    cases h2
theorem RV.box3 {B K : Nat} {X : List RR} {W : World} {q : Option Addr} {c : Nat} {cs : Array Value} (h : RV B X q c W) (hK : W.heap[K]? = some (.cells cs 24 (0, 0))) (x y z : Value) : RV B X q c (((W.setCell ⟨K, 0, none⟩ x).setCell ⟨K, 1, none⟩ y).setCell ⟨K, 2, none⟩ z) := by
  have hne : ∀ a, q = some a → a.block ≠ K := by
    intro a ha
    rcases h.o.2 with ⟨e, _⟩ | ⟨G, cap, cur, e, hG, hh, _⟩
    · rw [ha] at e; injection e with e1; cases e1
    · rw [ha] at e
      injection e with e1
      injection e1 with e1
      subst e1
      intro hk
      simp only at hk
      subst hk
      rw [hh] at hK
      injection hK with hK
      injection hK with _ h2
      cases h2
  exact ⟨owns_setCell (owns_setCell (owns_setCell h.o (a := ⟨K, 0, none⟩) hne x) (a := ⟨K, 1, none⟩) hne y) (a := ⟨K, 2, none⟩) hne z, fun e he => (h.t e he).box3 hK x y z⟩
/-- All blocks but a row's own are as they were. -/
def KeR (q : Option Addr) (w w' : World) : Prop := ∀ k, k < w.heap.size → (∀ a, q = some a → a.block ≠ k) → w'.heap[k]? = w.heap[k]?
theorem OwnR.ker {B : Nat} {w w' : World} {q p : Option Addr} {l : List Int} {c : Nat} (h : OwnR B w p l c) (hk : KeR q w w') (ha : Apart q p) : OwnR B w' p l c := by
  refine ⟨⟨h.o.1, ?_⟩, h.n⟩
  rcases h.o.2 with hn | ⟨G, cap, cur, e, hG, hh, rest⟩
  · exact .inl hn
  · refine .inr ⟨G, cap, cur, e, hG, ?_, rest⟩
    injection e with e1
    rw [hk G (Array.getElem?_eq_some_iff.1 hh).1 (fun a hq => ha a _ hq e1)]
    exact hh
set_option maxRecDepth 20000 in
theorem spoil26k (wd rs : Int) (p : Option Addr) (l : List Int) (c B : Nat) (w : World) (h : OwnR B w p l c) (hB : B ≤ w.heap.size) :
    Calls Try.prog 26 #[.agg #[.int .i64 wd, .int .i64 rs, .slice p l.length c]] w fun e w' => e = .returned (.tuple #[]) ∧ Below B w w' ∧ KeR p w w' := by
  have hlt := h.lt
  have hln := h.n
  obtain ⟨n, hn⟩ : ∃ n, n = l.length := ⟨_, rfl⟩
  have h1 : OwnR B (w.alloc (.cells #[.int .i64 wd, .int .i64 rs, .slice p l.length c] 24)) p l c := h.to (bal _ _)
  have hx := heap_alloc_new w (.cells #[.int .i64 wd, .int .i64 rs, .slice p l.length c] 24)
  have hb1 : Below B w (w.alloc (.cells #[.int .i64 wd, .int .i64 rs, .slice p l.length c] 24)) := (Below.refl _ _).alloc hB _
  rw [← hn] at hln h1 hx hb1 ⊢
  have HI : Hid (∃ l', l'.length = n ∧ OwnR B (w.alloc (.cells #[.int .i64 wd, .int .i64 rs, .slice p n c] 24)) p l' c ∧ (w.alloc (.cells #[.int .i64 wd, .int .i64 rs, .slice p n c] 24)).heap[w.heap.size]? = some (.cells #[.int .i64 wd, .int .i64 rs, .slice p n c] 24 (0, 0)) ∧ Below B w (w.alloc (.cells #[.int .i64 wd, .int .i64 rs, .slice p n c] 24)) ∧ KeR p w (w.alloc (.cells #[.int .i64 wd, .int .i64 rs, .slice p n c] 24))) := ⟨l, hn.symm, h1, hx, hb1, fun k hk _ => heap_alloc_old hk⟩
  have HLT : Hid (∀ a, p = some a → a.block < w.heap.size) := hlt
  clear h h1 hx hb1 hn hlt
  go_enter Try.func26, Try.ntmps26
  go_wp2
  go_loopw [6] (fun i wr => ∃ j : Nat, j ≤ n ∧ i = .int .i64 j ∧ ∃ l', l'.length = n ∧ OwnR B wr p l' c ∧ wr.heap[w.heap.size]? = some (.cells #[.int .i64 wd, .int .i64 rs, .slice p n c] 24 (0, 0)) ∧ Below B w wr ∧ KeR p w wr) (fun i _ => n - (intOf i).toNat)
  case atStart => exact ⟨0, Nat.zero_le _, rfl, HI.out⟩
  case round =>
    obtain ⟨j, hj, rfl, l', hl', ho, hx, hb, hke⟩ := hrel
    obtain ⟨x0, x1, x2, _⟩ := heap3_cell hx
    have HX := hidOg hx
    have HL := hidOg hl'
    have HB := hidOg hb
    have HKE := hidOg hke
    clear HI hx hl' hb hke
    by_cases hlt : j < n
    · obtain ⟨G, rfl, c0, f0, hs⟩ := ho.set (k := j) (by rw [HL.out]; exact hlt)
      have HS := hidOg hs
      clear hs ho
      go_wp2
      go_roundw
      case rel =>
        obtain ⟨h1, h2⟩ := HS.out _
        refine ⟨j + 1, by omega, by go_num, _, by rw [List.length_set]; exact HL.out, h1, ?_, ?_, fun k hk hne => ?_⟩
        · have hne : w.heap.size ≠ G := fun e => by have := HLT.out _ rfl; simp at this; omega
          exact (h2.block w.heap.size (Array.getElem?_eq_some_iff.1 HX.out).1 (by simp; omega)).trans HX.out
        · exact grown_bel HB.out (fun a ha => h1.fr a ha) (Nat.le_trans hB HB.out.size) h2
        · have h3 := hne _ rfl
          simp only at h3
          exact (h2.block k (Nat.lt_of_lt_of_le hk HB.out.size) (by simp; omega)).trans (HKE.out k hk hne)
      case measure => simp [intOf]; omega
    · obtain rfl : n = j := by omega
      go_wp2
      go_end0
      exact ⟨rfl, HB.out, HKE.out⟩
theorem pA_no {wd rs : Int} {L : List Int} (h : mayB wd rs L.length = false) (V : List RR) : pA wd rs L V = (zC, 180) := by
  unfold pA; rw [h]; rfl
theorem pA_fit {W R : Nat} {L : List Int} {V : List RR} (h : mayB (W : Int) (R : Int) L.length = true) (hR : R ≤ 200) (hn : V.length ≤ 8) (hv : ∀ k, k < V.length → (rL V k).length = W) : pA (W : Int) (R : Int) L V = (((W : Int), ((R + V.length : Nat) : Int), L ++ (lS V).flatten), 0) := by
  unfold pA pshA
  rw [h]
  simp only [Int.toNat_natCast]
  have e1 : fitB (W : Int) V = true := by unfold fitB; rw [decide_eq_true_iff]; exact fun k hk => by rw [hv k hk]
  have e2 : roomB (R : Int) V.length = true := by unfold roomB; rw [decide_eq_true_iff]; omega
  rw [e1, e2]
  rfl
theorem pA_unfit {W R : Nat} {L : List Int} {V : List RR} (h : mayB (W : Int) (R : Int) L.length = true) (hv : ¬ ∀ k, k < V.length → (rL V k).length = W) : pA (W : Int) (R : Int) L V = (zC, 140) := by
  unfold pA pshA
  rw [h]
  simp only [Int.toNat_natCast]
  have e1 : fitB (W : Int) V = false := by
    unfold fitB; rw [decide_eq_false_iff_not]; exact fun h => hv fun k hk => by exact_mod_cast h k hk
  rw [e1]
  rfl
theorem mA_no {wd rs : Int} {L : List Int} {wd2 rs2 : Int} {L2 : List Int} {row : Int} (h : (mayB wd rs L.length && mayB wd2 rs2 L2.length) = false) : mA wd rs L wd2 rs2 L2 row = (zC, zC, 180) := by
  unfold mA; rw [h]; rfl
theorem mA_out {W R W2 R2 : Nat} {L L2 : List Int} {row : Int} (h : (mayB (W : Int) (R : Int) L.length && mayB (W2 : Int) (R2 : Int) L2.length) = true) (hr : ¬ (0 ≤ row ∧ row < (R : Int) ∧ W = W2)) : mA (W : Int) (R : Int) L (W2 : Int) (R2 : Int) L2 row = (zC, zC, 2) := by
  unfold mA mvA
  rw [h]
  simp only [Int.toNat_natCast]
  have e1 : (hasB (R : Int) row && decide (W = W2)) = false := by
    rw [Bool.eq_false_iff]
    intro e
    rw [Bool.and_eq_true, decide_eq_true_iff] at e
    obtain ⟨e1, e2⟩ := e
    have := hasB_t e1
    exact hr ⟨this.1, this.2, e2⟩
  rw [e1]
  rfl
theorem mA_in {W R R2 r : Nat} {L L2 : List Int} (h1 : mayB (W : Int) (R : Int) L.length = true) (h2 : mayB (W : Int) (R2 : Int) L2.length = true) (hR2 : R2 ≤ 200) (hr : r < R) : mA (W : Int) (R : Int) L (W : Int) (R2 : Int) L2 (r : Int) = (((W : Int), ((R - 1 : Nat) : Int), (swO (chK W R L) r).flatten), ((W : Int), ((R2 + 1 : Nat) : Int), L2 ++ (chK W R L)[r]'(by rw [chK_len]; exact hr)), 0) := by
  unfold mA mvA
  rw [h1, h2]
  simp only [Int.toNat_natCast, has_nat hr, Bool.and_self, decide_true, if_true]
  have e2 : roomB (R2 : Int) 1 = true := by unfold roomB; rw [decide_eq_true_iff]; omega
  rw [e2, if_pos rfl, wdK_row, chK_at _ _ hr]
/-- All rows of a column, and rows behind them, laid out. -/
theorem flat_more {W R : Nat} {L : List Int} (hl : L.length = W * R) (V : List (List Int)) : (chK W R L ++ V).flatten = L ++ V.flatten := by rw [List.flatten_append, flat_chK hl]
theorem RV.al {B : Nat} {X : List RR} {q : Option Addr} {c : Nat} {W : World} (h : RV B X q c W) (o : Obj) : RV B X q c (W.alloc o) := h.to (bal _ _)
theorem same2 (a b : Int) (M : List Int) (hM : M.length ≤ 1099511627776) (q : Option Addr) (k : Nat) (q' : Option Addr) (k' : Nat) (X : World) (h1 : IRow .u64 X.heap.size X q M) (h2 : IRow .u64 X.heap.size X q' M) : Calls Try.prog 14 #[.agg #[.int .i64 a, .int .i64 b, .slice q M.length k], .agg #[.int .i64 a, .int .i64 b, .slice q' M.length k']] X fun e w' => e = .returned (.bool true) ∧ Below X.heap.size X w' := by
  have := refSame14 a b q M k a b q' M k' X h1 h2 hM
  rw [samC_refl] at this
  exact this
theorem flat_le {m : Nat} : ∀ {rows : List (List Int)}, (∀ r ∈ rows, r.length ≤ m) → rows.flatten.length ≤ rows.length * m
  | [], _ => by simp
  | r :: rs, h => by
    have h1 := h r (by simp)
    have h2 := flat_le (m := m) (rows := rs) fun x hx => h x (by simp [hx])
    rw [List.flatten_cons, List.length_append, List.length_cons, Nat.succ_mul]
    omega
theorem arr_cell {X Y : World} {v : Value} (hb : Below (X.alloc (.cells #[v] 38)).heap.size (X.alloc (.cells #[v] 38)) Y) : Y.cell? ⟨X.heap.size, 0, none⟩ = some v :=
  (hb.cell (p := ⟨X.heap.size, 0, none⟩) (by rw [World.size_alloc]; exact Nat.lt_succ_self _)).trans (cell1_heap (heap_alloc_new X _))
theorem cell_on {X Y : World} {a : Addr} {v : Value} (hb : Below X.heap.size X Y) (h : X.cell? a = some v) : Y.cell? a = some v :=
  (hb.cell (p := a) (World.block_lt_of_cell? X a h)).trans h
/-- An append at a step of a region that draws its order, whose run is known. -/
theorem step_app {P : Program} (w : World) {ops : Array Oper} {o : Oper} {a : Act} {K : Act → World → Prop} {Q : Exit → Act → World → Prop} {E : Prop} (hgd : o.guard = none) (s x : Operand) (t : TypeId)
    (ho : o.op = .call { callee := .builtin .append, args := #[s, x], argTypes := #[t, t] }) (vs vx : Value) (hs : a.eval s = vs) (hx : a.eval x = vx) (ty : TypeId) (hty : o.type = ty) (v' : Value) (w' : World) (hr : (Builtin.append_ #[t, t] ty #[vs, vx]).run P w = .ok v' w')
    (h : K (a.put o.dst v') w') : if Region.wanted o (yielded ops a.tmps) = true then Oper.wp P o a w K Q else E := by
  subst hty
  have hw : Region.wanted o (yielded ops a.tmps) = true := by simp [Region.wanted, hgd]
  rw [if_pos hw]
  unfold Oper.wp execOp
  simp only [ho, resolve, invoke, builtin, Sem.run_bind, Sem.run_pure, Result.andThen_ok, List.map_toArray, List.map_cons, List.map_nil, hs, hx, hr]
  exact h
/-- Do the first k rows have that many words? -/
def FitK (X : List RR) (W k : Nat) : Prop := ∀ j, j < k → (rL X j).length = W
def Gk (X : List RR) (W : Nat) (Rn : Int) (Mw : List Int) (k : Nat) (no : Value) (a b : Int) (M : List Int) : Prop := (FitK X W k ∧ no = .int .i64 0 ∧ a = (W : Int) ∧ b = Rn ∧ M = Mw) ∨ (¬ FitK X W k ∧ no = .int .i64 140 ∧ a = 0 ∧ b = 0 ∧ M = [])
section
variable {X : List RR} {W : Nat} {Rn : Int} {Mw : List Int} {k : Nat} {no : Value} {a b : Int} {M : List Int}
theorem Gk.start : Gk X W Rn Mw 0 (.int .i64 0) (W : Int) Rn Mw := .inl ⟨fun j h => by omega, rfl, rfl, rfl, rfl⟩
theorem FitK.succ (h : (rL X k).length = W) : FitK X W (k + 1) ↔ FitK X W k :=
  ⟨fun g j hj => g j (by omega), fun g j hj => by
    by_cases e : j = k
    · subst e; exact h
    · exact g j (by omega)⟩
theorem Gk.eq (h : Gk X W Rn Mw k no a b M) (he : (rL X k).length = W) : Gk X W Rn Mw (k + 1) no a b M := by
  unfold Gk at h ⊢
  rw [FitK.succ he]; exact h
theorem Gk.ne (he : ¬ (rL X k).length = W) : Gk X W Rn Mw (k + 1) (.int .i64 140) 0 0 [] := .inr ⟨fun g => he (g k (by omega)), rfl, rfl, rfl, rfl⟩
theorem Gk.fin {R : Nat} {L M1 : List Int} {x1 x2 e1 : Int} (h : Gk X W ((R + X.length : Nat) : Int) (L ++ (lS X).flatten) X.length no a b M) (hm : mayB (W : Int) (R : Int) L.length = true) (hR : R ≤ 200) (hn : X.length ≤ 8) (hp : ((x1, x2, M1), e1) = pA (W : Int) (R : Int) L X) : no = .int .i64 e1 ∧ a = x1 ∧ b = x2 ∧ M = M1 := by
  rcases h with ⟨hf, rfl, rfl, rfl, rfl⟩ | ⟨hf, rfl, rfl, rfl, rfl⟩
  · rw [pA_fit hm hR hn hf] at hp
    cases hp
    exact ⟨rfl, rfl, rfl, rfl⟩
  · rw [pA_unfit hm hf] at hp
    cases hp
    exact ⟨rfl, rfl, rfl, rfl⟩
end
theorem bdq {w1 w2 : World} {o : Obj} (hb : Below (w1.drew.alloc o).heap.size (w1.drew.alloc o) w2) : Below w1.heap.size w1 w2 := bd0 (be1 hb)
/-- A row's words stay where only a row of rows grows. -/
theorem OwnR.ker2 {B B' : Nat} {Z W' : World} {p q : Option Addr} {l : List Int} {c c' : Nat} {ZZ : List RR} (h : OwnR B Z p l c) (hg : Z.grownBy W' (q.map (·.block)) ∧ RV B' ZZ q c' Z) : OwnR B W' p l c := h.hdr hg.2.o hg.1
theorem arr_cellq {X Y : World} {v : Value} (hb : Below (X.drew.alloc (.cells #[v] 38)).heap.size (X.drew.alloc (.cells #[v] 38)) Y) : Y.cell? ⟨X.heap.size, 0, none⟩ = some v := arr_cell (X := X.drew) hb
end Go.Proofs.Ytkbikngkhaeakaa
