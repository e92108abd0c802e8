/- AllocTakes: the document's Give where it gives. -/
import Derived.Test.YtaglhajlgnjhcaaDoorTkU
import Derived.Deep.CutRange
namespace Go.Proofs.YtaglhajlgnjhcaaDoor
open Go.RowKit

theorem run_append_nil {P : Program} {t e ty : TypeId} {i : TypeInfo} (w : World) (ht : P.underlying t = some (.slice e)) (hi : P.info? e = some i) {B size n : Nat} {v : Value} {xs : List Value} (h : w.ownsRow B e size v n xs) (c : Nat) :
    (Builtin.append_ #[t, t] ty #[v, .slice none 0 c]).run P w = .ok v w := by
  rcases h.2 with ⟨rfl, h0⟩ | ⟨g, cap, cur, rfl, _, hh, h1, _⟩
  · simp [Builtin.append_, run_underlying ht, sizeOf, typeInfo, hi, Builtin.lenOf, Builtin.firstCells]
  · simp [Builtin.append_, run_underlying ht, sizeOf, typeInfo, hi, Builtin.lenOf, Builtin.firstCells, h1, storeCells]
/-- An append of a row of numbers, or of none, at a step of a region that draws its order. -/
theorem step_append_ints (w : World) {ops : Array Oper} {o : Oper} {a : Act} {K : Act → World → Prop} {Q : Exit → Act → World → Prop} {E : Prop} (hgd : o.guard = none) (s x : Operand)
    (ho : o.op = .call { callee := .builtin .append, args := #[s, x], argTypes := #[23, 23] })
    (base : Nat) (v : Value) (hs : a.eval s = v) (hown : w.ownsRow base 3 1 v 0 [])
    (q : Option Addr) (f : List Int) (d : Nat) (n : Nat) (hn : n = f.length) (hx : a.eval x = .slice q n d) (hq : AdOk q) (hI : IRow .i64 w.heap.size w q f)
    (hf : f.length ≤ 8796093022208) (hbase : base ≤ w.heap.size)
    (h : ∀ v' w', w'.ownsRow base 3 1 v' f.length (cellsI .i64 f) → w.grownBy w' v.ownBlock → K (a.put o.dst v') w') :
    if Region.wanted o (yielded ops a.tmps) = true then Oper.wp Tryd.prog o a w K Q else E := by
  subst hn
  obtain ⟨i3, hi3, hz30, hz31, hz32⟩ := info_parts Tryd.info3
  rcases hq with rfl | ⟨b, off, rfl⟩
  · have h0 : f = [] := by
      cases f with
      | nil => rfl
      | cons z t => obtain ⟨b, off, hh, _⟩ := hI (by simp); cases hh
    subst h0
    have hw : Region.wanted o (yielded ops a.tmps) = true := by simp [Region.wanted, hgd]
    rw [if_pos hw]
    have hr := run_append_nil (ty := o.type) w Tryd.underlying23 hi3 hown d
    unfold Oper.wp execOp
    simp only [ho, resolve, invoke, builtin, Sem.run_bind, Sem.run_pure, Result.andThen_ok, List.map_toArray, List.map_cons, List.map_nil, hs, hx]
    have hr' : (Builtin.append_ #[23, 23] o.type #[v, .slice none 0 d]).run Tryd.prog w = .ok v w := hr
    simp only [List.length_nil] at *
    rw [hr']
    exact h v w (by simpa [cellsI] using hown) (World.grownBy.refl _ _)
  · by_cases h0 : f.length = 0
    · obtain rfl : f = [] := List.eq_nil_of_length_eq_zero h0
      refine step_append_any w hgd s x 23 ho base 3 i3 (.int .i64 0) 1 8 Tryd.underlying23 hi3 hz30 hz31 hz32 rfl (by decide) v 0 [] hs hown ⟨b, off, none⟩ 0 d [] hx rfl (fun j u h => by simp at h) (by simp) (by unfold maxLen; omega) (by omega) hbase ?_
      intro v' w' h1 h2
      exact h v' w' (by simpa [cellsI] using h1) h2
    · obtain ⟨b', off', e, _, hc⟩ := hI (by omega)
      cases e
      refine step_append_any w hgd s x 23 ho base 3 i3 (.int .i64 0) 1 8 Tryd.underlying23 hi3 hz30 hz31 hz32 rfl (by decide) v 0 [] hs hown ⟨b, off, none⟩ f.length d (cellsI .i64 f) hx (cellsI_len _ _) (cellsI_src hc) (cellsI_one _ _) (by unfold maxLen; omega) (by omega) hbase ?_
      intro v' w' h1 h2
      exact h v' w' (by simpa using h1) h2

theorem docF_le (l : List (Int × Bool)) (ids : List Int) : ∀ k, (docF l ids k).length ≤ k
  | 0 => by simp [docF]
  | k + 1 => by
    have := docF_le l ids k
    unfold docF; rw [List.length_append]; split <;> simp <;> omega
theorem made2 {W : World} {base : Nat} (o : Obj) (h : base ≤ W.heap.size) : (((W.alloc (.cells #[] 3)).alloc o).drew).ownsRow base 3 1 (.slice (some ⟨W.heap.size, 0, none⟩) 0 0) 0 [] := by
  have h1 := World.ownsRow_made (base := base) (e := 3) (size := 1) W #[] 0 h (by unfold maxLen; omega) (by simp)
  exact h1.alloc o
theorem bel2d (W : World) (a b : Obj) : Below W.heap.size W (((W.alloc a).alloc b).drew) := (bel2 W a b).drew
theorem base_le2 {w : World} {o o' : Obj} {a : Nat} (h : a ≤ w.heap.size) : a ≤ (((w.alloc o).alloc o').drew).heap.size := by show a ≤ ((w.alloc o).alloc o').heap.size; rw [World.size_alloc, World.size_alloc]; omega
theorem step_keep3 {W w5 : World} {o b : Obj} (hg : (((W.alloc o).alloc b).drew).grownBy w5 (some W.heap.size)) : Below W.heap.size W w5 ∧ w5.heap[W.heap.size + 1]? = some b := by
  refine ⟨(bel2d W o b).grown hg (base_le2 (Nat.le_refl _)) (fun k hk => by cases hk; exact Nat.le_refl _), ?_⟩
  have e : (((W.alloc o).alloc b).drew).heap[W.heap.size + 1]? = some b := heap_at (W := W.alloc o) (by simp)
  exact keepB hg e (by simp)
theorem made3 {W : World} {base : Nat} (o : Obj) (h : base ≤ W.heap.size) : (((W.alloc o).alloc (.cells #[] 3)).drew).ownsRow base 3 1 (.slice (some ⟨W.heap.size + 1, 0, none⟩) 0 0) 0 [] := by
  have h1 := World.ownsRow_made (base := base) (e := 3) (size := 1) (W.alloc o) #[] 0 (by simp; omega) (by unfold maxLen; omega) (by simp)
  rw [World.size_alloc] at h1
  exact h1
theorem step_keep4 {W w5 : World} {o b : Obj} (hg : (((W.alloc b).alloc o).drew).grownBy w5 (some (W.heap.size + 1))) : Below W.heap.size W w5 ∧ w5.heap[W.heap.size]? = some b := by
  refine ⟨(bel2d W b o).grown hg (base_le2 (Nat.le_refl _)) (fun k hk => by cases hk; exact Nat.le_succ _), ?_⟩
  have e : (((W.alloc b).alloc o).drew).heap[W.heap.size]? = some b := by
    show ((W.alloc b).alloc o).heap[W.heap.size]? = some b
    rw [heap_alloc_old (by simp)]; exact heap_at rfl
  exact keepB hg e (by simp)
theorem set3_own {W : World} {B base : Nat} {e : TypeId} {size n : Nat} {v : Value} {xs : List Value} (h : W.ownsRow base e size v n xs) (hne : v.ownBlock ≠ some B) (x y z : Value) : (((W.setCell ⟨B, 0, none⟩ x).setCell ⟨B, 1, none⟩ y).setCell ⟨B, 2, none⟩ z).ownsRow base e size v n xs :=
  ((h.kept (grow_set _ _ _ _) (.inr hne)).kept (grow_set _ _ _ _) (.inr hne)).kept (grow_set _ _ _ _) (.inr hne)
theorem set3_oth {W : World} {B k : Nat} {x y z : Value} (h : k ≠ B) : (((W.setCell ⟨B, 0, none⟩ x).setCell ⟨B, 1, none⟩ y).setCell ⟨B, 2, none⟩ z).heap[k]? = W.heap[k]? := by
  rw [heap_setCell_other _ _ _ _ (by simpa using h), heap_setCell_other _ _ _ _ (by simpa using h), heap_setCell_other _ _ _ _ (by simpa using h)]
theorem g3_a {w w1 w5 : World} {x y z : Value} {m : Int} {v : Value} {f : List Int} (hg : Gi w w1 x y z) (hb : Below w1.heap.size w1 w5) (ho : w5.ownsRow (w.heap.size + 2) 3 1 v f.length (cellsI .i64 f)) (hz : w.heap.size + 2 ≤ w1.heap.size) : G3 w (w5.alloc (.cells #[.int .i64 m, .slice none 0 0, v] 25)) w5.heap.size x y z m (.slice none 0 0) [] v f := by
  have h5 := hg.to hb
  have hB : Below w5.heap.size w5 (w5.alloc (.cells #[.int .i64 m, .slice none 0 0, v] 25)) := (Below.refl _ _).alloc (Nat.le_refl _) _
  have h6 := h5.to hB
  exact ⟨h6.a, h6.r, heap_at rfl, World.ownsRow_nil _ _ _ _, ho.alloc _, h6.b, Nat.le_trans hz hb.size⟩
theorem g3_b {w w1 w5 : World} {x y z : Value} {m : Int} {v : Value} {f : List Int} {B : Nat} (hg : Gi w w1 x y z) (hb : Below w1.heap.size w1 w5) (ho : w5.ownsRow (w.heap.size + 2) 3 1 v f.length (cellsI .i64 f)) (hz : w.heap.size + 2 ≤ B) (hx : w5.heap[B]? = some (.cells #[.int .i64 0, .slice none 0 0, .slice none 0 0] 25 (0, 0))) : G3 w (((w5.setCell ⟨B, 0, none⟩ (.int .i64 m)).setCell ⟨B, 1, none⟩ (.slice none 0 0)).setCell ⟨B, 2, none⟩ v) B x y z m (.slice none 0 0) [] v f := by
  have h5 := hg.to hb
  refine ⟨?_, ?_, set3_heap hx, World.ownsRow_nil _ _ _ _, set3_own ho (own_ne ho hx (by decide)) _ _ _, below_set3 h5.b (by omega) _ _ _, hz⟩
  · rw [set3_oth (by omega)]; exact h5.a
  · rw [set3_oth (by omega)]; exact h5.r
theorem src_one3b (W : World) (o : Obj) (v : Value) : ∀ j u, ([v] : List Value)[j]? = some u → ((W.alloc o).alloc (.cells #[v] 3)).cell? ((⟨W.heap.size + 1, 0, none⟩ : Addr).add j) = some u := by
  have := src_one3 (W.alloc o) v; rw [World.size_alloc] at this; exact this
theorem src_one61b (W : World) (o : Obj) (a b : Value) : ∀ j u, ([a, b] : List Value)[j]? = some u → ((W.alloc o).alloc (.cells #[a, b] 61)).cell? ((⟨W.heap.size + 1, 0, none⟩ : Addr).add j) = some u := by
  have := src_one61 (W.alloc o) a b; rw [World.size_alloc] at this; exact this
section
variable {w W W' : World} {g : Nat} {x y z : Value} {m : Int} {vS : Value} {xs : List (Int × Bool)} {vF : Value} {ys : List Int}
theorem G3.outS (h : G3 w W g x y z m vS xs vF ys) (hg : W.grownBy W' vS.ownBlock) : W'.heap[g]? = some (.cells #[.int .i64 m, vS, vF] 25 (0, 0)) := keepB hg h.o (own_ne h.s h.o (by decide))
theorem G3.outF (h : G3 w W g x y z m vS xs vF ys) (hg : W.grownBy W' vF.ownBlock) : W'.heap[g]? = some (.cells #[.int .i64 m, vS, vF] 25 (0, 0)) := keepB hg h.o (own_ne h.f h.o (by decide))
theorem G3.base (h : G3 w W g x y z m vS xs vF ys) : w.heap.size + 2 ≤ W.heap.size := by
  have := (Array.getElem?_eq_some_iff.1 h.r).1; omega
theorem G3.newS (h : G3 w W g x y z m vS xs vF ys) {W1 : World} (hb : Below W.heap.size W W1) (hg : W1.grownBy W' vS.ownBlock) {v' : Value} {gn : Int} {al : Bool} (ho : W'.ownsRow (w.heap.size + 2) 61 2 v' (xs.length + 1) (cellsS xs ++ [.int .i64 gn, .bool al])) : G3 w (W'.setCell ⟨g, 1, none⟩ v') g x y z m v' (xs ++ [(gn, al)]) vF ys :=
  (h.to hb).setS hg (by rw [List.length_append, cellsS_snoc]; exact ho)
theorem G3.newF (h : G3 w W g x y z m vS xs vF ys) {W1 : World} (hb : Below W.heap.size W W1) (hg : W1.grownBy W' vF.ownBlock) {v' : Value} {n : Int} (ho : W'.ownsRow (w.heap.size + 2) 3 1 v' (ys.length + 1) (cellsI .i64 ys ++ [.int .i64 n])) : G3 w (W'.setCell ⟨g, 2, none⟩ v') g x y z m vS xs v' (ys ++ [n]) :=
  (h.to hb).setF hg (by rw [List.length_append, cellsI_snoc]; exact ho)
/-- The slot's own box stays, while the row of the free ones grows. -/
theorem G3.sbox (h : G3 w W g x y z m vS xs vF ys) {a b : Value} {o : Obj} (hg : (((W.alloc (.cells #[a, b] 61)).alloc o)).grownBy W' vF.ownBlock) (v' : Value) : (W'.setCell ⟨g, 2, none⟩ v').cell? ⟨W.heap.size, 0, none⟩ = some a ∧ (W'.setCell ⟨g, 2, none⟩ v').cell? ⟨W.heap.size, 1, none⟩ = some b := by
  have e : ((W.alloc (.cells #[a, b] 61)).alloc o).heap[W.heap.size]? = some (.cells #[a, b] 61 (0, 0)) := by rw [heap_alloc_old (by simp)]; exact heap_at rfl
  have hgs := (Array.getElem?_eq_some_iff.1 h.o).1
  have e2 := keepB hg e (fun he => by have := (h.f.lt _ he).2; omega)
  have e3 : (W'.setCell ⟨g, 2, none⟩ v').heap[W.heap.size]? = some (.cells #[a, b] 61 (0, 0)) := by rw [heap_setCell_other _ _ _ _ (by simp; omega)]; exact e2
  exact ⟨by simp [World.cell?, e3], by simp [World.cell?, e3]⟩
theorem alloc_cells61 (W : World) (a b : Value) : (W.alloc (.cells #[a, b] 61)).cell? ⟨W.heap.size, 0, none⟩ = some a ∧ (W.alloc (.cells #[a, b] 61)).cell? ⟨W.heap.size, 1, none⟩ = some b := by
  refine ⟨?_, ?_⟩ <;> (rw [World.cell?_alloc_at _ _ _ _ rfl]; rfl)
end
theorem ne_h {a b : Nat} (h : a < b) : b ≠ a := by omega
theorem ne_g {a b : Nat} (h : a < b) : b + 1 ≠ a := by omega
theorem base_le {w : World} {o : Obj} {a : Nat} (h : a ≤ w.heap.size) : a ≤ ((w.alloc o).drew).heap.size := by show a ≤ (w.alloc o).heap.size; rw [World.size_alloc]; exact Nat.le_succ_of_le h
theorem step_keep2 {W w5 : World} {o : Obj} (hg : ((W.alloc o).drew).grownBy w5 (some W.heap.size)) : Below W.heap.size W w5 := step_keep (o := o) hg
set_option maxRecDepth 20000 in
set_option maxHeartbeats 4000000 in
theorem refGive_ok (m : Int) (c d : Nat) (qi : Option Addr) (ids : List Int) (ci : Nat) (w : World) (p : Option Addr) (l : List (Int × Bool)) (q : Option Addr) (f : List Int) (CI : ∀ (x : Int) (W : World), AIn W p l q f → Calls Tryd.prog 23 #[.agg #[.int .i64 m, .slice p l.length c, .slice q f.length d], .int .u64 x] W fun e w' => e = .returned (.bool (isB l x)) ∧ Below W.heap.size W w') (h : AIn w p l q f) (hq : AdOk q) (hI : IRow .u64 w.heap.size w qi ids) (hn : ids.length ≤ 40) (hci : ids.length ≤ ci) (hll : l.length ≤ 40) (hfl : f.length ≤ 40) (hg : ∀ k, k < l.length → 0 ≤ sG l k ∧ sG l k ≤ 7) (hent : ∀ k : Nat, k < l.length → entV ((k : Int) + 1) (sG l k) = (k : Int) + 1 + sG l k * 4294967296) (hall : ∀ j, j < ids.length → isB l (iG ids j) = true) (hok : ∀ j, j < ids.length → badAt ids j = false) :
    Calls Tryd.prog 30 #[.agg #[.int .i64 m, .slice p l.length c, .slice q f.length d], .slice qi ids.length ci] w fun e w' => ∃ vS vF, e = .returned (.tuple #[.agg #[.int .i64 m, vS, vF], .int .i64 0]) ∧ w'.ownsRow (w.heap.size + 2) 61 2 vS (docS l ids l.length).length (cellsS (docS l ids l.length)) ∧ w'.ownsRow (w.heap.size + 2) 3 1 vF (f ++ docF l ids l.length).length (cellsI .i64 (f ++ docF l ids l.length)) ∧ Below w.heap.size w w' := by
  obtain ⟨n, hn'⟩ : ∃ n, n = ids.length := ⟨_, rfl⟩
  have HN := hidOv hn'
  have HD := hidOv hok
  have HNI := hidOv hn
  have HI := hidOv hI
  have HH := hidOv h
  have HA := hidOv hall
  have HG0 := hidOv hg
  have HFL := hidOv hfl
  have HLL := hidOv hll
  have HQ := hidOv hq
  have HG := hidOv (gi_start w (.int .i64 m) (.slice p l.length c) (.slice q f.length d))
  rw [← hn'] at hn hci ⊢
  clear h hI hok hn' hall hg hfl hq hll
  go_enter Tryd.func30, Tryd.ntmps30
  go_wp2
  go_loopw [15] (fun i wr => ∃ k : Nat, k ≤ n ∧ i = .int .i64 k ∧ Gi w wr (.int .i64 m) (.slice p l.length c) (.slice q f.length d)) (fun i _ => n - (intOf i).toNat)
  case atStart => exact ⟨0, Nat.zero_le _, rfl, HG.out⟩
  case round =>
    obtain ⟨k, hk, rfl, hg⟩ := hrel
    have HGr := hidOv hg
    clear hg HG
    by_cases hlt : k < n
    · obtain ⟨b, off, rfl, hbB, hcs⟩ := (HI.out.below HGr.out.b (Nat.le_refl _)) (by have := HN.out; omega)
      have c0 := hcs k (by have := HN.out; omega)
      clear hcs
      have C1 := CI (iG ids k) wr (HH.out.below HGr.out.b)
      rw [HA.out k (by rw [← HN.out]; exact hlt)] at C1
      obtain ⟨x, hx⟩ : ∃ x, x = iG ids k := ⟨_, rfl⟩
      rw [← hx] at c0 C1
      clear CI hx
      obtain ⟨a0, a1, a2, _, _⟩ := cells3 HGr.out.a
      have hk1 : k + 1 ≤ n := hlt
      have hk2 : wrap64 ((k : Int) + 1) = ((k + 1 : Nat) : Int) := by unfold wrap64; omega
      have HK2 := hidOv hk2
      have HM : Hid (n - (intOf (.int .i64 ((k + 1 : Nat) : Int))).toNat < n - (intOf (.int .i64 (k : Int))).toNat) := by unfold Hid; simp [intOf]; omega
      clear hk2
      go_wp2_with (first | (go_at_call 23; refine Calls.mono C1 ?_; rintro e w1 ⟨rfl, hb⟩; have H1 := hidOv (HGr.out.to hb); clear hb))
      go_roundw
      case rel => exact ⟨k + 1, hk1, by first | rfl | rw [HK2.out], H1.out⟩
      case measure => first | exact HM.out | (rw [HK2.out]; exact HM.out)
    · obtain rfl : k = n := by omega
      clear CI HA
      obtain ⟨w1, hw1⟩ : ∃ w1, w1 = wr := ⟨_, rfl⟩
      rw [← hw1] at HGr ⊢
      clear hw1
      go_wp2
      go_loopw [27] (fun i wr => ∃ j : Nat, j ≤ k ∧ i = .int .i64 j ∧ wr = w1) (fun i _ => k - (intOf i).toNat)
      case atStart => exact ⟨0, Nat.zero_le _, rfl, rfl⟩
      case round =>
        obtain ⟨j, hj, rfl, hw⟩ := hrel
        rw [hw]
        clear hw
        by_cases hlt2 : j < k
        · have hIr := (HI.out.below HGr.out.b (Nat.le_refl _)).mono HGr.out.b.size
          have CH := has56 qi (ids.take j) ci (iG ids j) w1 (hIr.take j) (by simp; omega)
          have hlj : (ids.take j).length = j := by simp; have := HN.out; omega
          rw [hlj] at CH
          clear hlj
          obtain ⟨b, off, rfl, hbB, hcs⟩ := hIr (by have := HN.out; omega)
          have c0 := hcs j (by have := HN.out; omega)
          clear hcs
          have HB := HD.out j (by have := HN.out; omega)
          unfold badAt at HB
          rw [Bool.or_eq_false_iff] at HB
          obtain ⟨e2, e3⟩ := HB
          rw [e3] at CH
          obtain ⟨x, hx⟩ : ∃ x, x = iG ids j := ⟨_, rfl⟩
          rw [← hx] at c0 CH e2
          clear hx e3
          have hj0 : (0 : Int) ≤ (j : Int) := by omega
          have hjc : (j : Int) ≤ (ci : Int) := by omega
          have hk1 : j + 1 ≤ k := hlt2
          have HK2 : Hid (wrap64 ((j : Int) + 1) = ((j + 1 : Nat) : Int)) := by unfold Hid wrap64; omega
          have HM : Hid (k - (intOf (.int .i64 ((j + 1 : Nat) : Int))).toNat < k - (intOf (.int .i64 (j : Int))).toNat) := by unfold Hid; simp [intOf]; omega
          go_wp2_with (first | (go_at_call 56; refine Calls.mono CH ?_; rintro e w6 ⟨rfl, hw6⟩; rw [hw6]; clear hw6 w6))
          go_roundw
          case rel => exact ⟨j + 1, hk1, by first | rfl | rw [HK2.out], trivial⟩
          case measure => first | exact HM.out | (rw [HK2.out]; exact HM.out)
        · obtain ⟨a0, a1, a2, _, a3⟩ := cells3 HGr.out.a
          have HIw : Hid (∀ W, Below w1.heap.size w1 W → IRow .i64 W.heap.size W q f) := fun W hb => ((HH.out.below HGr.out.b).below hb).i
          have HF8 : Hid (f.length ≤ 8796093022208) := by have := HFL.out; unfold Hid; omega
          have hlf : Hid (f.length = f.length) := rfl
          have HZ1 : Hid (w.heap.size + 2 ≤ w1.heap.size) := by
            have := (Array.getElem?_eq_some_iff.1 HGr.out.r).1; unfold Hid; omega
          clear hj hlt hk hn hci
          go_wp2
          have b0 := a0
          have b1 := a2
          clear a1
          go_cut [10] from 43 to 83 (fun v wx => ∃ g vF, v = .pointer (some ⟨g, 0, none⟩) ∧ G3 w wx g (.int .i64 m) (.slice p l.length c) (.slice q f.length d) m (.slice none 0 0) [] vF f)
          case first =>
            go_region_held3 (fun w' => w'.cell? ⟨w.heap.size, 0, none⟩ = some (.int .i64 m) ∧ w'.cell? ⟨w.heap.size, 2, none⟩ = some (.slice q f.length d)) (first | go_keep | exact ⟨b0, b1⟩ | exact ⟨x0, x1⟩ | with_reducible exact TT.out _ _ _) (first | (refine step_append_ints _ (by rfl) (.tmp 45) (.tmp 47) (by rfl) (w.heap.size + 2) (.slice (some ⟨w1.heap.size, 0, none⟩) 0 0) ?_ ?_ q f d f.length ?_ ?_ ?_ ?_ ?_ ?_ ?_; rfl; exact made_drew HZ1.out; rfl; rfl; exact HQ.out; exact HIw.out _ (((Below.refl _ _).drew).alloc (Nat.le_refl _) _); exact HF8.out; exact base_le HZ1.out; intro v5 w5 hown5 hg5; have hb5 := step_keep2 hg5; have HB5 := hidOv hb5; have x0 := (hb5.cell (p := ⟨w.heap.size, 0, none⟩) a3).trans b0; have x1 := (hb5.cell (p := ⟨w.heap.size, 2, none⟩) a3).trans b1; obtain ⟨p5, c5, hv5⟩ := own_slice hown5; subst hv5; have HW5 := hidOv hown5; clear hown5 hg5 hb5) | (refine step_append_ints _ (by rfl) (.tmp 45) (.tmp 47) (by rfl) (w.heap.size + 2) (.slice (some ⟨w1.heap.size, 0, none⟩) 0 0) ?_ ?_ q f d f.length ?_ ?_ ?_ ?_ ?_ ?_ ?_; rfl; exact made2 _ HZ1.out; rfl; rfl; exact HQ.out; exact HIw.out _ (bel2d _ _ _); exact HF8.out; exact base_le2 HZ1.out; intro v5 w5 hown5 hg5; obtain ⟨hb5, hx5⟩ := step_keep3 hg5; have HB5 := hidOv hb5; have HX5 := hidOv hx5; have x0 := (hb5.cell (p := ⟨w.heap.size, 0, none⟩) a3).trans b0; have x1 := (hb5.cell (p := ⟨w.heap.size, 2, none⟩) a3).trans b1; obtain ⟨s0, s1, s2, sf, s3⟩ := cells3 hx5; obtain ⟨p5, c5, hv5⟩ := own_slice hown5; subst hv5; have HW5 := hidOv hown5; have hR5 : w1.heap.size + 1 ≠ w.heap.size := ne_g a3; have TT := hidOv (fun (x y z : Value) => (And.intro (set3far (x := x) (y := y) (z := z) hR5 x0) (set3far (x := x) (y := y) (z := z) hR5 x1))); clear hown5 hg5 hb5 hx5) | (refine step_append_ints _ (by rfl) (.tmp 45) (.tmp 47) (by rfl) (w.heap.size + 2) (.slice (some ⟨w1.heap.size + 1, 0, none⟩) 0 0) ?_ ?_ q f d f.length ?_ ?_ ?_ ?_ ?_ ?_ ?_; rfl; exact made3 _ HZ1.out; rfl; rfl; exact HQ.out; exact HIw.out _ (bel2d _ _ _); exact HF8.out; exact base_le2 HZ1.out; intro v5 w5 hown5 hg5; obtain ⟨hb5, hx5⟩ := step_keep4 hg5; have HB5 := hidOv hb5; have HX5 := hidOv hx5; have x0 := (hb5.cell (p := ⟨w.heap.size, 0, none⟩) a3).trans b0; have x1 := (hb5.cell (p := ⟨w.heap.size, 2, none⟩) a3).trans b1; obtain ⟨s0, s1, s2, sf, s3⟩ := cells3 hx5; obtain ⟨p5, c5, hv5⟩ := own_slice hown5; subst hv5; have HW5 := hidOv hown5; have hR5 : w1.heap.size ≠ w.heap.size := ne_h a3; have TT := hidOv (fun (x y z : Value) => (And.intro (set3far (x := x) (y := y) (z := z) hR5 x0) (set3far (x := x) (y := y) (z := z) hR5 x1))); clear hown5 hg5 hb5 hx5))
            · go_wp2
              go_meet
              case rel => exact ⟨_, _, rfl, g3_a HGr.out HB5.out HW5.out HZ1.out⟩
            · go_wp2
              go_meet
              case rel => exact ⟨_, _, rfl, g3_b HGr.out HB5.out HW5.out (Nat.le_succ_of_le HZ1.out) HX5.out⟩
            · go_wp2
              go_meet
              case rel => exact ⟨_, _, rfl, g3_b HGr.out HB5.out HW5.out HZ1.out HX5.out⟩
          case rest =>
            obtain ⟨g, vF0, rfl, hg3⟩ := hcut
            clear HIw HF8 hlf HZ1 HGr a0 a2 a3 b0 b1 HD
            have H3 := hidOv hg3
            obtain ⟨o0, o1, o2, of, o3⟩ := cells3 hg3.a
            clear hg3
            go_wp2
            clear o0 o1 o2 of o3
            go_loopw [53] (fun i wr => ∃ (t : Nat) (vS vF : Value), t ≤ l.length ∧ i = .int .i64 t ∧ G3 w wr g (.int .i64 m) (.slice p l.length c) (.slice q f.length d) m vS (docS l ids t) vF (f ++ docF l ids t)) (fun i _ => l.length - (intOf i).toNat)
            case atStart => exact ⟨0, _, _, Nat.zero_le _, rfl, by simpa [docS, docF] using H3.out⟩
            case round =>
              obtain ⟨t, vS, vF, ht, rfl, hgr⟩ := hrel
              have HR := hidOv hgr
              clear H3 hgr
              by_cases htl : t < l.length
              · obtain ⟨YS, hYS⟩ : ∃ YS, YS = f ++ docF l ids t := ⟨_, rfl⟩
                have HYS := hidOv hYS
                rw [← hYS] at HR
                clear hYS
                have hsr := (HH.out.below HR.out.b).s
                obtain ⟨sb, so, hp, hsb, hsc⟩ := hsr (by omega)
                obtain ⟨cg, ca⟩ := hsc t htl
                have hgb := HG0.out t htl
                have CE := fun (W : World) => entity41 ((t : Int) + 1) (sG l t) W (by omega) (by have := HLL.out; omega) (by omega) (by omega)
                rw [← hent t htl] at CE
                have HS1 : Hid (docS l ids (t + 1) = docS l ids t ++ [(sG l t, if decide (entV ((t : Int) + 1) (sG l t) ∈ ids) then false else sA l t)]) := rfl
                have HF1 : Hid (docF l ids (t + 1) = docF l ids t ++ if decide (entV ((t : Int) + 1) (sG l t) ∈ ids) && decide (sG l t < 7) then [(t : Int) + 1] else []) := rfl
                have CH := fun (W : World) (hb : Below wr.heap.size wr W) => has56 qi ids ci (entV ((t : Int) + 1) (sG l t)) W ((HI.out.below (HR.out.b.trans (hb.mono HR.out.b.size)) (Nat.le_refl _)).mono (Nat.le_trans HR.out.b.size hb.size)) (by have := HNI.out; omega)
                rw [← HN.out] at CH
                obtain ⟨E, hE⟩ : ∃ E, E = entV ((t : Int) + 1) (sG l t) := ⟨_, rfl⟩
                obtain ⟨gn, hgn⟩ : ∃ gn, gn = sG l t := ⟨_, rfl⟩
                obtain ⟨al, hal⟩ : ∃ al, al = sA l t := ⟨_, rfl⟩
                rw [← hE] at CE CH HS1 HF1
                rw [← hgn] at cg CE HS1 HF1
                rw [← hal] at ca HS1
                obtain ⟨q2, hq2⟩ : ∃ q2, q2 = decide (E ∈ ids) := ⟨_, rfl⟩
                rw [← hq2] at CH HS1 HF1
                clear hE hgn hal hq2 hsc hgb hent
                subst hp
                have hl40 : l.length ≤ 40 := HLL.out
                obtain ⟨o0, o1, o2, of, o3⟩ := cells3 HR.out.o
                obtain ⟨a0, a1, a2, af, a3⟩ := cells3 HR.out.a
                obtain ⟨i0, hi, hz0, hz1, hz2⟩ := info_parts Tryd.info61
                obtain ⟨i3, hi3, hz30, hz31, hz32⟩ := info_parts Tryd.info3
                have HM1 : Hid ((docS l ids t).length + 1 ≤ maxLen) := by unfold Hid; rw [docS_len]; unfold maxLen; omega
                have HM2 : Hid (((docS l ids t).length + 1) * 16 ≤ 140737488355328) := by unfold Hid; rw [docS_len]; omega
                have HFn := docF_le l ids t
                have HM3 : Hid (YS.length + 1 ≤ maxLen) := by have := HFL.out; unfold Hid; rw [HYS.out, List.length_append]; unfold maxLen; omega
                have HM4 : Hid ((YS.length + 1) * 8 ≤ 140737488355328) := by have := HFL.out; unfold Hid; rw [HYS.out, List.length_append]; omega
                have KS : Hid (t + 1 ≤ l.length ∧ wrap64 ((t : Int) + 1) = ((t + 1 : Nat) : Int) ∧ l.length - (intOf (.int .i64 ((t + 1 : Nat) : Int))).toNat < l.length - (intOf (.int .i64 (t : Int))).toNat) := ⟨htl, by unfold wrap64; omega, by simp [intOf]; omega⟩
                clear HFn
                cases q2
                · have HFE : Hid (f ++ docF l ids (t + 1) = YS) := by unfold Hid; rw [HF1.out, HYS.out]; simp
                  simp only [Bool.false_eq_true, if_false] at HS1
                  go_upto_region 21 with (first | (go_at_call 41; refine Calls.mono (CE _) ?_; rintro e w6 ⟨rfl, hw6⟩; rw [hw6]; clear hw6 w6) | (go_at_call 56; refine Calls.mono (CH _ ((Below.refl _ _).alloc (Nat.le_refl _) _)) ?_; rintro e w6 ⟨rfl, hw6⟩; rw [hw6]; clear hw6 w6))
                  obtain ⟨y0, y1⟩ := alloc_cells61 wr (.int .i64 gn) (.bool al)
                  have HX : Hid (G3 w (wr.alloc (.cells #[.int .i64 gn, .bool al] 61)) g (.int .i64 m) (.slice (some ⟨sb, so, none⟩) l.length c) (.slice q f.length d) m vS (docS l ids t) vF YS) := HR.out.to ((Below.refl _ _).alloc (Nat.le_refl _) _)
                  generalize (wr.alloc (.cells #[.int .i64 gn, .bool al] 61)) = WB at y0 y1 HX ⊢
                  clear CE CH HR cg ca o0 o1 o2 of o3 a0 a1 a2 af a3
                  obtain ⟨o0, o1, o2, of, o3⟩ := cells3 HX.out.o
                  go_wp2_with (first | (at_builtin; refine wpList_append_own _ rfl (.tmp 77) (.tmp 79) 22 rfl (w.heap.size + 2) 61 i0 (.agg #[.int .i64 0, .bool false]) 2 16 Tryd.underlying22 hi hz0 hz1 hz2 rfl (by decide) vS (docS l ids t).length (cellsS (docS l ids t)) rfl (HX.out.to ((Below.refl _ _).alloc (Nat.le_refl _) _)).s ⟨WB.heap.size, 0, none⟩ 1 1 [.int .i64 gn, .bool al] rfl rfl (src_one61 _ _ _) (by simp [Value.oneCell']) HM1.out HM2.out (HX.out.to ((Below.refl _ _).alloc (Nat.le_refl _) _)).base ?_; intro v7 w7 hown7 hg7 _; have hO7 := (HX.out.to ((Below.refl _ _).alloc (Nat.le_refl _) _)).outS hg7; obtain ⟨s0, s1, s2, sf, s3⟩ := cells3 hO7; have H7 := hidOv (HX.out.newS ((Below.refl _ _).alloc (Nat.le_refl _) _) hg7 hown7); obtain ⟨p7, c7, hv7⟩ := own_slice hown7; subst hv7; clear hown7 hg7 hO7))
                  go_roundw
                  case rel => exact ⟨t + 1, _, _, KS.out.1, by first | rfl | rw [KS.out.2.1], by rw [HS1.out, HFE.out]; exact H7.out⟩
                  case measure => first | exact KS.out.2.2 | (rw [KS.out.2.1]; exact KS.out.2.2)
                · by_cases hg7 : gn < 7
                  · rw [decide_eq_true hg7] at HF1
                    simp only [Bool.and_self, if_true] at HF1 HS1
                    have HFE : Hid (f ++ docF l ids (t + 1) = YS ++ [(t : Int) + 1]) := by unfold Hid; rw [HF1.out, HYS.out, List.append_assoc]
                    go_upto_region 21 with (first | (at_builtin; refine wpList_append_own _ rfl (.tmp 70) (.tmp 73) 23 rfl (w.heap.size + 2) 3 i3 (.int .i64 0) 1 8 Tryd.underlying23 hi3 hz30 hz31 hz32 rfl (by decide) vF YS.length (cellsI .i64 YS) rfl (HR.out.to (bel2 _ _ _)).f ⟨wr.heap.size + 1, 0, none⟩ 1 1 [.int .i64 ((t : Int) + 1)] rfl rfl (src_one3b _ _ _) (by simp [Value.oneCell']) HM3.out HM4.out (HR.out.to (bel2 _ _ _)).base ?_; intro v8 w8 hown8 hg8 _; have hO8 := (HR.out.to (bel2 _ _ _)).outF hg8; obtain ⟨s0, s1, s2, sf, s3⟩ := cells3 hO8; have HX := hidOv (HR.out.newF (bel2 _ _ _) hg8 hown8); have HY := hidOv (HR.out.sbox hg8 v8); obtain ⟨p8, c8, hv8⟩ := own_slice hown8; subst hv8; clear hown8 hg8 hO8) | (go_at_call 41; refine Calls.mono (CE _) ?_; rintro e w6 ⟨rfl, hw6⟩; rw [hw6]; clear hw6 w6) | (go_at_call 56; refine Calls.mono (CH _ ((Below.refl _ _).alloc (Nat.le_refl _) _)) ?_; rintro e w6 ⟨rfl, hw6⟩; rw [hw6]; clear hw6 w6))
                    obtain ⟨y0, y1⟩ := HY.out
                    clear HY s0 s1 s2 sf s3
                    generalize (w8.setCell ⟨g, 2, none⟩ _) = WB at y0 y1 HX ⊢
                    clear CE CH HR cg ca o0 o1 o2 of o3 a0 a1 a2 af a3 hg7
                    obtain ⟨o0, o1, o2, of, o3⟩ := cells3 HX.out.o
                    go_wp2_with (first | (at_builtin; refine wpList_append_own _ rfl (.tmp 77) (.tmp 79) 22 rfl (w.heap.size + 2) 61 i0 (.agg #[.int .i64 0, .bool false]) 2 16 Tryd.underlying22 hi hz0 hz1 hz2 rfl (by decide) vS (docS l ids t).length (cellsS (docS l ids t)) rfl (HX.out.to ((Below.refl _ _).alloc (Nat.le_refl _) _)).s ⟨WB.heap.size, 0, none⟩ 1 1 [.int .i64 gn, .bool false] rfl rfl (src_one61 _ _ _) (by simp [Value.oneCell']) HM1.out HM2.out (HX.out.to ((Below.refl _ _).alloc (Nat.le_refl _) _)).base ?_; intro v7 w7 hown7 hg7 _; have hO7 := (HX.out.to ((Below.refl _ _).alloc (Nat.le_refl _) _)).outS hg7; obtain ⟨s0, s1, s2, sf, s3⟩ := cells3 hO7; have H7 := hidOv (HX.out.newS ((Below.refl _ _).alloc (Nat.le_refl _) _) hg7 hown7); obtain ⟨p7, c7, hv7⟩ := own_slice hown7; subst hv7; clear hown7 hg7 hO7))
                    go_roundw
                    case rel => exact ⟨t + 1, _, _, KS.out.1, by first | rfl | rw [KS.out.2.1], by rw [HS1.out, HFE.out]; exact H7.out⟩
                    case measure => first | exact KS.out.2.2 | (rw [KS.out.2.1]; exact KS.out.2.2)
                  · rw [decide_eq_false hg7] at HF1
                    simp only [Bool.and_false, Bool.false_eq_true, if_false, if_true] at HF1 HS1
                    have HFE : Hid (f ++ docF l ids (t + 1) = YS) := by unfold Hid; rw [HF1.out, HYS.out]; simp
                    go_upto_region 21 with (first | (go_at_call 41; refine Calls.mono (CE _) ?_; rintro e w6 ⟨rfl, hw6⟩; rw [hw6]; clear hw6 w6) | (go_at_call 56; refine Calls.mono (CH _ ((Below.refl _ _).alloc (Nat.le_refl _) _)) ?_; rintro e w6 ⟨rfl, hw6⟩; rw [hw6]; clear hw6 w6))
                    obtain ⟨y0, y1⟩ := alloc_cells61 wr (.int .i64 gn) (.bool false)
                    have HX : Hid (G3 w (wr.alloc (.cells #[.int .i64 gn, .bool false] 61)) g (.int .i64 m) (.slice (some ⟨sb, so, none⟩) l.length c) (.slice q f.length d) m vS (docS l ids t) vF YS) := HR.out.to ((Below.refl _ _).alloc (Nat.le_refl _) _)
                    generalize (wr.alloc (.cells #[.int .i64 gn, .bool false] 61)) = WB at y0 y1 HX ⊢
                    clear CE CH HR cg ca o0 o1 o2 of o3 a0 a1 a2 af a3 hg7
                    obtain ⟨o0, o1, o2, of, o3⟩ := cells3 HX.out.o
                    go_wp2_with (first | (at_builtin; refine wpList_append_own _ rfl (.tmp 77) (.tmp 79) 22 rfl (w.heap.size + 2) 61 i0 (.agg #[.int .i64 0, .bool false]) 2 16 Tryd.underlying22 hi hz0 hz1 hz2 rfl (by decide) vS (docS l ids t).length (cellsS (docS l ids t)) rfl (HX.out.to ((Below.refl _ _).alloc (Nat.le_refl _) _)).s ⟨WB.heap.size, 0, none⟩ 1 1 [.int .i64 gn, .bool false] rfl rfl (src_one61 _ _ _) (by simp [Value.oneCell']) HM1.out HM2.out (HX.out.to ((Below.refl _ _).alloc (Nat.le_refl _) _)).base ?_; intro v7 w7 hown7 hg7 _; have hO7 := (HX.out.to ((Below.refl _ _).alloc (Nat.le_refl _) _)).outS hg7; obtain ⟨s0, s1, s2, sf, s3⟩ := cells3 hO7; have H7 := hidOv (HX.out.newS ((Below.refl _ _).alloc (Nat.le_refl _) _) hg7 hown7); obtain ⟨p7, c7, hv7⟩ := own_slice hown7; subst hv7; clear hown7 hg7 hO7))
                    go_roundw
                    case rel => exact ⟨t + 1, _, _, KS.out.1, by first | rfl | rw [KS.out.2.1], by rw [HS1.out, HFE.out]; exact H7.out⟩
                    case measure => first | exact KS.out.2.2 | (rw [KS.out.2.1]; exact KS.out.2.2)
              · obtain rfl : t = l.length := by omega
                obtain ⟨o0, o1, o2, of, o3⟩ := cells3 HR.out.o
                obtain ⟨r0, r1, r2, rf, r3⟩ := cells3 HR.out.r
                obtain ⟨pS, cS, hvS⟩ := own_slice HR.out.s
                obtain ⟨pF, cF, hvF⟩ := own_slice HR.out.f
                obtain ⟨nS, hnS⟩ : ∃ nS, nS = (docS l ids l.length).length := ⟨_, rfl⟩
                obtain ⟨nF, hnF⟩ : ∃ nF, nF = (f ++ docF l ids l.length).length := ⟨_, rfl⟩
                have HNS := hidOv hnS
                have HNF := hidOv hnF
                rw [← hnS] at hvS
                rw [← hnF] at hvF
                clear hnS hnF
                subst hvS
                subst hvF
                go_wp2
                obtain ⟨t0, t1, t2, _, _⟩ := cells3 (set3_heap (x' := .int .i64 m) (y' := .slice pS nS cS) (z' := .slice pF nF cF) HR.out.r)
                have nR1 := own_ne HR.out.s HR.out.r (by decide)
                have nR2 := own_ne HR.out.f HR.out.r (by decide)
                exact bodyPost_ret (v := .tuple #[.agg #[.int .i64 m, .slice pS nS cS, .slice pF nF cF], .int .i64 0]) (by simp [results, Tryd.results30, go_sem, t0, t1, t2]) rfl ⟨_, _, rfl, set3_own HR.out.s nR1 _ _ _, set3_own HR.out.f nR2 _ _ _, below_set3 HR.out.b (Nat.le_succ _) _ _ _⟩
end Go.Proofs.YtaglhajlgnjhcaaDoor
