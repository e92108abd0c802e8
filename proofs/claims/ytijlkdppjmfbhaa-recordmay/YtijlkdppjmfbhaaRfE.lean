/- The document's answer: Rows. -/
import Derived.Test.YtijlkdppjmfbhaaRfD
import Derived.Deep.RegionHeld3
import Derived.Deep.CutRange
import Derived.BigQuiet
namespace Go.Proofs.Ytijlkdppjmfbhaa
open Go.RowKit

theorem isRows_nil0 {l : List Sp} (hm : mayS l = true) : IsRows l 0 [] := by
  have e : rwN l 0 (plN l l.length) = [] := by
    rw [List.eq_nil_iff_forall_not_mem]
    intro x hx
    obtain ⟨k, hk, h1, _⟩ := rwN_mem.1 hx
    have := (may_iff.1 hm).2.2.1 k (plN_mem.1 hk).2
    unfold plB at this
    rw [h1] at this
    simp at this
  unfold IsRows
  rw [e]
  exact ⟨List.Perm.refl _, List.Pairwise.nil⟩
theorem fd34 (a b : Value) (w : World) : (Instr.field 34 (.agg #[a, b]) 1).run Try.prog w = .ok b w := by kernel_rfl
attribute [local go_sem] fd34
theorem at16x (p : Option Addr) (l : List Sp) (n c : Nat) (hn : n = l.length) (x : Int) (y : Nat) (hx : x = (y : Int) + 1) (w : World) (h : SRow w.heap.size w p l) (hl : l.length ≤ 1099511627776) :
    Calls Try.prog 16 #[.agg #[.slice p n c], .int .i64 x] w fun e w' => ∃ a, e = .returned (.agg #[.int .i64 a, .int .i64 (rwX l x)]) ∧ Below w.heap.size w w' := by
  subst hn
  refine (refAt16 p l c x w h hl).mono ?_
  rintro e w' ⟨rfl, hb⟩
  have : atV l x = sG l (x.toNat - 1) := by unfold atV; rw [if_pos (by omega)]
  rw [this]
  exact ⟨_, rfl, hb⟩
/-- An append of words at a step of a region that draws its order, in a world that a world has come to. -/
theorem step_ws (W : World) {ops : Array Oper} {o : Oper} {a : Act} {K : Act → World → Prop} {Q : Exit → Act → World → Prop} {E : Prop} (N : Nat) (wy : World) (hgd : o.guard = none) (s x : Operand)
    (ho : o.op = .call { callee := .builtin .append, args := #[s, x], argTypes := #[26, 26] }) (p : Option Addr) (l : List Int) (n c : Nat) (q : Option Addr) (r : List Int) (m d : Nat)
    (hs : a.eval s = .slice p n c) (hx : a.eval x = .slice q m d) (hn : n = l.length) (hm : m = r.length) (hB : Be N wy W) (hO : OwnR N W p l c) (hr : IRow .i64 W.heap.size W q r) (hl : l.length + r.length ≤ 1099511627776)
    (h : ∀ p' c' w', OwnR N w' p' (l ++ r) c' → Be N wy w' → (∀ b o, W.heap[b]? = some o → p.map (·.block) ≠ some b → w'.heap[b]? = some o) → K (a.put o.dst (.slice p' (n + m) c')) w') : if Region.wanted o (yielded ops a.tmps) = true then Oper.wp Try.prog o a W K Q else E := by
  subst hn hm
  have hw : Region.wanted o (yielded ops a.tmps) = true := by simp [Region.wanted, hgd]
  rw [if_pos hw]
  obtain ⟨p', c', w', hrun, h1, h2⟩ := app_words Try.underlying26 W o.type N p l c q r d hO hr hl hB.s
  unfold Oper.wp execOp
  simp only [ho, resolve, invoke, builtin, Sem.run_bind, Sem.run_pure, Result.andThen_ok, List.map_toArray, List.map_cons, List.map_nil, hs, hx, hrun]
  rw [List.length_append]
  refine h p' c' w' h1 ⟨hB.b.grown h2 hB.s ?_, Nat.le_trans hB.s h2.size⟩ ?_
  · intro k hk
    cases p with
    | none => cases hk
    | some ad => cases hk; exact hO.fr ad rfl
  · intro b o hb hne
    exact (h2.block b (Array.getElem?_eq_some_iff.1 hb).1 (fun e => hne e.symm)).trans hb
theorem irow_tk {N : Nat} {w : World} {p : Option Addr} {X : List Int} (h : IRow .i64 N w p X) (j : Nat) : IRow .i64 N w p (X.take j) := fun h0 => by
  rw [List.length_take] at h0
  obtain ⟨b, off, e, hb, hc⟩ := h (by omega)
  refine ⟨b, off, e, hb, fun i hi => ?_⟩
  rw [List.length_take] at hi
  rw [iG_take (by omega)]; exact hc i (by omega)
theorem irow_dp {N : Nat} {w : World} {g : Nat} {X : List Int} (h : IRow .i64 N w (some ⟨g, 0, none⟩) X) (j : Nat) : IRow .i64 N w (some ⟨g, j, none⟩) (X.drop j) := fun h0 => by
  rw [List.length_drop] at h0
  obtain ⟨b, off, e, hb, hc⟩ := h (by omega)
  cases e
  refine ⟨g, j, rfl, hb, fun i hi => ?_⟩
  rw [List.length_drop] at hi
  have := hc (j + i) (by omega)
  rw [Nat.zero_add] at this
  rw [this]
  unfold iG
  simp
theorem made_o {N G : Nat} {W : World} (hG : W.heap.size = G) (h : N ≤ W.heap.size) : OwnR N (W.alloc (.cells #[] 3)) (some ⟨G, 0, none⟩) [] 0 := by
  subst hG
  exact ⟨World.ownsRow_made (base := N) (e := 3) (size := 1) W #[] 0 h (by unfold maxLen; omega) (by simp), by simp⟩
set_option maxRecDepth 20000 in
set_option maxHeartbeats 4000000 in
theorem refRows17 (p : Option Addr) (l : List Sp) (c : Nat) (t : Int) (w : World) (hS : SRow w.heap.size w p l) (hl : l.length ≤ 1048578) (hm : mayS l = true) :
    Calls Try.prog 17 #[.agg #[.slice p l.length c], .int .i64 t] w fun e w' => ∃ q X d, e = .returned (.slice q (X : List Int).length d) ∧ IsRows l t X ∧ OwnR w.heap.size w' q X d ∧ Below w.heap.size w w' := by
  have hb := bal w (.cells #[.slice p l.length c] 24)
  have HB := hidOg hb
  have Q0 := hidOg (blk1 (W := w) (o := .cells #[.slice p l.length c] 24))
  have HS := hidOg (hS.to hb)
  have HM := hidOg hm
  obtain ⟨n, hn⟩ : ∃ n, n = l.length := ⟨_, rfl⟩
  have HN := hidOg hn
  rw [← hn] at hl HB Q0 HS
  rw [← hn]
  obtain ⟨w2, hw2⟩ : ∃ w2, w2 = w.alloc (.cells #[.slice p n c] 24) := ⟨_, rfl⟩
  have HW2 := hidOg hw2
  rw [← hw2] at HS Q0 HB
  clear hS hb hn hm hw2
  by_cases h0 : t = 0
  · subst h0
    go_enter Try.func17, Try.ntmps17
    go_wp2
    rw [← HW2.out]
    go_loopw [5, 12] (fun v i wr => ∃ k : Nat, k ≤ n ∧ i = .int .i64 k ∧ v = .slice none 0 0 ∧ Below w2.heap.size w2 wr) (fun _ i _ => n - (intOf i).toNat)
    case atStart => exact ⟨0, Nat.zero_le _, rfl, rfl, Below.refl _ _⟩
    case round =>
      obtain ⟨k, hk, rfl, rfl, hbr⟩ := hrel
      have HBr := hidOg hbr
      by_cases hk' : k < n
      · obtain ⟨b, off, rfl, hbB, hcs⟩ := (HS.out.to hbr) (by have := HN.out; omega)
        obtain ⟨a0, a1⟩ := hcs k (by have := HN.out; omega)
        obtain ⟨⟨y, y2⟩, hy⟩ : ∃ y, y = sG l k := ⟨_, rfl⟩
        rw [← hy] at a0 a1
        have HZ := hidOg (hbr.trans ((bal wr (.cells #[.int .i64 y, .int .i64 y2] 34)).mono hbr.size))
        clear hcs hbr hy
        go_wp2
        go_roundw
        case rel => exact ⟨k + 1, by omega, by go_num, rfl, HZ.out⟩
        case measure => simp [intOf]; omega
      · obtain rfl : k = n := by omega
        go_wp2
        go_ret
        exact ⟨none, [], 0, rfl, isRows_nil0 HM.out, OwnR.nil _ _, HB.out.trans (HBr.out.mono HB.out.size)⟩
  · have hd0 : (t == 0) = false := by simpa using h0
    have HT := hidOg h0
    clear h0
    go_enter Try.func17, Try.ntmps17
    go_wp2
    rw [← HW2.out]
    go_loopw [5, 12] (fun v i wr => ∃ (k : Nat) (q : Option Addr) (X : List Int) (d : Nat), k ≤ n ∧ i = .int .i64 k ∧ v = .slice q X.length d ∧ JR l t k X ∧ OwnR w2.heap.size wr q X d ∧ Below w2.heap.size w2 wr) (fun _ i _ => n - (intOf i).toNat)
    case atStart => exact ⟨0, none, [], 0, Nat.zero_le _, rfl, rfl, jr_0 _ _, OwnR.nil _ _, Below.refl _ _⟩
    case round =>
      obtain ⟨k, q, X, d, hk, rfl, rfl, hj, hO, hbr⟩ := hrel
      have HJ := hidOg hj
      have HO := hidOg hO
      have HBr := hidOg hbr
      by_cases hk' : k < n
      · obtain ⟨b, off, rfl, hbB, hcs⟩ := (HS.out.to hbr) (by have := HN.out; omega)
        obtain ⟨a0, a1⟩ := hcs k (by have := HN.out; omega)
        obtain ⟨⟨y, y2⟩, hy⟩ : ∃ y, y = sG l k := ⟨_, rfl⟩
        rw [← hy] at a0 a1
        have HY := hidOg hy
        have hz := bal wr (.cells #[.int .i64 y, .int .i64 y2] 34)
        have HZ := hidOg (hbr.trans (hz.mono hbr.size))
        have E0 := hidOg (blk1 (W := wr) (o := .cells #[.int .i64 y, .int .i64 y2] 34))
        obtain ⟨e0, e1, _⟩ := cell2_heap E0.out
        have q0 := cell1_heap (atW HZ.out Q0.out)
        have HO1 := hidOg (hO.to hz)
        have hXk := jr_len hj
        have hX20 : X.length ≤ 1048578 := by omega
        clear hcs hbr hy hz hj hO
        by_cases hyt : y = t
        · have hdt : (y != t) = false := by simpa using hyt
          have HYT := hidOg hyt
          have HXk := hidOg hXk
          clear hyt hXk
          go_wp2
          clear a0 a1
          obtain ⟨Bs, hBs⟩ : ∃ Bs, Bs = wr.heap.size := ⟨_, rfl⟩
          rw [← hBs] at E0 e0 e1
          rw [← hBs]
          obtain ⟨wz, hwz⟩ : ∃ wz, wz = wr.alloc (.cells #[.int .i64 y, .int .i64 y2] 34) := ⟨_, rfl⟩
          rw [← hwz] at HZ E0 e0 e1 q0 HO1
          rw [← hwz]
          clear hwz hBs
          go_loopw [8] (fun i wr => ∃ j : Nat, j ≤ X.length ∧ i = .int .i64 j ∧ (∀ i, i < j → rwX l (iG X i) < y2) ∧ Below wz.heap.size wz wr) (fun i _ => X.length - (intOf i).toNat)
          case atStart => exact ⟨0, Nat.zero_le _, rfl, (fun j h => by omega), Below.refl _ _⟩
          case round =>
            obtain ⟨j, hj, rfl, hall, hbr⟩ := hrel
            have HA := hidOg hall
            have HBr' := hidOg hbr
            have HO2 := hidOg (HO1.out.to hbr)
            clear hall
            by_cases hcond : j < X.length ∧ rwX l (iG X j) < y2
            · obtain ⟨hj', hlt⟩ := hcond
              have hdj : decide (j < X.length) = true := decide_eq_true hj'
              obtain ⟨yy, hyy, hxe⟩ := jr_mem HJ.out hj'
              obtain ⟨b', off', rfl, hbB', hcs'⟩ := HO1.out.row.i (by omega)
              have c0 := hcs' j hj'
              clear hcs'
              obtain ⟨x, hx⟩ : ∃ x, x = iG X j := ⟨_, rfl⟩
              rw [← hx] at c0 hxe hlt
              have HX := hidOg hx
              have HLT := hidOg hlt
              have hdl : decide (rwX l x < y2) = true := decide_eq_true hlt
              have CA := fun (Z : World) (hz : Below wz.heap.size wz Z) => at16x (some ⟨b, off, none⟩) l n c HN.out x yy hxe Z ((HS.out.to HZ.out).to hz) (by rw [← HN.out]; omega)
              have HK : Hid (∀ Z, Below wz.heap.size wz Z → Z.cell? ⟨w.heap.size, 0, none⟩ = some (.slice (some ⟨b, off, none⟩) n c) ∧ Z.cell? ⟨Bs, 1, none⟩ = some (.int .i64 y2) ∧ Z.cell? ⟨b', off' + j, none⟩ = some (.int .i64 x)) := fun Z hz =>
                ⟨cell1_heap (atW hz (atW HZ.out Q0.out)), (cell2_heap (atW hz E0.out)).2.1, (hz.cell (p := ⟨b', off' + j, none⟩) hbB').trans c0⟩
              have HD : Hid (Below wz.heap.size wz wr.drew) := hbr.drew
              obtain ⟨j0, j1, j2⟩ := HK.out _ hbr
              have hj0 : (0 : Int) ≤ (j : Int) := by omega
              have hj1 : (j : Int) < (X.length : Int) := by omega
              clear hx hxe hlt hj' hbr hyy c0 q0 e0 e1 hj
              go_wp2
              go_region_held3 (fun w' => w'.cell? ⟨w.heap.size, 0, none⟩ = some (.slice (some ⟨b, off, none⟩) n c) ∧ w'.cell? ⟨Bs, 1, none⟩ = some (.int .i64 y2) ∧ w'.cell? ⟨b', off' + j, none⟩ = some (.int .i64 x)) (first | with_reducible exact ⟨k0, k1, k2⟩ | with_reducible exact ⟨j0, j1, j2⟩ | go_keep) (first
                | (go_at_call 16; refine Calls.mono (CA _ HD.out) ?_; rintro e w4 ⟨a, rfl, hb⟩; have HB4 := hidOg (HD.out.trans (hb.mono HD.out.size)); obtain ⟨k0, k1, k2⟩ := HK.out _ HB4.out; clear hb)
                | fail)
              all_goals
                go_wp2
                go_roundw
                case rel => exact ⟨j + 1, by omega, by go_num, fun i hi => (by by_cases e : i = j; { rw [e, ← HX.out]; exact HLT.out }; { exact HA.out i (by omega) }), HB4.out⟩
                case measure => simp [intOf]; omega
            · have HC : Hid (j = X.length ∨ y2 ≤ rwX l (iG X j)) := by
                by_cases e : j < X.length
                · exact .inr (Int.not_lt.1 fun h => hcond ⟨e, h⟩)
                · exact .inl (by omega)
              have hge : ¬ (j < X.length) ∨ j < X.length := by omega
              clear hcond
              by_cases hj' : j < X.length
              · skip
                have hdj : decide (j < X.length) = true := decide_eq_true hj'
                obtain ⟨yy, hyy, hxe⟩ := jr_mem HJ.out hj'
                obtain ⟨b', off', hq', hbB', hcs'⟩ := HO1.out.row.i (by omega)
                have c0 := hcs' j hj'
                clear hcs'
                have HC2 := HC
                obtain ⟨x, hx⟩ : ∃ x, x = iG X j := ⟨_, rfl⟩
                rw [← hx] at c0 hxe HC2
                have hdl : decide (rwX l x < y2) = false := decide_eq_false (by rcases HC2.out with h | h <;> omega)
                have CA := fun (Z : World) (hz : Below wz.heap.size wz Z) => at16x (some ⟨b, off, none⟩) l n c HN.out x yy hxe Z ((HS.out.to HZ.out).to hz) (by rw [← HN.out]; omega)
                have HK : Hid (∀ Z, Below wz.heap.size wz Z → Z.cell? ⟨w.heap.size, 0, none⟩ = some (.slice (some ⟨b, off, none⟩) n c) ∧ Z.cell? ⟨Bs, 1, none⟩ = some (.int .i64 y2) ∧ Z.cell? ⟨b', off' + j, none⟩ = some (.int .i64 x)) := fun Z hz =>
                  ⟨cell1_heap (atW hz (atW HZ.out Q0.out)), (cell2_heap (atW hz E0.out)).2.1, (hz.cell (p := ⟨b', off' + j, none⟩) hbB').trans c0⟩
                have HD : Hid (Below wz.heap.size wz wr.drew) := hbr.drew
                obtain ⟨j0, j1, j2⟩ := HK.out _ hbr
                have hjp0 : (0 : Int) ≤ (j : Int) := by omega
                have hjp1 : (j : Int) < (X.length : Int) := by omega
                subst hq'
                clear hx hxe hj' hbr hyy c0 q0 e0 e1 HC2 hge
                go_wp2
                go_region_held3 (fun w' => w'.cell? ⟨w.heap.size, 0, none⟩ = some (.slice (some ⟨b, off, none⟩) n c) ∧ w'.cell? ⟨Bs, 1, none⟩ = some (.int .i64 y2) ∧ w'.cell? ⟨b', off' + j, none⟩ = some (.int .i64 x)) (first | with_reducible exact ⟨k0, k1, k2⟩ | with_reducible exact ⟨j0, j1, j2⟩ | go_keep) (first
                  | (go_at_call 16; refine Calls.mono (CA _ HD.out) ?_; rintro e wy ⟨a, rfl, hb⟩; have HBz := hidOg (HD.out.trans (hb.mono HD.out.size)); obtain ⟨k0, k1, k2⟩ := HK.out _ HBz.out; clear hb)
                  | fail)
                all_goals
                  clear j0 j1 j2 k0 k1 k2 HK CA HD
                  go_wp2
                  have HO5 := HO1.out.to HBz.out
                  have hdX : X.length ≤ d := HO5.row.r
                  have HBy := hidOg (HZ.out.trans (HBz.out.mono HZ.out.size))
                  have HBe : Hid (Be wy.heap.size wy wy) := Be.refl (Nat.le_refl _)
                  have HJ2 : Hid (JR l t (k + 1) (X.take j ++ [(k : Int) + 1] ++ X.drop j)) := jr_ins HJ.out HT.out (by rw [← HY.out]; exact HYT.out) hj (by rw [← HY.out]; exact HA.out) (by rw [← HY.out]; exact HC.out)
                  have HJB : Hid (j ≤ 1048578) := by unfold Hid; omega
                  have HXB := hidOg hX20
                  have hwk : IntKind.i64.wrap ((k : Int) + 1) = (k : Int) + 1 := (by rw [IntKind.wrap_i64]; omega)
                  rcases HO5.o.2 with ⟨e, hX0⟩ | ⟨g, cap, cur, e, hg, hh, _⟩
                  · injection e with e1 e2 e3
                    cases e1
                  · injection e with e1 e2 e3
                    injection e1 with e1
                    injection e1 with g1 g2
                    subst g1 g2 e3
                    have HTL : Hid (j = (X.take j).length) := by unfold Hid; rw [List.length_take]; omega
                    have HDL : Hid (X.length - j = (X.drop j).length) := by unfold Hid; rw [List.length_drop]
                    have hjd : (j : Int) ≤ (d : Int) := by omega
                    have hjx : (j : Int) ≤ (X.length : Int) := by omega
                    have hj0 : (0 : Int) ≤ (j : Int) := by omega
                    have HTK : Hid (∀ W, Be wy.heap.size wy W → IRow .i64 W.heap.size W (some ⟨b', 0, none⟩) (X.take j)) := fun W hb => (irow_tk HO5.row.i j).to hb.b
                    have HDK : Hid (∀ W, Be wy.heap.size wy W → IRow .i64 W.heap.size W (if d = j then some ⟨b', 0, none⟩ else some ⟨b', j, none⟩) (X.drop j)) := fun W hb => by
                      by_cases e : d = j
                      · rw [List.drop_eq_nil_of_le (by omega)]; exact fun h => by simp at h
                      · rw [if_neg e]; exact (irow_dp HO5.row.i j).to hb.b
                    clear hh HO5 hj e2
                    go_region_held3 (fun w' => True) (trivial) (first
                      | (refine step_ws _ wy.heap.size wy (by rfl) (.tmp 43) (.tmp 46) (by rfl) _ [] _ _ _ (X.take j) _ _ (by rfl) (by rfl) ?_ ?_ ?_ ?_ ?_ ?_ ?_; (focus (rfl)); (focus (exact HTL.out)); (focus ((repeat (first | exact HBe.out | exact HB1.out | exact HB2.out | exact HB3.out | refine Be.al ?_ _ | refine Be.dr ?_)))); (focus ((repeat (first | exact made_o (by first | rfl | exact World.size_alloc _ _ | simp) (by first | exact Nat.le_refl _ | (show wy.heap.size ≤ (wy.alloc _).heap.size; exact (bal _ _).size)) | exact HW1.out | exact HW2.out | refine OwnR.to ?_ (bal _ _) | refine OwnR.to ?_ (Below.refl _ _).drew)))); (focus (exact HTK.out _ (by (repeat (first | exact HBe.out | exact HB1.out | exact HB2.out | exact HB3.out | refine Be.al ?_ _ | refine Be.dr ?_))))); (focus ((have := HJB.out; simp; try omega))); intro p1 c1 w1 ho hb hk; have HW1 : Hid (OwnR wy.heap.size w1 p1 (X.take j) c1) := ho; have HB1 := hidOg hb; first | (have HY1 : Hid (w1.heap[wy.heap.size + 1]? = some (.cells #[.int .i64 ((k : Int) + 1)] 3)) := hk _ _ (atW (Below.refl _ _).drew (blkS (by rw [World.size_alloc]))) (by simp)) | (have HY1 : Hid (w1.heap[wy.heap.size]? = some (.cells #[.int .i64 ((k : Int) + 1)] 3)) := hk _ _ (atW (Below.refl _ _).drew (atW (bal _ _) (blkS rfl))) (by simp)) | skip; clear ho hb hk)
                      | (refine step_ws _ wy.heap.size wy (by rfl) (.tmp 47) (.tmp 50) (by rfl) _ (X.take j) _ _ _ [(k : Int) + 1] _ _ (by rfl) (by rfl) ?_ ?_ ?_ ?_ ?_ ?_ ?_; (focus ((have := HTL.out; simp; try omega))); (focus (rfl)); (focus ((repeat (first | exact HBe.out | exact HB1.out | exact HB2.out | exact HB3.out | refine Be.al ?_ _ | refine Be.dr ?_)))); (focus ((repeat (first | exact made_o (by first | rfl | exact World.size_alloc _ _ | simp) (by first | exact Nat.le_refl _ | (show wy.heap.size ≤ (wy.alloc _).heap.size; exact (bal _ _).size)) | exact HW1.out | exact HW2.out | refine OwnR.to ?_ (bal _ _) | refine OwnR.to ?_ (Below.refl _ _).drew)))); (focus ((first | exact irow_heap .i64 (t := 3) blk1 | exact irow_heap .i64 (t := 3) HY1.out))); (focus ((have := HJB.out; simp; try omega))); intro p2 c2 w3 ho hb hk; have HW2 := hidOg ho; have HB2 := hidOg hb; clear ho hb hk)
                      | (refine step_ws _ wy.heap.size wy (by rfl) (.tmp 51) (.tmp 54) (by rfl) _ (X.take j ++ [(k : Int) + 1]) _ _ _ (X.drop j) _ _ (by rfl) (by rfl) ?_ ?_ ?_ ?_ ?_ ?_ ?_; (focus ((have := HTL.out; simp; try omega))); (focus ((have := HDL.out; simp; try omega))); (focus ((repeat (first | exact HBe.out | exact HB1.out | exact HB2.out | exact HB3.out | refine Be.al ?_ _ | refine Be.dr ?_)))); (focus ((repeat (first | exact made_o (by first | rfl | exact World.size_alloc _ _ | simp) (by first | exact Nat.le_refl _ | (show wy.heap.size ≤ (wy.alloc _).heap.size; exact (bal _ _).size)) | exact HW1.out | exact HW2.out | refine OwnR.to ?_ (bal _ _) | refine OwnR.to ?_ (Below.refl _ _).drew)))); (focus (exact HDK.out _ (by (repeat (first | exact HBe.out | exact HB1.out | exact HB2.out | exact HB3.out | refine Be.al ?_ _ | refine Be.dr ?_))))); (focus ((have := HJB.out; have := HXB.out; simp; try omega))); intro p3 c3 w4 ho hb hk; have HW3 := hidOg ho; have HB3 := hidOg hb; clear ho hb hk))
                    all_goals
                      go_wp2
                      go_roundw
                      case rel => exact ⟨k + 1, p3, X.take j ++ [(k : Int) + 1] ++ X.drop j, c3, by omega, by go_num, congrArg (fun n => Value.slice p3 n c3) (by have := HTL.out; have := HDL.out; simp; try omega), HJ2.out, HW3.out.weak HBy.out.size, HBy.out.trans (HB3.out.b.mono HBy.out.size)⟩
                      case measure => simp [intOf]; omega
              · have hdj : decide (j < X.length) = false := decide_eq_false hj'
                clear q0 e0 e1 hge hbr
                go_wp2
                go_quiet (fail)
                go_wp2
                obtain ⟨wy, hwy⟩ : ∃ wy, wy = wr.drewN nq := ⟨_, rfl⟩
                have HBz : Hid (Below wz.heap.size wz wy) := by rw [hwy]; exact below_drewN' HBr'.out _
                rw [← hwy]
                clear hwy
                have HO5 := HO1.out.to HBz.out
                have hdX : X.length ≤ d := HO5.row.r
                have HBy := hidOg (HZ.out.trans (HBz.out.mono HZ.out.size))
                have HBe : Hid (Be wy.heap.size wy wy) := Be.refl (Nat.le_refl _)
                have HJ2 : Hid (JR l t (k + 1) (X.take j ++ [(k : Int) + 1] ++ X.drop j)) := jr_ins HJ.out HT.out (by rw [← HY.out]; exact HYT.out) hj (by rw [← HY.out]; exact HA.out) (by rw [← HY.out]; exact HC.out)
                have HJB : Hid (j ≤ 1048578) := by unfold Hid; omega
                have HXB := hidOg hX20
                have hwk : IntKind.i64.wrap ((k : Int) + 1) = (k : Int) + 1 := (by rw [IntKind.wrap_i64]; omega)
                rcases HO5.o.2 with ⟨e, hX0⟩ | ⟨g, cap, cur, e, hg, hh, _⟩
                · injection e with e1 e2 e3
                  obtain rfl : X = [] := List.eq_nil_of_length_eq_zero hX0
                  obtain rfl : j = 0 := by simpa using hj
                  subst e1 e3
                  have HTL : Hid (0 = ([] : List Int).length) := rfl
                  have HDL : Hid (0 = ([] : List Int).length) := rfl
                  clear HO5 hj e2 hX0
                  go_region_held3 (fun w' => True) (trivial) (first
                    | (refine step_ws _ wy.heap.size wy (by rfl) (.tmp 43) (.tmp 46) (by rfl) _ [] _ _ _ ([]) _ _ (by rfl) (by rfl) ?_ ?_ ?_ ?_ ?_ ?_ ?_; (focus (rfl)); (focus (exact HTL.out)); (focus ((repeat (first | exact HBe.out | exact HB1.out | exact HB2.out | exact HB3.out | refine Be.al ?_ _ | refine Be.dr ?_)))); (focus ((repeat (first | exact made_o (by first | rfl | exact World.size_alloc _ _ | simp) (by first | exact Nat.le_refl _ | (show wy.heap.size ≤ (wy.alloc _).heap.size; exact (bal _ _).size)) | exact HW1.out | exact HW2.out | refine OwnR.to ?_ (bal _ _) | refine OwnR.to ?_ (Below.refl _ _).drew)))); (focus (exact IRow.nil)); (focus ((have := HJB.out; simp; try omega))); intro p1 c1 w1 ho hb hk; have HW1 : Hid (OwnR wy.heap.size w1 p1 ([]) c1) := ho; have HB1 := hidOg hb; first | (have HY1 : Hid (w1.heap[wy.heap.size + 1]? = some (.cells #[.int .i64 ((k : Int) + 1)] 3)) := hk _ _ (atW (Below.refl _ _).drew (blkS (by rw [World.size_alloc]))) (by simp)) | (have HY1 : Hid (w1.heap[wy.heap.size]? = some (.cells #[.int .i64 ((k : Int) + 1)] 3)) := hk _ _ (atW (Below.refl _ _).drew (atW (bal _ _) (blkS rfl))) (by simp)) | skip; clear ho hb hk)
                    | (refine step_ws _ wy.heap.size wy (by rfl) (.tmp 47) (.tmp 50) (by rfl) _ ([]) _ _ _ [(k : Int) + 1] _ _ (by rfl) (by rfl) ?_ ?_ ?_ ?_ ?_ ?_ ?_; (focus ((have := HTL.out; simp; try omega))); (focus (rfl)); (focus ((repeat (first | exact HBe.out | exact HB1.out | exact HB2.out | exact HB3.out | refine Be.al ?_ _ | refine Be.dr ?_)))); (focus ((repeat (first | exact made_o (by first | rfl | exact World.size_alloc _ _ | simp) (by first | exact Nat.le_refl _ | (show wy.heap.size ≤ (wy.alloc _).heap.size; exact (bal _ _).size)) | exact HW1.out | exact HW2.out | refine OwnR.to ?_ (bal _ _) | refine OwnR.to ?_ (Below.refl _ _).drew)))); (focus ((first | exact irow_heap .i64 (t := 3) blk1 | exact irow_heap .i64 (t := 3) HY1.out))); (focus ((have := HJB.out; simp; try omega))); intro p2 c2 w3 ho hb hk; have HW2 := hidOg ho; have HB2 := hidOg hb; clear ho hb hk)
                    | (refine step_ws _ wy.heap.size wy (by rfl) (.tmp 51) (.tmp 54) (by rfl) _ ([] ++ [(k : Int) + 1]) _ _ _ ([]) _ _ (by rfl) (by rfl) ?_ ?_ ?_ ?_ ?_ ?_ ?_; (focus ((have := HTL.out; simp; try omega))); (focus ((have := HDL.out; simp; try omega))); (focus ((repeat (first | exact HBe.out | exact HB1.out | exact HB2.out | exact HB3.out | refine Be.al ?_ _ | refine Be.dr ?_)))); (focus ((repeat (first | exact made_o (by first | rfl | exact World.size_alloc _ _ | simp) (by first | exact Nat.le_refl _ | (show wy.heap.size ≤ (wy.alloc _).heap.size; exact (bal _ _).size)) | exact HW1.out | exact HW2.out | refine OwnR.to ?_ (bal _ _) | refine OwnR.to ?_ (Below.refl _ _).drew)))); (focus (exact IRow.nil)); (focus ((have := HJB.out; have := HXB.out; simp; try omega))); intro p3 c3 w4 ho hb hk; have HW3 := hidOg ho; have HB3 := hidOg hb; clear ho hb hk))
                  all_goals
                    go_wp2
                    go_roundw
                    case rel => exact ⟨k + 1, p3, [] ++ [(k : Int) + 1] ++ [], c3, by omega, by go_num, congrArg (fun n => Value.slice p3 n c3) (by have := HTL.out; have := HDL.out; simp; try omega), HJ2.out, HW3.out.weak HBy.out.size, HBy.out.trans (HB3.out.b.mono HBy.out.size)⟩
                    case measure => simp [intOf]; omega
                · injection e with e1 e2 e3
                  subst e1 e3
                  have HTL : Hid (j = (X.take j).length) := by unfold Hid; rw [List.length_take]; omega
                  have HDL : Hid (X.length - j = (X.drop j).length) := by unfold Hid; rw [List.length_drop]
                  have hjd : (j : Int) ≤ (d : Int) := by omega
                  have hjx : (j : Int) ≤ (X.length : Int) := by omega
                  have hj0 : (0 : Int) ≤ (j : Int) := by omega
                  have HTK : Hid (∀ W, Be wy.heap.size wy W → IRow .i64 W.heap.size W (some ⟨g, 0, none⟩) (X.take j)) := fun W hb => (irow_tk HO5.row.i j).to hb.b
                  have HDK : Hid (∀ W, Be wy.heap.size wy W → IRow .i64 W.heap.size W (if d = j then some ⟨g, 0, none⟩ else some ⟨g, j, none⟩) (X.drop j)) := fun W hb => by
                    by_cases e : d = j
                    · rw [List.drop_eq_nil_of_le (by omega)]; exact fun h => by simp at h
                    · rw [if_neg e]; exact (irow_dp HO5.row.i j).to hb.b
                  clear hg hh HO5 hj e2
                  go_region_held3 (fun w' => True) (trivial) (first
                    | (refine step_ws _ wy.heap.size wy (by rfl) (.tmp 43) (.tmp 46) (by rfl) _ [] _ _ _ (X.take j) _ _ (by rfl) (by rfl) ?_ ?_ ?_ ?_ ?_ ?_ ?_; (focus (rfl)); (focus (exact HTL.out)); (focus ((repeat (first | exact HBe.out | exact HB1.out | exact HB2.out | exact HB3.out | refine Be.al ?_ _ | refine Be.dr ?_)))); (focus ((repeat (first | exact made_o (by first | rfl | exact World.size_alloc _ _ | simp) (by first | exact Nat.le_refl _ | (show wy.heap.size ≤ (wy.alloc _).heap.size; exact (bal _ _).size)) | exact HW1.out | exact HW2.out | refine OwnR.to ?_ (bal _ _) | refine OwnR.to ?_ (Below.refl _ _).drew)))); (focus (exact HTK.out _ (by (repeat (first | exact HBe.out | exact HB1.out | exact HB2.out | exact HB3.out | refine Be.al ?_ _ | refine Be.dr ?_))))); (focus ((have := HJB.out; simp; try omega))); intro p1 c1 w1 ho hb hk; have HW1 : Hid (OwnR wy.heap.size w1 p1 (X.take j) c1) := ho; have HB1 := hidOg hb; first | (have HY1 : Hid (w1.heap[wy.heap.size + 1]? = some (.cells #[.int .i64 ((k : Int) + 1)] 3)) := hk _ _ (atW (Below.refl _ _).drew (blkS (by rw [World.size_alloc]))) (by simp)) | (have HY1 : Hid (w1.heap[wy.heap.size]? = some (.cells #[.int .i64 ((k : Int) + 1)] 3)) := hk _ _ (atW (Below.refl _ _).drew (atW (bal _ _) (blkS rfl))) (by simp)) | skip; clear ho hb hk)
                    | (refine step_ws _ wy.heap.size wy (by rfl) (.tmp 47) (.tmp 50) (by rfl) _ (X.take j) _ _ _ [(k : Int) + 1] _ _ (by rfl) (by rfl) ?_ ?_ ?_ ?_ ?_ ?_ ?_; (focus ((have := HTL.out; simp; try omega))); (focus (rfl)); (focus ((repeat (first | exact HBe.out | exact HB1.out | exact HB2.out | exact HB3.out | refine Be.al ?_ _ | refine Be.dr ?_)))); (focus ((repeat (first | exact made_o (by first | rfl | exact World.size_alloc _ _ | simp) (by first | exact Nat.le_refl _ | (show wy.heap.size ≤ (wy.alloc _).heap.size; exact (bal _ _).size)) | exact HW1.out | exact HW2.out | refine OwnR.to ?_ (bal _ _) | refine OwnR.to ?_ (Below.refl _ _).drew)))); (focus ((first | exact irow_heap .i64 (t := 3) blk1 | exact irow_heap .i64 (t := 3) HY1.out))); (focus ((have := HJB.out; simp; try omega))); intro p2 c2 w3 ho hb hk; have HW2 := hidOg ho; have HB2 := hidOg hb; clear ho hb hk)
                    | (refine step_ws _ wy.heap.size wy (by rfl) (.tmp 51) (.tmp 54) (by rfl) _ (X.take j ++ [(k : Int) + 1]) _ _ _ (X.drop j) _ _ (by rfl) (by rfl) ?_ ?_ ?_ ?_ ?_ ?_ ?_; (focus ((have := HTL.out; simp; try omega))); (focus ((have := HDL.out; simp; try omega))); (focus ((repeat (first | exact HBe.out | exact HB1.out | exact HB2.out | exact HB3.out | refine Be.al ?_ _ | refine Be.dr ?_)))); (focus ((repeat (first | exact made_o (by first | rfl | exact World.size_alloc _ _ | simp) (by first | exact Nat.le_refl _ | (show wy.heap.size ≤ (wy.alloc _).heap.size; exact (bal _ _).size)) | exact HW1.out | exact HW2.out | refine OwnR.to ?_ (bal _ _) | refine OwnR.to ?_ (Below.refl _ _).drew)))); (focus (exact HDK.out _ (by (repeat (first | exact HBe.out | exact HB1.out | exact HB2.out | exact HB3.out | refine Be.al ?_ _ | refine Be.dr ?_))))); (focus ((have := HJB.out; have := HXB.out; simp; try omega))); intro p3 c3 w4 ho hb hk; have HW3 := hidOg ho; have HB3 := hidOg hb; clear ho hb hk))
                  all_goals
                    go_wp2
                    go_roundw
                    case rel => exact ⟨k + 1, p3, X.take j ++ [(k : Int) + 1] ++ X.drop j, c3, by omega, by go_num, congrArg (fun n => Value.slice p3 n c3) (by have := HTL.out; have := HDL.out; simp; try omega), HJ2.out, HW3.out.weak HBy.out.size, HBy.out.trans (HB3.out.b.mono HBy.out.size)⟩
                    case measure => simp [intOf]; omega
        · have hdt : (y != t) = true := by simpa using hyt
          have HYT := hidOg hyt
          clear hyt
          go_wp2
          go_roundw
          case rel => exact ⟨k + 1, q, X, d, by omega, by go_num, rfl, jr_skip HJ.out (by rw [← HY.out]; exact HYT.out), HO1.out, HZ.out⟩
          case measure => simp [intOf]; omega
      · obtain rfl : k = n := by omega
        go_wp2
        go_ret
        exact ⟨q, X, d, rfl, by have := HJ.out; rw [HN.out] at this; exact this, HO.out.weak HB.out.size, HB.out.trans (HBr.out.mono HB.out.size)⟩
end Go.Proofs.Ytijlkdppjmfbhaa
