/- The document's Right, Same; the law's small, own, spoil; Same. -/
import Derived.Test.YtkbikngkhaeakaaLwA
import Derived.Test.YtkbikngkhaeakaaRo
import Derived.Test.YtkbikngkhaeakaaCoA
import Derived.Sort.Row
namespace Go.Proofs.Ytkbikngkhaeakaa
open Go.RowKit Go.Sort

/-- One cell of a row of the law's own is set. -/
theorem OwnR.set {B : Nat} {w : World} {p : Option Addr} {l : List Int} {c : Nat} (h : OwnR B w p l c) {k : Nat} (hk : k < l.length) :
    ∃ G, p = some ⟨G, 0, none⟩ ∧ w.cell? ⟨G, k, none⟩ = some (.int .u64 (iG l k)) ∧ w.frozen? ⟨G, k, none⟩ = false ∧ ∀ y, OwnR B (w.setCell ⟨G, k, none⟩ (.int .u64 y)) p (l.set k y) c ∧ w.grownBy (w.setCell ⟨G, k, none⟩ (.int .u64 y)) (p.map (·.block)) := by
  rcases h.o.2 with ⟨e, h0⟩ | ⟨G, cap, cur, e, hG, hh, h1, h2, h3, h4⟩
  · omega
  · injection e with e1 e2 e3
    subst e1 e3
    have hc := h.o.cellAt k (by omega)
    have hcur : k < cur.size := by omega
    refine ⟨G, rfl, ?_, by simp [World.frozen?, hh], fun y => ?_⟩
    · rw [hc]; simp [iG, hk]
    · have hh' : (w.setCell ⟨G, k, none⟩ (.int .u64 y)).heap[G]? = some (.cells (cur.setIfInBounds k (.int .u64 y)) 40 (0, 0)) := by
        rw [setCell_eq]; simp [mapBlock, Array.getElem?_modify, hh, onCells]
      refine ⟨⟨⟨by simp, .inr ⟨G, c, _, by simp, hG, hh', by simpa using h1, h2, by simpa using h3, ?_⟩⟩, by simpa using h.n⟩, ?_⟩
      · rw [List.length_set, Nat.mul_one, List.map_set, ← h4, Nat.mul_one]
        rw [Array.toList_setIfInBounds, List.take_set]
      · refine ⟨rfl, rfl, rfl, by rw [setCell_eq]; simp [mapBlock], fun j hj hne => ?_⟩
        have : G ≠ j := fun e => hne (by simp [e])
        rw [setCell_eq]; simp [mapBlock, Array.getElem?_modify, this]

set_option maxRecDepth 20000 in
set_option maxHeartbeats 2000000 in
theorem right12 (wd rs : Int) (p : Option Addr) (n c : Nat) (w : World) : Calls Try.prog 12 #[.agg #[.int .i64 wd, .int .i64 rs, .slice p n c]] w fun e w' => e = .returned (.bool (mayB wd rs n)) ∧ w' = w.alloc (.cells #[.int .i64 wd, .int .i64 rs, .slice p n c] 24) := by
  obtain ⟨r, hr⟩ : ∃ r, r = mayB wd rs n := ⟨_, rfl⟩
  rw [← hr]
  have HR := hidOg hr
  clear hr
  by_cases h1 : 0 ≤ wd
  · by_cases h2 : wd ≤ 4
    · by_cases h3 : 0 ≤ rs
      · by_cases h4 : rs ≤ 1048578
        · have hb := mul_bd h1 h2 h3 h4
          obtain ⟨z, hz⟩ : ∃ z, z = wd * rs := ⟨_, rfl⟩
          obtain ⟨q1, q2⟩ := wrapm hz (by rw [← hz] at hb; omega)
          have HZ := hidOg hz
          have E : Hid (r = decide ((n : Int) = z)) := by
            unfold Hid; rw [HR.out]; unfold mayB; rw [HZ.out]; simp [h1, h2, h3, h4]
          clear hb hz
          by_cases h5 : (n : Int) = z
          · have e : r = true := by rw [E.out]; simp [h5]
            subst e
            have hd : ((n : Int) == z) = true := by simp [h5]
            clear h5
            go_enter Try.func12, Try.ntmps12
            go_wp2
            go_ret
            exact ⟨rfl, rfl⟩
          · have e : r = false := by rw [E.out]; simp [h5]
            subst e
            have hd : ((n : Int) == z) = false := by simp [h5]
            clear h5
            go_enter Try.func12, Try.ntmps12
            go_wp2
            go_ret
            exact ⟨rfl, rfl⟩
        · have e : r = false := by rw [HR.out]; exact mayB_not fun h => h4 h.2.2.2.1
          subst e
          go_enter Try.func12, Try.ntmps12
          go_wp2
          go_ret
          exact ⟨rfl, rfl⟩
      · have e : r = false := by rw [HR.out]; exact mayB_not fun h => h3 h.2.2.1
        subst e
        go_enter Try.func12, Try.ntmps12
        go_wp2
        go_ret
        exact ⟨rfl, rfl⟩
    · have e : r = false := by rw [HR.out]; exact mayB_not fun h => h2 h.2.1
      subst e
      go_enter Try.func12, Try.ntmps12
      go_wp2
      go_ret
      exact ⟨rfl, rfl⟩
  · have e : r = false := by rw [HR.out]; exact mayB_not fun h => h1 h.1
    subst e
    go_enter Try.func12, Try.ntmps12
    go_wp2
    go_ret
    exact ⟨rfl, rfl⟩
def smB (wd rs : Int) (n : Nat) : Bool := decide (rs ≤ 200) || !mayB wd rs n
theorem small17 (wd rs : Int) (p : Option Addr) (n c : Nat) (w : World) : Calls Try.prog 17 #[.agg #[.int .i64 wd, .int .i64 rs, .slice p n c]] w fun e w' => e = .returned (.bool (smB wd rs n)) ∧ Below w.heap.size w w' := by
  have CR := right12 wd rs p n c (w.alloc (.cells #[.int .i64 wd, .int .i64 rs, .slice p n c] 24))
  by_cases h : rs ≤ 200
  · have E : Hid (smB wd rs n = true) := by unfold Hid smB; simp [h]
    go_enter Try.func17, Try.ntmps17
    go_wp2
    go_ret
    exact ⟨ret_bool E.out.symm, bal _ _⟩
  · have E : Hid (smB wd rs n = !mayB wd rs n) := by unfold Hid smB; simp [h]
    obtain ⟨m, hm⟩ : ∃ m, m = mayB wd rs n := ⟨_, rfl⟩
    rw [← hm] at CR E
    clear hm
    go_enter Try.func17, Try.ntmps17
    go_wp2_with (first | (go_at_call 12; refine Calls.mono CR ?_; rintro e w1 ⟨rfl, hw⟩; rw [hw]; clear hw w1))
    go_ret
    exact ⟨ret_bool E.out.symm, (((Be.refl (Nat.le_refl _)).al _).al _).b⟩
def samC (wd rs : Int) (l : List Int) (wd2 rs2 : Int) (l2 : List Int) : Bool := decide (wd = wd2) && decide (rs = rs2) && samI l l2
set_option maxRecDepth 20000 in
set_option maxHeartbeats 2000000 in
theorem same13 (wd rs : Int) (p : Option Addr) (l : List Int) (c : Nat) (wd2 rs2 : Int) (p2 : Option Addr) (l2 : List Int) (c2 : Nat) (w : World) (h1 : IRow .u64 w.heap.size w p l) (h2 : IRow .u64 w.heap.size w p2 l2) (hl : l.length ≤ 1099511627776) :
    Calls Try.prog 13 #[.agg #[.int .i64 wd, .int .i64 rs, .slice p l.length c], .agg #[.int .i64 wd2, .int .i64 rs2, .slice p2 l2.length c2]] w fun e w' => e = .returned (.bool (samC wd rs l wd2 rs2 l2)) ∧ Below w.heap.size w w' := by
  have KE : Hid (Be w.heap.size w ((w.alloc (.cells #[.int .i64 wd, .int .i64 rs, .slice p l.length c] 24)).alloc (.cells #[.int .i64 wd2, .int .i64 rs2, .slice p2 l2.length c2] 24))) := ((Be.refl (Nat.le_refl _)).al _).al _
  have CE := equal35 p l c p2 l2 c2 _ (h1.to KE.out.b) (h2.to KE.out.b) hl
  obtain ⟨r, hr⟩ : ∃ r, r = samC wd rs l wd2 rs2 l2 := ⟨_, rfl⟩
  have HR := hidOg hr
  rw [← hr]
  obtain ⟨s, hs⟩ : ∃ s, s = samI l l2 := ⟨_, rfl⟩
  rw [← hs] at CE
  have HS := hidOg hs
  obtain ⟨n, hn⟩ : ∃ n, n = l.length := ⟨_, rfl⟩
  obtain ⟨n2, hn2⟩ : ∃ n2, n2 = l2.length := ⟨_, rfl⟩
  rw [← hn, ← hn2] at CE KE
  rw [← hn, ← hn2]
  clear h1 h2 hl hr hs hn hn2
  by_cases e1 : wd = wd2
  · by_cases e2 : rs = rs2
    · have E : Hid (s = r) := by unfold Hid; rw [HR.out, HS.out]; simp [samC, e1, e2]
      have d1 : (wd == wd2) = true := by simp [e1]
      have d2 : (rs == rs2) = true := by simp [e2]
      clear e1 e2
      go_enter Try.func13, Try.ntmps13
      go_wp2_with (first | (go_at_call 35; refine Calls.mono CE ?_; rintro e w1 ⟨rfl, hb⟩))
      go_ret
      exact ⟨ret_bool E.out, (KE.out.to hb).b⟩
    · have e : r = false := by rw [HR.out]; simp [samC, e2]
      subst e
      have d1 : (wd == wd2) = true := by simp [e1]
      have d2 : (rs == rs2) = false := by simp [e2]
      clear e1 e2
      go_enter Try.func13, Try.ntmps13
      go_wp2
      go_ret
      exact ⟨rfl, KE.out.b⟩
  · have e : r = false := by rw [HR.out]; simp [samC, e1]
    subst e
    have d1 : (wd == wd2) = false := by simp [e1]
    clear e1
    go_enter Try.func13, Try.ntmps13
    go_wp2
    go_ret
    exact ⟨rfl, KE.out.b⟩
set_option maxRecDepth 20000 in
set_option maxHeartbeats 2000000 in
theorem refSame14 (wd rs : Int) (p : Option Addr) (l : List Int) (c : Nat) (wd2 rs2 : Int) (p2 : Option Addr) (l2 : List Int) (c2 : Nat) (w : World) (h1 : IRow .u64 w.heap.size w p l) (h2 : IRow .u64 w.heap.size w p2 l2) (hl : l.length ≤ 1099511627776) :
    Calls Try.prog 14 #[.agg #[.int .i64 wd, .int .i64 rs, .slice p l.length c], .agg #[.int .i64 wd2, .int .i64 rs2, .slice p2 l2.length c2]] w fun e w' => e = .returned (.bool (samC wd rs l wd2 rs2 l2)) ∧ Below w.heap.size w w' := by
  have KE : Hid (Be w.heap.size w ((w.alloc (.cells #[.int .i64 wd, .int .i64 rs, .slice p l.length c] 24)).alloc (.cells #[.int .i64 wd2, .int .i64 rs2, .slice p2 l2.length c2] 24))) := ((Be.refl (Nat.le_refl _)).al _).al _
  have H1 := hidOg (h1.to KE.out.b)
  have H2 := hidOg (h2.to KE.out.b)
  obtain ⟨r, hr⟩ : ∃ r, r = samC wd rs l wd2 rs2 l2 := ⟨_, rfl⟩
  have HR := hidOg hr
  rw [← hr]
  obtain ⟨n, hn⟩ : ∃ n, n = l.length := ⟨_, rfl⟩
  obtain ⟨n2, hn2⟩ : ∃ n2, n2 = l2.length := ⟨_, rfl⟩
  have HN := hidOg hn
  have HN2 := hidOg hn2
  rw [← hn, ← hn2] at KE H1 H2
  rw [← hn] at hl
  rw [← hn, ← hn2]
  clear h1 h2 hr hn hn2
  by_cases e1 : wd = wd2
  · by_cases e2 : rs = rs2
    · have d1 : (wd != wd2) = false := by simp [e1]
      have d2 : (rs != rs2) = false := by simp [e2]
      by_cases e3 : n = n2
      · have HL : Hid (l.length = l2.length) := by unfold Hid; rw [← HN.out, ← HN2.out]; exact e3
        have E : Hid (r = samI l l2) := by unfold Hid; rw [HR.out]; simp [samC, e1, e2]
        have d3 : ((n : Int) != (n2 : Int)) = false := by simp; omega
        clear e1 e2
        subst e3
        go_enter Try.func14, Try.ntmps14
        go_wp2
        go_loop [31] (fun i => ∃ k : Nat, k ≤ n ∧ i = .int .i64 k ∧ (∀ j, j < k → iG l j = iG l2 j)) (fun i => n - (intOf i).toNat)
        case atStart => exact ⟨0, Nat.zero_le _, rfl, fun j h => by omega⟩
        case round =>
          obtain ⟨k, hk, rfl, hall⟩ := hrel
          have HA := hidOg hall
          clear hall
          by_cases hlt : k < n
          · obtain ⟨b, off, rfl, hb, hcs⟩ := H1.out (by have := HN.out; omega)
            obtain ⟨b', off', rfl, hb', hcs'⟩ := H2.out (by have := HN2.out; omega)
            have c0 := hcs k (by rw [← HN.out]; exact hlt)
            have c0' := hcs' k (by rw [← HN2.out]; exact hlt)
            obtain ⟨x, hx⟩ : ∃ x, x = iG l k := ⟨_, rfl⟩
            obtain ⟨y, hy⟩ : ∃ y, y = iG l2 k := ⟨_, rfl⟩
            rw [← hx] at c0
            rw [← hy] at c0'
            have HX := hidOg hx
            have HY := hidOg hy
            clear hx hy hcs hcs'
            by_cases hxy : x = y
            · have hd : (x != y) = false := by simp [hxy]
              have HXY := hidOg hxy
              clear hxy
              go_wp2
              go_round
              case rel =>
                refine ⟨k + 1, by omega, by go_num, fun j hj => ?_⟩
                by_cases e : j = k
                · rw [e, ← HX.out, ← HY.out]; exact HXY.out
                · exact HA.out j (by omega)
              case measure => simp [intOf]; omega
            · have hd : (x != y) = true := by simp [hxy]
              have e : r = false := by rw [E.out]; exact samI_at k (by rw [← HX.out, ← HY.out]; exact hxy)
              subst e
              clear hxy
              go_wp2
              go_ret
              exact ⟨rfl, KE.out.b⟩
          · obtain rfl : n = k := by omega
            have e : r = true := by rw [E.out]; exact samI_all HL.out (by rw [← HN.out]; exact HA.out)
            subst e
            go_wp2
            go_ret
            exact ⟨rfl, KE.out.b⟩
      · have e : r = false := by rw [HR.out]; simp [samC, samI_len (show l.length ≠ l2.length by rw [← HN.out, ← HN2.out]; exact e3)]
        subst e
        have d3 : ((n : Int) != (n2 : Int)) = true := by simp; omega
        clear e1 e2
        go_enter Try.func14, Try.ntmps14
        go_wp2
        go_ret
        exact ⟨rfl, KE.out.b⟩
    · have e : r = false := by rw [HR.out]; simp [samC, e2]
      subst e
      have d1 : (wd != wd2) = false := by simp [e1]
      have d2 : (rs != rs2) = true := by simp [e2]
      clear e1 e2
      go_enter Try.func14, Try.ntmps14
      go_wp2
      go_ret
      exact ⟨rfl, KE.out.b⟩
  · have e : r = false := by rw [HR.out]; simp [samC, e1]
    subst e
    have d1 : (wd != wd2) = true := by simp [e1]
    clear e1
    go_enter Try.func14, Try.ntmps14
    go_wp2
    go_ret
    exact ⟨rfl, KE.out.b⟩
set_option maxRecDepth 20000 in
set_option maxHeartbeats 1000000 in
theorem own10 (wd rs : Int) (p : Option Addr) (l : List Int) (c : Nat) (w : World) (h : InR w p l c) :
    Calls Try.prog 10 #[.agg #[.int .i64 wd, .int .i64 rs, .slice p l.length c]] w fun e w' => GivesC wd rs (l.take 60) w e w' := by
  obtain ⟨h1, h2⟩ := al2 w (.cells #[.int .i64 wd, .int .i64 rs, .slice p l.length c] 24) oZ
  have KE : Hid (Be w.heap.size w ((w.alloc (.cells #[.int .i64 wd, .int .i64 rs, .slice p l.length c] 24)).alloc oZ)) := ((Be.refl (Nat.le_refl _)).al _).al _
  obtain ⟨n, hn⟩ : ∃ n, n = (l.take 60).length := ⟨_, rfl⟩
  have hl := h.r
  have hn' : (if (60 : Int) < (l.length : Int) then (60 : Int) else (l.length : Int)) = (n : Int) := by rw [hn]; simp only [List.length_take]; split <;> omega
  have hn2 : min (l.length : Int) 60 = (n : Int) := by rw [hn]; simp only [List.length_take]; omega
  have n0 : (0 : Int) ≤ (n : Int) := by omega
  have n1 : (n : Int) ≤ (c : Int) := by omega
  have CC := clone33 p (l.take 60) c _ ((h.i.to KE.out.b).take 60) (by simp; omega)
  have HN60 : Hid ((l.take 60).length ≤ 1099511627776) := by unfold Hid; simp; omega
  rw [← hn] at CC
  have HN := hidOg hn
  obtain ⟨m, hm⟩ : ∃ m, m = l.take 60 := ⟨_, rfl⟩
  rw [← hm] at CC HN HN60 ⊢
  obtain ⟨n3, hn3⟩ : ∃ n3, n3 = l.length := ⟨_, rfl⟩
  rw [← hn3] at KE CC h1 h2 hn' hn2
  rw [← hn3]
  have H1 := hidOg h1
  have H2 := hidOg h2
  clear h hl hn hm hn3 h1 h2
  go_enter Try.func10, Try.ntmps10
  go_wp2_with (first | (go_at_call 33; refine Calls.mono CC ?_; rintro e w1 ⟨v, rfl, hr, hb⟩; obtain ⟨q', c', rfl, _⟩ := irow_owns hr; obtain ⟨x0, x1, x2, xf⟩ := heap3_cell ((hb.block w.heap.size (by simp; omega)).trans H1.out); obtain ⟨y0, y1, y2, yf⟩ := heap3_cell ((hb.block (w.heap.size + 1) (by simp)).trans H2.out); have HO := hidOg hr; have HX : Hid (Be w.heap.size w w1) := KE.out.to hb; clear hr hb))
  refine bodyPost_ret (v := .agg #[.int .i64 wd, .int .i64 rs, .slice q' m.length c']) (by simp [results, Try.results10, go_sem, y0, y1, y2]) rfl ⟨q', c', rfl, ?_, ?_⟩
  · have h0 : OwnR (w.heap.size + 2) w1 q' m c' := ⟨by have := HO.out; simpa using this, HN60.out⟩
    have hz := h0.fr
    have e1 : ∀ x, q' = some x → x.block ≠ w.heap.size := fun x hx => by have := hz x hx; omega
    exact ((h0.setCell (a := ⟨w.heap.size, 2, none⟩) e1 _).set3 (B := w.heap.size + 1) (by omega) _ _ _).weak (by omega)
  · exact set3 ((HX.out.st (a := ⟨w.heap.size, 2, none⟩) (Nat.le_refl _) _).b) (by omega) _ _ _
set_option maxRecDepth 20000 in
set_option maxHeartbeats 1000000 in
theorem spoil26 (wd rs : Int) (p : Option Addr) (l : List Int) (c B : Nat) (w : World) (h : OwnR B w p l c) (hB : B ≤ w.heap.size) :
    Calls Try.prog 26 #[.agg #[.int .i64 wd, .int .i64 rs, .slice p l.length c]] w fun e w' => e = .returned (.tuple #[]) ∧ Below B w w' := by
  have hlt := h.lt
  have hln := h.n
  obtain ⟨n, hn⟩ : ∃ n, n = l.length := ⟨_, rfl⟩
  have h1 : OwnR B (w.alloc (.cells #[.int .i64 wd, .int .i64 rs, .slice p l.length c] 24)) p l c := h.to (bal _ _)
  have hx := heap_alloc_new w (.cells #[.int .i64 wd, .int .i64 rs, .slice p l.length c] 24)
  have hb1 : Below B w (w.alloc (.cells #[.int .i64 wd, .int .i64 rs, .slice p l.length c] 24)) := (Below.refl _ _).alloc hB _
  rw [← hn] at hln h1 hx hb1 ⊢
  have HI : Hid (∃ l', l'.length = n ∧ OwnR B (w.alloc (.cells #[.int .i64 wd, .int .i64 rs, .slice p n c] 24)) p l' c ∧ (w.alloc (.cells #[.int .i64 wd, .int .i64 rs, .slice p n c] 24)).heap[w.heap.size]? = some (.cells #[.int .i64 wd, .int .i64 rs, .slice p n c] 24 (0, 0)) ∧ Below B w (w.alloc (.cells #[.int .i64 wd, .int .i64 rs, .slice p n c] 24))) := ⟨l, hn.symm, h1, hx, hb1⟩
  have HLT : Hid (∀ a, p = some a → a.block < w.heap.size) := hlt
  clear h h1 hx hb1 hn hlt
  go_enter Try.func26, Try.ntmps26
  go_wp2
  go_loopw [6] (fun i wr => ∃ j : Nat, j ≤ n ∧ i = .int .i64 j ∧ ∃ l', l'.length = n ∧ OwnR B wr p l' c ∧ wr.heap[w.heap.size]? = some (.cells #[.int .i64 wd, .int .i64 rs, .slice p n c] 24 (0, 0)) ∧ Below B w wr) (fun i _ => n - (intOf i).toNat)
  case atStart => exact ⟨0, Nat.zero_le _, rfl, HI.out⟩
  case round =>
    obtain ⟨j, hj, rfl, l', hl', ho, hx, hb⟩ := hrel
    obtain ⟨x0, x1, x2, _⟩ := heap3_cell hx
    have HX := hidOg hx
    have HL := hidOg hl'
    have HB := hidOg hb
    clear HI hx hl' hb
    by_cases hlt : j < n
    · obtain ⟨G, rfl, c0, f0, hs⟩ := ho.set (k := j) (by rw [HL.out]; exact hlt)
      have HS := hidOg hs
      clear hs ho
      go_wp2
      go_roundw
      case rel =>
        obtain ⟨h1, h2⟩ := HS.out _
        refine ⟨j + 1, by omega, by go_num, _, by rw [List.length_set]; exact HL.out, h1, ?_, ?_⟩
        · have hne : w.heap.size ≠ G := fun e => by have := HLT.out _ rfl; simp at this; omega
          exact (h2.block w.heap.size (Array.getElem?_eq_some_iff.1 HX.out).1 (by simp; omega)).trans HX.out
        · exact grown_bel HB.out (fun a ha => h1.fr a ha) (Nat.le_trans hB HB.out.size) h2
      case measure => simp [intOf]; omega
    · obtain rfl : n = j := by omega
      go_wp2
      go_end0
      exact ⟨rfl, HB.out⟩
end Go.Proofs.Ytkbikngkhaeakaa
