/- used, and what it hands back; rows that stay where only what is no cells turns. -/
import Derived.Test.YtjnhalomkmdcgaaLuG
import Derived.Test.YtjnhalomkmdcgaaRv
namespace Go.Proofs.Ytjnhalomkmdcgaa
open Go.RowKit Go.Shelf
attribute [local go_sem] Oper.semAt_some

/-- All blocks of cells stay. -/
structure Kc (W W' : World) : Prop where
  size : W.heap.size ≤ W'.heap.size
  same : ∀ (k : Nat) (o : Obj), W.heap[k]? = some o → o.isCells = true → W'.heap[k]? = some o
theorem cell_isCells {W : World} {b o : Nat} {v : Value} (h : W.cell? ⟨b, o, none⟩ = some v) : ∃ ob, W.heap[b]? = some ob ∧ ob.isCells = true := by
  unfold World.cell? at h
  cases hb : W.heap[b]? with
  | none => simp [hb] at h
  | some ob => cases ob <;> simp [hb] at h <;> exact ⟨_, rfl, rfl⟩
theorem Kc.cell {W W' : World} (k : Kc W W') {b o : Nat} {v : Value} (h : W.cell? ⟨b, o, none⟩ = some v) : W'.cell? ⟨b, o, none⟩ = some v := by
  obtain ⟨ob, h1, h2⟩ := cell_isCells h
  rw [cell_heap ((k.same b ob h1 h2).trans h1.symm)]; exact h
theorem Kc.irow {W W' : World} (k : Kc W W') {q : IntKind} {p : Option Addr} {l : List Int} (h : IRow q W.heap.size W p l) : IRow q W'.heap.size W' p l := fun h0 => by
  obtain ⟨b, off, e, hN, hc⟩ := h h0
  exact ⟨b, off, e, Nat.lt_of_lt_of_le hN k.size, fun j hj => k.cell (hc j hj)⟩
theorem Kc.trow {W W' : World} (k : Kc W W') {p : Option Addr} {l : List Int} {c : Nat} (h : TRow W.heap.size W p l c) : TRow W'.heap.size W' p l c := ⟨k.irow h.i, h.r, h.u⟩
theorem Kc.tg {W W' : World} (k : Kc W W') {G : Nat} {p : Option Addr} {l : List Int} {c : Nat} (h : TG G W p l c) : TG G W' p l c := ⟨k.trow h.t, h.g⟩
theorem Kc.owns {W W' : World} (k : Kc W W') {B e s n : Nat} {v : Value} {xs : List Value} (h : W.ownsRow B e s v n xs) : W'.ownsRow B e s v n xs := by
  refine ⟨h.1, ?_⟩
  rcases h.2 with hn | ⟨g, cap, cur, rfl, hb, hgg, rest⟩
  · exact .inl hn
  · exact .inr ⟨g, cap, cur, rfl, hb, k.same _ _ hgg rfl, rest⟩
theorem Kc.owT {W W' : World} (k : Kc W W') {B : Nat} {q : Option Addr} {l : List Int} {c : Nat} (h : OwT B W q l c) : OwT B W' q l c := ⟨k.owns h.o, h.u⟩
theorem Kc.erg {W W' : World} (k : Kc W W') {G m : Nat} {X : List Ep} (h : ERG G m W X) : ERG G m W' X := ⟨k.owns h.o, h.n, fun x hx => k.tg (h.t x hx)⟩
theorem own_kc {β : Type} {B : Nat} {I : β → World → Prop} (h : ∀ s W W', Kc W W' → I s W → I s W') : OwnFrom B I := fun s W W' row hs hg hr =>
  h s W W' ⟨hg.size, fun k o hk ho => (hg.block k (Array.getElem?_eq_some_iff.1 hk).1 (fun e => by
    obtain ⟨_, o', ho', hc⟩ := hr k e.symm
    rw [hk] at ho'; cases ho'; rw [ho] at hc; cases hc)).trans hk⟩ hs

theorem used36 (p : Option Addr) (n c : Nat) (w : World) :
    Calls Try.prog 36 #[.slice p n c] w fun e w' => e = .returned (.func (.func 60) #[] #[.pointer (some ⟨w.heap.size, 0, none⟩)]) ∧ w' = w.alloc (.cells #[.slice p n c] 22) := by
  go_enter Try.func36, Try.ntmps36
  go_wp2
  go_ret
  exact ⟨rfl, rfl⟩
abbrev encE (x : Ep) : Array Value := #[.agg #[.int .i64 x.1, .slice x.2.1.1 x.2.1.2.1.length x.2.1.2.2, .int .i64 x.2.2]]
/-- A used slot, copied, is handed over. -/
structure VU (L : List En) (n₁ : Nat) (pre : List Ep) (x : Ep) (W : World) : Prop where
  o : OwT n₁ W x.2.1.1 x.2.1.2.1 x.2.1.2.2
  k : ∃ k, k < L.length ∧ (gE L k).1 = 1 ∧ eOf x = gE L k ∧ pre.map eOf = (L.take k).filter usB
set_option maxRecDepth 100000 in
set_option maxHeartbeats 2000000 in
theorem used60 (n : Nat) (hn : 1 ≤ n) (yl Bl n₀ n₁ : Nat) (p : Option Addr) (L : List En) (c : Nat) (hB : LB L) (hm : L.length ≤ 1000000) (J : List Ep → World → Prop) (W : World)
    (hY : ∀ pre x W1, J pre W1 → VU L n₁ pre x W1 → YieldAt Fence.wide (n - 1) Try.prog yl (encE x) W1 fun e W' => e = .returned (.bool true) ∧ J (pre ++ [x]) W' ∧ Below n₀ W1 W')
    (hJ : AbidesFrom W.heap.size J) (hn₀ : n₀ ≤ W.heap.size) (hn₁ : n₁ ≤ W.heap.size) (hE : ERow n₀ W p L) (hBl : W.cell? ⟨Bl, 0, none⟩ = some (.slice p L.length c)) (h0 : J [] W) :
    CallsIn Fence.wide n Try.prog 60 #[.func (.yield yl) #[] #[], .pointer (some ⟨Bl, 0, none⟩)] W fun e W' => (∃ v, e = .returned v) ∧ ∃ xs, xs.map eOf = L.filter usB ∧ J xs W' := by
  refine callsIn_of_wp Try.func60 rfl trivial ?_ rfl
  simp only [Try.ntmps60, List.size_toArray, List.length_cons, List.length_nil, Nat.reduceAdd, Nat.reduceSub, Array.replicate_succ, Array.replicate_zero, List.push_toArray, List.append_toArray, List.nil_append, List.cons_append]
  have h61 : Fence.wide.fn 61 := trivial
  obtain ⟨m, hm'⟩ : ∃ m, m = L.length := ⟨_, rfl⟩
  have HM := hidOg hm'
  have HE := hidOg hE
  have HLB := hidOg hB
  have HY := hidOg hY
  rw [← hm'] at hm hBl
  clear hE hB hm' hY
  gi_wp2
  gi_loopw [7] (fun v wr => ∃ (k : Nat) (pre : List Ep), k ≤ m ∧ v = .int .i64 k ∧ pre.map eOf = (L.take k).filter usB ∧ J pre wr ∧ Below n₀ W wr)
    (fun v _ => m - (intOf v).toNat)
  case atStart => exact ⟨0, [], Nat.zero_le _, rfl, by simp, h0, Below.refl _ _⟩
  case round =>
    obtain ⟨k, pre, hk, rfl, hpre, hJs, hnx⟩ := hrel
    have HJ := hidOg hJs
    have HX := hidOg hnx
    have HP := hidOg hpre
    clear hJs hnx h0 hpre
    by_cases hlt : k < m
    · obtain ⟨b, off, rfl, hbN, hcs⟩ := HE.out (by have := HM.out; omega)
      obtain ⟨k0, ⟨qx, cx, k1, hTx⟩, k2⟩ := hcs k (by have := HM.out; omega)
      have k0' := (HX.out.cell (p := ⟨b, off + k * 3, none⟩) hbN).trans k0
      have k1' := (HX.out.cell (p := ⟨b, off + k * 3 + 1, none⟩) hbN).trans k1
      have k2' := (HX.out.cell (p := ⟨b, off + k * 3 + 2, none⟩) hbN).trans k2
      have hbal := fun (o : Obj) => (Below.refl wr.heap.size wr).alloc (Nat.le_refl _) o
      have hsz := HX.out.size
      have hTw : TRow wr.heap.size wr qx (gE L k).2.1 cx := (hTx.below HX.out (Nat.le_refl _)).mono (by omega)
      have HT : Hid (L.take (k + 1) = L.take k ++ [gE L k]) := take_succ_gE (by have := HM.out; omega)
      by_cases hu : (gE L k).1 = 1
      · have CO := fun (o : Obj) => own61 1 (gE L k).2.2 qx (gE L k).2.1 cx (wr.alloc o) ((hTw.below (hbal o) (Nat.le_refl _)).mono (hbal o).size) (HLB.out k (by have := HM.out; omega))
        have KEY : Hid (∀ (o : Obj) (W2 : World) (q' : Option Addr) (c' : Nat), OwT (wr.alloc o).heap.size W2 q' (gE L k).2.1 c' → Below (wr.alloc o).heap.size (wr.alloc o) W2 →
            J pre W2 ∧ VU L n₁ pre (1, (q', (gE L k).2.1, c'), (gE L k).2.2) W2 ∧ Below n₀ W W2) := fun o W2 q' c' hO hb => by
          have h1 := (hbal o).trans (hb.mono (hbal o).size)
          exact ⟨hJ _ _ W2 none HJ.out (grown_of_below h1) (fun r e => by cases e), ⟨hO.base (by simp; omega), k, by have := HM.out; omega, hu, by unfold eOf; rw [← hu], HP.out⟩, HX.out.trans (h1.mono (by omega))⟩
        have HF : Hid ((L.take (k + 1)).filter usB = (L.take k).filter usB ++ [gE L k]) := by unfold Hid; rw [HT.out, List.filter_append]; simp [usB, hu]
        have HEq : Hid (∀ (q' : Option Addr) (c' : Nat), eOf (1, (q', (gE L k).2.1, c'), (gE L k).2.2) = gE L k) := fun q' c' => by unfold eOf; rw [← hu]
        rw [hu] at k0'
        obtain ⟨ll, hll⟩ : ∃ ll, ll = (gE L k).2.1 := ⟨_, rfl⟩
        obtain ⟨zz, hzz⟩ : ∃ zz, zz = (gE L k).2.2 := ⟨_, rfl⟩
        rw [← hll] at k1' CO KEY HEq
        rw [← hzz] at k2' CO KEY HEq
        have YY : Hid (∀ W2 q' c', J pre W2 → VU L n₁ pre (1, (q', ll, c'), zz) W2 → YieldAt Fence.wide (n - 1) Try.prog yl (encE (1, (q', ll, c'), zz)) W2 fun e W' => e = .returned (.bool true) ∧ J (pre ++ [(1, (q', ll, c'), zz)]) W' ∧ Below n₀ W2 W') := fun W2 q' c' a b => HY.out _ _ _ a b
        clear hll hzz hu hcs k0 k1 k2 hTx hTw hbal HLB HY
        gi_wp2_with (first | (gi_at_call 61; refine (callsIn_wide.2 (CO _)).mono ?_; rintro e W2 ⟨q', c', rfl, hO, hb2⟩; obtain ⟨hJ2, hV2, hB2⟩ := KEY.out _ _ _ _ hO hb2; have HB2 := hidOg hB2; obtain ⟨fn, tmps, assign, body, hy, hR⟩ := YY.out W2 q' c' hJ2 hV2; clear hO hb2 hJ2 hV2 hB2))
        refine hR.mono ?_
        rintro e W3 ⟨rfl, hJ3, hk3⟩
        gi_wp2
        go_roundw
        case rel => exact ⟨k + 1, pre ++ [(1, (q', ll, c'), zz)], by omega, by go_num, by rw [HF.out, List.map_append, HP.out]; simp [HEq.out q' c'], hJ3, HB2.out.trans hk3⟩
        case measure => simp [intOf]; omega
      · obtain ⟨s, hs⟩ : ∃ s, s = (gE L k).1 := ⟨_, rfl⟩
        rw [← hs] at k0'
        have hu' : (s == 1) = false := by rw [hs]; simpa using hu
        have HF : Hid ((L.take (k + 1)).filter usB = (L.take k).filter usB) := by unfold Hid; rw [HT.out, List.filter_append]; simp [usB, hu]
        have HJA : Hid (∀ o, J pre (wr.alloc o) ∧ Below n₀ W (wr.alloc o)) := fun o => ⟨hJ _ _ _ none HJ.out (grown_of_below (hbal o)) (fun r e => by cases e), HX.out.trans ((hbal o).mono (by omega))⟩
        clear hs hu hcs k0 k1 k2 hTx hTw hbal HLB HY
        gi_wp2
        refine ⟨fun f hf => (by cases hf), ?_⟩
        gi_wp2
        go_roundw
        case rel => exact ⟨k + 1, pre, by omega, by go_num, by rw [HF.out, HP.out], (HJA.out _).1, (HJA.out _).2⟩
        case measure => simp [intOf]; omega
    · obtain rfl : k = m := by omega
      gi_wp2
      go_end0
      exact ⟨⟨_, rfl⟩, pre, by rw [HP.out, HM.out, List.take_length], HJ.out⟩
end Go.Proofs.Ytjnhalomkmdcgaa
