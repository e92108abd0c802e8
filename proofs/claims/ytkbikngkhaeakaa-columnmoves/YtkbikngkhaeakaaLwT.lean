/- slices.Values, AppendSeq, Collect, SortedFunc; the law's sorted. -/
import Derived.Test.YtkbikngkhaeakaaLwS
import Derived.Test.YtkbikngkhaeakaaRv
namespace Go.Proofs.Ytkbikngkhaeakaa
open Go.RowKit Go.Shelf
attribute [local go_sem] Oper.semAt_some
attribute [local go_sem ↓] app_hide

theorem values56 (q : Option Addr) (n c : Nat) (w : World) :
    Calls Try.prog 56 #[.slice q n c] w fun e w' => e = .returned (.func (.func 61) #[] #[.pointer (some ⟨w.heap.size, 0, none⟩)]) ∧ w' = w.alloc (.cells #[.slice q n c] 35) := by
  go_enter Try.func56, Try.ntmps56
  go_wp2
  go_ret
  exact ⟨rfl, rfl⟩
abbrev encX (X : List RR) (k : Nat) : Array Value := #[.slice (rP X k) (rL X k).length (rC X k)]
set_option maxRecDepth 100000 in
set_option maxHeartbeats 2000000 in
theorem vals61 (n : Nat) (hn : 1 ≤ n) (yl Bl n₀ : Nat) (q : Option Addr) (X : List RR) (c : Nat) (w : World) (hX : VRow n₀ w q X) (hm : X.length ≤ 1000000) (J : List Nat → World → Prop)
    (hY : ∀ pre W1, J pre W1 → pre.length < X.length → YieldAt Fence.wide (n - 1) Try.prog yl (encX X pre.length) W1 fun e W' => e = .returned (.bool true) ∧ J (pre ++ [pre.length]) W' ∧ Below n₀ W1 W')
    (hBl : w.cell? ⟨Bl, 0, none⟩ = some (.slice q X.length c)) (h0 : J [] w) :
    CallsIn Fence.wide n Try.prog 61 #[.func (.yield yl) #[] #[], .pointer (some ⟨Bl, 0, none⟩)] w fun e W' => (∃ v, e = .returned v) ∧ ∃ xs, xs = List.range X.length ∧ J xs W' := by
  refine callsIn_of_wp Try.func61 rfl trivial ?_ rfl
  simp only [Try.ntmps61, List.size_toArray, List.length_cons, List.length_nil, Nat.reduceAdd, Nat.reduceSub, Array.replicate_succ, Array.replicate_zero, List.push_toArray, List.append_toArray, List.nil_append, List.cons_append]
  have HY := hidOg hY
  have HX := hidOg hX
  obtain ⟨m, hm'⟩ : ∃ m, m = X.length := ⟨_, rfl⟩
  have HM := hidOg hm'
  rw [← hm'] at hBl hm ⊢
  clear hY hX hm'
  gi_wp2
  gi_loopw [7] (fun v wr => ∃ k : Nat, k ≤ m ∧ v = .int .i64 k ∧ J (List.range k) wr ∧ Below n₀ w wr) (fun v _ => m - (intOf v).toNat)
  case atStart => exact ⟨0, Nat.zero_le _, rfl, by simpa using h0, Below.refl _ _⟩
  case round =>
    obtain ⟨k, hk, rfl, hJs, hnx⟩ := hrel
    have HJ := hidOg hJs
    have HB := hidOg hnx
    clear hJs hnx h0
    by_cases hlt : k < m
    · obtain ⟨b, off, rfl, hbN, hcs⟩ := (HX.out.below HB.out (Nat.le_refl _)) (by rw [← HM.out]; omega)
      obtain ⟨c0, _⟩ := hcs k (by rw [← HM.out]; exact hlt)
      have YY := HY.out (List.range k) wr HJ.out (by rw [← HM.out]; simpa using hlt)
      have e1 : (List.range k).length = k := by simp
      rw [e1] at YY
      dsimp only [encX] at YY
      have HR1 : Hid (List.range (k + 1) = List.range k ++ [k]) := List.range_succ
      obtain ⟨rp, hrp⟩ : ∃ rp, rp = rP X k := ⟨_, rfl⟩
      obtain ⟨rl, hrl⟩ : ∃ rl, rl = (rL X k).length := ⟨_, rfl⟩
      obtain ⟨rc, hrc⟩ : ∃ rc, rc = rC X k := ⟨_, rfl⟩
      rw [← hrp, ← hrl, ← hrc] at YY c0
      obtain ⟨fn, tmps, assign, body, hy, hR⟩ := YY
      clear hcs e1 hrp hrl hrc HY
      gi_wp2
      refine hR.mono ?_
      rintro e W3 ⟨rfl, hJ3, hk3⟩
      gi_wp2
      go_roundw
      case rel => exact ⟨k + 1, by omega, by go_num, by rw [HR1.out]; exact hJ3, HB.out.trans hk3⟩
      case measure => simp [intOf]; omega
    · obtain rfl : m = k := by omega
      gi_wp2
      go_end0
      exact ⟨⟨_, rfl⟩, _, rfl, HJ.out⟩
/-- What AppendSeq keeps in memory. -/
structure AsI (S : Nat) (X : List RR) (pre : List Nat) (W : World) : Prop where
  v : ∃ q c, Boxed W S 35 (.slice q pre.length c) ∧ RV S (pre.map (gR X)) q c W
  x : ∀ x ∈ X, OwnR 0 W x.1 x.2.1 x.2.2
theorem AsI.kc {S : Nat} {X : List RR} {pre : List Nat} {W W' : World} (h : AsI S X pre W) (k : Kc W W') : AsI S X pre W' := by
  obtain ⟨q, c, h1, h2⟩ := h.v
  exact ⟨⟨q, c, k.same _ _ h1 rfl, k.rv h2⟩, fun x hx => k.ownR (h.x x hx)⟩
structure AsA (S Bl : Nat) (X : List RR) (pre : List Nat) (x : Nat) (a' : Act) (W : World) : Prop where
  a : a' = { tmps := #[.slice none 0 0, .func (.func 61) #[] #[.pointer (some ⟨Bl, 0, none⟩)], .pointer (some ⟨S, 0, none⟩), undef, .slice none 0 0, .slice (rP X x) (rL X x).length (rC X x), .func (.func 61) #[] #[.pointer (some ⟨Bl, 0, none⟩)], .slice (rP X x) (rL X x).length (rC X x), undef, undef, undef, undef, undef], defers := [] }
  m : AsI S X pre W
  x : x = pre.length
  r : pre.length < X.length
theorem AsA.kc {S Bl : Nat} {X : List RR} {pre : List Nat} {x : Nat} {a' : Act} {W W' : World} (h : AsA S Bl X pre x a' W) (k : Kc W W') : AsA S Bl X pre x a' W' := ⟨h.a, h.m.kc k, h.x, h.r⟩
theorem map_range_gR (X : List RR) : (List.range X.length).map (gR X) = X := by
  apply List.ext_getElem
  · simp
  · intro i h1 h2
    simp [gR_eq h2]
set_option maxRecDepth 100000 in
set_option maxHeartbeats 4000000 in
theorem append63 (q : Option Addr) (X : List RR) (c Bl n₀ : Nat) (w : World) (hV : RV 0 X q c w) (hX : VRow n₀ w q X) (hn₀ : n₀ ≤ w.heap.size) (hm : X.length ≤ 1000) (hBl : w.cell? ⟨Bl, 0, none⟩ = some (.slice q X.length c)) :
    Calls Try.prog 63 #[.slice none 0 0, .func (.func 61) #[] #[.pointer (some ⟨Bl, 0, none⟩)]] w fun e w' => ∃ q' c', e = .returned (.slice q' X.length c') ∧ RV w.heap.size X q' c' w' ∧ Below w.heap.size w w' := by
  refine (callsIn_wide (n := 4)).1 ?_
  refine callsIn_of_wp_marks Try.func63 rfl trivial ?_ rfl
  simp only [Try.ntmps63, List.size_toArray, List.length_cons, List.length_nil, Nat.reduceAdd, Nat.reduceSub, Array.replicate_succ, Array.replicate_zero, List.push_toArray, List.append_toArray, List.nil_append, List.cons_append]
  have hbl := World.block_lt_of_cell? w _ hBl
  gi_wp2
  obtain ⟨w5, hw5⟩ : ∃ w5, w5 = w.alloc (.cells #[.slice none 0 0] 35) := ⟨_, rfl⟩
  rw [← hw5]
  have s5 : w5.heap.size = w.heap.size + 1 := by rw [hw5]; simp
  have B5 : Be w.heap.size w w5 := by rw [hw5]; exact (Be.refl (Nat.le_refl _)).al _
  have bx : Boxed w5 w.heap.size 35 (.slice none 0 0) := by rw [hw5]; exact Boxed.new w 35 _
  clear hw5
  have hI0 : AsI w.heap.size X [] w5 := ⟨⟨none, 0, bx, RV.nil _ _⟩, fun x hx => (hV.t x hx).to B5.b⟩
  have hseq : SeqV Fence.wide 3 Try.prog 61 #[.pointer (some ⟨Bl, 0, none⟩)] (encX X) (Below w.heap.size) (fun pre x _ => x = pre.length ∧ pre.length < X.length) (fun xs => xs = List.range X.length) w5 := fun yl J W' hW hJ hY hj =>
    vals61 3 (by omega) yl Bl w.heap.size q X c W' ((hX.below (B5.b.trans (hW.mono B5.s)) hn₀).mono hn₀) (by omega) J (fun pre W1 hj hlt => hY pre pre.length W1 hj ⟨rfl, hlt⟩) ((hW.cell (p := ⟨Bl, 0, none⟩) (by simp at hbl ⊢; omega)).trans ((B5.b.cell (p := ⟨Bl, 0, none⟩) hbl).trans hBl)) hj
  have HB5 := hidOg B5
  clear bx B5 hV hX hBl
  refine wpIn_rangeV rfl (by omega) (gf := 61) (lb := #[.pointer (some ⟨Bl, 0, none⟩)]) rfl trivial (enters_of Try.func61 (by kernel_rfl) rfl)
    hseq belowK_t (belowK_b (by omega)) (Below.refl _ _) (fun _ => rfl)
    (fun pre W => AsI w.heap.size X pre W ∧ Below w.heap.size w W)
    (OwnFrom.and (own_kc fun _ _ _ k h => h.kc k) (ownFrom_below (Nat.le_refl _) (by omega))) ⟨hI0, HB5.out.b⟩
    (fun pre x a' W => AsA w.heap.size Bl X pre x a' W ∧ Below w.heap.size w W)
    (fun pre x a' => OwnFrom.and (own_kc fun _ _ _ k h => h.kc k) (ownFrom_below (Nat.le_refl _) (by omega))) ?assign ?body ?done
  case assign =>
    rintro yl pre x W K ⟨hM, hB⟩ ⟨hx, hxr⟩ hK
    have fin := hK _ W ((KeepsOthers.refl W).from _) (Below.refl _ _) ⟨⟨rfl, hM, hx, hxr⟩, hB⟩
    clear hK hM hB hseq hx hxr
    gi_wp2
    exact fin
  case body =>
    rintro yl pre x a' W ⟨⟨rfl, hM, hx, hxr⟩, hBX⟩
    subst hx
    obtain ⟨q', c', hv, hrow⟩ := hM.v
    have hlenP : (pre.map (gR X)).length = pre.length := List.length_map ..
    have hx0 : OwnR 0 W (rP X pre.length) (rL X pre.length) (rC X pre.length) := hM.x _ (gR_mem hxr)
    have hs2 := hBX.size
    obtain ⟨g2, c2, w3, hrun, ho2, hg2⟩ := app_rv (W.alloc (.cells #[.slice (rP X pre.length) (rL X pre.length).length (rC X pre.length)] 38)) 35 w.heap.size q' (pre.map (gR X)) c' [(rP X pre.length, rL X pre.length, rC X pre.length)] ⟨W.heap.size, 0, none⟩ 1 (hrow.to (bal _ _)) (cell_new1 W _ 38) (fun x hx => by rw [List.mem_singleton.1 hx]; exact hx0.to (bal _ _)) (by rw [hlenP]; simp; omega) (Nat.le_trans hs2 (bal W _).size)
    have e1 : (pre.map (gR X) ++ [(rP X pre.length, rL X pre.length, rC X pre.length)]).length = pre.length + 1 := by simp
    rw [e1, hlenP, app_hide] at hrun
    have hrun : (appS #[35, 35] 35 #[.slice q' pre.length c', .slice (some ⟨W.heap.size, 0, none⟩) 1 1]).run Try.prog (W.alloc (.cells #[.slice (rP X pre.length) (rL X pre.length).length (rC X pre.length)] 38)) = .ok (.slice g2 (pre.length + 1) c2) w3 := hrun
    obtain ⟨v1, v2, v3, v4, v5⟩ := hv.appended (tmp := .cells #[.slice (rP X pre.length) (rL X pre.length).length (rC X pre.length)] 38) (by decide) (by have := hrow.o; rw [hlenP] at this; exact this) hs2 (Nat.le_refl _) ho2.o (by rw [ownBlock_slice]; exact hg2)
    rw [e1] at v2 v3 v4 v5
    have hc0 : W.cell? ⟨w.heap.size, 0, none⟩ = some (.slice q' pre.length c') := hv.cell
    have hc2 : (W.alloc (.cells #[.slice (rP X pre.length) (rL X pre.length).length (rC X pre.length)] 38)).cell? ⟨w.heap.size, 0, none⟩ = some (.slice q' pre.length c') := (hv.alloc _).cell
    have hc1 := v1.cell
    have hf1 := v1.frozen
    have FIN : Hid (KeepsFrom w5.heap.size W (w3.setCell ⟨w.heap.size, 0, none⟩ (.slice g2 (pre.length + 1) c2)) ∧ Below w.heap.size W (w3.setCell ⟨w.heap.size, 0, none⟩ (.slice g2 (pre.length + 1) c2)) ∧ AsI w.heap.size X (pre ++ [pre.length]) (w3.setCell ⟨w.heap.size, 0, none⟩ (.slice g2 (pre.length + 1) c2)) ∧ Below w.heap.size w (w3.setCell ⟨w.heap.size, 0, none⟩ (.slice g2 (pre.length + 1) c2))) := by
      have e2 : (pre ++ [pre.length]).map (gR X) = pre.map (gR X) ++ [(rP X pre.length, rL X pre.length, rC X pre.length)] := by rw [List.map_append]; rfl
      have hset : ∀ {p : Option Addr} {l : List Int} {d : Nat}, OwnR 0 w3 p l d → OwnR 0 (w3.setCell ⟨w.heap.size, 0, none⟩ (.slice g2 (pre.length + 1) c2)) p l d := fun h => ⟨h.o.kept (grownBy_setCell' w3 w.heap.size _) (.inr (v1.not_row (by decide) h.o).symm), h.n⟩
      refine ⟨v4.from _, v5, ⟨⟨g2, c2, by rw [List.length_append]; exact v2, ?_⟩, fun x hx => ?_⟩, hBX.trans v5⟩
      · rw [e2]
        exact ⟨by rw [e1]; exact v3, fun x hx => hset (ho2.t x hx)⟩
      · exact hset (((hM.x x hx).to (bal W _)).hdr (hrow.to (bal W _)).o hg2)
    obtain ⟨pl, hpl⟩ : ∃ pl, pl = pre.length := ⟨_, rfl⟩
    rw [← hpl] at hrun hc0 hc1 hc2 FIN
    rw [← hpl]
    clear v1 v2 v3 v4 v5 hM hv hrow hx0 ho2 hg2 e1 hlenP hseq hxr hpl
    gi_wp2
    exact FIN.out
  case done =>
    rintro D xs W hD hS ⟨hM, hBX⟩ hK
    subst hS
    obtain ⟨q', c', hv, hrow⟩ := hM.v
    rw [map_range_gR] at hrow
    have hc := hv.cell
    rw [List.length_range] at hc
    have HRW := hidOg hrow
    clear hM hseq hrow hv
    gi_wp2
    refine ⟨by simp, .inl ⟨_, _, rfl, run_takeDeferred hK, ?_⟩⟩
    have k := kc_put (o' := .deferred none) hK rfl
    exact ⟨_, results_tmp rfl _ _ _, q', c', rfl, k.rv HRW.out, hBX.trans (belowK_b (w := w) (Nat.le_refl _) W D _ _ (by omega) hK rfl rfl)⟩
theorem collect59 (q : Option Addr) (X : List RR) (c Bl n₀ : Nat) (w : World) (hV : RV 0 X q c w) (hX : VRow n₀ w q X) (hn₀ : n₀ ≤ w.heap.size) (hm : X.length ≤ 1000) (hBl : w.cell? ⟨Bl, 0, none⟩ = some (.slice q X.length c)) :
    Calls Try.prog 59 #[.func (.func 61) #[] #[.pointer (some ⟨Bl, 0, none⟩)]] w fun e w' => ∃ q' c', e = .returned (.slice q' X.length c') ∧ RV w.heap.size X q' c' w' ∧ Below w.heap.size w w' := by
  have CA := append63 q X c Bl n₀ w hV hX hn₀ hm hBl
  clear hV hX hBl
  go_enter Try.func59, Try.ntmps59
  go_wp2_with (first | (go_at_call 63; refine Calls.mono CA ?_; rintro e w1 ⟨q', c', rfl, h1, h2⟩))
  go_ret
  exact ⟨q', c', rfl, h1, h2⟩
/-- Sorted values. -/
def SortedV (X : List RR) (w : World) (e : Ending) (w' : World) : Prop := ∃ q' c' X', e = .returned (.slice q' X'.length c') ∧ X'.Perm X ∧ (lS X').Pairwise (fun x y => ¬ cmpL y x < 0) ∧ RV w.heap.size X' q' c' w' ∧ Below w.heap.size w w'
set_option maxHeartbeats 1000000 in
theorem sorted55 (q : Option Addr) (X : List RR) (c Bl n₀ : Nat) (w : World) (hV : RV 0 X q c w) (hX : VRow n₀ w q X) (hn₀ : n₀ ≤ w.heap.size) (hm : X.length ≤ 1000) (hl : ∀ x ∈ X, x.2.1.length ≤ 1000) (hBl : w.cell? ⟨Bl, 0, none⟩ = some (.slice q X.length c)) :
    Calls Try.prog 55 #[.func (.func 61) #[] #[.pointer (some ⟨Bl, 0, none⟩)], .func (.func 57) #[] #[]] w fun e w' => SortedV X w e w' := by
  have CC := collect59 q X c Bl n₀ w hV hX hn₀ hm hBl
  have KEY : Hid (∀ (w1 : World) (q' : Option Addr) (c' : Nat), RV w.heap.size X q' c' w1 → Below w.heap.size w w1 → Calls Try.prog 60 #[.slice q' X.length c', .func (.func 57) #[] #[]] w1 fun e w' => e = .returned (.tuple #[]) ∧ SortedV X w (.returned (.slice q' X.length c')) w') := by
    intro w1 q' c' h2 hb
    rcases h2.o.2 with ⟨e, h0⟩ | ⟨g, cap, cur, e, hg, hh, _⟩
    · injection e with e1 e2 e3
      subst e1 e3
      obtain rfl : X = [] := List.eq_nil_of_length_eq_zero h0
      refine (sort_none60 none 0 _ w1).mono ?_
      rintro e w' ⟨rfl, rfl⟩
      exact ⟨rfl, none, 0, [], rfl, List.Perm.refl _, List.Pairwise.nil, RV.nil _ _, hb⟩
    · injection e with e1 e2 e3
      subst e1 e3
      refine (sort60 w.heap.size g c' w1 X h2 hl (by omega)).mono ?_
      rintro e w' ⟨rfl, X', hp, hs, hV', hsz, hh', ho, hta, hou⟩
      refine ⟨rfl, some ⟨g, 0, none⟩, c', X', by rw [hp.length_eq], hp, hs, hV', ?_⟩
      exact ⟨ho.trans hb.os, hta.trans hb.tape, hou.trans hb.output, Nat.le_trans hb.size hsz, fun k hk => (hh' k (by omega) (by have := hb.size; omega)).trans (hb.block k hk)⟩
  clear hV hX hBl hl
  go_enter Try.func55, Try.ntmps55
  go_wp2_with (first | (go_at_call 59; refine Calls.mono CC ?_; rintro e w1 ⟨q', c', rfl, h1, h2⟩; have CS := KEY.out w1 q' c' h1 h2; clear h1 h2) | (go_at_call 60; refine Calls.mono CS ?_; rintro e w2 ⟨rfl, hA⟩; have HA := hidOg hA; clear hA))
  go_ret
  exact HA.out
theorem sorted32 (q : Option Addr) (X : List RR) (c : Nat) (w : World) (hV : RV 0 X q c w) (hm : X.length ≤ 1000) (hl : ∀ x ∈ X, x.2.1.length ≤ 1000) :
    Calls Try.prog 32 #[.slice q X.length c] w fun e w' => SortedV X w e w' := by
  have CS := sorted55 q X c w.heap.size w.heap.size (w.alloc (.cells #[.slice q X.length c] 35)) (hV.to (bal _ _)) ((hV.row).below (bal _ _) (Nat.le_refl _)) (bal _ _).size hm hl (World.cell?_alloc_at _ _ _ _ rfl)
  clear hV hl
  go_enter Try.func32, Try.ntmps32
  go_wp2_with (first | (go_at_call 56; refine Calls.mono (values56 _ _ _ _) ?_; rintro e w1 ⟨rfl, hw⟩; rw [hw]; clear hw w1) | (go_at_call 55; refine Calls.mono CS ?_; rintro e w2 ⟨q', c', X', rfl, hr⟩; have HR := hidOg hr; clear hr))
  go_ret
  obtain ⟨h1, h2, h3, h4⟩ := HR.out
  exact ⟨q', c', X', rfl, h1, h2.imp (fun h => by omega), h3.base (bal _ _).size, (bal w _).trans (h4.mono (bal w _).size)⟩
end Go.Proofs.Ytkbikngkhaeakaa
