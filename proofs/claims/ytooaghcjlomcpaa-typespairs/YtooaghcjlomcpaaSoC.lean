/- The sort of ids: partitionOrdered of a whole row. -/
import Derived.Test.YtooaghcjlomcpaaSoB
namespace Go.Proofs.Ytooaghcjlomcpaa
open Go.RowKit Go.Sort

/-- What is behind i is less than x, what is behind j is not; x stands first. -/
structure Pa (L M : List Int) (n i j : Nat) (x : Int) : Prop where
  seg : Seg L M 0 n
  x0 : iG M 0 = x
  lo : ∀ s, 1 ≤ s → s < i → iG M s < x
  hi : ∀ s, j < s → s < n → x ≤ iG M s
  i1 : 1 ≤ i
  ij : i ≤ j + 1
  jn : j < n
/-- One part is less than what stands at k, the other is not. -/
def Parted (M : List Int) (n k : Nat) : Prop := k < n ∧ (∀ s, s < k → iG M s < iG M k) ∧ (∀ s, k < s → s < n → iG M k ≤ iG M s)
theorem Pa.up {L M : List Int} {n i j : Nat} {x : Int} (h : Pa L M n i j x) (hij : i ≤ j) (hx : iG M i < x) : Pa L M n (i + 1) j x :=
  ⟨h.seg, h.x0, fun s h1 h2 => by by_cases e : s = i; { rw [e]; exact hx }; { exact h.lo s h1 (by omega) }, h.hi, by omega, by omega, h.jn⟩
theorem Pa.down {L M : List Int} {n i j : Nat} {x : Int} (h : Pa L M n i (j + 1) x) (hij : i ≤ j + 1) (hx : x ≤ iG M (j + 1)) : Pa L M n i j x :=
  ⟨h.seg, h.x0, h.lo, fun s h1 h2 => by by_cases e : s = j + 1; { rw [e]; exact hx }; { exact h.hi s (by omega) h2 }, h.i1, by omega, by have := h.jn; omega⟩
theorem Pa.swap {L M : List Int} {n i j : Nat} {x : Int} (h : Pa L M n i (j + 1) x) (hL : M.length = n) (hij : i ≤ j + 1) (h1 : x ≤ iG M i) (h2 : iG M (j + 1) < x) : i ≤ j ∧ Pa L (swL M i (j + 1)) n (i + 1) j x := by
  have hne : i ≠ j + 1 := fun e => by rw [e] at h1; omega
  have hj := h.jn
  have hi := h.i1
  have e := fun k => swL_at M i (j + 1) k (by omega) (by omega)
  refine ⟨by omega, h.seg.trans (Seg.swap M (by omega) (by omega) (by omega) (by omega) (by omega)), ?_, fun s s1 s2 => ?_, fun s s1 s2 => ?_, by omega, by omega, by omega⟩
  · rw [e, if_neg (by omega), if_neg (by omega)]; exact h.x0
  · rw [e, if_neg (by omega)]
    split
    · exact h2
    · exact h.lo s s1 (by omega)
  · rw [e]
    split
    · exact h1
    · rw [if_neg (by omega)]; exact h.hi s (by omega) s2
theorem Pa.last {L M : List Int} {n i j : Nat} {x : Int} (h : Pa L M n i j x) (hL : M.length = n) (hij : j < i) : Seg L (swL M j 0) 0 n ∧ Parted (swL M j 0) n j := by
  have hj := h.jn
  have hi := h.i1
  have hi2 := h.ij
  have e := fun k => swL_at M j 0 k (by omega) (by omega)
  refine ⟨h.seg.trans (Seg.swap M (by omega) (by omega) (by omega) (by omega) (by omega)), hj, fun s s1 => ?_, fun s s1 s2 => ?_⟩
  · have ej : iG (swL M j 0) j = x := by rw [e]; split; { rename_i h0; rw [h0]; exact h.x0 }; { rw [if_pos rfl]; exact h.x0 }
    rw [ej, e]
    split
    · exact h.lo j (by omega) (by omega)
    · rw [if_neg (by omega)]; exact h.lo s (by omega) (by omega)
  · have ej : iG (swL M j 0) j = x := by rw [e]; split; { rename_i h0; rw [h0]; exact h.x0 }; { rw [if_pos rfl]; exact h.x0 }
    rw [ej, e, if_neg (by omega), if_neg (by omega)]
    exact h.hi s s1 s2
theorem Pa.start {L : List Int} {n v : Nat} (hL : L.length = n) (hv : v < n) : Pa L (swL L 0 v) n 1 (n - 1) (iG (swL L 0 v) 0) :=
  ⟨Seg.swap L (by omega) (by omega) (by omega) (by omega) (by omega), rfl, fun s h1 h2 => by omega, fun s h1 h2 => by omega, by omega, by omega, by omega⟩

/-- The state of a partition. -/
structure PS (B : Nat) (p : Option Addr) (c : Nat) (L M : List Int) (n i j : Nat) (x : Int) (w W : World) : Prop where
  pa : Pa L M n i j x
  o : OwnR B W p M c
  g : w.grownBy W (p.map (·.block))
theorem PS.drewN {B : Nat} {p : Option Addr} {c : Nat} {L M : List Int} {n i j : Nat} {x : Int} {w W : World} (h : PS B p c L M n i j x w W) (q : Nat) : PS B p c L M n i j x w (W.drewN q) := ⟨h.pa, h.o.drewN q, grown_drewN h.g q⟩
theorem PS.len {B : Nat} {p : Option Addr} {c : Nat} {L M : List Int} {n i j : Nat} {x : Int} {w W : World} (h : PS B p c L M n i j x w W) (hL : L.length = n) : M.length = n := h.pa.seg.len.trans hL
theorem PS.at {B : Nat} {p : Option Addr} {c : Nat} {L M : List Int} {n i j : Nat} {x : Int} {w W : World} (h : PS B p c L M n i j x w W) (hL : L.length = n) {k : Nat} (hk : k < n) (hn : 0 < n) : ∃ G, p = some ⟨G, 0, none⟩ ∧ W.cell? ⟨G, k, none⟩ = some (.int .u64 (iG M k)) ∧ W.cell? ⟨G, 0, none⟩ = some (.int .u64 x) := by
  have hl := h.len hL
  obtain ⟨G, rfl, e1, _, _⟩ := h.o.set (k := k) (by omega)
  obtain ⟨G', e, e2, _, _⟩ := h.o.set (k := 0) (by omega)
  cases e
  rw [h.pa.x0] at e2
  exact ⟨G, rfl, e1, e2⟩
def PartOut (B : Nat) (p : Option Addr) (c : Nat) (L : List Int) (n : Nat) (w : World) (e : Ending) (w' : World) : Prop := ∃ (k : Nat) (r : Bool) (M : List Int), e = .returned (.tuple #[.int .i64 k, .bool r]) ∧ Seg L M 0 n ∧ Parted M n k ∧ OwnR B w' p M c ∧ w.grownBy w' (p.map (·.block))

set_option maxRecDepth 20000 in
set_option maxHeartbeats 16000000 in
theorem part98 (B : Nat) (p : Option Addr) (L : List Int) (c v0 : Nat) (w : World) (h : OwnR B w p L c) (n : Nat) (hl : L.length = n) (hv : v0 < n) (hn : n ≤ 100) (hv0 : 0 < v0) :
    Calls Try.prog 97 #[.slice p n c, .int .i64 0, .int .i64 n, .int .i64 v0] w fun e w' => PartOut B p c L n w e w' := by
  have HL := hidOg hl
  obtain ⟨G, rfl, hGl, e1, e0, f1, f0, hsw⟩ := h.swap (i := 0) (j := v0) (by omega) (by omega)
  have HW := hidOg hsw
  have hS := Pa.start hl hv
  have h0n : 0 < n := by omega
  have q1 : ¬ v0 = 0 := by omega
  have q2 : ¬ 0 = v0 := by omega
  obtain ⟨u, hu⟩ : ∃ u, u = iG L 0 := ⟨_, rfl⟩
  obtain ⟨v, hv'⟩ : ∃ v, v = iG L v0 := ⟨_, rfl⟩
  rw [← hu] at e1 HW
  rw [← hv'] at e0 HW
  obtain ⟨M, hM⟩ : ∃ M, M = swL L 0 v0 := ⟨_, rfl⟩
  rw [← hM] at HW hS
  obtain ⟨x, hx⟩ : ∃ x, x = iG M 0 := ⟨_, rfl⟩
  rw [← hx] at hS
  obtain ⟨j, hj⟩ : ∃ j, j = n - 1 := ⟨_, rfl⟩
  rw [← hj] at hS
  have HS := hidOg hS
  have hnj : (n : Int) - 1 = (j : Int) := by omega
  have hjn2 : j < n := by omega
  have hj1n : 1 ≤ j + 1 := by omega
  clear hsw hu hv' hl h hS hM hx hj
  go_enter Try.func97, Try.ntmps97
  go_wp2
  go_region
  go_wp2
  go_loopw [10] (fun s wr => ∃ i : Nat, 1 ≤ i ∧ i ≤ j + 1 ∧ s = .int .i64 i ∧ PS B (some ⟨G, 0, none⟩) c L M n i j x w wr) (fun s _ => j + 1 - (intOf s).toNat)
  case atStart => exact ⟨1, Nat.le_refl _, hj1n, rfl, ⟨HS.out, (HW.out _).1, (HW.out _).2⟩⟩
  case round =>
    obtain ⟨i, hi00, hi1, rfl, hP⟩ := hrel
    have HP := hidOg hP
    have hi0 := hP.pa.i1
    clear hP
    by_cases hij : i ≤ j
    · obtain ⟨G', e, c0, c1⟩ := HP.out.at HL.out (k := i) (by omega) (by omega)
      cases e
      have HU : Hid (iG M i < x → Pa L M n (i + 1) j x) := fun h => HP.out.pa.up hij h
      have hd : decide ((i : Int) ≤ (j : Int)) = true := by simp; omega
      have hd' : decide (i ≤ j) = true := by simp; omega
      have hin : i < n := by omega
      obtain ⟨u, hu⟩ : ∃ u, u = iG M i := ⟨_, rfl⟩
      have HUx := hidOg hu
      rw [← hu] at c0 HU
      clear hu
      by_cases hux : u < x
      · have hdu : decide (u < x) = true := decide_eq_true hux
        go_wp2
        go_quiet ((go_at_call 82; exact Calls.quiet_of_same (less77 _ _ _)))
        go_wp2
        go_roundw
        case rel => exact ⟨i + 1, by omega, by omega, by go_num, ⟨HU.out hux, (HP.out.drewN _).o, (HP.out.drewN _).g⟩⟩
        case measure => simp [intOf]; omega
      · have hdu : decide (u < x) = false := decide_eq_false hux
        have HX : Hid (x ≤ iG M i) := by unfold Hid; rw [← HUx.out]; omega
        clear HU HUx
        go_wp2
        go_quiet ((go_at_call 82; exact Calls.quiet_of_same (less77 _ _ _)))
        go_wp2
        clear c0 c1 hd hd' hdu hux
        go_loopw [11] (fun s wr => ∃ j' : Nat, i ≤ j' + 1 ∧ j' ≤ j ∧ s = .int .i64 j' ∧ PS B (some ⟨G, 0, none⟩) c L M n i j' x w wr) (fun s _ => (intOf s).toNat)
        case atStart => exact ⟨j, by omega, Nat.le_refl _, rfl, HP.out.drewN _⟩
        case round =>
          clear HP
          obtain ⟨j', hj1, hj2, rfl, hP⟩ := hrel
          have HP := hidOg hP
          clear hP
          by_cases hij' : i ≤ j'
          · obtain ⟨k, rfl⟩ : ∃ k, j' = k + 1 := ⟨j' - 1, by omega⟩
            obtain ⟨G', e, c0, c1⟩ := HP.out.at HL.out (k := k + 1) (by omega) (by omega)
            cases e
            have HD : Hid (x ≤ iG M (k + 1) → Pa L M n i k x) := fun h => HP.out.pa.down hij' h
            have hd : decide ((i : Int) ≤ (k : Int) + 1) = true := by simp; omega
            have hd' : decide (i ≤ k + 1) = true := by simp; omega
            have hkn : k + 1 < n := by omega
            obtain ⟨u, hu⟩ : ∃ u, u = iG M (k + 1) := ⟨_, rfl⟩
            have HUx := hidOg hu
            rw [← hu] at c0 HD
            clear hu
            by_cases hux : u < x
            · have hdu : decide (u < x) = true := decide_eq_true hux
              have HY : Hid (iG M (k + 1) < x) := by unfold Hid; rw [← HUx.out]; exact hux
              have hgt : ¬ ((k : Int) + 1 < (i : Int)) := by omega
              clear HD HUx
              go_wp2
              go_quiet ((go_at_call 82; exact Calls.quiet_of_same (less77 _ _ _)))
              go_wp2
              clear c0 c1 hd hd' hdu hux
              obtain ⟨hik, hpa⟩ := HP.out.pa.swap (HP.out.len HL.out) hij' HX.out HY.out
              have HPa := hidOg hpa
              obtain ⟨G', e, hGl, e1, e0, f1, f0, hsw⟩ := HP.out.o.swap (i := i) (j := k + 1) (by have := HP.out.len HL.out; omega) (by have := HP.out.len HL.out; omega)
              cases e
              have HW := hidOg hsw
              clear hsw hpa
              have hin : i < n := by omega
              have q1 : ¬ i = k + 1 := by omega
              have q2 : ¬ k + 1 = i := by omega
              obtain ⟨u, hu⟩ : ∃ u, u = iG M i := ⟨_, rfl⟩
              obtain ⟨v, hv⟩ : ∃ v, v = iG M (k + 1) := ⟨_, rfl⟩
              rw [← hu] at e1 HW
              rw [← hv] at e0 HW
              clear hu hv HX HY
              go_region
              go_wp2
              clear hi0 hi1
              go_loopw [10, 11] (fun s t wr => ∃ (i j : Nat) (M : List Int), s = .int .i64 i ∧ t = .int .i64 j ∧ PS B (some ⟨G, 0, none⟩) c L M n i j x w wr) (fun s t _ => (intOf t).toNat + 1 - (intOf s).toNat)
              case atStart => exact ⟨i + 1, k, swL M i (k + 1), by go_num, by go_num, ⟨HPa.out, (HW.out _).1, grownBy_trans HP.out.g (HW.out _).2⟩⟩
              case round =>
                clear HP HPa HW e1 e0 f1 f0
                obtain ⟨i0, j, M, rfl, rfl, hP⟩ := hrel
                have HP0 := hidOg hP
                have hj2n := hP.pa.jn
                have hii := hP.pa.ij
                clear hP
                go_wp2
                go_loopw [10] (fun s wr => ∃ i : Nat, i0 ≤ i ∧ i ≤ j + 1 ∧ s = .int .i64 i ∧ PS B (some ⟨G, 0, none⟩) c L M n i j x w wr) (fun s _ => j + 1 - (intOf s).toNat)
                case atStart => exact ⟨i0, Nat.le_refl _, HP0.out.pa.ij, rfl, HP0.out⟩
                case round =>
                  obtain ⟨i, hi00, hi1, rfl, hP⟩ := hrel
                  have HP := hidOg hP
                  have hi0 := hP.pa.i1
                  clear hP
                  by_cases hij : i ≤ j
                  · obtain ⟨G', e, c0, c1⟩ := HP.out.at HL.out (k := i) (by omega) (by omega)
                    cases e
                    have HU : Hid (iG M i < x → Pa L M n (i + 1) j x) := fun h => HP.out.pa.up hij h
                    have hd : decide ((i : Int) ≤ (j : Int)) = true := by simp; omega
                    have hd' : decide (i ≤ j) = true := by simp; omega
                    have hin : i < n := by omega
                    obtain ⟨u, hu⟩ : ∃ u, u = iG M i := ⟨_, rfl⟩
                    have HUx := hidOg hu
                    rw [← hu] at c0 HU
                    clear hu
                    by_cases hux : u < x
                    · have hdu : decide (u < x) = true := decide_eq_true hux
                      go_wp2
                      go_quiet ((go_at_call 82; exact Calls.quiet_of_same (less77 _ _ _)))
                      go_wp2
                      go_roundw
                      case rel => exact ⟨i + 1, by omega, by omega, by go_num, ⟨HU.out hux, (HP.out.drewN _).o, (HP.out.drewN _).g⟩⟩
                      case measure => simp [intOf]; omega
                    · have hdu : decide (u < x) = false := decide_eq_false hux
                      have HX : Hid (x ≤ iG M i) := by unfold Hid; rw [← HUx.out]; omega
                      clear HU HUx
                      go_wp2
                      go_quiet ((go_at_call 82; exact Calls.quiet_of_same (less77 _ _ _)))
                      go_wp2
                      clear c0 c1 hd hd' hdu hux
                      go_loopw [11] (fun s wr => ∃ j' : Nat, i ≤ j' + 1 ∧ j' ≤ j ∧ s = .int .i64 j' ∧ PS B (some ⟨G, 0, none⟩) c L M n i j' x w wr) (fun s _ => (intOf s).toNat)
                      case atStart => exact ⟨j, by omega, Nat.le_refl _, rfl, HP.out.drewN _⟩
                      case round =>
                        clear HP
                        obtain ⟨j', hj1, hj2, rfl, hP⟩ := hrel
                        have HP := hidOg hP
                        clear hP
                        by_cases hij' : i ≤ j'
                        · obtain ⟨k, rfl⟩ : ∃ k, j' = k + 1 := ⟨j' - 1, by omega⟩
                          obtain ⟨G', e, c0, c1⟩ := HP.out.at HL.out (k := k + 1) (by omega) (by omega)
                          cases e
                          have HD : Hid (x ≤ iG M (k + 1) → Pa L M n i k x) := fun h => HP.out.pa.down hij' h
                          have hd : decide ((i : Int) ≤ (k : Int) + 1) = true := by simp; omega
                          have hd' : decide (i ≤ k + 1) = true := by simp; omega
                          have hkn : k + 1 < n := by omega
                          obtain ⟨u, hu⟩ : ∃ u, u = iG M (k + 1) := ⟨_, rfl⟩
                          have HUx := hidOg hu
                          rw [← hu] at c0 HD
                          clear hu
                          by_cases hux : u < x
                          · have hdu : decide (u < x) = true := decide_eq_true hux
                            have HY : Hid (iG M (k + 1) < x) := by unfold Hid; rw [← HUx.out]; exact hux
                            have hgt : ¬ ((k : Int) + 1 < (i : Int)) := by omega
                            clear HD HUx
                            go_wp2
                            go_quiet ((go_at_call 82; exact Calls.quiet_of_same (less77 _ _ _)))
                            go_wp2
                            clear c0 c1 hd hd' hdu hux
                            obtain ⟨hik, hpa⟩ := HP.out.pa.swap (HP.out.len HL.out) hij' HX.out HY.out
                            have HPa := hidOg hpa
                            obtain ⟨G', e, hGl, e1, e0, f1, f0, hsw⟩ := HP.out.o.swap (i := i) (j := k + 1) (by have := HP.out.len HL.out; omega) (by have := HP.out.len HL.out; omega)
                            cases e
                            have HW := hidOg hsw
                            clear hsw hpa
                            have hin : i < n := by omega
                            have q1 : ¬ i = k + 1 := by omega
                            have q2 : ¬ k + 1 = i := by omega
                            obtain ⟨u, hu⟩ : ∃ u, u = iG M i := ⟨_, rfl⟩
                            obtain ⟨v, hv⟩ : ∃ v, v = iG M (k + 1) := ⟨_, rfl⟩
                            rw [← hu] at e1 HW
                            rw [← hv] at e0 HW
                            clear hu hv HX HY
                            go_region
                            go_wp2
                            go_roundw
                            case rel => exact ⟨i + 1, k, swL M i (k + 1), by go_num, by go_num, ⟨HPa.out, (HW.out _).1, grownBy_trans HP.out.g (HW.out _).2⟩⟩
                            case measure => simp [intOf]; omega
                          · have hdu : decide (u < x) = false := decide_eq_false hux
                            go_wp2
                            go_quiet ((go_at_call 82; exact Calls.quiet_of_same (less77 _ _ _)))
                            go_wp2
                            go_roundw
                            case rel => exact ⟨k, by omega, by omega, by go_num, ⟨HD.out (by omega), (HP.out.drewN _).o, (HP.out.drewN _).g⟩⟩
                            case measure => simp [intOf]
                        · have hd : decide ((i : Int) ≤ (j' : Int)) = false := by simp; omega
                          have hd' : decide (i ≤ j') = false := by simp; omega
                          have hgt : (j' : Int) < (i : Int) := by omega
                          clear HX
                          go_wp2
                          go_quiet ((fail))
                          go_wp2
                          clear hd hd'
                          have hjn := HP.out.pa.jn
                          have h0n : 0 < n := by omega
                          by_cases hz : j' = 0
                          · subst hz
                            obtain ⟨hseg, hpt⟩ := HP.out.pa.last (HP.out.len HL.out) (by omega)
                            obtain ⟨G', e, hGl, e1, e0, f1, f0, hsw⟩ := HP.out.o.swap (i := 0) (j := 0) (by have := HP.out.len HL.out; omega) (by have := HP.out.len HL.out; omega)
                            cases e
                            have HW := hidOg hsw
                            have HSe := hidOg hseg
                            have HPt := hidOg hpt
                            clear hsw hseg hpt
                            obtain ⟨u, hu⟩ : ∃ u, u = iG M 0 := ⟨_, rfl⟩
                            rw [← hu] at e1 e0 HW
                            clear hu
                            go_region
                            go_wp2
                            go_ret2
                            exact ⟨0, false, _, rfl, HSe.out, HPt.out, (HW.out _).1, grownBy_trans HP.out.g (HW.out _).2⟩
                          · obtain ⟨y, rfl⟩ : ∃ y, j' = y + 1 := ⟨j' - 1, by omega⟩
                            obtain ⟨hseg, hpt⟩ := HP.out.pa.last (HP.out.len HL.out) (by omega)
                            obtain ⟨G', e, hGl, e1, e0, f1, f0, hsw⟩ := HP.out.o.swap (i := (y + 1)) (j := 0) (by have := HP.out.len HL.out; omega) (by have := HP.out.len HL.out; omega)
                            cases e
                            have HW := hidOg hsw
                            have HSe := hidOg hseg
                            have HPt := hidOg hpt
                            clear hsw hseg hpt
                            have hy : y + 1 < n := by omega
                            obtain ⟨u, hu⟩ : ∃ u, u = iG M (y + 1) := ⟨_, rfl⟩
                            obtain ⟨v, hv⟩ : ∃ v, v = iG M 0 := ⟨_, rfl⟩
                            rw [← hu] at e1 HW
                            rw [← hv] at e0 HW
                            clear hu hv
                            go_region
                            go_wp2
                            go_ret2
                            exact ⟨y + 1, false, _, rfl, HSe.out, HPt.out, (HW.out _).1, grownBy_trans HP.out.g (HW.out _).2⟩
                  · have hd : decide ((i : Int) ≤ (j : Int)) = false := by simp; omega
                    have hd' : decide (i ≤ j) = false := by simp; omega
                    go_wp2
                    go_quiet ((fail))
                    go_wp2
                    clear hd hd'
                    go_loopw [11] (fun s wr => s = .int .i64 j ∧ PS B (some ⟨G, 0, none⟩) c L M n i j x w wr) (fun _ _ => 0)
                    case atStart => exact ⟨rfl, HP.out.drewN _⟩
                    case round =>
                      clear HP
                      obtain ⟨rfl, hP⟩ := hrel
                      have HP := hidOg hP
                      clear hP
                      have hd : decide ((i : Int) ≤ (j : Int)) = false := by simp; omega
                      have hd' : decide (i ≤ j) = false := by simp; omega
                      have hgt : (j : Int) < (i : Int) := by omega
                      go_wp2
                      go_quiet ((fail))
                      go_wp2
                      clear hd hd'
                      have hjn := HP.out.pa.jn
                      have h0n : 0 < n := by omega
                      by_cases hz : j = 0
                      · subst hz
                        obtain ⟨hseg, hpt⟩ := HP.out.pa.last (HP.out.len HL.out) (by omega)
                        obtain ⟨G', e, hGl, e1, e0, f1, f0, hsw⟩ := HP.out.o.swap (i := 0) (j := 0) (by have := HP.out.len HL.out; omega) (by have := HP.out.len HL.out; omega)
                        cases e
                        have HW := hidOg hsw
                        have HSe := hidOg hseg
                        have HPt := hidOg hpt
                        clear hsw hseg hpt
                        obtain ⟨u, hu⟩ : ∃ u, u = iG M 0 := ⟨_, rfl⟩
                        rw [← hu] at e1 e0 HW
                        clear hu
                        go_region
                        go_wp2
                        go_ret2
                        exact ⟨0, false, _, rfl, HSe.out, HPt.out, (HW.out _).1, grownBy_trans HP.out.g (HW.out _).2⟩
                      · obtain ⟨y, rfl⟩ : ∃ y, j = y + 1 := ⟨j - 1, by omega⟩
                        obtain ⟨hseg, hpt⟩ := HP.out.pa.last (HP.out.len HL.out) (by omega)
                        obtain ⟨G', e, hGl, e1, e0, f1, f0, hsw⟩ := HP.out.o.swap (i := (y + 1)) (j := 0) (by have := HP.out.len HL.out; omega) (by have := HP.out.len HL.out; omega)
                        cases e
                        have HW := hidOg hsw
                        have HSe := hidOg hseg
                        have HPt := hidOg hpt
                        clear hsw hseg hpt
                        have hy : y + 1 < n := by omega
                        obtain ⟨u, hu⟩ : ∃ u, u = iG M (y + 1) := ⟨_, rfl⟩
                        obtain ⟨v, hv⟩ : ∃ v, v = iG M 0 := ⟨_, rfl⟩
                        rw [← hu] at e1 HW
                        rw [← hv] at e0 HW
                        clear hu hv
                        go_region
                        go_wp2
                        go_ret2
                        exact ⟨y + 1, false, _, rfl, HSe.out, HPt.out, (HW.out _).1, grownBy_trans HP.out.g (HW.out _).2⟩
            · have hdu : decide (u < x) = false := decide_eq_false hux
              go_wp2
              go_quiet ((go_at_call 82; exact Calls.quiet_of_same (less77 _ _ _)))
              go_wp2
              go_roundw
              case rel => exact ⟨k, by omega, by omega, by go_num, ⟨HD.out (by omega), (HP.out.drewN _).o, (HP.out.drewN _).g⟩⟩
              case measure => simp [intOf]
          · have hd : decide ((i : Int) ≤ (j' : Int)) = false := by simp; omega
            have hd' : decide (i ≤ j') = false := by simp; omega
            have hgt : (j' : Int) < (i : Int) := by omega
            clear HX
            go_wp2
            go_quiet ((fail))
            go_wp2
            clear hd hd'
            have hjn := HP.out.pa.jn
            have h0n : 0 < n := by omega
            by_cases hz : j' = 0
            · subst hz
              obtain ⟨hseg, hpt⟩ := HP.out.pa.last (HP.out.len HL.out) (by omega)
              obtain ⟨G', e, hGl, e1, e0, f1, f0, hsw⟩ := HP.out.o.swap (i := 0) (j := 0) (by have := HP.out.len HL.out; omega) (by have := HP.out.len HL.out; omega)
              cases e
              have HW := hidOg hsw
              have HSe := hidOg hseg
              have HPt := hidOg hpt
              clear hsw hseg hpt
              obtain ⟨u, hu⟩ : ∃ u, u = iG M 0 := ⟨_, rfl⟩
              rw [← hu] at e1 e0 HW
              clear hu
              go_region
              go_wp2
              go_ret2
              exact ⟨0, true, _, rfl, HSe.out, HPt.out, (HW.out _).1, grownBy_trans HP.out.g (HW.out _).2⟩
            · obtain ⟨y, rfl⟩ : ∃ y, j' = y + 1 := ⟨j' - 1, by omega⟩
              obtain ⟨hseg, hpt⟩ := HP.out.pa.last (HP.out.len HL.out) (by omega)
              obtain ⟨G', e, hGl, e1, e0, f1, f0, hsw⟩ := HP.out.o.swap (i := (y + 1)) (j := 0) (by have := HP.out.len HL.out; omega) (by have := HP.out.len HL.out; omega)
              cases e
              have HW := hidOg hsw
              have HSe := hidOg hseg
              have HPt := hidOg hpt
              clear hsw hseg hpt
              have hy : y + 1 < n := by omega
              obtain ⟨u, hu⟩ : ∃ u, u = iG M (y + 1) := ⟨_, rfl⟩
              obtain ⟨v, hv⟩ : ∃ v, v = iG M 0 := ⟨_, rfl⟩
              rw [← hu] at e1 HW
              rw [← hv] at e0 HW
              clear hu hv
              go_region
              go_wp2
              go_ret2
              exact ⟨y + 1, true, _, rfl, HSe.out, HPt.out, (HW.out _).1, grownBy_trans HP.out.g (HW.out _).2⟩
    · have hd : decide ((i : Int) ≤ (j : Int)) = false := by simp; omega
      have hd' : decide (i ≤ j) = false := by simp; omega
      go_wp2
      go_quiet ((fail))
      go_wp2
      clear hd hd'
      go_loopw [11] (fun s wr => s = .int .i64 j ∧ PS B (some ⟨G, 0, none⟩) c L M n i j x w wr) (fun _ _ => 0)
      case atStart => exact ⟨rfl, HP.out.drewN _⟩
      case round =>
        clear HP
        obtain ⟨rfl, hP⟩ := hrel
        have HP := hidOg hP
        clear hP
        have hd : decide ((i : Int) ≤ (j : Int)) = false := by simp; omega
        have hd' : decide (i ≤ j) = false := by simp; omega
        have hgt : (j : Int) < (i : Int) := by omega
        go_wp2
        go_quiet ((fail))
        go_wp2
        clear hd hd'
        have hjn := HP.out.pa.jn
        have h0n : 0 < n := by omega
        by_cases hz : j = 0
        · subst hz
          exfalso; omega
        · obtain ⟨y, rfl⟩ : ∃ y, j = y + 1 := ⟨j - 1, by omega⟩
          obtain ⟨hseg, hpt⟩ := HP.out.pa.last (HP.out.len HL.out) (by omega)
          obtain ⟨G', e, hGl, e1, e0, f1, f0, hsw⟩ := HP.out.o.swap (i := (y + 1)) (j := 0) (by have := HP.out.len HL.out; omega) (by have := HP.out.len HL.out; omega)
          cases e
          have HW := hidOg hsw
          have HSe := hidOg hseg
          have HPt := hidOg hpt
          clear hsw hseg hpt
          have hy : y + 1 < n := by omega
          obtain ⟨u, hu⟩ : ∃ u, u = iG M (y + 1) := ⟨_, rfl⟩
          obtain ⟨v, hv⟩ : ∃ v, v = iG M 0 := ⟨_, rfl⟩
          rw [← hu] at e1 HW
          rw [← hv] at e0 HW
          clear hu hv
          go_region
          go_wp2
          go_ret2
          exact ⟨y + 1, true, _, rfl, HSe.out, HPt.out, (HW.out _).1, grownBy_trans HP.out.g (HW.out _).2⟩
end Go.Proofs.Ytooaghcjlomcpaa
