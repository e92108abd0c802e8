/- The document's word and Text. -/
import Derived.Test.YtofobpijkceldaaDoorVaF
import Derived.Lib.ItoaWalk
namespace Go.Proofs.YtofobpijkceldaaDoor
open Go.RowKit Go.Shelf

def digs16 : ByteArray := ⟨#[48, 49, 50, 51, 52, 53, 54, 55, 56, 57, 97, 98, 99, 100, 101, 102]⟩
theorem digs16_ext : ∀ d, d < 16 → digs16.extract d (d + 1) = ⟨#[hexD d]⟩ := by decide +kernel
theorem digs16_size : digs16.size = 16 := by decide
def hexB (n : Nat) : ByteArray := ⟨(hexW n).toArray⟩
theorem hexB_size (n : Nat) (h : n < 18446744073709551616) : (hexB n).size ≤ 16 := hexW_len16 n h
theorem hexB_small {n : Nat} (h : n < 16) : hexB n = ⟨#[hexD n]⟩ := by unfold hexB; rw [hexW_small h]
theorem hexB_big {n : Nat} (h : ¬ n < 16) : hexB n = hexB (n / 16) ++ ⟨#[hexD (n % 16)]⟩ := by unfold hexB; rw [hexW_big h, bytes_app]
set_option maxRecDepth 100000 in
set_option maxHeartbeats 1000000 in
theorem word37 (u : Nat) : ∀ (n : Nat) (w : World), n = u → n < 18446744073709551616 → Calls Tryd.prog 37 #[.int .u64 n] w fun e w' => e = .returned (.string (hexB n)) ∧ w' = w := by
  induction u using Nat.strongRecOn with
  | ind u ih =>
    intro n w hu h1
    obtain ⟨d, hd⟩ : ∃ d : Nat, d = n % 16 := ⟨_, rfl⟩
    have hd16 : d < 16 := by omega
    have hde : (n : Int) % 16 = (d : Int) := by omega
    have hx := digs16_ext d hd16
    have hsz := digs16_size
    unfold digs16 at hx hsz
    have d0 : (0 : Int) ≤ (d : Int) := by omega
    have d1 : (d : Int) ≤ (d : Int) + 1 := by omega
    have d2 : (d : Int) + 1 ≤ 16 := by omega
    have d3 : ((d : Int) + 1).toNat = d + 1 := by omega
    by_cases hl : n < 16
    · have E : Hid (hexB n = ⟨#[hexD d]⟩) := by unfold Hid; rw [hexB_small hl, hd, Nat.mod_eq_of_lt hl]
      have hl' : ¬ ((16 : Int) ≤ (n : Int)) := by omega
      clear hd ih hu hl
      go_enter Tryd.func37, Tryd.ntmps37
      go_wp2
      go_ret
      exact ⟨by rw [E.out]; rfl, rfl⟩
    · have E : Hid (hexB n = hexB (n / 16) ++ ⟨#[hexD d]⟩) := by unfold Hid; rw [hexB_big hl, hd]
      have R := ih (n / 16) (by omega) (n / 16) w rfl (by omega)
      have hdiv : (n : Int) / 16 = ((n / 16 : Nat) : Int) := by omega
      have sz := hexB_size (n / 16) (by omega)
      have hl' : (16 : Int) ≤ (n : Int) := by omega
      obtain ⟨X, hX⟩ : ∃ X, X = hexB (n / 16) := ⟨_, rfl⟩
      obtain ⟨Y, hY⟩ : ∃ Y : ByteArray, Y = ⟨#[hexD d]⟩ := ⟨_, rfl⟩
      have hYs : Y.size = 1 := by rw [hY]; rfl
      obtain ⟨m, hm⟩ : ∃ m, m = n / 16 := ⟨_, rfl⟩
      rw [← hX] at sz R E
      rw [← hY] at hx E
      rw [← hm] at hdiv R
      clear hd ih hu hl hX hY hm
      go_enter Tryd.func37, Tryd.ntmps37
      go_wp2_with (first | (go_at_call 37; refine R.mono ?_; rintro e w1 ⟨rfl, hw⟩; rw [hw]; clear hw w1))
      go_ret
      exact ⟨by rw [E.out]; rfl, rfl⟩

theorem toWd_nat' {x : Int} (h : 0 ≤ x ∧ x < 18446744073709551616) : (toWd x).1 = x.toNat := by
  unfold toWd; exact Nat.mod_eq_of_lt (by omega)
set_option maxRecDepth 100000 in
set_option maxHeartbeats 2000000 in
theorem refText_some (p : Option Addr) (l : List Int) (c : Nat) (w : World) (hS : IRow .u64 w.heap.size w p l) (hU : U64 l) (h0 : 0 < l.length) (h4 : l.length ≤ 4) :
    Calls Tryd.prog 21 #[.slice p l.length c] w fun e w' => e = .returned (.string (jn (texN l l.length))) ∧ w' = w := by
  have hl0 : ((l.length : Int) == 0) = false := by rw [beq_eq_false_iff_ne]; omega
  obtain ⟨X, hX⟩ : ∃ X, X = jn (texN l l.length) := ⟨_, rfl⟩
  have HX := hidOg hX
  rw [← hX]
  clear hX
  have HS := hidOg hS
  have HU := hidOg hU
  clear hS hU
  go_enter Tryd.func21, Tryd.ntmps21
  go_wp2
  go_loop [3, 11] (fun u i => ∃ k : Nat, k ≤ l.length ∧ i = .int .i64 k ∧ u = .string (jn (texN l k))) (fun _ i => l.length - (intOf i).toNat)
  case atStart => exact ⟨0, Nat.zero_le _, rfl, rfl⟩
  case round =>
    obtain ⟨k, hk, rfl, rfl⟩ := hrel
    by_cases hlt : k < l.length
    · obtain ⟨b, off, rfl, hbB, hcs⟩ := HS.out (by omega)
      have c0 := hcs k hlt
      clear hcs
      obtain ⟨u0, u1⟩ := HU.out.at hlt
      have HE := hidOg (texN_succ hlt)
      have hz := jn_size (texN l k)
      have hzl := texN_len l k
      obtain ⟨x, hx⟩ : ∃ x : Nat, iG l k = (x : Int) := ⟨(iG l k).toNat, by omega⟩
      have hx64 : x < 18446744073709551616 := by omega
      have CC := fun (W : World) => word37 x x W rfl hx64
      have hxs := hexB_size x hx64
      have HY : Hid (wT (toWd (iG l k)) = hexB x) := by
        unfold Hid wT hexB
        rw [toWd_nat' ⟨u0, u1⟩, hx]; simp
      rw [hx] at c0
      by_cases hk0 : k = 0
      · subst hk0
        have HN : Hid (jn (texN l (0 + 1)) = ⟨#[]⟩ ++ hexB x) := by
          unfold Hid
          rw [HE.out, show texN l 0 = [] from rfl, List.nil_append, jn_one, HY.out]
          apply ByteArray.ext; simp
        have e0 : jn (texN l 0) = ⟨#[]⟩ := rfl
        rw [Nat.add_zero] at c0
        obtain ⟨Z, hZ⟩ : ∃ Z, Z = hexB x := ⟨_, rfl⟩
        rw [← hZ] at CC hxs HN
        rw [e0]
        clear hx u0 u1 hz hzl HY hZ HE e0
        go_wp2_with (first | (go_at_call 37; refine (CC _).mono ?_; rintro e w1 ⟨rfl, hw⟩; rw [hw]; clear hw w1))
        go_round
        case rel => exact ⟨0 + 1, by omega, by go_num, by rw [HN.out]⟩
        case measure => simp [intOf]; omega
      · have hk1 : (0 : Int) < (k : Int) := by omega
        have hne : texN l k ≠ [] := by
          unfold texN; intro e
          have := congrArg List.length e
          rw [List.length_map, List.length_take, List.length_nil] at this; omega
        have HN : Hid (jn (texN l (k + 1)) = (jn (texN l k) ++ ⟨#[44]⟩) ++ hexB x) := by
          unfold Hid; rw [HE.out, jn_snoc hne, HY.out]
        obtain ⟨Z, hZ⟩ : ∃ Z, Z = hexB x := ⟨_, rfl⟩
        obtain ⟨V, hV⟩ : ∃ V, V = jn (texN l k) := ⟨_, rfl⟩
        rw [← hZ] at CC hxs HN
        rw [← hV] at hz HN ⊢
        have hV100 : V.size ≤ 100 := by omega
        clear hx u0 u1 hz hzl HY hZ HE hne hV
        go_wp2_with (first | (go_at_call 37; refine (CC _).mono ?_; rintro e w1 ⟨rfl, hw⟩; rw [hw]; clear hw w1))
        go_round
        case rel => exact ⟨k + 1, by omega, by go_num, by rw [HN.out]⟩
        case measure => simp [intOf]; omega
    · obtain rfl : k = l.length := by omega
      rw [← HX.out]
      go_wp2
      go_ret
      exact ⟨rfl, rfl⟩
theorem refText_none (p : Option Addr) (c : Nat) (w : World) :
    Calls Tryd.prog 21 #[.slice p 0 c] w fun e w' => e = .returned (.string ⟨#[45]⟩) ∧ w' = w := by
  go_enter Tryd.func21, Tryd.ntmps21
  go_wp2
  go_ret
  exact ⟨rfl, rfl⟩
theorem refText21 (p : Option Addr) (l : List Int) (c : Nat) (w : World) (hS : IRow .u64 w.heap.size w p l) (hU : U64 l) (hw : isW l.length = true) :
    Calls Tryd.prog 21 #[.slice p l.length c] w fun e w' => e = .returned (.string (txtV l)) ∧ w' = w := by
  obtain ⟨_, h4⟩ := isW_t hw
  by_cases h0 : l.length = 0
  · have e1 : txtV l = ⟨#[45]⟩ := by unfold txtV; rw [hw, if_pos h0]; rfl
    rw [e1, h0]
    exact refText_none p c w
  · have e1 : txtV l = jn (texN l l.length) := by unfold txtV; rw [hw, if_neg h0]; rfl
    rw [e1]
    exact refText_some p l c w hS hU (by omega) (by omega)
end Go.Proofs.YtofobpijkceldaaDoor
