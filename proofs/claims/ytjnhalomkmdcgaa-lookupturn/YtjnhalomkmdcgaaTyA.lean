/- isPair, canBeHad, mayBe. -/
import Derived.Test.YtjnhalomkmdcgaaMod
namespace Go.Proofs.Ytjnhalomkmdcgaa
open Go.RowKit

theorem canBeHad_any (x : Int) (w : World) (h0 : 0 ≤ x) (h1 : x < 18446744073709551616) :
    Calls Try.prog 67 #[.int .u64 x] w fun e w' => e = .returned (.bool (canB x)) ∧ Below w.heap.size w w' := by
  have CK := fun (W : World) => kind_any x W h0 h1
  by_cases k : kindOf x = 2
  · have E : Hid (canB x = true) := by unfold Hid canB; simp [k]
    go_enter Try.func67, Try.ntmps67
    go_wp2_with (first | (go_at_call 79; refine (CK _).mono ?_; rintro e w1 ⟨rfl, hb⟩))
    go_ret
    exact ⟨ret_bool E.out.symm, hb⟩
  · have E : Hid (canB x = (kindOf x == 3)) := by unfold Hid canB paiK; simp [k]; rfl
    have k' : (kindOf x == 2) = false := by simpa using k
    go_enter Try.func67, Try.ntmps67
    go_wp2_with (first | (go_at_call 79; refine (CK _).mono ?_; rintro e w1 ⟨rfl, hb⟩))
    go_ret
    exact ⟨ret_bool E.out.symm, hb⟩

set_option maxRecDepth 20000 in
set_option maxHeartbeats 2000000 in
theorem mayBe_any (p : Option Addr) (l : List Int) (c : Nat) (w : World) (hS : IRow .u64 w.heap.size w p l) (hU : U64 l) (hn : l.length < 1152921504606846976) :
    Calls Try.prog 52 #[.slice p l.length c] w fun e w' => e = .returned (.bool (mayT l)) ∧ Below w.heap.size w w' := by
  obtain ⟨n, hn'⟩ : ∃ n, n = l.length := ⟨_, rfl⟩
  have HN := hidOg hn'
  rw [← hn'] at hn ⊢
  obtain ⟨m, hm⟩ : ∃ m, m = mayT l := ⟨_, rfl⟩
  rw [← hm]
  have HM := hidOg hm
  have HS := hidOg hS
  have HU := hidOg hU
  clear hS hU hm hn'
  go_enter Try.func52, Try.ntmps52
  go_wp2
  go_step3
  go_wp2
  go_step3
  go_wp2
  go_loopw [3, 8] (fun g i wr => ∃ k : Nat, k ≤ n ∧ i = .int .i64 k ∧ g = .int .i64 k ∧ (∀ j, j < k → okAt l j = true) ∧ Below w.heap.size w wr) (fun _ i _ => n - (intOf i).toNat)
  case atStart => exact ⟨0, Nat.zero_le _, rfl, rfl, fun j h => by omega, Below.refl _ _⟩
  case round =>
    obtain ⟨k, hk, rfl, rfl, hok, hB⟩ := hrel
    have HO := hidOg hok
    have HB := hidOg hB
    clear hok hB
    by_cases hlt : k < n
    · obtain ⟨b, off, rfl, hbB, hcs⟩ := (HS.out.below HB.out (Nat.le_refl _)) (by have := HN.out; omega)
      have c0 := hcs k (by have := HN.out; omega)
      have c1 : 0 < k → wr.cell? ⟨b, off + (k - 1), none⟩ = some (.int .u64 (iG l (k - 1))) := fun _ => hcs (k - 1) (by have := HN.out; omega)
      obtain ⟨u0, u1⟩ := HU.out.at (k := k) (by have := HN.out; omega)
      clear hcs
      have HX : Hid (okAt l k = (!decide (k = 12) && canB (iG l k) && (decide (k = 0) || decide (iG l (k - 1) < iG l k)))) := rfl
      have HF : Hid (okAt l k = false → m = false) := fun h => by rw [HM.out]; exact mayT_false k (by have := HN.out; omega) h
      have HT : Hid (okAt l k = true → ∀ j, j < k + 1 → okAt l j = true) := fun h j hj => by
        by_cases e : j = k
        · rw [e]; exact h
        · exact HO.out j (by omega)
      have hkn : ((k : Int) == (n : Int)) = false := by simp; omega
      obtain ⟨x, hx⟩ : ∃ x, x = iG l k := ⟨_, rfl⟩
      rw [← hx] at c0 u0 u1
      rw [← hx] at HX
      clear hx
      have CC := fun (W : World) => canBeHad_any x W u0 u1
      by_cases e12 : k = 12
      · have e : m = false := HF.out (by rw [HX.out, e12]; rfl)
        subst e12 e
        have hkn' : ((12 : Int) == (n : Int)) = false := hkn
        clear hkn c1 HT HM HO CC
        go_wp2
        go_ret
        exact ⟨rfl, HB.out⟩
      · have e12' : ¬ ((k : Int) = 12) := by omega
        cases cb : canB x
        · have e : m = false := HF.out (by rw [HX.out, cb]; simp)
          subst e
          rw [cb] at CC
          clear c1 HT HM HO
          go_wp2_with (first | (go_at_call 67; refine (CC _).mono ?_; rintro e w1 ⟨rfl, hb1⟩))
          rw [Exit.noGoto_ret]
          go_ret
          exact ⟨rfl, HB.out.trans (hb1.mono HB.out.size)⟩
        · rw [cb] at CC
          by_cases e0 : k = 0
          · have HT' := hidOg (HT.out (by rw [HX.out, cb, e0]; rfl))
            clear HT HF HX HM
            subst e0
            have c0 : wr.cell? ⟨b, off, none⟩ = some (.int .u64 x) := by simpa using c0
            clear c1 HO
            go_wp2_with (first | (go_at_call 67; refine (CC _).mono ?_; rintro e w1 ⟨rfl, hb1⟩))
            go_roundw
            case rel => exact ⟨1, by omega, by go_num, by go_num, HT'.out, HB.out.trans (hb1.mono HB.out.size)⟩
            case measure => simp [intOf]; omega
          · obtain ⟨j, rfl⟩ : ∃ j, k = j + 1 := ⟨k - 1, by omega⟩
            have c1 : wr.cell? ⟨b, off + j, none⟩ = some (.int .u64 (iG l j)) := c1 (by omega)
            obtain ⟨y, hy⟩ : ∃ y, y = iG l j := ⟨_, rfl⟩
            rw [← hy] at c1
            have HX : Hid (okAt l (j + 1) = decide (y < x)) := by unfold Hid; rw [HX.out, cb, hy]; simp [e12]
            clear hy HO e0
            have hkn' : ((j : Int) + 1 == (n : Int)) = false := hkn
            clear hkn
            have hbc := fun (w1 : World) (hb : Below wr.heap.size wr w1) => hb.cell (p := ⟨b, off + j, none⟩) (by have := HB.out.size; simp; omega)
            by_cases hxy : y < x
            · have HT' := hidOg (HT.out (by rw [HX.out]; simpa using hxy))
              clear HT HF HX HM
              have hle : ¬ (x ≤ y) := by omega
              go_wp2_with (first | (go_at_call 67; refine (CC _).mono ?_; rintro e w1 ⟨rfl, hb1⟩; have c2 := (hbc w1 hb1).trans c1; clear hbc))
              go_roundw
              case rel => exact ⟨j + 2, by omega, by go_num, by go_num, HT'.out, HB.out.trans (hb1.mono HB.out.size)⟩
              case measure => simp [intOf]; omega
            · have e : m = false := HF.out (by rw [HX.out]; simpa using hxy)
              subst e
              clear HT HF HX HM
              have hle : x ≤ y := by omega
              go_wp2_with (first | (go_at_call 67; refine (CC _).mono ?_; rintro e w1 ⟨rfl, hb1⟩; have c2 := (hbc w1 hb1).trans c1; clear hbc))
              rw [Exit.noGoto_ret]
              go_ret
              exact ⟨rfl, HB.out.trans (hb1.mono HB.out.size)⟩
    · obtain rfl : k = n := by omega
      have e : m = true := by rw [HM.out]; exact mayT_true (by rw [← HN.out]; exact HO.out)
      subst e
      go_wp2
      rw [Exit.noGoto_ret]
      go_ret
      exact ⟨rfl, HB.out⟩
end Go.Proofs.Ytjnhalomkmdcgaa
