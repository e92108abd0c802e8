/- The contract of ident.guess. -/
import Derived.Test.YtpamgcmjhfojeaaDoorIdI
namespace Go.Proofs.YtpamgcmjhfojeaaDoor
open Go.RowKit Go.Maps

/-- 'guess' hands back what is made of the state in which reading ends. -/
def Guessed (s : ByteArray) (w : World) (e : Ending) (w' : World) : Prop :=
  ∃ k p a b : Int, GR s 0 0 0 0 0 (k, p, a, b) ∧ e = .returned (.int .u64 (madeV k a b)) ∧ Below w.heap.size w w'

theorem guessed_of {s : ByteArray} {w W w' : World} {k p a b : Int} {e : Ending} (h : GR s 0 0 0 0 0 (k, p, a, b)) (he : e = .returned (.int .u64 (madeV k a b))) (h1 : Below w.heap.size w W) (h2 : Below W.heap.size W w') : Guessed s w e w' :=
  ⟨k, p, a, b, h, he, h1.trans (h2.mono h1.size)⟩

set_option maxHeartbeats 4000000 in
theorem guess_any (s : ByteArray) (w : World) (hs : s.size ≤ maxLen) :
    Calls Tryd.prog 39 #[.string s] w fun e w' => Guessed s w e w' := by
  unfold maxLen at hs
  go_enter Tryd.func39, Tryd.ntmps39
  go_wp2
  go_step3
  go_wp2_with (first | (go_at_call 44; refine (letters_any _).mono ?_; rintro e w1 ⟨rfl, hown, hb1⟩))
  go_step3
  go_wp2
  have hG : GW s w w.heap.size w1.heap.size (w1.heap.size + 1) 0 0 0 ((w1.alloc (Obj.cells #[Value.int IntKind.i64 0, Value.int IntKind.i64 0] 24)).iter s 0) := by
    have hz : w.heap.size < w1.heap.size := hown.lt
    refine ⟨?_, ?_, ?_, ?_, ?_, (hown.alloc _).alloc _, (hb1.alloc hb1.size _).alloc (by simp; omega) _, by omega, by omega, by omega, by omega, by omega⟩
    · have := World.iter_heap (w1.alloc (Obj.cells #[Value.int IntKind.i64 0, Value.int IntKind.i64 0] 24)) s 0
      simpa using this
    all_goals simp [World.iter, go_sem]
  clear hown hb1
  go_loopw [4, 5] (fun uk up wr => ∃ (k p a b : Int) (pos : Nat), uk = .int .i64 k ∧ up = .int .i64 p ∧ (p = 0 ∨ p = 1) ∧ (0 ≤ a ∧ a ≤ 1048578) ∧ (0 ≤ b ∧ b ≤ 1048578) ∧ GW s w w.heap.size w1.heap.size (w1.heap.size + 1) a b pos wr ∧ (∀ f, GR s pos k p a b f → GR s 0 0 0 0 0 f)) (fun _ _ wr => s.size - wr.iterPos (w1.heap.size + 1))
  case atStart => exact ⟨0, 0, 0, 0, 0, rfl, rfl, by omega, by omega, by omega, hG, fun _ h => h⟩
  case round =>
    obtain ⟨k, p, a, b, pos, rfl, rfl, hp, ha, hb, hW, hgr⟩ := hrel
    clear hG
    by_cases hlt : pos < s.size
    · obtain ⟨W2, hn, hW2⟩ := hW.next hlt
      have hwd : Hid (1 ≤ (Utf8.decode s pos).2) := Lib.decode_width_pos s pos hlt
      have I1 : wr.iterPos (w1.heap.size + 1) = pos := hW.iterPos
      have I2 : W2.iterPos (w1.heap.size + 1) = pos + (Utf8.decode s pos).2 := hW2.iterPos
      have hr1 := decode_le s pos
      obtain ⟨wd, hwd'⟩ : ∃ wd, wd = (Utf8.decode s pos).2 := ⟨_, rfl⟩
      obtain ⟨r, hr⟩ : ∃ r : Int, r = ((Utf8.decode s pos).1 : Int) := ⟨_, rfl⟩
      have hr0 : 0 ≤ r := by omega
      have hr2 : r ≤ 2147483647 := by omega
      rw [← hr] at hn
      rw [← hwd'] at hW2 hwd I2
      have hlook := hW2.look r hr0 hr2
      have S : Hid (∀ k' p' a' b' : Int, gstep pos r k p a b = (true, k', p', a', b') → GR s 0 0 0 0 0 (k', p', a', b')) := fun k' p' a' b' h => hgr _ (GR.stop hlt (by rw [← hr]; exact h))
      have G : Hid (∀ k' p' a' b' : Int, gstep pos r k p a b = (false, k', p', a', b') → ∀ f, GR s (pos + wd) k' p' a' b' f → GR s 0 0 0 0 0 f) := fun k' p' a' b' h f hf => hgr _ (GR.go hlt (by rw [← hr]; exact h) (by rw [← hwd']; exact hf))
      have HI1 : Hid (wr.iterPos (w1.heap.size + 1) = pos) := I1
      have HI2 : Hid (W2.iterPos (w1.heap.size + 1) = pos + wd) := I2
      have HW2 : Hid (GW s w w.heap.size w1.heap.size (w1.heap.size + 1) a b (pos + wd) W2) := hW2
      have HLT : Hid (pos < s.size) := hlt
      obtain ⟨_, hc0, hc1, hf0, hf1, _, hbel, _, _, _, _, _⟩ := hW2
      have HB : Hid (Below w.heap.size w W2) := hbel
      have HP : Hid (p = 0 ∨ p = 1) := hp
      have HA : Hid (0 ≤ a ∧ a ≤ 1048578) := ha
      have HBb : Hid (0 ≤ b ∧ b ≤ 1048578) := hb
      clear hgr hbel hr hr1 hwd' I1 I2 hW hlt hp ha hb
      by_cases h0 : pos = 0
      · subst h0
        by_cases hk : letK r = 0
        · have HG : Hid (GR s 0 0 0 0 0 (0, p, a, b)) := S.out 0 p a b (by simp [gstep, hk])
          clear S G
          go_wp2_with (first | (go_at_call 45; refine (made_any _ _ _ _).mono ?_; rintro e w3 ⟨rfl, hb3⟩))
          rw [Exit.noGoto_ret]
          go_ret
          exact guessed_of HG.out rfl HB.out hb3
        · have HG : Hid (∀ f, GR s (0 + wd) (letK r) p a b f → GR s 0 0 0 0 0 f) := G.out _ _ _ _ (by simp [gstep, hk])
          have hk' : (letK r == 0) = false := by simp [hk]
          clear S G hk
          go_wp2
          go_roundw
          case rel => exact ⟨letK r, p, a, b, 0 + wd, rfl, rfl, HP.out, HA.out, HBb.out, HW2.out, HG.out⟩
          case measure => rw [HI1.out, HI2.out]; have := HLT.out; have := hwd.out; omega
      · have h0' : ((pos : Int) == 0) = false := by simp; omega
        clear hlook
        by_cases hd : 48 ≤ r ∧ r ≤ 57
        · obtain ⟨h48, h57⟩ := hd
          obtain ⟨ha0, ha1⟩ := HA.out
          obtain ⟨hb0, hb1⟩ := HBb.out
          rcases HP.out with hp | hp
          · subst hp
            clear hb0 hb1
            by_cases hm : 1048578 < 10 * a + (r - 48)
            · have HG : Hid (GR s 0 0 0 0 0 (k, 0, 10 * a + (r - 48), b)) := S.out _ _ _ _ (by simp [gstep, h0, h48, h57, hm])
              clear S G
              go_wp2_with (first | (go_at_call 45; refine (made_any _ _ _ _).mono ?_; rintro e w3 ⟨rfl, hb3⟩))
              rw [Exit.noGoto_ret]
              go_ret
              exact guessed_of HG.out rfl (HW2.out.set0 _).bel hb3
            · have HG : Hid (∀ f, GR s (pos + wd) k 0 (10 * a + (r - 48)) b f → GR s 0 0 0 0 0 f) := G.out _ _ _ _ (by simp [gstep, h0, h48, h57]; omega)
              clear S G
              go_wp2
              go_roundw
              case rel => exact ⟨k, 0, 10 * a + (r - 48), b, pos + wd, rfl, rfl, by omega, by omega, HBb.out, HW2.out.set0 _, HG.out⟩
              case measure => rw [HI1.out, (HW2.out.set0 _).iterPos]; have := HLT.out; have := hwd.out; omega
          · subst hp
            clear ha0 ha1
            by_cases hm : 1048578 < 10 * b + (r - 48)
            · have HG : Hid (GR s 0 0 0 0 0 (k, 1, a, 10 * b + (r - 48))) := S.out _ _ _ _ (by simp [gstep, h0, h48, h57, hm])
              clear S G
              go_wp2_with (first | (go_at_call 45; refine (made_any _ _ _ _).mono ?_; rintro e w3 ⟨rfl, hb3⟩))
              rw [Exit.noGoto_ret]
              go_ret
              exact guessed_of HG.out rfl (HW2.out.set1 _).bel hb3
            · have HG : Hid (∀ f, GR s (pos + wd) k 1 a (10 * b + (r - 48)) f → GR s 0 0 0 0 0 f) := G.out _ _ _ _ (by simp [gstep, h0, h48, h57]; omega)
              clear S G
              go_wp2
              go_roundw
              case rel => exact ⟨k, 1, a, 10 * b + (r - 48), pos + wd, rfl, rfl, by omega, HA.out, by omega, HW2.out.set1 _, HG.out⟩
              case measure => rw [HI1.out, (HW2.out.set1 _).iterPos]; have := HLT.out; have := hwd.out; omega
        · clear hf0 hf1
          have HD : Hid (¬ (48 ≤ r ∧ r ≤ 57)) := hd
          by_cases hq : p = 0 ∧ (r = 46 ∨ r = 58)
          · obtain ⟨rfl, hr3⟩ := hq
            have HG : Hid (∀ f, GR s (pos + wd) k 1 a b f → GR s 0 0 0 0 0 f) := G.out _ _ _ _ (by rcases hr3 with rfl | rfl <;> simp [gstep, h0])
            clear S G hd
            rcases hr3 with rfl | rfl
            all_goals
              go_wp2
              go_roundw
              case rel => exact ⟨k, 1, a, b, pos + wd, rfl, rfl, by omega, HA.out, HBb.out, HW2.out, HG.out⟩
              case measure => rw [HI1.out, HI2.out]; have := HLT.out; have := hwd.out; omega
          · have HQ : Hid (¬ (p = 0 ∧ (r = 46 ∨ r = 58))) := hq
            by_cases hst : r = 42
            · subst hst
              have HG : Hid (∀ f, GR s (pos + wd) k p a b f → GR s 0 0 0 0 0 f) := G.out _ _ _ _ (by simp [gstep, h0])
              clear S G hd hq
              rcases HP.out with rfl | rfl
              all_goals
                go_wp2
                go_roundw
                case rel => exact ⟨k, _, a, b, pos + wd, rfl, rfl, by omega, HA.out, HBb.out, HW2.out, HG.out⟩
                case measure => rw [HI1.out, HI2.out]; have := HLT.out; have := hwd.out; omega
            · have HG : Hid (GR s 0 0 0 0 0 (k, p, a, b)) := S.out _ _ _ _ (by simp only [gstep]; rw [if_neg h0, if_neg hd, if_neg hq]; simp [hst])
              have hst' : (r != 42) = true := by simp [hst]
              clear S G hst
              have hd2 : r < 48 ∨ 57 < r := by omega
              clear hd
              rcases HP.out with rfl | rfl
              · have hq1 : (r == 46) = false := by simp; omega
                have hq2 : (r == 58) = false := by simp; omega
                clear hq
                rcases hd2 with hd3 | hd3
                all_goals
                  go_wp2_with (first | (go_at_call 45; refine (made_any _ _ _ _).mono ?_; rintro e w3 ⟨rfl, hb3⟩))
                  rw [Exit.noGoto_ret]
                  go_ret
                  exact guessed_of HG.out rfl HB.out hb3
              · clear hq
                rcases hd2 with hd3 | hd3
                all_goals
                  go_wp2_with (first | (go_at_call 45; refine (made_any _ _ _ _).mono ?_; rintro e w3 ⟨rfl, hb3⟩))
                  rw [Exit.noGoto_ret]
                  go_ret
                  exact guessed_of HG.out rfl HB.out hb3
    · have hn := hW.nextEnd hlt
      obtain ⟨_, hc0, hc1, _, _, _, hbel, _, _, _, _, _⟩ := hW
      have HG : Hid (GR s 0 0 0 0 0 (k, p, a, b)) := hgr _ (GR.done hlt)
      have HB : Hid (Below w.heap.size w wr) := hbel
      clear hgr hlt hbel hp ha hb
      go_wp2_with (first | (go_at_call 45; refine (made_any _ _ _ _).mono ?_; rintro e w3 ⟨rfl, hb3⟩))
      rw [Exit.noGoto_ret]
      go_ret
      exact guessed_of HG.out rfl HB.out hb3
end Go.Proofs.YtpamgcmjhfojeaaDoor
