/- Ends: the first words of the least and the greatest number. -/
import Derived.Test.YtglfhgedaknljaaReC
namespace Go.Proofs.Ytglfhgedaknljaa
open Go.RowKit

def enS (st : Option (Int × Int)) (x : Int) : Option (Int × Int) :=
  if nuW x then (match st with | none => some (x, x) | some (a, b) => if tsW 1 x a then some (x, b) else if tsW 2 x b then some (a, x) else some (a, b)) else st
def enF (l : List Int) : Option (Int × Int) := l.foldl enS none
theorem enF_snoc (l : List Int) (x : Int) : enF (l ++ [x]) = enS (enF l) x := by simp [enF]
theorem enF_step {l : List Int} {k : Nat} (h : k < l.length) : enF (l.take (k + 1)) = enS (enF (l.take k)) (iG l k) := by rw [take_snoc h, enF_snoc]
theorem cmI_lt {a b : Int} : cmI a b < 0 ↔ a < b := by unfold cmI; split <;> (try split) <;> omega
theorem cmI_gt {a b : Int} : 0 < cmI a b ↔ b < a := by unfold cmI; split <;> (try split) <;> omega
theorem cmI_eq {a b : Int} : cmI a b = 0 ↔ a = b := by unfold cmI; split <;> (try split) <;> omega
theorem ts1 (a b : Int) : tsW 1 a b = (nuW a && nuW b && decide (plW (unW a) < plW (unW b))) := by
  unfold tsW tsO cmW; simp [cmI_lt]
theorem ts2 (a b : Int) : tsW 2 a b = (nuW a && nuW b && decide (plW (unW b) < plW (unW a))) := by
  unfold tsW tsO cmW; simp [cmI_gt]
theorem ts3 (a b : Int) : tsW 3 a b = (nuW a && nuW b && decide (plW (unW a) = plW (unW b))) := by
  unfold tsW tsO cmW; simp [cmI_eq]
theorem ts_lo {x : Int} (h : W64 x) : tsW 1 x 18442240474082181120 = false := by
  rw [ts1]
  cases hn : nuW x
  · rfl
  · have := nuW_t h hn
    have : ¬ plW (unW x) < plW (unW 18442240474082181120) := by unfold W64 plW unW at *; (repeat' split) <;> omega
    simp [this]
theorem ts_hi {x : Int} (h : W64 x) : tsW 2 x 9218868437227405312 = false := by
  rw [ts2]
  cases hn : nuW x
  · rfl
  · have := nuW_t h hn
    have : ¬ plW (unW 9218868437227405312) < plW (unW x) := by unfold W64 plW unW at *; (repeat' split) <;> omega
    simp [this]
theorem enS_stop {x : Int} (h : W64 x) : enS (some (18442240474082181120, 9218868437227405312)) x = some (18442240474082181120, 9218868437227405312) := by
  unfold enS; split
  · simp [ts_lo h, ts_hi h]
  · rfl
theorem fold_stop : ∀ (l : List Int), U64 l → l.foldl enS (some (18442240474082181120, 9218868437227405312)) = some (18442240474082181120, 9218868437227405312)
  | [], _ => rfl
  | x :: t, h => by
    rw [List.foldl_cons, enS_stop (h x (by simp))]; exact fold_stop t fun y hy => h y (by simp [hy])
theorem enF_stop {l : List Int} {k : Nat} (hu : U64 l) (h : enF (l.take k) = some (18442240474082181120, 9218868437227405312)) : enF l = some (18442240474082181120, 9218868437227405312) := by
  have e : l = l.take k ++ l.drop k := (List.take_append_drop k l).symm
  unfold enF at *
  rw [e, List.foldl_append, h]
  exact fold_stop _ fun x hx => hu x (List.mem_of_mem_drop hx)
theorem enS_64 {st : Option (Int × Int)} {x : Int} (hx : W64 x) (h : ∀ a b, st = some (a, b) → W64 a ∧ W64 b) : ∀ a b, enS st x = some (a, b) → W64 a ∧ W64 b := by
  intro a b e
  unfold enS at e
  split at e
  · cases st with
    | none => simp at e; obtain ⟨rfl, rfl⟩ := e; exact ⟨hx, hx⟩
    | some q =>
      obtain ⟨c, d⟩ := q
      have := h c d rfl
      simp only at e
      split at e
      · cases e; exact ⟨hx, this.2⟩
      · split at e
        · cases e; exact ⟨this.1, hx⟩
        · cases e; exact this
  · exact h a b e
theorem enF_64 {l : List Int} (hu : U64 l) (k : Nat) : ∀ a b, enF (l.take k) = some (a, b) → W64 a ∧ W64 b := by
  induction k with
  | zero => intro a b e; simp [enF] at e
  | succ k ih =>
    by_cases hk : k < l.length
    · rw [enF_step hk]; exact enS_64 (hu.at hk) ih
    · rw [List.take_of_length_le (by omega)]; rw [List.take_of_length_le (by omega)] at ih; exact ih
/-- What Ends tells of them. -/
def enV (st : Option (Int × Int)) : Value := match st with | none => .tuple #[.int .u64 0, .int .u64 0, .int .i64 4] | some (a, b) => .tuple #[.int .u64 a, .int .u64 b, .int .i64 0]
def loV (st : Option (Int × Int)) : Value := match st with | none => .int .u64 0 | some (a, _) => .int .u64 a
def hiV (st : Option (Int × Int)) : Value := match st with | none => .int .u64 0 | some (_, b) => .int .u64 b
def foV (st : Option (Int × Int)) : Value := match st with | none => .bool false | some _ => .bool true

set_option maxHeartbeats 2000000 in
set_option maxRecDepth 20000 in
theorem ends21 (p : Option Addr) (l : List Int) (c : Nat) (w : World) (h : Fw w p l c) :
    Calls Try.prog 21 #[.slice p l.length c] w fun e w' => e = .returned (enV (enF l)) ∧ Below w.heap.size w w' := by
  have hl : Hid (l.length ≤ 40) := h.n
  go_enter Try.func21, Try.ntmps21
  go_wp2
  go_step3
  go_wp2
  go_step3
  go_wp2
  go_loopw [5, 6, 7, 12] (fun s5 s6 s7 i wr => ∃ (k : Nat) (st : Option (Int × Int)), k ≤ l.length ∧ i = .int .i64 k ∧ s5 = loV st ∧ s6 = hiV st ∧ s7 = foV st ∧ enF (l.take k) = st ∧ Below w.heap.size w wr) (fun _ _ _ i _ => l.length - (intOf i).toNat)
  case atStart => exact ⟨0, none, by omega, rfl, rfl, rfl, rfl, rfl, Below.refl _ _⟩
  case round =>
    obtain ⟨k, st, hk, rfl, rfl, rfl, rfl, hs, hb⟩ := hrel
    by_cases hlt : k < l.length
    · obtain ⟨b0, off, rfl, hN, hc⟩ := (h.to hb).i (by omega)
      have hck := hc k hlt
      have hx := h.u.at hlt
      have HU : Hid (U64 l) := h.u
      have NN := kstep (k := k) (l := l) hlt hl.out
      have HE : Hid (enF (l.take (k + 1)) = enS st (iG l k)) := by unfold Hid; rw [enF_step hlt, hs]
      have H64 : Hid (∀ a b, st = some (a, b) → W64 a ∧ W64 b) := by unfold Hid; rw [← hs]; exact enF_64 h.u k
      have HH := fun (W : World) => has31 (iG l k) W hx
      have HS := hidOg hs
      have HB := hidOg hb
      clear hs hb hc hN hk
      obtain ⟨x, ex⟩ : ∃ x, x = iG l k := ⟨_, rfl⟩
      have EX : Hid (x = iG l k) := ex
      rw [← ex] at hck hx HE HH
      clear ex
      cases st with
      | none =>
        simp only [loV, hiV, foV]
        clear H64
        cases hn : nuW x
        · rw [hn] at HH
          have HE' : Hid (enF (l.take (k + 1)) = none) := by unfold Hid; rw [HE.out]; unfold enS; rw [hn]; rfl
          clear HE
          go_wp2_with (first | (go_at_call 31; refine (HH _).mono ?_; rintro e w1 ⟨rfl, rfl⟩))
          go_roundw
          case rel => exact ⟨k + 1, none, NN.1, by rw [NN.2.1], rfl, rfl, rfl, HE'.out, HB.out⟩
          case measure => rw [NN.2.1]; exact NN.2.2.1
        · rw [hn] at HH
          have HE' : Hid (enF (l.take (k + 1)) = some (x, x)) := by unfold Hid; rw [HE.out]; unfold enS; rw [hn]; rfl
          clear HE
          go_wp2_with (first | (go_at_call 31; refine (HH _).mono ?_; rintro e w1 ⟨rfl, rfl⟩))
          go_roundw
          case rel => exact ⟨k + 1, some (x, x), NN.1, by rw [NN.2.1], rfl, rfl, rfl, HE'.out, HB.out⟩
          case measure => rw [NN.2.1]; exact NN.2.2.1
      | some q =>
        obtain ⟨a, b⟩ := q
        simp only [loV, hiV, foV]
        obtain ⟨ha, hb⟩ := H64.out a b rfl
        clear H64
        by_cases qq : a = 18442240474082181120 ∧ b = 9218868437227405312
        · obtain ⟨rfl, rfl⟩ := qq
          have HF : Hid (enF l = some (18442240474082181120, 9218868437227405312)) := enF_stop HU.out HS.out
          clear HE HS
          go_wp2
          rw [Exit.noGoto_ret]
          refine bodyPost_ret (v := .tuple #[.int .u64 18442240474082181120, .int .u64 9218868437227405312, .int .i64 0]) (by simp [results, Try.results21, go_sem]) rfl ⟨?_, HB.out⟩
          rw [HF.out]; rfl
        · have T1 := fun (W : World) => test19 1 x a W hx ha
          have T2 := fun (W : World) => test19 2 x b W hx hb
          have hcases : a ≠ 18442240474082181120 ∨ (a = 18442240474082181120 ∧ b ≠ 9218868437227405312) := by
            by_cases q1 : a = 18442240474082181120
            · exact .inr ⟨q1, fun q2 => qq ⟨q1, q2⟩⟩
            · exact .inl q1
          clear qq
          cases hn : nuW x
          · rw [hn] at HH
            have HE' : Hid (enF (l.take (k + 1)) = some (a, b)) := by unfold Hid; rw [HE.out]; unfold enS; rw [hn]; rfl
            clear HE T1 T2 HS
            rcases hcases with q1 | ⟨rfl, q2⟩
            · go_wp2_with (first | (go_at_call 31; refine (HH _).mono ?_; rintro e w1 ⟨rfl, rfl⟩))
              go_roundw
              case rel => exact ⟨k + 1, some (a, b), NN.1, by rw [NN.2.1], rfl, rfl, rfl, HE'.out, HB.out⟩
              case measure => rw [NN.2.1]; exact NN.2.2.1
            · go_wp2_with (first | (go_at_call 31; refine (HH _).mono ?_; rintro e w1 ⟨rfl, rfl⟩))
              go_roundw
              case rel => exact ⟨k + 1, some (18442240474082181120, b), NN.1, by rw [NN.2.1], rfl, rfl, rfl, HE'.out, HB.out⟩
              case measure => rw [NN.2.1]; exact NN.2.2.1
          · rw [hn] at HH
            cases t1 : tsW 1 x a
            · rw [t1] at T1
              cases t2 : tsW 2 x b
              · rw [t2] at T2
                have HE' : Hid (enF (l.take (k + 1)) = some (a, b)) := by unfold Hid; rw [HE.out]; unfold enS; rw [hn]; simp [t1, t2]
                clear HE HS
                rcases hcases with q1 | ⟨rfl, q2⟩
                · go_wp2_with (first | (go_at_call 31; refine (HH _).mono ?_; rintro e w1 ⟨rfl, rfl⟩) | (go_at_call_has 19 b; refine (T2 _).mono ?_; rintro e w3 ⟨rfl, hb3⟩) | (go_at_call 19; refine (T1 _).mono ?_; rintro e w2 ⟨rfl, hb2⟩))
                  go_roundw
                  case rel => exact ⟨k + 1, some (a, b), NN.1, by rw [NN.2.1], rfl, rfl, rfl, HE'.out, (HB.out.trans (hb2.mono HB.out.size)).trans (hb3.mono (HB.out.trans (hb2.mono HB.out.size)).size)⟩
                  case measure => rw [NN.2.1]; exact NN.2.2.1
                · go_wp2_with (first | (go_at_call 31; refine (HH _).mono ?_; rintro e w1 ⟨rfl, rfl⟩) | (go_at_call_has 19 b; refine (T2 _).mono ?_; rintro e w3 ⟨rfl, hb3⟩) | (go_at_call 19; refine (T1 _).mono ?_; rintro e w2 ⟨rfl, hb2⟩))
                  go_roundw
                  case rel => exact ⟨k + 1, some (18442240474082181120, b), NN.1, by rw [NN.2.1], rfl, rfl, rfl, HE'.out, (HB.out.trans (hb2.mono HB.out.size)).trans (hb3.mono (HB.out.trans (hb2.mono HB.out.size)).size)⟩
                  case measure => rw [NN.2.1]; exact NN.2.2.1
              · rw [t2] at T2
                have HE' : Hid (enF (l.take (k + 1)) = some (a, x)) := by unfold Hid; rw [HE.out]; unfold enS; rw [hn]; simp [t1, t2]
                clear HE HS
                rcases hcases with q1 | ⟨rfl, q2⟩
                · go_wp2_with (first | (go_at_call 31; refine (HH _).mono ?_; rintro e w1 ⟨rfl, rfl⟩) | (go_at_call_has 19 b; refine (T2 _).mono ?_; rintro e w3 ⟨rfl, hb3⟩) | (go_at_call 19; refine (T1 _).mono ?_; rintro e w2 ⟨rfl, hb2⟩))
                  go_roundw
                  case rel => exact ⟨k + 1, some (a, x), NN.1, by rw [NN.2.1], rfl, rfl, rfl, HE'.out, (HB.out.trans (hb2.mono HB.out.size)).trans (hb3.mono (HB.out.trans (hb2.mono HB.out.size)).size)⟩
                  case measure => rw [NN.2.1]; exact NN.2.2.1
                · go_wp2_with (first | (go_at_call 31; refine (HH _).mono ?_; rintro e w1 ⟨rfl, rfl⟩) | (go_at_call_has 19 b; refine (T2 _).mono ?_; rintro e w3 ⟨rfl, hb3⟩) | (go_at_call 19; refine (T1 _).mono ?_; rintro e w2 ⟨rfl, hb2⟩))
                  go_roundw
                  case rel => exact ⟨k + 1, some (18442240474082181120, x), NN.1, by rw [NN.2.1], rfl, rfl, rfl, HE'.out, (HB.out.trans (hb2.mono HB.out.size)).trans (hb3.mono (HB.out.trans (hb2.mono HB.out.size)).size)⟩
                  case measure => rw [NN.2.1]; exact NN.2.2.1
            · rw [t1] at T1
              have HE' : Hid (enF (l.take (k + 1)) = some (x, b)) := by unfold Hid; rw [HE.out]; unfold enS; rw [hn]; simp [t1]
              clear HE HS T2
              rcases hcases with q1 | ⟨rfl, q2⟩
              · go_wp2_with (first | (go_at_call 31; refine (HH _).mono ?_; rintro e w1 ⟨rfl, rfl⟩) | (go_at_call 19; refine (T1 _).mono ?_; rintro e w2 ⟨rfl, hb2⟩))
                go_roundw
                case rel => exact ⟨k + 1, some (x, b), NN.1, by rw [NN.2.1], rfl, rfl, rfl, HE'.out, HB.out.trans (hb2.mono HB.out.size)⟩
                case measure => rw [NN.2.1]; exact NN.2.2.1
              · go_wp2_with (first | (go_at_call 31; refine (HH _).mono ?_; rintro e w1 ⟨rfl, rfl⟩) | (go_at_call 19; refine (T1 _).mono ?_; rintro e w2 ⟨rfl, hb2⟩))
                go_roundw
                case rel => exact ⟨k + 1, some (x, b), NN.1, by rw [NN.2.1], rfl, rfl, rfl, HE'.out, HB.out.trans (hb2.mono HB.out.size)⟩
                case measure => rw [NN.2.1]; exact NN.2.2.1
    · have hkl : k = l.length := by omega
      have HS : Hid (enF l = st) := by rw [hkl, List.take_length] at hs; exact hs
      have HB := hidOg hb
      clear hs hkl
      cases st with
      | none =>
        simp only [loV, hiV, foV]
        go_wp2
        rw [Exit.noGoto_ret]
        refine bodyPost_ret (v := .tuple #[.int .u64 0, .int .u64 0, .int .i64 4]) (by simp [results, Try.results21, go_sem]) rfl ⟨?_, HB.out⟩
        rw [HS.out]; rfl
      | some q =>
        obtain ⟨a, b⟩ := q
        simp only [loV, hiV, foV]
        go_wp2
        rw [Exit.noGoto_ret]
        refine bodyPost_ret (v := .tuple #[.int .u64 a, .int .u64 b, .int .i64 0]) (by simp [results, Try.results21, go_sem]) rfl ⟨?_, HB.out⟩
        rw [HS.out]; rfl
end Go.Proofs.Ytglfhgedaknljaa
