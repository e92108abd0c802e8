/- Contracts of ident.letters and ident.made. -/
import Derived.Test.YtpamgcmjhfojeaaDoorIdE
import Derived.Maps.Own
namespace Go.Proofs.YtpamgcmjhfojeaaDoor
open Go.RowKit Go.Maps

theorem keyLaw : Keyed Tryd.prog 21 := int_keyed Tryd.underlying21
theorem zero3 (w : World) : (zeroValue 3).run Tryd.prog w = .ok (.int .i64 0) w := by kernel_rfl
/-- the map of first letters, as data -/
def letD : DataW Unit := (((DataW.map (H := Unit) []).put (.int .i32 101) (.lit (.int .i64 1))).put (.int .i32 99) (.lit (.int .i64 2))).put (.int .i32 112) (.lit (.int .i64 3))
def letK (r : Int) : Int := if r = 101 then 1 else if r = 99 then 2 else if r = 112 then 3 else 0
theorem letD_eq : letD = .map [(.int .i32 99, .lit (.int .i64 2)), (.int .i32 101, .lit (.int .i64 1)), (.int .i32 112, .lit (.int .i64 3))] := by rfl
theorem letD_at (r : Int) : letD.atKey (.int .i32 r) (.lit (.int .i64 0)) = .lit (.int .i64 (letK r)) := by
  rw [letD_eq]
  unfold letK
  by_cases a : r = 101
  · subst a; rfl
  · by_cases b : r = 99
    · subst b; rfl
    · by_cases c : r = 112
      · subst c; rfl
      · simp [DataW.atKey, Lit.sameKey, a, b, c, Ne.symm a, Ne.symm b, Ne.symm c]
theorem letters_any (w : World) :
    Calls Tryd.prog 44 #[] w fun e w' => e = .returned (.map (some w.heap.size)) ∧ w'.ownsMap Tryd.prog 21 (plainElem Tryd.prog 3) w.heap.size 3 letD ∧ Below w.heap.size w w' := by
  have hmm := @run_makeMap Tryd.prog
  have o0 := World.ownsMap_made w Tryd.prog 21 (plainElem (H := Unit) Tryd.prog 3)
  obtain ⟨w1, run1, o1, g1⟩ := o0.update keyLaw Tryd.underlying63 (by decide) (keyOf_int_mk Tryd.underlying21 (a := 101) (by decide)) (plainElem_int Tryd.underlying3 (a := 1) (by decide))
  obtain ⟨w2, run2, o2, g2⟩ := o1.update keyLaw Tryd.underlying63 (by decide) (keyOf_int_mk Tryd.underlying21 (a := 99) (by decide)) (plainElem_int Tryd.underlying3 (a := 2) (by decide))
  obtain ⟨w3, run3, o3, g3⟩ := o2.update keyLaw Tryd.underlying63 (by decide) (keyOf_int_mk Tryd.underlying21 (a := 112) (by decide)) (plainElem_int Tryd.underlying3 (a := 3) (by decide))
  have hB : Below w.heap.size w w3 := ((((Below.refl _ _).alloc (Nat.le_refl _) _).grown g1 (by simp) (by simp)).grown g2 (by have := g1.size; simp at this; omega) (by simp)).grown g3 (by have := g1.size; have := g2.size; simp at *; omega) (by simp)
  have O : Hid (w3.ownsMap Tryd.prog 21 (plainElem Tryd.prog 3) w.heap.size 3 letD) := o3
  clear o0 o1 o2 o3 g1 g2 g3
  go_enter Tryd.func44, Tryd.ntmps44
  go_wp2
  go_ret
  exact ⟨rfl, O.out, hB⟩

/-- what 'made' makes -/
def madeV (k a b : Int) : Int := if k = 1 then entV a b else if k = 2 then comV a else if k = 3 then paiV a b else 0
theorem made_any (k a b : Int) (w : World) :
    Calls Tryd.prog 45 #[.int .i64 k, .agg #[.int .i64 a, .int .i64 b]] w fun e w' => e = .returned (.int .u64 (madeV k a b)) ∧ Below w.heap.size w w' := by
  have E : Hid (madeV k a b = if k = 1 then entV a b else if k = 2 then comV a else if k = 3 then paiV a b else 0) := rfl
  by_cases c1 : k = 1
  · subst c1
    go_enter Tryd.func45, Tryd.ntmps45
    go_wp2_with (first | (go_at_call 9; refine (entity_any _ _ _).mono ?_; rintro e w1 ⟨rfl, hb⟩))
    go_ret
    exact ⟨by rw [E.out]; rfl, below1 hb⟩
  · by_cases c2 : k = 2
    · subst c2
      go_enter Tryd.func45, Tryd.ntmps45
      go_wp2_with (first | (go_at_call 10; refine (component_any _ _).mono ?_; rintro e w1 ⟨rfl, hb⟩))
      go_ret
      exact ⟨by rw [E.out]; rfl, below1 hb⟩
    · by_cases c3 : k = 3
      · subst c3
        go_enter Tryd.func45, Tryd.ntmps45
        go_wp2_with (first | (go_at_call 11; refine (pair_any _ _ _).mono ?_; rintro e w1 ⟨rfl, hb⟩))
        go_ret
        exact ⟨by rw [E.out]; rfl, below1 hb⟩
      · go_enter Tryd.func45, Tryd.ntmps45
        go_wp2
        go_ret
        exact ⟨by rw [E.out, if_neg c1, if_neg c2, if_neg c3]; rfl, (Below.refl _ _).alloc (Nat.le_refl _) _⟩
end Go.Proofs.YtpamgcmjhfojeaaDoor
