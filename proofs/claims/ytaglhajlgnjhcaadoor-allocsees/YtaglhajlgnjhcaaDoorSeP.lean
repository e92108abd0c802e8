/- AllocSees: whatever the allocator and the row of ids, the law returns true and leaves its arguments as they were. Condition: the program's variable alloc.fresh reads as its text lays it, to which the card ties it. -/
import Derived.Test.YtaglhajlgnjhcaaDoorCards
import Derived.Test.YtaglhajlgnjhcaaDoorTie
import Derived.Test.YtaglhajlgnjhcaaDoorLaB
import Derived.Test.YtaglhajlgnjhcaaDoorSeX
namespace Go.Proofs.YtaglhajlgnjhcaaDoor
open Go.ChangeShapes Go.WideShapes Go.ChangeAt Go.RowKit

theorem u64_wf {a : Int} (h : (Lit.int .u64 a).wf = true) : 0 ≤ a ∧ a < 18446744073709551616 := by
  have a1 : IntKind.u64.min = 0 := by decide
  have b1 : IntKind.u64.max = 18446744073709551615 := by decide
  simp [Lit.wf, a1, b1] at h; omega
theorem sees_walk (m : Int) (p : Option Addr) (l : List (Int × Bool)) (c : Nat) (q : Option Addr) (f : List Int) (d : Nat) (r : Option Addr) (ids : List Int) (e : Nat) (w : World) (hF : Fr w)
    (hs : SRow w.heap.size w p l) (hi : IRow .i64 w.heap.size w q f) (hp : AdOk p ∨ l.length = 0) (hq : AdOk q ∨ f.length = 0) (c1 : l.length ≤ c) (d1 : f.length ≤ d) (hn : IRow .u64 w.heap.size w r ids) (hid : ∀ k, k < ids.length → 0 ≤ iG ids k ∧ iG ids k < 18446744073709551616) :
    Calls Tryd.prog 4 #[.agg #[.int .i64 m, .slice p l.length c, .slice q f.length d], .slice r ids.length e] w fun e w' => e = .returned (.bool true) ∧ Below w.heap.size w w' := by
  cases hm : mayB m (l.take 40) (f.take 40)
  · exact sees_bad m p l c q f d r ids e w hF hs hi hp hq c1 d1 hn hid hm
  · exact sees_good m p l c q f d r ids e w hF hs hi hp hq c1 d1 hn hid hm

set_option maxRecDepth 100000 in
set_option maxHeartbeats 4000000 in
theorem seesLaw_lifted (os : Os) (started : os.Started) (H : Type) (enc : TypeId × Value → H) :
    ReturnsInHanded {} Tryd.checked os 4 .any (fun w args => (Rows.allocSeesSpec.pre enc Tryd.prog Tryd.f4 [] false w args ∧ laidMetH Tryd.prog laid1 w) ∧ sizedMet enc Tryd.prog Tryd.f4 (OpenSpec.ofChange Rows.allocSeesSpec) false w args)
      (Rows.allocSeesSpec.post enc Tryd.prog Tryd.f4 false true false false) := by
  refine returnsInHanded_of_change_and (C := Tryd.checked) (X := fun w _ => laidMetH Tryd.prog laid1 w) (fun _ _ _ hh h => h.of_heap hh) own started (by kernel_rfl) Tryd.func4
    (ChangeSpec.witness_shaped (enc := enc) (C := Tryd.checked) (os := os) (X := fun w _ => laidMetH Tryd.prog laid1 w) false (World.doorLaid Tryd.prog 400 os) #[.agg #[.int .i64 0, .slice none 0 0, .slice none 0 0], .slice none 0 0] 8 rfl (World.shaped_of_RefB (by kernel_rfl) (by kernel_rfl)) (by kernel_rfl) (by kernel_rfl) (by kernel_rfl) (door_met os _)) ?_
  intro W base args ds gs before hval0 hW _ _ hL _
  have hval : ∀ (j : Nat) t v, Tryd.f4.params[j]? = some t → args[j]? = some v → Value.okWide Tryd.prog W .any base t v := hval0
  have hW' := hW
  obtain ⟨p, q, hA0, hV, rfl, hfz, hnd⟩ := hW
  have hA : DataW.TrodAll enc Tryd.prog W 0 (fun _ => true) true Tryd.f4.params.toList args.toList ds p := hA0
  rw [Tryd.params4] at hA hval
  obtain ⟨v0, vs0, d0, ds0, p0, q0, hargs, rfl, rfl, h0, r0⟩ := trodAll_cons hA
  obtain ⟨v1, vs1, d1, ds1, p1, q1, rfl, rfl, rfl, h1, r1⟩ := trodAll_cons r0
  obtain ⟨rfl, rfl, rfl⟩ := trodAll_nil r1
  obtain rfl : args = #[v0, v1] := by cases args; simp_all
  obtain ⟨rfl, rfl⟩ := trodVars_none hV
  have k0 := h0
  have k1 := h1
  have lt0 : ∀ x ∈ p0, x.block < W.heap.size := by obtain ⟨m, hm⟩ := k0; exact DataW.trod_lt m _ _ _ hm
  have lt1 : ∀ x ∈ p1, x.block < W.heap.size := by obtain ⟨m, hm⟩ := k1; exact DataW.trod_lt m _ _ _ hm
  obtain ⟨m, pp, l, c, qq, f, d, rfl, hs, hi, hp, hq, hc, hd⟩ := alloc_of (hval 0 25 v0 rfl rfl) h0
  obtain ⟨ra, rlen, rcap, rfl⟩ := okWide_slice Tryd.underlying36 (hval 1 36 v1 rfl rfl)
  obtain ⟨fu, hfu⟩ := h1
  obtain ⟨r, ns, e, hv2, hn, _, _, hwf⟩ := ints_of (v := .slice ra rlen rcap) Tryd.underlying36 Tryd.underlying41 cells41 hfu
  cases hv2
  have hid : ∀ k, k < ns.length → 0 ≤ iG ns k ∧ iG ns k < 18446744073709551616 := fun k hk => by
    have e : iG ns k = ns[k] := by simp [iG, hk]
    have := hwf _ (List.getElem_mem hk)
    rw [e]
    exact u64_wf this
  clear hA0 hval0
  refine (sees_walk m pp l c qq f d ra ns rcap W (fr_of_laid hL) hs hi hp hq hc hd hn hid).mono fun e W' ⟨he, bel⟩ => ?_
  subst he
  exact ⟨_, rfl, _, _, _, [], _, [], hW', trodAll_cons_mk (shut_bool Tryd.underlying4 _) trodAll_mk0, trodAll_cons_mk (Below.trod tLaidOut (by kernel_rfl) (of_decide_eq_true (by kernel_rfl)) k0 bel lt0) (trodAll_cons_mk (Below.trod tLaidOut (by kernel_rfl) (of_decide_eq_true (by kernel_rfl)) k1 bel lt1) trodAll_mk0), rfl, bel.frame _, fun h => by cases h⟩

theorem seesLaw_holds : Rows.AllocSeesSaid :=
  OpenClaim.holds_of_wide 4 Tryd.f4 rfl rfl rfl rfl rfl rfl rfl ⟨rfl, rfl, rfl, rfl, rfl⟩ rfl rfl rfl rfl rfl (by kernel_rfl) Tryd.func4 (by kernel_rfl)
    (of_decide_eq_true (by kernel_rfl)) (by unfold Func.isWrapper; first | (rw [if_pos (by decide +kernel)]; kernel_rfl) | (rw [if_neg (by decide +kernel)]; exact ⟨rfl, rfl⟩))
    (fun os started H enc _ => seesLaw_lifted os started H enc)

theorem allocSees_card : Rows.AllocSeesCardSaid :=
  Claim7.holds_tied_plain_at .later [] [.data] true (true, "23316dbcf821db93aadf20814d7582d9ecb6d27517f30adef35da65c6b8e9463") false
    seesLaw_holds (fun _ h => by cases h) (by kernel_rfl) (fun _ h => by cases h) allocSees_row_tie rfl ⟨rfl, rfl⟩ (by kernel_rfl) rfl
    (fun f fn hf hfn => by
      obtain rfl : f = 4 := Option.some.inj ((show Tryd.prog.funcNamed "windrose/windroselaw02.AllocSees" = some 4 by kernel_rfl).symm.trans hf) |>.symm
      obtain rfl : fn = Tryd.f4 := (Option.some.inj (Tryd.func4.symm.trans hfn)).symm
      exact ⟨by kernel_rfl, fun j t ht => by
        rw [Tryd.params4] at ht
        have hm : t ∈ [25, 36] := by simpa using Array.mem_of_getElem? ht
        have hall : ([25, 36].all fun u => !Tryd.prog.wantsStandIn u) = true := by kernel_rfl
        exact (show Tryd.prog.wantsStandIn t = false by simpa using List.all_eq_true.1 hall t hm)⟩)
    (by kernel_rfl)
#print axioms allocSees_card
end Go.Proofs.YtaglhajlgnjhcaaDoor
