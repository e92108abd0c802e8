/- AllocRoom: whatever the allocator, the law returns true and leaves its argument as it was. Condition: the program's variable alloc.fresh reads as its text lays it, to which the card ties it. -/
import Derived.Test.YtaglhajlgnjhcaaDoorCards
import Derived.Test.YtaglhajlgnjhcaaDoorTie
import Derived.Test.YtaglhajlgnjhcaaDoorLaB
import Derived.Test.YtaglhajlgnjhcaaDoorRoB
namespace Go.Proofs.YtaglhajlgnjhcaaDoor
open Go.ChangeShapes Go.WideShapes Go.ChangeAt Go.RowKit

theorem room_walk (m : Int) (p : Option Addr) (l : List (Int × Bool)) (c : Nat) (q : Option Addr) (f : List Int) (d : Nat) (w : World) (hF : Fr w) (hs : SRow w.heap.size w p l) (hi : IRow .i64 w.heap.size w q f) (hp : AdOk p ∨ l.length = 0) (hq : AdOk q ∨ f.length = 0) (c1 : l.length ≤ c) (c2 : f.length ≤ d) :
    Calls Tryd.prog 7 #[.agg #[.int .i64 m, .slice p l.length c, .slice q f.length d]] w fun e w' => e = .returned (.bool true) ∧ Below w.heap.size w w' := by
  cases hm : mayB m (l.take 40) (f.take 40)
  · exact room_bad m p l c q f d w hF hs hi hp hq c1 c2 hm
  · exact room_good m p l c q f d w hF hs hi hp hq c1 c2 hm

set_option maxRecDepth 100000 in
theorem room_lifted (os : Os) (started : os.Started) (H : Type) (enc : TypeId × Value → H) :
    ReturnsInHanded {} Tryd.checked os 7 .any (fun w args => (Rows.allocRoomSpec.pre enc Tryd.prog Tryd.f7 [] false w args ∧ laidMetH Tryd.prog laid1 w) ∧ sizedMet enc Tryd.prog Tryd.f7 (OpenSpec.ofChange Rows.allocRoomSpec) false w args)
      (Rows.allocRoomSpec.post enc Tryd.prog Tryd.f7 false true false false) := by
  refine returnsInHanded_of_change_and (C := Tryd.checked) (X := fun w _ => laidMetH Tryd.prog laid1 w) (fun _ _ _ hh h => h.of_heap hh) own started (by kernel_rfl) Tryd.func7
    (ChangeSpec.witness_shaped (enc := enc) (C := Tryd.checked) (os := os) (X := fun w _ => laidMetH Tryd.prog laid1 w) false (World.doorLaid Tryd.prog 400 os) #[.agg #[.int .i64 0, .slice none 0 0, .slice none 0 0]] 8 rfl (World.shaped_of_RefB (by kernel_rfl) (by kernel_rfl)) (by kernel_rfl) (by kernel_rfl) (by kernel_rfl) (door_met os _)) ?_
  intro W base args ds gs before hval0 hW _ _ hL _
  have hval : ∀ (j : Nat) t v, Tryd.f7.params[j]? = some t → args[j]? = some v → Value.okWide Tryd.prog W .any base t v := hval0
  have hW' := hW
  obtain ⟨p, q, hA0, hV, rfl, hfz, hnd⟩ := hW
  have hA : DataW.TrodAll enc Tryd.prog W 0 (fun _ => true) true Tryd.f7.params.toList args.toList ds p := hA0
  rw [Tryd.params7] at hA hval
  obtain ⟨v0, vs0, d0, ds0, p0, q0, hargs, rfl, rfl, h0, r0⟩ := trodAll_cons hA
  obtain ⟨rfl, rfl, rfl⟩ := trodAll_nil r0
  obtain rfl : args = #[v0] := by cases args; simp_all
  obtain ⟨rfl, rfl⟩ := trodVars_none hV
  have k0 := h0
  have lt0 : ∀ x ∈ p0, x.block < W.heap.size := by obtain ⟨m, hm⟩ := k0; exact DataW.trod_lt m _ _ _ hm
  obtain ⟨m, pp, l, c, qq, f, d, rfl, hs, hi, hp, hq, hc, hd⟩ := alloc_of (hval 0 25 v0 rfl rfl) h0
  clear hA0 hval0
  refine (room_walk m pp l c qq f d W (fr_of_laid hL) hs hi hp hq hc hd).mono fun e W' ⟨he, bel⟩ => ?_
  subst he
  exact ⟨_, rfl, _, _, _, [], _, [], hW', trodAll_cons_mk (shut_bool Tryd.underlying4 _) trodAll_mk0, trodAll_cons_mk (Below.trod tLaidOut (by kernel_rfl) (of_decide_eq_true (by kernel_rfl)) k0 bel lt0) trodAll_mk0, rfl, bel.frame _, fun h => by cases h⟩

theorem room_holds : Rows.AllocRoomSaid :=
  OpenClaim.holds_of_wide 7 Tryd.f7 rfl rfl rfl rfl rfl rfl rfl ⟨rfl, rfl, rfl, rfl, rfl⟩ rfl rfl rfl rfl rfl (by kernel_rfl) Tryd.func7 (by kernel_rfl)
    (of_decide_eq_true (by kernel_rfl)) (by unfold Func.isWrapper; first | (rw [if_pos (by decide +kernel)]; kernel_rfl) | (rw [if_neg (by decide +kernel)]; exact ⟨rfl, rfl⟩))
    (fun os started H enc _ => room_lifted os started H enc)

theorem allocRoom_card : Rows.AllocRoomCardSaid :=
  Claim7.holds_tied_plain_at .later [] [.data] true (true, "23316dbcf821db93aadf20814d7582d9ecb6d27517f30adef35da65c6b8e9463") false
    room_holds (fun _ h => by cases h) (by kernel_rfl) (fun _ h => by cases h) allocRoom_row_tie rfl ⟨rfl, rfl⟩ (by kernel_rfl) rfl
    (fun f fn hf hfn => by
      obtain rfl : f = 7 := Option.some.inj ((show Tryd.prog.funcNamed "windrose/windroselaw02.AllocRoom" = some 7 by kernel_rfl).symm.trans hf) |>.symm
      obtain rfl : fn = Tryd.f7 := (Option.some.inj (Tryd.func7.symm.trans hfn)).symm
      exact ⟨by kernel_rfl, fun j t ht => by
        rw [Tryd.params7] at ht
        have hm : t ∈ [25] := by simpa using Array.mem_of_getElem? ht
        have hall : ([25].all fun u => !Tryd.prog.wantsStandIn u) = true := by kernel_rfl
        exact (show Tryd.prog.wantsStandIn t = false by simpa using List.all_eq_true.1 hall t hm)⟩)
    (by kernel_rfl)
#print axioms allocRoom_card
end Go.Proofs.YtaglhajlgnjhcaaDoor
