/- AllocRoom's walk. -/
import Derived.Test.YtaglhajlgnjhcaaDoorPlC
import Derived.Test.YtaglhajlgnjhcaaDoorOwA
namespace Go.Proofs.YtaglhajlgnjhcaaDoor
open Go.RowKit

/-- Most, as AllocRoom lowers it. -/
def rMost (m : Int) (n : Nat) : Int := if 60 < m then max ((n : Int) - 2) 1 else m
theorem rMost_may {m : Int} {l : List (Int × Bool)} {f : List Int} (h : mayB m l f = true) (hl : l.length ≤ 40) : mayB (rMost m l.length) l f = true ∧ rMost m l.length ≤ 60 := by
  obtain ⟨h1, h2, h3, h4⟩ := (mayB_iff m l f).1 h
  unfold rMost
  split
  · refine ⟨(mayB_iff _ l f).2 ⟨⟨?_, ?_, ?_, ?_⟩, h2, h3, h4⟩, ?_⟩ <;> omega
  · exact ⟨h, by omega⟩

set_option maxRecDepth 20000 in
set_option maxHeartbeats 4000000 in
theorem room_bad (m : Int) (p : Option Addr) (l : List (Int × Bool)) (c : Nat) (q : Option Addr) (f : List Int) (d : Nat) (w : World) (hF : Fr w) (hs : SRow w.heap.size w p l) (hi : IRow .i64 w.heap.size w q f) (hp : AdOk p ∨ l.length = 0) (hq : AdOk q ∨ f.length = 0) (c1 : l.length ≤ c) (c2 : f.length ≤ d) (hm : mayB m (l.take 40) (f.take 40) = false) :
    Calls Tryd.prog 7 #[.agg #[.int .i64 m, .slice p l.length c, .slice q f.length d]] w fun e w' => e = .returned (.bool true) ∧ Below w.heap.size w w' := by
  have CW := fun (o : Obj) => wakes_any (w.alloc o) (hF.alloc o)
  have CO := fun (W : World) (hb : Below w.heap.size w W) => own10 m p l c q f d W (hF.below hb hF.lt) ((hs.below hb (Nat.le_refl _)).mono hb.size) ((hi.below hb (Nat.le_refl _)).mono hb.size) hp hq c1 c2
  have HM : Hid (mayB m (l.take 40) (f.take 40) = false) := hm
  obtain ⟨l4, hl4⟩ : ∃ l4, l4 = l.take 40 := ⟨_, rfl⟩
  obtain ⟨f4, hf4⟩ : ∃ f4, f4 = f.take 40 := ⟨_, rfl⟩
  rw [← hl4, ← hf4] at CO hm
  have CC := fun (W : World) (p' q' : Option Addr) (c' d' : Nat) (h : AIn W p' l4 q' f4) => check_any m c' d' W p' l4 q' f4 h
  have CR := fun (W : World) (p' q' : Option Addr) (c' d' : Nat) (h : AIn W p' l4 q' f4) => room_any m c' d' W p' l4 q' f4 h
  have CA := fun (W : World) (p' q' : Option Addr) (c' d' : Nat) (h : AIn W p' l4 q' f4) => all_any m p' l4 c' q' f4 d' W h.fr h.s h.i h.ln (by have := h.fn; omega)
  rw [show chkE m l4 f4 = 120 by unfold chkE; rw [hm]; rfl] at CC
  rw [show roomM m l4 f4 = 0 by unfold roomM; rw [hm]; rfl] at CR
  rw [show allM m l4 f4 = [] by unfold allM; rw [hm]; rfl] at CA
  clear hF hs hi hp hq c1 c2 hm HM hl4 hf4
  go_enter Tryd.func7, Tryd.ntmps7
  go_wp2_with (first | (go_at_call 9; refine Calls.mono (CW _) ?_; rintro e w1 ⟨rfl, hb1⟩; obtain ⟨a0, a1, a2, hz1⟩ := box3 hb1; have HB1 : Hid (Below w.heap.size w w1) := below1 hb1) | (go_at_call 10; refine Calls.mono (CO _ HB1.out) ?_; rintro e w2 ⟨p', c', q', d', rfl, hix, hb2⟩; have HX2 : Hid _ := hix.i; clear hix; have HB2 : Hid (Below w.heap.size w w2) := HB1.out.trans (hb2.mono HB1.out.size)) | (go_at_call 11; refine Calls.mono (CC _ _ _ _ _ (HX2.out.alloc _)) ?_; rintro e w3 ⟨rfl, hb3⟩; obtain ⟨b0, b1, b2, hz3⟩ := box3 hb3; have HB23 : Hid (Below w2.heap.size w2 w3) := below1 hb3; have HK3 : Hid _ := hb3; have HX3 : Hid _ := HX2.out.below HB23.out) | (go_at_call 21; refine Calls.mono (CR _ _ _ _ _ HX3.out) ?_; rintro e w4 ⟨rfl, hb4⟩; obtain ⟨d0, d1, d2, hz4⟩ := box3 (HK3.out.trans (hb4.mono HK3.out.size)); have HX4 : Hid _ := HX3.out.below hb4; have HB34 : Hid (Below w3.heap.size w3 w4) := hb4) | (go_at_call 20; refine Calls.mono (CA _ _ _ _ _ HX4.out) ?_; rintro e w5 ⟨v, rfl, hv, hb5⟩; obtain ⟨pv, cv, rfl⟩ : ∃ pv cv, v = .slice pv 0 cv := (by rcases hv.2 with ⟨h, _⟩ | ⟨g, cap, cur, h, _⟩; { exact ⟨_, _, h⟩ }; { exact ⟨_, _, h⟩ }); clear hv))
  go_ret
  exact ⟨rfl, HB2.out.trans (((HB23.out.trans (HB34.out.mono HB23.out.size)).trans (hb5.mono (by have := HB23.out.size; omega))).mono HB2.out.size)⟩
end Go.Proofs.YtaglhajlgnjhcaaDoor
