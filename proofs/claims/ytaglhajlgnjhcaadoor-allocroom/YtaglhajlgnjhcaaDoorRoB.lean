/- AllocRoom's walk, where the allocator may be. -/
import Derived.Test.YtaglhajlgnjhcaaDoorRoA
import Derived.BigQuiet
import Derived.Deep.QuietTactic
import Derived.Deep.DeepCutAuto
namespace Go.Proofs.YtaglhajlgnjhcaaDoor
open Go.RowKit

/-- A boxed allocator that lies in wr: its box X, and its rows. -/
structure Bxd (w wr : World) (X : Nat) (m : Int) (p : Option Addr) (l : List (Int × Bool)) (c : Nat) (q : Option Addr) (f : List Int) (d : Nat) : Prop where
  x : wr.heap[X]? = some (.cells #[.int .i64 m, .slice p l.length c, .slice q f.length d] 25 (0, 0))
  i : AIn wr p l q f
  b : Below w.heap.size w wr
  lx : w.heap.size ≤ X
theorem Bxd.below {w wr wr' : World} {X : Nat} {m : Int} {p : Option Addr} {l : List (Int × Bool)} {c : Nat} {q : Option Addr} {f : List Int} {d : Nat} (h : Bxd w wr X m p l c q f d) (hb : Below wr.heap.size wr wr') : Bxd w wr' X m p l c q f d :=
  ⟨atW hb h.x, h.i.below hb, h.b.trans (hb.mono h.b.size), h.lx⟩
/-- The box is given the allocator that was answered. -/
theorem Bxd.put {w wr W : World} {X : Nat} {m m' : Int} {p : Option Addr} {l l' : List (Int × Bool)} {c : Nat} {q : Option Addr} {f f' : List Int} {d G H : Nat} (hF : Fr w) (h : Bxd w wr X m p l c q f d) (ha : AOwn wr W G l' H f') (h1 : l'.length ≤ 8796093022208) (h2 : f'.length ≤ 8796093022208) :
    Bxd w (((W.setCell ⟨X, 0, none⟩ (.int .i64 m')).setCell ⟨X, 1, none⟩ (.slice (some ⟨G, 0, none⟩) l'.length l'.length)).setCell ⟨X, 2, none⟩ (.slice (some ⟨H, 0, none⟩) f'.length f'.length)) X m' (some ⟨G, 0, none⟩) l' l'.length (some ⟨H, 0, none⟩) f' f'.length := by
  have hx := (Array.getElem?_eq_some_iff.1 h.x).1
  have hg := ha.lg
  have hh := ha.lh
  obtain ⟨r, hr⟩ := ha.h
  have hB := below_set3 (h.b.trans (ha.b.mono h.b.size)) h.lx (.int .i64 m') (.slice (some ⟨G, 0, none⟩) l'.length l'.length) (.slice (some ⟨H, 0, none⟩) f'.length f'.length)
  exact ⟨set3_heap (atW ha.b h.x), ⟨hF.below hB hF.lt, srow_heap ((set3_other (by omega)).trans ha.g), irow_heap ((set3_other (by omega)).trans hr), h1, h2⟩, hB, h.lx⟩
theorem aliveM_f {m : Int} {l : List (Int × Bool)} {f : List Int} {x : Int} (h : livesB l x = false) : aliveM m l f x = false := by unfold aliveM; rw [h]; simp
theorem aliveM_t {m : Int} {l : List (Int × Bool)} {f : List Int} {x : Int} (hm : mayB m l f = true) (h : livesB l x = true) : aliveM m l f x = true := by unfold aliveM; rw [hm, h]; rfl

set_option maxRecDepth 20000 in
set_option maxHeartbeats 4000000 in
theorem room_good (m : Int) (p : Option Addr) (l : List (Int × Bool)) (c : Nat) (q : Option Addr) (f : List Int) (d : Nat) (w : World) (hF : Fr w) (hs : SRow w.heap.size w p l) (hi : IRow .i64 w.heap.size w q f) (hp : AdOk p ∨ l.length = 0) (hq : AdOk q ∨ f.length = 0) (c1 : l.length ≤ c) (c2 : f.length ≤ d) (hm : mayB m (l.take 40) (f.take 40) = true) :
    Calls Tryd.prog 7 #[.agg #[.int .i64 m, .slice p l.length c, .slice q f.length d]] w fun e w' => e = .returned (.bool true) ∧ Below w.heap.size w w' := by
  have CW := fun (o : Obj) => wakes_any (w.alloc o) (hF.alloc o)
  have CO := fun (W : World) (hb : Below w.heap.size w W) => own10 m p l c q f d W (hF.below hb hF.lt) ((hs.below hb (Nat.le_refl _)).mono hb.size) ((hi.below hb (Nat.le_refl _)).mono hb.size) hp hq c1 c2
  have HF : Hid (Fr w) := hF
  have hl40 : (l.take 40).length ≤ 40 := by simp; omega
  have hf40 : (f.take 40).length ≤ 40 := by simp; omega
  obtain ⟨l4, hl4⟩ : ∃ l4, l4 = l.take 40 := ⟨_, rfl⟩
  obtain ⟨f4, hf4⟩ : ∃ f4, f4 = f.take 40 := ⟨_, rfl⟩
  rw [← hl4, ← hf4] at CO hm
  rw [← hl4] at hl40
  rw [← hf4] at hf40
  have CC := fun (W : World) (p' q' : Option Addr) (c' d' : Nat) (h : AIn W p' l4 q' f4) => check_any m c' d' W p' l4 q' f4 h
  rw [show chkE m l4 f4 = 0 by unfold chkE; rw [hm]; rfl] at CC
  obtain ⟨hm', hm60⟩ := rMost_may hm hl40
  obtain ⟨k1, k2, k3, k4⟩ := mayB_most hm
  have HMM : Hid (rMost m l4.length = if 60 < m then max ((l4.length : Int) - 2) 1 else m) := rfl
  obtain ⟨m', hmm⟩ : ∃ m', m' = rMost m l4.length := ⟨_, rfl⟩
  rw [← hmm] at hm' hm60
  have CR := fun (W : World) (p' q' : Option Addr) (c' d' : Nat) (h : AIn W p' l4 q' f4) => room_any m' c' d' W p' l4 q' f4 h
  obtain ⟨r, hr⟩ : ∃ r : Nat, roomM m' l4 f4 = (r : Int) := by
    obtain ⟨j1, j2, j3, j4⟩ := mayB_most hm'
    refine ⟨(roomM m' l4 f4).toNat, ?_⟩
    unfold roomM; rw [hm']; simp; omega
  have HR : Hid ((f4.length : Int) + m' + 2 - l4.length = (r : Int)) := by unfold Hid; rw [← hr]; unfold roomM; rw [hm']; rfl
  have hr200 : r ≤ 200 := by have := HR.out; omega
  rw [hr] at CR
  have HM' : Hid (mayB m' l4 f4 = true) := hm'
  clear hF hs hi hp hq c1 c2 hm hl4 hf4 hr hm'
  go_enter Tryd.func7, Tryd.ntmps7
  go_upto_if 29 with ((first | (go_at_call 9; refine Calls.mono (CW _) ?_; rintro e w1 ⟨rfl, hb1⟩; obtain ⟨a0, a1, a2, hz1⟩ := box3 hb1; have HB1 : Hid (Below w.heap.size w w1) := below1 hb1) | (go_at_call 10; refine Calls.mono (CO _ HB1.out) ?_; rintro e w2 ⟨p', c', q', d', rfl, hix, hb2⟩; have HX2 : Hid _ := hix.i; clear hix; have HB2 : Hid (Below w.heap.size w w2) := HB1.out.trans (hb2.mono HB1.out.size)) | (go_at_call 11; refine Calls.mono (CC _ _ _ _ _ (HX2.out.alloc _)) ?_; rintro e w3 ⟨rfl, hb3⟩; obtain ⟨b0, b1, b2, bf, hz3⟩ := cells3 (zbox hb3); have HB23 : Hid (Below w2.heap.size w2 w3) := below1 hb3; have HK3 : Hid _ := zbox hb3; have HX3 : Hid _ := HX2.out.below HB23.out)))
  go_cut [] (fun wx => Bxd w wx w2.heap.size m' p' l4 c' q' f4 d')
  case first =>
    by_cases h60 : 60 < m
    · have hmx : max ((l4.length : Int) - 2) 1 = m' := by rw [hmm, HMM.out, if_pos h60]
      clear hmm HMM
      go_wp2
      go_meet
      case rel => exact ⟨by rw [heap_setCell_same w3 w2.heap.size 0 _ 25 (.int .i64 m') HK3.out]; rfl, HX2.out.below (HB23.out.setCell (p := ⟨w2.heap.size, 0, none⟩) (Nat.le_refl _) _), HB2.out.trans ((HB23.out.setCell (p := ⟨w2.heap.size, 0, none⟩) (Nat.le_refl _) _).mono HB2.out.size), HB2.out.size⟩
    · have hmx : Hid (m = m') := by unfold Hid; rw [hmm, HMM.out, if_neg h60]
      clear hmm HMM
      go_wp2
      go_meet
      case rel => rw [← hmx.out]; exact ⟨HK3.out, HX3.out, HB2.out.trans (HB23.out.mono HB2.out.size), HB2.out.size⟩
  case rest =>
    have HC : Hid _ := hcut
    obtain ⟨v0, v1, v2, vf, v3⟩ := cells3 HC.out.x
    clear hcut CW CO CC a0 a1 a2 b0 b1 b2 bf hb1 hb2 hb3 HK3 HX3 HX2 hmm HMM
    go_wp2_with (first | (go_at_call 21; refine Calls.mono (CR _ _ _ _ _ HC.out.i) ?_; rintro e w4 ⟨rfl, hb4⟩; have HXB : Hid (Bxd w w4 w2.heap.size m' p' l4 c' q' f4 d') := HC.out.below hb4))
    clear CR v0 v1 v2 vf hb4
    go_loopw [39] (fun i wr => ∃ (x : Nat) (pp : Option Addr) (ll : List (Int × Bool)) (cc : Nat) (qq : Option Addr) (ff : List Int) (dd : Nat), x ≤ r ∧ i = .int .i64 x ∧ Bxd w wr w2.heap.size m' pp ll cc qq ff dd ∧ mayB m' ll ff = true ∧ (ff.length : Int) + m' + 2 - ll.length = (r : Int) - x ∧ ff.length ≤ 40) (fun i _ => r - (intOf i).toNat)
    case atStart => exact ⟨0, _, _, _, _, _, _, Nat.zero_le _, rfl, HXB.out, HM'.out, by have := HR.out; omega, hf40⟩
    case round =>
      obtain ⟨x, pp, ll, cc, qq, ff, dd, hx, rfl, hB, hmay, hroom, hff⟩ := hrel
      have HB : Hid _ := hB
      have HMay : Hid _ := hmay
      have HRoom : Hid _ := hroom
      obtain ⟨j1, j2, j3, j4⟩ := mayB_most hmay
      by_cases hx' : x < r
      · obtain ⟨l', f', id, hN, CT⟩ := take_ok (c := cc) (d := dd) hB.i hmay (by omega)
        obtain ⟨⟨i0, i1⟩, hdead, hlive⟩ := hN.id hmay
        obtain ⟨hN1, hN2, hN3⟩ := hN.len
        have hN4 := hN.may hmay
        have CD := fun (W : World) (h : AIn W pp ll qq ff) => alive_any m' cc dd id W pp ll qq ff h i0 i1
        rw [aliveM_f hdead] at CD
        have CL := fun (W : World) (G H : Nat) (h : AIn W (some ⟨G, 0, none⟩) l' (some ⟨H, 0, none⟩) f') => alive_any m' l'.length f'.length id W _ l' _ f' h i0 i1
        rw [aliveM_t hN4 hlive] at CL
        have HN4 : Hid _ := hN4
        have HN1 : Hid _ := hN1
        obtain ⟨b0, b1, b2, bf, b3⟩ := cells3 hB.x
        clear hB hmay hroom hN hdead hlive hN4 hN1
        go_wp2_with (first | (go_at_call 25; refine Calls.mono CT ?_; clear CT; rintro e w5 ⟨G, H, rfl, ho⟩; have HO : Hid _ := ho; clear ho; obtain ⟨e0, e1, e2, ef, e3⟩ := cells3 (atW HO.out.b HB.out.x)) | (go_at_call 22; refine Calls.mono (CD _ ?_) ?_; exact (HB.out.i.below HO.out.b).alloc _; clear CD; rintro e w6 ⟨rfl, hb6⟩; have HB56 : Hid (Below w5.heap.size w5 w6) := below1 hb6; have HO6 : Hid _ := HO.out.below HB56.out; have HZ6 : Hid _ := zbox hb6; obtain ⟨f0, f1, f2, fF, f3⟩ := cells3 HZ6.out; clear hb6) | (go_at_call 22; refine Calls.mono (CL _ _ _ ?_) ?_; exact HO6.out.inW (HF.out.below (HB.out.b.trans (HO6.out.b.mono HB.out.b.size)) HF.out.lt) (by omega) (by omega); clear CL; rintro e w7 ⟨rfl, hb7⟩; have HO7 : Hid _ := HO6.out.below hb7; obtain ⟨g0, g1, g2, gF, g3⟩ := cells3 (atW hb7 HZ6.out); obtain ⟨x0, x1, x2, xF, x3⟩ := cells3 (atW HO7.out.b HB.out.x)))
        go_roundw
        case rel => exact ⟨x + 1, _, _, _, _, _, _, by omega, by go_num, HB.out.put HF.out HO7.out (by omega) (by omega), HN4.out, by have := HRoom.out; have := HN1.out; omega, by omega⟩
        case measure => simp [intOf]; omega
      · obtain rfl : x = r := by omega
        obtain ⟨n, hn, CT⟩ := take_none (c := cc) (d := dd) hB.i hmay (by omega)
        obtain ⟨b0, b1, b2, bf, b3⟩ := cells3 hB.x
        have CA := fun (W : World) (h : AIn W pp ll qq ff) => all_any m' pp ll cc qq ff dd W h.fr h.s h.i h.ln (by have := h.fn; omega)
        rw [show allM m' ll ff = livN ll ll.length by unfold allM; rw [hmay]; rfl] at CA
        clear hB hmay hroom
        rcases hn with rfl | ⟨rfl, hlt⟩
        · go_wp2_with (first | (go_at_call 25; refine Calls.mono CT ?_; clear CT; rintro e w5 ⟨rfl, hb5⟩; have HB5 : Hid _ := HB.out.below hb5))
          clear CA
          go_quiet (fail)
          go_wp2
          go_ret
          exact ⟨rfl, below_drewN' (HB5.out.b.alloc (by have := HB5.out.b.size; omega) _) _⟩
        · obtain ⟨n3, hn3⟩ : ∃ n3, n3 = (livN ll ll.length).length := ⟨_, rfl⟩
          rw [← hn3] at hlt CA
          have hw : IntKind.i64.wrap (m' + 2) = m' + 2 := (by rw [IntKind.wrap_i64]; omega)
          clear hn3
          go_wp2_with (first | (go_at_call 25; refine Calls.mono CT ?_; clear CT; rintro e w5 ⟨rfl, hb5⟩; have HB5 : Hid _ := HB.out.below hb5; obtain ⟨e0, e1, e2, ef, e3⟩ := cells3 HB5.out.x))
          go_region_held3 (fun w' => w'.cell? ⟨w2.heap.size, 0, none⟩ = some (.int .i64 m') ∧ w'.cell? ⟨w2.heap.size, 1, none⟩ = some (.slice pp ll.length cc) ∧ w'.cell? ⟨w2.heap.size, 2, none⟩ = some (.slice qq ff.length dd)) (first | go_keep | exact ⟨f0, f1, f2⟩) (first | (go_at_call 20; refine Calls.mono (CA _ ?_) ?_; exact (HB5.out.i.alloc _).below (Below.refl _ _).drew; rintro e w6 ⟨v, rfl, hv, hb6⟩; obtain ⟨pv, cv, rfl⟩ : ∃ pv cv, v = .slice pv n3 cv := (by rcases hv.2 with ⟨h, h0⟩ | ⟨g, cap, cur, h, _⟩; { exact ⟨none, 0, by rw [h, h0]⟩ }; { exact ⟨_, _, h⟩ }); clear hv; have HB6 : Hid _ := HB5.out.below ((((Below.refl _ w5).alloc (Nat.le_refl _) _).drew).trans (hb6.mono (by simp [World.drew]))); obtain ⟨f0, f1, f2, fF, f3⟩ := cells3 HB6.out.x))
          all_goals go_wp2
          all_goals go_ret
          all_goals exact ⟨rfl, HB6.out.b⟩
end Go.Proofs.YtaglhajlgnjhcaaDoor
