/- 'every' over Free, with what freeOnce asks of each; freeOnce; mayBe. -/
import Derived.Test.YtaglhajlgnjhcaaDoorAlD
import Derived.OwnWalk
namespace Go.Proofs.YtaglhajlgnjhcaaDoor
open Go.RowKit

/-- What freeOnce has met when the first k of Free are asked. -/
def metAt (f : List Int) : Nat → Nat → Bool
  | 0 => fun _ => false
  | k + 1 => metNow (metAt f k) (iG f k)
def okF (l : List (Int × Bool)) (f : List Int) : Bool := (List.range f.length).all fun j => freeOk l (metAt f j) (iG f j)
theorem okF_true {l : List (Int × Bool)} {f : List Int} (h : ∀ j, j < f.length → freeOk l (metAt f j) (iG f j) = true) : okF l f = true := by
  unfold okF; rw [List.all_eq_true]; intro j hj; exact h j (by simpa using hj)
theorem okF_false {l : List (Int × Bool)} {f : List Int} (j : Nat) (hj : j < f.length) (h : freeOk l (metAt f j) (iG f j) = false) : okF l f = false := by
  rw [Bool.eq_false_iff]; intro h'; unfold okF at h'; rw [List.all_eq_true] at h'
  have := h' j (by simpa using hj); rw [h] at this; cases this

set_option maxHeartbeats 1000000 in
theorem every68 (f : List Int) (l : List (Int × Bool)) (qf : Option Addr) (cf : Nat) (Ba Bm M : Nat) (m : Int) (p : Option Addr) (c : Nat) (q : Option Addr) (k d : Nat) (w : World) (h : MetAt w Ba Bm M l.length m p c q k d (metAt f 0)) (hS : SRow M w p l) (hI : IRow .i64 M w qf f) (hn : l.length < 1152921504606846976) (hfn : f.length < 1152921504606846976) :
    Calls Tryd.prog 68 #[.slice qf f.length cf, .func (.func 69) #[] #[.pointer (some ⟨Ba, 0, none⟩), .pointer (some ⟨Bm, 0, none⟩)]] w fun e w' => e = .returned (.bool (okF l f)) ∧ Below M w w' := by
  obtain ⟨r, hr⟩ : ∃ r, r = okF l f := ⟨_, rfl⟩
  rw [← hr]
  have HR : Hid (r = okF l f) := hr
  clear hr
  go_enter Tryd.func68, Tryd.ntmps68
  go_wp2
  go_loopw [9] (fun i wr => ∃ x : Nat, x ≤ f.length ∧ i = .int .i64 x ∧ (∀ j, j < x → freeOk l (metAt f j) (iG f j) = true) ∧ MetAt wr Ba Bm M l.length m p c q k d (metAt f x) ∧ Below M w wr) (fun i _ => f.length - (intOf i).toNat)
  case atStart => exact ⟨0, Nat.zero_le _, rfl, fun j h => by omega, h, Below.refl _ _⟩
  case round =>
    obtain ⟨x, hx, rfl, hall, hM, hbr⟩ := hrel
    have HA : Hid (∀ j, j < x → freeOk l (metAt f j) (iG f j) = true) := hall
    clear hall
    by_cases hx' : x < f.length
    · obtain ⟨b, off, rfl, hbB, hcs⟩ := (hI.below hbr (Nat.le_refl _)) (by omega)
      have c0 := hcs x hx'
      clear hcs
      have CA := once_any (x : Int) (iG f x) l Ba Bm M m p c q k d (metAt f x) wr hM (hS.below hbr (Nat.le_refl _)) hn
      have HM : Hid (MetAt wr Ba Bm M l.length m p c q k d (metAt f x)) := hM
      clear hM
      cases ho : freeOk l (metAt f x) (iG f x)
      · rw [ho] at CA
        have HO : Hid (freeOk l (metAt f x) (iG f x) = false) := ho
        clear ho
        go_wp2_with (first | (go_at_call 69; refine Calls.mono CA ?_; rintro e w1 ⟨rfl, k1, k2⟩))
        go_ret
        have e := okF_false x hx' HO.out
        exact ⟨ret_bool (by rw [HR.out, e]), hbr.trans k2⟩
      · rw [ho] at CA
        have HO : Hid (freeOk l (metAt f x) (iG f x) = true) := ho
        clear ho
        go_wp2_with (first | (go_at_call 69; refine Calls.mono CA ?_; rintro e w1 ⟨rfl, k1, k2⟩))
        go_roundw
        case rel => exact ⟨x + 1, by omega, by go_num, fun j hj => by by_cases e : j = x; { subst e; exact HO.out }; { exact HA.out j (by omega) }, k1 trivial, hbr.trans k2⟩
        case measure => simp [intOf]; omega
    · obtain rfl : x = f.length := by omega
      go_wp2
      go_ret
      exact ⟨ret_bool (by rw [HR.out]; exact (okF_true HA.out).symm), hbr⟩

theorem Tryd.info4 : (Tryd.prog.info? 4).map (fun i => (i.zero, i.size, i.bytes)) = some (some (.bool false), 1, 1) := by kernel_rfl

theorem met_start {w w1 : World} {m : Int} {p : Option Addr} {n c : Nat} {q : Option Addr} {k d : Nat}
    (hown : w1.ownsRow (w.heap.size + 1) 4 1 (.slice (some ⟨w.heap.size + 1, 0, none⟩) n n) n (madeCells (Value.bool false).cells (n * 1)).toList)
    (hgrow : (w.alloc (.cells #[.int .i64 m, .slice p n c, .slice q k d] 25)).grownBy w1 none) :
    MetAt (w1.alloc (.cells #[.slice (some ⟨w.heap.size + 1, 0, none⟩) n n] 99)) w.heap.size w1.heap.size (w.heap.size + 1) n m p c q k d (fun _ => false) ∧ Below w.heap.size w (w1.alloc (.cells #[.slice (some ⟨w.heap.size + 1, 0, none⟩) n n] 99)) := by
  have hb1 : Below (w.heap.size + 1) (w.alloc (.cells #[.int .i64 m, .slice p n c, .slice q k d] 25)) w1 := (Below.refl _ _).grown hgrow (by simp) (fun k e => by cases e)
  have hlt := (hown.lt (w.heap.size + 1) rfl).2
  have hb2 : Below (w.heap.size + 1) (w.alloc (.cells #[.int .i64 m, .slice p n c, .slice q k d] 25)) (w1.alloc (.cells #[.slice (some ⟨w.heap.size + 1, 0, none⟩) n n] 99)) := hb1.alloc (by omega) _
  refine ⟨⟨?_, ?_, ?_, ?_, ?_, ?_, by omega, by omega, by simp⟩, ((Below.refl _ _).alloc (Nat.le_refl _) _).trans (hb2.mono (by omega))⟩
  · exact (hb2.cell (p := ⟨w.heap.size, 0, none⟩) (by simp)).trans (by simp)
  · exact (hb2.cell (p := ⟨w.heap.size, 1, none⟩) (by simp)).trans (by simp)
  · exact (hb2.cell (p := ⟨w.heap.size, 2, none⟩) (by simp)).trans (by simp)
  · simp
  · intro j hj
    rw [World.cell?_alloc_past _ _ _ hlt, hown.cellAt j (by omega)]
    show (madeCells #[Value.bool false] (n * 1)).toList[j]? = _
    rw [toList_madeCells_one, List.getElem?_replicate]
    simp; omega
  · intro j
    rw [World.frozen?_alloc_past _ _ _ hlt, hown.frozenAt j]

set_option maxRecDepth 20000 in
set_option maxHeartbeats 1000000 in
theorem freeOnce_any (m : Int) (l : List (Int × Bool)) (f : List Int) (p : Option Addr) (c : Nat) (q : Option Addr) (d : Nat) (w : World) (hS : SRow w.heap.size w p l) (hI : IRow .i64 w.heap.size w q f) (hn : l.length ≤ 281474976710656) (hfn : f.length < 1152921504606846976) :
    Calls Tryd.prog 60 #[.agg #[.int .i64 m, .slice p l.length c, .slice q f.length d]] w fun e w' => e = .returned (.bool (okF l f)) ∧ Below w.heap.size w w' := by
  obtain ⟨i0, hi, hz0, hz1, hz2⟩ := info_parts Tryd.info4
  have CE := fun (w2 : World) (Bm : Nat) (h : MetAt w2 w.heap.size Bm (w.heap.size + 1) l.length m p c q f.length d (metAt f 0)) (hb : Below w.heap.size w w2) =>
    every68 f l q d w.heap.size Bm (w.heap.size + 1) m p c q f.length d w2 h ((hS.below hb (Nat.le_refl _)).mono (by omega)) ((hI.below hb (Nat.le_refl _)).mono (by omega)) (by omega) hfn
  clear hS hI
  go_enter Tryd.func60, Tryd.ntmps60
  go_wp2_with (first | (at_make; refine wpList_make_full _ rfl _ _ 99 rfl (w.heap.size + 1) 4 i0 (.bool false) 1 Tryd.underlying99 hi hz0 hz1 .i64 .i64 _ _ l.length rfl rfl rfl rfl (by rw [hz2]; omega) (by unfold maxLen; omega) (by simp) ?_; intro w1 hown hgrow; clear hi hz0 hz1 hz2; obtain ⟨hm, hb⟩ := met_start (by simpa using hown) hgrow; clear hown hgrow; have a2 := hm.a2; have HM := CE _ _ hm hb; clear hm CE) | (go_at_call 68; refine Calls.mono HM ?_; rintro e w2 ⟨rfl, hb2⟩))
  go_ret
  exact ⟨rfl, hb.trans (hb2.mono (by omega))⟩
end Go.Proofs.YtaglhajlgnjhcaaDoor
