/- The sort of ids: order2Ordered, medianOrdered, choosePivotOrdered at 13, partialInsertionSortOrdered at 13. -/
import Derived.Test.YtooaghcjlomcpaaSoA
namespace Go.Proofs.Ytooaghcjlomcpaa
open Go.RowKit Go.Sort

/-- The counter of swaps lies at S. -/
structure Sw (w : World) (S : Nat) (s : Int) : Prop where
  h : w.heap[S]? = some (.cells #[.int .i64 s] 3 (0, 0))
theorem Sw.c {w : World} {S : Nat} {s : Int} (h : Sw w S s) : w.cell? ⟨S, 0, none⟩ = some (.int .i64 s) ∧ w.frozen? ⟨S, 0, none⟩ = false ∧ S < w.heap.size :=
  ⟨by simp [World.cell?, h.h], by simp [World.frozen?, h.h], (Array.getElem?_eq_some_iff.1 h.h).1⟩
theorem Sw.set {w : World} {S : Nat} {s : Int} (h : Sw w S s) (q : Nat) (t : Int) : Sw ((w.drewN q).setCell ⟨S, 0, none⟩ (.int .i64 t)) S t ∧ w.grownBy ((w.drewN q).setCell ⟨S, 0, none⟩ (.int .i64 t)) (some S) := by
  refine ⟨⟨?_⟩, rfl, rfl, rfl, ?_, fun j hj hne => ?_⟩
  · rw [setCell_eq]; simp [mapBlock, Array.getElem?_modify, h.h, onCells]
  · rw [setCell_eq]; simp [mapBlock]
  · have : S ≠ j := fun e => hne (by rw [e])
    rw [setCell_eq]; simp [mapBlock, Array.getElem?_modify, this]
theorem Row.sw {w w' : World} {p : Option Addr} {l : List Int} {c S : Nat} (h : Row w p l c) (hg : w.grownBy w' (some S)) (hne : ∀ a, p = some a → a.block ≠ S) : Row w' p l c := h.grown hg (fun a ha e => hne a ha (Option.some.inj e))

/-- What order2 answers: the two, in one order or the other; the counter has gone up by one at most. -/
def Ord2 (a b : Nat) (S : Nat) (s : Int) (w : World) (e : Ending) (w' : World) : Prop := ∃ (x y : Nat) (t : Int), e = .returned (.tuple #[.int .i64 x, .int .i64 y]) ∧ ((x = a ∧ y = b) ∨ (x = b ∧ y = a)) ∧ s ≤ t ∧ t ≤ s + 1 ∧ Sw w' S t ∧ w.grownBy w' (some S)

set_option maxRecDepth 20000 in
set_option maxHeartbeats 2000000 in
theorem order107 (p : Option Addr) (L : List Int) (c a b S : Nat) (s : Int) (w : World) (h : Row w p L c) (hl : L.length ≤ 100) (ha : a < L.length) (hb : b < L.length) (hS : Sw w S s) (hs : 0 ≤ s) (hs' : s ≤ 100) :
    Calls Try.prog 106 #[.slice p L.length c, .int .i64 a, .int .i64 b, .pointer (some ⟨S, 0, none⟩)] w fun e w' => Ord2 a b S s w e w' := by
  obtain ⟨b0, off, rfl, hbB, hcs⟩ := h.i (by omega)
  have c0 := hcs a ha
  have c1 := hcs b hb
  obtain ⟨d0, d1, d2⟩ := hS.c
  have HS := hidOg hS
  obtain ⟨u, hu⟩ : ∃ u, u = iG L a := ⟨_, rfl⟩
  obtain ⟨v, hv⟩ : ∃ v, v = iG L b := ⟨_, rfl⟩
  rw [← hu] at c0
  rw [← hv] at c1
  obtain ⟨n, hn⟩ : ∃ n, n = L.length := ⟨_, rfl⟩
  rw [← hn] at hl ha hb ⊢
  clear hcs h hu hv hS hn
  by_cases huv : v < u
  · have hdu : decide (v < u) = true := decide_eq_true huv
    go_enter Try.func106, Try.ntmps106
    go_wp2
    go_quiet ((go_at_call 82; exact Calls.quiet_of_same (less77 _ _ _)))
    go_wp2
    go_ret2
    exact ⟨b, a, s + 1, rfl, .inr ⟨rfl, rfl⟩, by omega, by omega, (HS.out.set _ _).1, (HS.out.set _ _).2⟩
  · have hdu : decide (v < u) = false := decide_eq_false huv
    go_enter Try.func106, Try.ntmps106
    go_wp2
    go_quiet ((go_at_call 82; exact Calls.quiet_of_same (less77 _ _ _)))
    go_wp2
    go_ret2
    exact ⟨a, b, s, rfl, .inl ⟨rfl, rfl⟩, by omega, by omega, ⟨HS.out.h⟩, ⟨rfl, rfl, rfl, Nat.le_refl _, fun _ _ _ => rfl⟩⟩

set_option maxRecDepth 20000 in
set_option maxHeartbeats 2000000 in
theorem median106 (p : Option Addr) (L : List Int) (c a b d S : Nat) (s : Int) (w : World) (h : Row w p L c) (hl : L.length ≤ 100) (ha : a < L.length) (hb : b < L.length) (hd : d < L.length) (hS : Sw w S s) (hs : 0 ≤ s) (hs' : s ≤ 50) (hne : ∀ x, p = some x → x.block ≠ S) :
    Calls Try.prog 105 #[.slice p L.length c, .int .i64 a, .int .i64 b, .int .i64 d, .pointer (some ⟨S, 0, none⟩)] w fun e w' => ∃ (x : Nat) (t : Int), e = .returned (.int .i64 x) ∧ (x = a ∨ x = b ∨ x = d) ∧ s ≤ t ∧ t ≤ s + 3 ∧ Sw w' S t ∧ w.grownBy w' (some S) := by
  have C := fun (x y : Nat) (t : Int) (W : World) (hx : x < L.length) (hy : y < L.length) (hg : w.grownBy W (some S)) (hT : Sw W S t) (h1 : 0 ≤ t) (h2 : t ≤ 100) => order107 p L c x y S t W (h.sw hg hne) hl hx hy hT h1 h2
  obtain ⟨n, hn⟩ : ∃ n, n = L.length := ⟨_, rfl⟩
  rw [← hn] at hl ha hb hd C ⊢
  have C1 := C a b s w ha hb (World.grownBy.refl _ _) hS hs (by omega)
  clear h hn hS hne
  go_enter Try.func105, Try.ntmps105
  go_wp2_with (first
    | (go_at_call 106; refine Calls.mono C1 ?_; clear C1; rintro e w1 ⟨x1, y1, t1, rfl, ho1, l1, m1, hS1, hg1⟩; have C2 := C y1 d t1 w1 (by omega) hd hg1 hS1 (by omega) (by omega); clear hS1)
    | (go_at_call 106; refine Calls.mono C2 ?_; clear C2; rintro e w2 ⟨x2, y2, t2, rfl, ho2, l2, m2, hS2, hg2⟩; have g2 := grownBy_trans hg1 hg2; have C3 := C x1 x2 t2 w2 (by omega) (by omega) g2 hS2 (by omega) (by omega); clear hS2 hg1 hg2)
    | (go_at_call 106; refine Calls.mono C3 ?_; clear C3; rintro e w3 ⟨x3, y3, t3, rfl, ho3, l3, m3, hS3, hg3⟩; have g3 := grownBy_trans g2 hg3; clear g2 hg3))
  go_ret
  exact ⟨y3, t3, rfl, by omega, by omega, by omega, hS3, g3⟩

set_option maxRecDepth 20000 in
set_option maxHeartbeats 2000000 in
theorem pivot94 (p : Option Addr) (L : List Int) (c : Nat) (w : World) (h : Row w p L c) (hl : L.length = 13) :
    Calls Try.prog 93 #[.slice p 13 c, .int .i64 0, .int .i64 13] w fun e w' => ∃ (x : Nat) (t : Int), e = .returned (.tuple #[.int .i64 x, .int .i64 t]) ∧ (0 < x ∧ x < 13) ∧ (t = 0 ∨ t = 1) ∧ Below w.heap.size w w' := by
  have hne : ∀ a, p = some a → a.block ≠ w.heap.size := by
    intro a ha
    obtain ⟨b0, off, e, hbB, _⟩ := h.i (by omega)
    rw [e] at ha; cases ha; simp; omega
  have h1 : Below w.heap.size w (w.alloc (.cells #[.int .i64 0] 3)) := (Below.refl _ _).alloc (Nat.le_refl _) _
  have hS : Sw (w.alloc (.cells #[.int .i64 0] 3)) w.heap.size 0 := ⟨heap_alloc_new w _⟩
  have C := median106 p L c 3 6 9 w.heap.size 0 _ (h.to h1) (by omega) (by omega) (by omega) (by omega) hS (by omega) (by omega) hne
  rw [hl] at C
  have HB := hidOg h1
  clear h hl hne hS h1
  go_enter Try.func93, Try.ntmps93
  go_wp2_with (first
    | (go_at_call 105; refine Calls.mono C ?_; rintro e w1 ⟨x, t, rfl, hx', l1, m1, hS1, hg1⟩; have hx : 0 < x ∧ x < 13 := (by omega); clear hx'; obtain ⟨d0, d1, d2⟩ := hS1.c; have HG := hidOg hg1; clear hS1 hg1))
  all_goals
    have hB : Below w.heap.size w w1 := HB.out.grown HG.out HB.out.size (fun k hk => by have := Option.some.inj hk; omega)
  all_goals
    go_ret2
    first
      | exact ⟨x, 1, rfl, hx, .inr rfl, hB⟩
      | exact ⟨x, 0, rfl, hx, .inl rfl, hB⟩
      | (exfalso; omega)

set_option maxRecDepth 20000 in
set_option maxHeartbeats 4000000 in
theorem partial96 (p : Option Addr) (L : List Int) (c : Nat) (w : World) (h : Row w p L c) (n : Nat) (hl : L.length = n) (hn0 : 1 ≤ n) (hn : n < 50) :
    Calls Try.prog 95 #[.slice p n c, .int .i64 0, .int .i64 n] w fun e w' => ∃ (r : Bool), e = .returned (.bool r) ∧ (r = true → Up L 0 n) ∧ Below w.heap.size w w' := by
  have HR := hidOg h
  have HL := hidOg hl
  clear h hl
  go_enter Try.func95, Try.ntmps95
  go_wp2
  go_loopw [7, 8] (fun i j wr => i = .int .i64 1 ∧ j = .int .i64 0 ∧ wr = w) (fun _ _ _ => 0)
  case atStart => exact ⟨rfl, rfl, rfl⟩
  case round =>
    obtain ⟨rfl, rfl, hw⟩ := hrel
    rw [hw]
    clear hw
    go_wp2
    go_loopw [7] (fun i wr => ∃ (k : Nat), 1 ≤ k ∧ k ≤ n ∧ i = .int .i64 k ∧ Up L 0 k ∧ Below w.heap.size w wr) (fun i _ => n - (intOf i).toNat)
    case atStart => exact ⟨1, by omega, by omega, rfl, fun s t h1 h2 h3 => by omega, Below.refl _ _⟩
    case round =>
      obtain ⟨k, hk1, hk2, rfl, hU, hB⟩ := hrel
      have HU := hidOg hU
      have HB := hidOg hB
      clear hU hB
      by_cases hk13 : k = n
      · have hd : decide ((k : Int) < (n : Int)) = false := by simp; omega
        have hd' : decide (k < n) = false := by simp; omega
        have he : ((k : Int) == (n : Int)) = true := by simp; omega
        have HE : Hid (Up L 0 n) := by have := HU.out; rw [hk13] at this; exact this
        clear hk13
        go_wp2
        go_quiet ((fail))
        go_wp2
        go_ret
        exact ⟨true, rfl, fun _ => HE.out, below_drewN' HB.out _⟩
      · obtain ⟨j, rfl⟩ : ∃ j, k = j + 1 := ⟨k - 1, by omega⟩
        obtain ⟨b0, off, rfl, hbB, hcs⟩ := (HR.out.to HB.out).i (by have := HL.out; omega)
        have c1 := hcs (j + 1) (by have := HL.out; omega)
        have c0 := hcs j (by have := HL.out; omega)
        have HUs : Hid (¬ iG L (j + 1) < iG L j → Up L 0 (j + 2)) := fun hle s t h1 h2 h3 => by
          by_cases e : t = j + 1
          · subst e
            by_cases e2 : s = j
            · subst e2; omega
            · have := HU.out s j h1 (by omega) (by omega); omega
          · exact HU.out s t h1 h2 (by omega)
        have hd : decide ((j : Int) + 1 < (n : Int)) = true := by simp; omega
        have hd' : decide (j + 1 < n) = true := by simp; omega
        have he : ((j : Int) + 1 == (n : Int)) = false := by simp; omega
        have hj13 : j + 1 < n := by omega
        obtain ⟨u, hu⟩ : ∃ u, u = iG L (j + 1) := ⟨_, rfl⟩
        obtain ⟨v, hv⟩ : ∃ v, v = iG L j := ⟨_, rfl⟩
        rw [← hu] at c1 HUs
        rw [← hv] at c0 HUs
        clear hcs hu hv hk13
        by_cases huv : u < v
        · have hdu : decide (u < v) = true := decide_eq_true huv
          clear HUs
          go_wp2
          go_quiet ((go_at_call 82; exact Calls.quiet_of_same (less77 _ _ _)))
          go_wp2
          go_ret
          exact ⟨false, rfl, (fun h => by cases h), below_drewN' HB.out _⟩
        · have hdu : decide (u < v) = false := decide_eq_false huv
          have HU2 := hidOg (HUs.out huv)
          clear HUs
          go_wp2
          go_quiet ((go_at_call 82; exact Calls.quiet_of_same (less77 _ _ _)))
          go_wp2
          go_roundw
          case rel => exact ⟨j + 2, by omega, by omega, by go_num, HU2.out, below_drewN' HB.out _⟩
          case measure => simp [intOf]; omega
end Go.Proofs.Ytooaghcjlomcpaa
