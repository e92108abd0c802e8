/- The sort of ids, at 13 and fewer: its mathematics; insertionSortOrdered. -/
import Derived.Test.YtooaghcjlomcpaaGoA
namespace Go.Proofs.Ytooaghcjlomcpaa
open Go.RowKit Go.Sort

def swL (L : List Int) (i j : Nat) : List Int := (L.set i (iG L j)).set j (iG L i)
theorem iG_set (L : List Int) (i k : Nat) (y : Int) (h : i < L.length) : iG (L.set i y) k = if k = i then y else iG L k := by
  unfold iG
  by_cases e : k = i
  · subst e; simp [h]
  · have : ¬ i = k := fun h => e h.symm
    simp [this, e]
theorem swL_len (L : List Int) (i j : Nat) : (swL L i j).length = L.length := by simp [swL]
theorem swL_at (L : List Int) (i j k : Nat) (hi : i < L.length) (hj : j < L.length) : iG (swL L i j) k = if k = j then iG L i else if k = i then iG L j else iG L k := by
  unfold swL
  rw [iG_set _ _ _ _ (by simpa using hj), iG_set _ _ _ _ hi]
theorem mem_iG {L : List Int} {y : Int} : y ∈ L ↔ ∃ k, k < L.length ∧ iG L k = y := by
  constructor
  · intro h
    obtain ⟨k, hk, e⟩ := List.getElem_of_mem h
    exact ⟨k, hk, by rw [iG_eq hk]; exact e⟩
  · rintro ⟨k, hk, rfl⟩; exact iG_mem hk

/-- A part of a row has been put into another order. -/
structure Seg (L L' : List Int) (a b : Nat) : Prop where
  len : L'.length = L.length
  out : ∀ s, s < a ∨ b ≤ s → iG L' s = iG L s
  inn : ∀ s, a ≤ s → s < b → ∃ t, a ≤ t ∧ t < b ∧ iG L' s = iG L t
  mem : ∀ y, y ∈ L' ↔ y ∈ L
theorem Seg.refl (L : List Int) (a b : Nat) : Seg L L a b := ⟨rfl, fun _ _ => rfl, fun s h1 h2 => ⟨s, h1, h2, rfl⟩, fun _ => Iff.rfl⟩
theorem Seg.trans {L M N : List Int} {a b : Nat} (h : Seg L M a b) (g : Seg M N a b) : Seg L N a b :=
  ⟨g.len.trans h.len, fun s hs => (g.out s hs).trans (h.out s hs), fun s h1 h2 => by
    obtain ⟨t, t1, t2, e⟩ := g.inn s h1 h2
    obtain ⟨u, u1, u2, e'⟩ := h.inn t t1 t2
    exact ⟨u, u1, u2, e.trans e'⟩, fun y => (g.mem y).trans (h.mem y)⟩
theorem Seg.swap (L : List Int) {a b i j : Nat} (hb : b ≤ L.length) (hi : a ≤ i) (hi' : i < b) (hj : a ≤ j) (hj' : j < b) : Seg L (swL L i j) a b := by
  have e := fun k => swL_at L i j k (by omega) (by omega)
  refine ⟨swL_len L i j, fun s hs => ?_, fun s h1 h2 => ?_, fun y => ?_⟩
  · rw [e, if_neg (by omega), if_neg (by omega)]
  · rw [e]
    split
    · exact ⟨i, hi, hi', rfl⟩
    · split
      · exact ⟨j, hj, hj', rfl⟩
      · exact ⟨s, h1, h2, rfl⟩
  · rw [mem_iG, mem_iG, swL_len]
    constructor
    · rintro ⟨k, hk, rfl⟩
      rw [e]
      split
      · exact ⟨i, by omega, rfl⟩
      · split
        · exact ⟨j, by omega, rfl⟩
        · exact ⟨k, hk, rfl⟩
    · rintro ⟨k, hk, rfl⟩
      by_cases k1 : k = i
      · exact ⟨j, by omega, by rw [e, if_pos rfl, k1]⟩
      · by_cases k2 : k = j
        · refine ⟨i, by omega, ?_⟩
          rw [e]
          split
          · rename_i h; rw [k2, ← h]
          · rw [if_pos rfl, k2]
        · exact ⟨k, hk, by rw [e, if_neg k2, if_neg k1]⟩
theorem Seg.wide {L M : List Int} {a b a' b' : Nat} (h : Seg L M a b) (ha : a' ≤ a) (hb : b ≤ b') : Seg L M a' b' :=
  ⟨h.len, fun s hs => h.out s (by omega), fun s h1 h2 => by
    by_cases g : a ≤ s ∧ s < b
    · obtain ⟨t, t1, t2, e⟩ := h.inn s g.1 g.2
      exact ⟨t, by omega, by omega, e⟩
    · exact ⟨s, h1, h2, h.out s (by omega)⟩, h.mem⟩

/-- A part of a row rises. -/
def Up (L : List Int) (a b : Nat) : Prop := ∀ s t, a ≤ s → s < t → t < b → iG L s ≤ iG L t
/-- It rises up to i, but that what is ahead of j may be more than j. -/
def Up1 (L : List Int) (a i j : Nat) : Prop := ∀ s t, a ≤ s → s < t → t ≤ i → t ≠ j → iG L s ≤ iG L t
theorem up1_start {L : List Int} {a i : Nat} (h : Up L a i) : Up1 L a i i := fun s t h1 h2 h3 h4 => h s t h1 h2 (by omega)
theorem up1_low {L : List Int} {a i : Nat} (h : Up1 L a i a) : Up L a (i + 1) := fun s t h1 h2 h3 => h s t h1 h2 (by omega) (by omega)
theorem up1_end {L : List Int} {a i j : Nat} (h : Up1 L a i j) (hj : a < j) (hji : j ≤ i) (hle : ¬ iG L j < iG L (j - 1)) : Up L a (i + 1) := by
  intro s t h1 h2 h3
  by_cases e : t = j
  · subst e
    by_cases e2 : s = t - 1
    · subst e2; omega
    · have := h s (t - 1) h1 (by omega) (by omega) (by omega)
      omega
  · exact h s t h1 h2 (by omega) e
theorem up1_step {L : List Int} {a i j : Nat} (h : Up1 L a i j) (hj : a < j) (hji : j ≤ i) (hl : i < L.length) (hlt : iG L j < iG L (j - 1)) : Up1 (swL L j (j - 1)) a i (j - 1) := by
  intro s t h1 h2 h3 h4
  rw [swL_at L j (j - 1) s (by omega) (by omega), swL_at L j (j - 1) t (by omega) (by omega), if_neg h4]
  by_cases t1 : t = j
  · subst t1
    rw [if_pos rfl]
    split
    · omega
    · split
      · omega
      · exact h s (t - 1) h1 (by omega) (by omega) (by omega)
  · rw [if_neg t1]
    split
    · rename_i e; exact h j t (by omega) (by omega) h3 t1
    · split
      · rename_i e; exact h (j - 1) t (by omega) (by omega) h3 t1
      · exact h s t h1 h2 h3 t1

/-- Two cells of a row of the law's own are swapped. -/
theorem OwnR.swap {B : Nat} {w : World} {p : Option Addr} {l : List Int} {c : Nat} (h : OwnR B w p l c) {i j : Nat} (hi : i < l.length) (hj : j < l.length) :
    ∃ G, p = some ⟨G, 0, none⟩ ∧ G < w.heap.size ∧ w.cell? ⟨G, i, none⟩ = some (.int .u64 (iG l i)) ∧ w.cell? ⟨G, j, none⟩ = some (.int .u64 (iG l j)) ∧ w.frozen? ⟨G, i, none⟩ = false ∧ w.frozen? ⟨G, j, none⟩ = false ∧
      ∀ q, OwnR B (((w.drewN q).setCell ⟨G, i, none⟩ (.int .u64 (iG l j))).setCell ⟨G, j, none⟩ (.int .u64 (iG l i))) p (swL l i j) c ∧ w.grownBy (((w.drewN q).setCell ⟨G, i, none⟩ (.int .u64 (iG l j))).setCell ⟨G, j, none⟩ (.int .u64 (iG l i))) (p.map (·.block)) := by
  obtain ⟨G, rfl, e1, e2, hset⟩ := h.set hi
  obtain ⟨G', e, f1, f2, _⟩ := h.set hj
  cases e
  refine ⟨G, rfl, h.lt _ rfl, e1, f1, e2, f2, fun q => ?_⟩
  have hq : OwnR B (w.drewN q) (some ⟨G, 0, none⟩) l c := h.to ⟨rfl, rfl, rfl, Nat.le_refl _, fun _ _ => rfl⟩
  obtain ⟨G1, g1, _, _, s1⟩ := hq.set hi
  cases g1
  obtain ⟨a1, a2⟩ := s1 (iG l j)
  obtain ⟨G2, g2, _, _, s2⟩ := a1.set (k := j) (by simpa using hj)
  cases g2
  obtain ⟨b1, b2⟩ := s2 (iG l i)
  have hg0 : w.grownBy (w.drewN q) ((some (⟨G, 0, none⟩ : Addr)).map (·.block)) := ⟨rfl, rfl, rfl, Nat.le_refl _, fun _ _ _ => rfl⟩
  exact ⟨b1, grownBy_trans hg0 (grownBy_trans a2 b2)⟩
theorem OwnR.drewN {B : Nat} {w : World} {p : Option Addr} {l : List Int} {c : Nat} (h : OwnR B w p l c) (q : Nat) : OwnR B (w.drewN q) p l c := h.to ⟨rfl, rfl, rfl, Nat.le_refl _, fun _ _ => rfl⟩
theorem grown_drewN {w w' : World} {r : Option Nat} (h : w.grownBy w' r) (q : Nat) : w.grownBy (w'.drewN q) r := ⟨h.os, h.tape, h.output, h.size, h.block⟩

/-- What a sort of a part leaves. -/
def Sorts (B : Nat) (p : Option Addr) (L : List Int) (c : Nat) (a b : Nat) (w w' : World) : Prop := ∃ L', Seg L L' a b ∧ Up L' a b ∧ OwnR B w' p L' c ∧ w.grownBy w' (p.map (·.block))

set_option maxRecDepth 20000 in
set_option maxHeartbeats 8000000 in
theorem ins91 (B : Nat) (p : Option Addr) (L : List Int) (c a b : Nat) (w : World) (h : OwnR B w p L c) (hab : a ≤ b) (hb : b ≤ L.length) (hl : L.length ≤ 100) :
    Calls Try.prog 90 #[.slice p L.length c, .int .i64 a, .int .i64 b] w fun e w' => e = .returned (.tuple #[]) ∧ Sorts B p L c a b w w' := by
  obtain ⟨n, hn⟩ : ∃ n, n = L.length := ⟨_, rfl⟩
  have HN := hidOg hn
  rw [← hn] at hb hl ⊢
  have H0 := hidOg h
  clear h hn
  go_enter Try.func90, Try.ntmps90
  go_wp2
  go_loopw [6] (fun i wr => ∃ (k : Nat) (M : List Int), a + 1 ≤ k ∧ (k ≤ b ∨ k = a + 1) ∧ i = .int .i64 k ∧ Seg L M a b ∧ Up M a k ∧ OwnR B wr p M c ∧ w.grownBy wr (p.map (·.block))) (fun i _ => b + 1 - (intOf i).toNat)
  case atStart => exact ⟨a + 1, L, Nat.le_refl _, .inr rfl, by go_num, Seg.refl _ _ _, fun s t h1 h2 h3 => by omega, H0.out, World.grownBy.refl _ _⟩
  case round =>
    obtain ⟨k, M, hk1, hk2, rfl, hS, hU, hO, hG⟩ := hrel
    have HS := hidOg hS
    have HU := hidOg hU
    have HO := hidOg hO
    have HG := hidOg hG
    have HL : Hid (M.length = n) := by unfold Hid; rw [hS.len, HN.out]
    clear hS hU hO hG
    by_cases hkb : k < b
    · go_wp2
      go_loopw [7] (fun j wr => ∃ (x : Nat) (M' : List Int), a ≤ x ∧ x ≤ k ∧ j = .int .i64 x ∧ Seg L M' a b ∧ Up1 M' a k x ∧ OwnR B wr p M' c ∧ w.grownBy wr (p.map (·.block))) (fun j _ => (intOf j).toNat)
      case atStart => exact ⟨k, M, by omega, Nat.le_refl _, rfl, HS.out, up1_start HU.out, HO.out, HG.out⟩
      case round =>
        clear HS HU HO HG HL
        obtain ⟨x, M', hx1, hx2, rfl, hS, hU, hO, hG⟩ := hrel
        have HS := hidOg hS
        have HU := hidOg hU
        have HO := hidOg hO
        have HG := hidOg hG
        have HL : Hid (M'.length = n) := by unfold Hid; rw [hS.len, HN.out]
        clear hS hU hO hG
        by_cases hxa : x = a
        · have hd : decide ((a : Int) < (x : Int)) = false := by simp; omega
          have hd' : decide (a < x) = false := by simp; omega
          have HE : Hid (Up M' a (k + 1)) := by have := HU.out; rw [hxa] at this; exact up1_low this
          clear hxa
          go_wp2
          go_quiet ((fail))
          go_wp2
          go_roundw
          case rel => exact ⟨k + 1, M', by omega, .inl (by omega), by go_num, HS.out, HE.out, HO.out.drewN _, grown_drewN HG.out _⟩
          case measure => simp [intOf]; omega
        · obtain ⟨j, rfl⟩ : ∃ j, x = j + 1 := ⟨x - 1, by omega⟩
          obtain ⟨G, rfl, hGl, e1, e0, f1, f0, hsw⟩ := HO.out.swap (i := j + 1) (j := j) (by have := HL.out; omega) (by have := HL.out; omega)
          have HW := hidOg hsw
          clear hsw
          have hd : decide ((a : Int) < (j : Int) + 1) = true := by simp; omega
          have HUe : Hid (¬ iG M' (j + 1) < iG M' j → Up M' a (k + 1)) := fun h => up1_end HU.out (by omega) (by omega) h
          have HUs : Hid (iG M' (j + 1) < iG M' j → Up1 (swL M' (j + 1) j) a k j) := fun h => up1_step HU.out (by omega) (by omega) (by have := HL.out; omega) h
          have HSs : Hid (Seg L (swL M' (j + 1) j) a b) := HS.out.trans (Seg.swap M' (by have := HL.out; omega) (by omega) (by omega) (by omega) (by omega))
          obtain ⟨u, hu⟩ : ∃ u, u = iG M' (j + 1) := ⟨_, rfl⟩
          obtain ⟨v, hv⟩ : ∃ v, v = iG M' j := ⟨_, rfl⟩
          rw [← hu] at e1 HUe HUs HW
          rw [← hv] at e0 HUe HUs HW
          have haj : a ≤ j := by omega
          clear hu hv hxa
          by_cases huv : u < v
          · have HU2 := hidOg (HUs.out huv)
            have hdu : decide (u < v) = true := decide_eq_true huv
            clear HUe HUs
            go_wp2
            go_quiet ((go_at_call 82; exact Calls.quiet_of_same (less77 _ _ _)))
            go_wp2
            go_region
            go_wp2
            go_roundw
            case rel => exact ⟨j, swL M' (j + 1) j, by omega, by omega, by go_num, HSs.out, HU2.out, (HW.out _).1, grownBy_trans HG.out (HW.out _).2⟩
            case measure => simp [intOf]
          · have HE := hidOg (HUe.out huv)
            have hdu : decide (u < v) = false := decide_eq_false huv
            clear HUe HUs
            go_wp2
            go_quiet ((go_at_call 82; exact Calls.quiet_of_same (less77 _ _ _)))
            go_wp2
            go_roundw
            case rel => exact ⟨k + 1, M', by omega, .inl (by omega), by go_num, HS.out, HE.out, HO.out.drewN _, grown_drewN HG.out _⟩
            case measure => simp [intOf]; omega
    · have hkb' : ¬ ((k : Int) < (b : Int)) := by omega
      go_wp2
      go_end0
      exact ⟨rfl, M, HS.out, fun s t h1 h2 h3 => HU.out s t h1 h2 (by omega), HO.out, HG.out⟩
end Go.Proofs.Ytooaghcjlomcpaa
