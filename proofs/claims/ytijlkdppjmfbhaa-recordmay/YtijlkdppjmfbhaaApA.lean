/- RecordApart: the walk. -/
import Derived.Test.YtijlkdppjmfbhaaWk
namespace Go.Proofs.Ytijlkdppjmfbhaa
open Go.RowKit Go.Sort Go.Maps

theorem fiB_iff {l : List Sp} {i : Int} : fiB l i = true ↔ ∃ k : Nat, i = (k : Int) + 1 ∧ k < l.length ∧ ¬ sG l k = (0, 0) := by
  refine ⟨fiB_ex, ?_⟩
  rintro ⟨k, rfl, h1, h2⟩
  have hk1 : ((k : Int) + 1).toNat - 1 = k := by omega
  unfold fiB
  rw [hk1]
  simp [h2]
  omega
theorem isRows_mem {l : List Sp} {t : Int} {X : List Int} (h : IsRows l t X) {x : Int} : x ∈ X ↔ ∃ k : Nat, k < l.length ∧ ¬ sG l k = (0, 0) ∧ (sG l k).1 = t ∧ x = (k : Int) + 1 := by
  rw [h.1.mem_iff, rwN_mem]
  constructor
  · rintro ⟨k, hk, h1, h2⟩
    obtain ⟨a, b⟩ := plN_mem.1 hk
    exact ⟨k, a, b, h1, h2⟩
  · rintro ⟨k, a, b, h1, h2⟩
    exact ⟨k, plN_mem.2 ⟨a, b⟩, h1, h2⟩
theorem apart_has {l : List Sp} {t : Int} {X : List Int} (h : IsRows l t X) (i : Int) : hasI X i = (fiB l i && ((sG l (i.toNat - 1)).1 == t)) := by
  unfold hasI
  rw [Bool.eq_iff_iff, decide_eq_true_iff, isRows_mem h, Bool.and_eq_true, fiB_iff]
  constructor
  · rintro ⟨k, a, b, h1, rfl⟩
    have hk1 : ((k : Int) + 1).toNat - 1 = k := by omega
    exact ⟨⟨k, rfl, a, b⟩, by rw [hk1]; simpa using h1⟩
  · rintro ⟨⟨k, rfl, a, b⟩, h1⟩
    have hk1 : ((k : Int) + 1).toNat - 1 = k := by omega
    rw [hk1] at h1
    exact ⟨k, a, b, by simpa using h1, rfl⟩
/-- Their rows rise. -/
theorem isRows_lt {l : List Sp} {t : Int} {X : List Int} (hm : mayS l = true) (h : IsRows l t X) {i j : Nat} (hij : i < j) (hj : j < X.length) : (sG l ((iG X i).toNat - 1)).2 < (sG l ((iG X j).toNat - 1)).2 := by
  have hi : i < X.length := by omega
  have h1 := List.pairwise_iff_getElem.1 h.2 i j hi hj hij
  rw [iG_eq hi, iG_eq hj]
  rcases Int.lt_or_eq_of_le h1 with h2 | h2
  · exact h2
  · exfalso
    obtain ⟨k, a, b, c, e⟩ := (isRows_mem h).1 (List.getElem_mem hi)
    obtain ⟨k', a', b', c', e'⟩ := (isRows_mem h).1 (List.getElem_mem hj)
    have hk1 : (X[i]).toNat - 1 = k := by omega
    have hk2 : (X[j]).toNat - 1 = k' := by omega
    rw [hk1, hk2] at h2
    have : k = k' := (mayS_bd hm).2.2.inj (plN_mem.2 ⟨a, b⟩) (plN_mem.2 ⟨a', b'⟩) (Prod.ext (by rw [c, c']) h2)
    have he : X[i] = X[j] := by rw [e, e', this]
    have hnd : X.Nodup := by
      rw [h.1.nodup_iff]
      unfold rwN
      have hp : ((plN l l.length).filter fun y => decide ((sG l y).1 = t)).Nodup := by
        unfold plN; exact ((List.nodup_range).filter _).filter _
      show List.Pairwise _ _
      rw [List.pairwise_map]
      exact hp.imp fun h e => h (by omega)
    exact (List.pairwise_iff_getElem.1 hnd i j hi hj hij) he
theorem isRows_0 {l : List Sp} {X : List Int} (hm : mayS l = true) (h : IsRows l 0 X) : X = [] := by
  cases X with
  | nil => rfl
  | cons x t =>
    obtain ⟨k, a, b, c, e⟩ := (isRows_mem h).1 (List.mem_cons_self (a := x) (l := t))
    have := (mayS_bd hm).2.2.1 k (plN_mem.2 ⟨a, b⟩)
    unfold plB at this
    rw [c] at this
    simp at this
/-- The row of the one ahead; -1: there is none. -/
def laR (l : List Sp) (X : List Int) : Nat → Int
  | 0 => -1
  | k + 1 => (sG l ((iG X k).toNat - 1)).2
theorem laR_lt {l : List Sp} {t : Int} {X : List Int} (hm : mayS l = true) (h : IsRows l t X) {k : Nat} (hk : k < X.length) : laR l X k < (sG l ((iG X k).toNat - 1)).2 := by
  cases k with
  | zero => have := (mayS_rows hm ((iG X 0).toNat - 1)).1; show (-1 : Int) < _; omega
  | succ k => exact isRows_lt hm h (Nat.lt_succ_self k) hk
set_option maxRecDepth 20000 in
set_option maxHeartbeats 4000000 in
theorem apart_walk (p : Option Addr) (l : List Sp) (c : Nat) (t : Int) (w : World) (hE : SRow w.heap.size w p l) (hw : wfL l) (hl : l.length ≤ maxLen) (hc : l.length ≤ c) (ht : wfI t) :
    Calls Try.prog 7 #[.agg #[.slice p l.length c], .int .i64 t] w fun e w' => e = .returned (.bool true) ∧ Below w.heap.size w w' := by
  have hb0 := bal w (.cells #[.slice p l.length c] 24)
  have HB0 := hidOg hb0
  have HN0 := hidOg (blk1 (W := w) (o := .cells #[.slice p l.length c] 24))
  have CO := fun (W : World) (hb : Below w.heap.size w W) => own9 p l c W (hE.to hb) hl hc
  have hL40 : (l.take 40).length ≤ 40 := by simp; omega
  have hwL := hw.take 40
  obtain ⟨L, hL⟩ : ∃ L, L = l.take 40 := ⟨_, rfl⟩
  rw [← hL] at CO hL40 hwL
  have CR := fun (W : World) (q : Option Addr) (d B : Nat) (h : GvS B W q L d) => rows15 q L d t W h.i hwL (by omega)
  have CC := fun (W : World) (q : Option Addr) (d B : Nat) (h : GvS B W q L d) => check11 q L d W h.i hwL (by omega)
  have CA := fun (W : World) (q : Option Addr) (d B : Nat) (h : GvS B W q L d) (i : Int) => at14 q L d i W h.i hwL (by omega)
  have CI := fun (W : World) (q : Option Addr) (X : List Int) (d B : Nat) (h : OwnR B W q X d) (i : Int) => contains27 q X d i W h.row.i h.n
  have HA := fun (X : List Int) (h : AnsR L t X) => h
  have HL := hidOg hL
  clear hE hw hl hc hb0 hL
  cases hm : mayS L
  · rw [hm] at CC
    have HM := hidOg hm
    clear CA CI hm
    go_enter Try.func7, Try.ntmps7
    go_wp2_with (first
      | (go_at_call 8; refine Calls.mono (wakes8 _) ?_; rintro e w1 ⟨rfl, hb⟩; have x0 := cell1_heap (atW hb HN0.out); have HB1 := hidOg (HB0.out.trans (hb.mono HB0.out.size)); clear hb)
      | (go_at_call 9; refine Calls.mono (CO _ HB1.out) ?_; rintro e w2 ⟨q, d, rfl, hg, hb⟩; have hy := bal w2 (.cells #[.slice q L.length d] 24); have hb2 := HB1.out.trans (hb.mono HB1.out.size); have HB2 := hidOg (hb2.trans (hy.mono hb2.size)); have HG2 := hidOg (hg.to hy); have HR2 := hidOg (blk1 (W := w2) (o := .cells #[.slice q L.length d] 24)); clear hg hb hy hb2)
      | (go_at_call 15; refine Calls.mono (CR _ _ _ _ HG2.out) ?_; rintro e w3 ⟨q3, X, d3, rfl, hx, ho, hb⟩; obtain rfl := hx.2 HM.out; have r0 := cell1_heap (atW hb HR2.out); have HG3 := hidOg (HG2.out.to hb); have HB3 := hidOg (HB2.out.trans (hb.mono HB2.out.size)); clear hx ho hb)
      | (go_at_call 11; refine Calls.mono (CC _ _ _ _ HG3.out) ?_; rintro e w4 ⟨rfl, hb⟩; have HB4 := hidOg (HB3.out.trans (hb.mono HB3.out.size)); clear hb))
    go_ret
    exact ⟨rfl, HB4.out⟩
  · rw [hm] at CC
    have HM := hidOg hm
    clear hm
    by_cases h0 : t = 0
    · subst h0
      clear CA CI
      go_enter Try.func7, Try.ntmps7
      go_wp2_with (first
        | (go_at_call 8; refine Calls.mono (wakes8 _) ?_; rintro e w1 ⟨rfl, hb⟩; have x0 := cell1_heap (atW hb HN0.out); have HB1 := hidOg (HB0.out.trans (hb.mono HB0.out.size)); clear hb)
        | (go_at_call 9; refine Calls.mono (CO _ HB1.out) ?_; rintro e w2 ⟨q, d, rfl, hg, hb⟩; have hy := bal w2 (.cells #[.slice q L.length d] 24); have hb2 := HB1.out.trans (hb.mono HB1.out.size); have HB2 := hidOg (hb2.trans (hy.mono hb2.size)); have HG2 := hidOg (hg.to hy); have HR2 := hidOg (blk1 (W := w2) (o := .cells #[.slice q L.length d] 24)); clear hg hb hy hb2)
        | (go_at_call 15; refine Calls.mono (CR _ _ _ _ HG2.out) ?_; rintro e w3 ⟨q3, X, d3, rfl, hx, ho, hb⟩; obtain rfl := isRows_0 HM.out (hx.1 HM.out); have r0 := cell1_heap (atW hb HR2.out); have HG3 := hidOg (HG2.out.to hb); have HB3 := hidOg (HB2.out.trans (hb.mono HB2.out.size)); clear hx ho hb)
        | (go_at_call 11; refine Calls.mono (CC _ _ _ _ HG3.out) ?_; rintro e w4 ⟨rfl, hb⟩; have HB4 := hidOg (HB3.out.trans (hb.mono HB3.out.size)); clear hb))
      go_ret
      exact ⟨rfl, HB4.out⟩
    · have hd0 : (t == 0) = false := by simpa using h0
      have HT0 := hidOg h0
      clear h0
      go_enter Try.func7, Try.ntmps7
      go_wp2_with (first
        | (go_at_call 8; refine Calls.mono (wakes8 _) ?_; rintro e w1 ⟨rfl, hb⟩; have x0 := cell1_heap (atW hb HN0.out); have HB1 := hidOg (HB0.out.trans (hb.mono HB0.out.size)); clear hb)
        | (go_at_call 9; refine Calls.mono (CO _ HB1.out) ?_; rintro e w2 ⟨q, d, rfl, hg, hb⟩; have hy := bal w2 (.cells #[.slice q L.length d] 24); have hb2 := HB1.out.trans (hb.mono HB1.out.size); have HB2 := hidOg (hb2.trans (hy.mono hb2.size)); have HG2 := hidOg (hg.to hy); have HR2 := hidOg (blk1 (W := w2) (o := .cells #[.slice q L.length d] 24)); clear hg hb hy hb2)
        | (go_at_call 15; refine Calls.mono (CR _ _ _ _ HG2.out) ?_; rintro e w3 ⟨q3, X, d3, rfl, hx, ho, hb⟩; have HX := hidOg (hx.1 HM.out); have r0 := cell1_heap (atW hb HR2.out); have HR3 := hidOg (atW hb HR2.out); have HO3 := hidOg ho; have HG3 := hidOg (HG2.out.to hb); have HB3 := hidOg (HB2.out.trans (hb.mono HB2.out.size)); clear hx ho hb)
        | (go_at_call 11; refine Calls.mono (CC _ _ _ _ HG3.out) ?_; rintro e w4 ⟨rfl, hb⟩; have HB4 := hidOg (HB3.out.trans (hb.mono HB3.out.size)); have HG4 := hidOg (HG3.out.to hb); have HO4 := hidOg (HO3.out.to hb); have HR4 := hidOg (atW hb HR3.out); have r1 := cell1_heap (atW hb HR3.out); clear hb))
      have hga : ∀ i, gaA L i = fiA L i := fun i => by unfold gaA; rw [HM.out]; rfl
      have HGA := hidOg hga
      have hX40 : X.length ≤ 1099511627776 := HO4.out.n
      clear hga CR CC CO HB0 HN0
      go_loopw [36] (fun i wr => ∃ k : Nat, k ≤ L.length + 2 ∧ i = .int .i64 k ∧ Below w4.heap.size w4 wr) (fun i _ => L.length + 2 - (intOf i).toNat)
      case atStart => exact ⟨0, Nat.zero_le _, rfl, Below.refl _ _⟩
      case round =>
        obtain ⟨k, hk, rfl, hb⟩ := hrel
        have HBr := hidOg hb
        have hRr := atW hb HR4.out
        have HRr := hidOg hRr
        have r2 := cell1_heap hRr
        have HGr := hidOg (HG4.out.to hb)
        have HOr := hidOg (HO4.out.to hb)
        clear hb hRr
        by_cases hlt : k < L.length + 2
        · have CAk := fun (W : World) (q : Option Addr) (d B : Nat) (h : GvS B W q L d) => CA W q d B h (k : Int)
          have CIk := fun (W : World) (B : Nat) (h : OwnR B W q3 X d3) => CI W q3 X d3 B h (k : Int)
          rw [HGA.out] at CAk
          rw [apart_has HX.out] at CIk
          cases hf : fiB L (k : Int)
          · have e2 : fiA L (k : Int) = ((0, 0), 4) := by unfold fiA; rw [hf]; rfl
            rw [e2] at CAk
            rw [hf] at CIk
            clear hf e2 CA CI
            go_wp2_with (first
              | (go_at_call 14; refine Calls.mono (CAk _ _ _ _ HGr.out) ?_; rintro e w5 ⟨rfl, hb⟩; have hy := bal w5 (.cells #[.int .i64 0, .int .i64 0] 34); have HB5 := hidOg (hb.trans (hy.mono hb.size)); have HO5 := hidOg ((HOr.out.to hb).to hy); clear hb hy)
              | (go_at_call 27; refine Calls.mono (CIk _ _ HO5.out) ?_; rintro e w6 ⟨rfl, hw⟩; rw [hw]; clear hw w6))
            go_roundw
            case rel => exact ⟨k + 1, by omega, by go_num, HBr.out.trans (HB5.out.mono HBr.out.size)⟩
            case measure => simp [intOf]; omega
          · have e2 : fiA L (k : Int) = (sG L ((k : Int).toNat - 1), 0) := by unfold fiA; rw [hf]; rfl
            rw [e2] at CAk
            rw [hf] at CIk
            obtain ⟨⟨a, dd⟩, hs⟩ : ∃ s, s = sG L ((k : Int).toNat - 1) := ⟨_, rfl⟩
            rw [← hs] at CAk CIk
            dsimp only at CIk
            clear hf e2 CA CI hs
            by_cases hat : a = t
            · have hda : (a == t) = true := by simpa using hat
              rw [hda] at CIk
              clear hat
              go_wp2_with (first
                | (go_at_call 14; refine Calls.mono (CAk _ _ _ _ HGr.out) ?_; rintro e w5 ⟨rfl, hb⟩; have hy := bal w5 (.cells #[.int .i64 a, .int .i64 dd] 34); have HB5 := hidOg (hb.trans (hy.mono hb.size)); have HO5 := hidOg ((HOr.out.to hb).to hy); clear hb hy)
                | (go_at_call 27; refine Calls.mono (CIk _ _ HO5.out) ?_; rintro e w6 ⟨rfl, hw⟩; rw [hw]; clear hw w6))
              go_roundw
              case rel => exact ⟨k + 1, by omega, by go_num, HBr.out.trans (HB5.out.mono HBr.out.size)⟩
              case measure => simp [intOf]; omega
            · have hda : (a == t) = false := by simpa using hat
              rw [hda] at CIk
              clear hat
              go_wp2_with (first
                | (go_at_call 14; refine Calls.mono (CAk _ _ _ _ HGr.out) ?_; rintro e w5 ⟨rfl, hb⟩; have hy := bal w5 (.cells #[.int .i64 a, .int .i64 dd] 34); have HB5 := hidOg (hb.trans (hy.mono hb.size)); have HO5 := hidOg ((HOr.out.to hb).to hy); clear hb hy)
                | (go_at_call 27; refine Calls.mono (CIk _ _ HO5.out) ?_; rintro e w6 ⟨rfl, hw⟩; rw [hw]; clear hw w6))
              go_roundw
              case rel => exact ⟨k + 1, by omega, by go_num, HBr.out.trans (HB5.out.mono HBr.out.size)⟩
              case measure => simp [intOf]; omega
        · have hd9 : decide ((k : Int) < (L.length : Int) + 2) = false := decide_eq_false (by omega)
          clear hk hlt
          go_wp2
          go_loopw [7, 59] (fun la i wr => ∃ k : Nat, k ≤ X.length ∧ i = .int .i64 k ∧ la = .int .i64 (laR L X k) ∧ Below w4.heap.size w4 wr) (fun _ i _ => X.length - (intOf i).toNat)
          case atStart => exact ⟨0, Nat.zero_le _, rfl, rfl, HBr.out⟩
          case round =>
            clear HBr HGr HOr HRr r2
            obtain ⟨k, hk, rfl, rfl, hb⟩ := hrel
            have HBr := hidOg hb
            have r2 := cell1_heap (atW hb HR4.out)
            have HGr := hidOg (HG4.out.to hb)
            have hir := (HO4.out.to hb).row.i
            clear hb
            by_cases hlt2 : k < X.length
            · obtain ⟨b, off, rfl, hbN, hcs⟩ := hir (by omega)
              have c0 := hcs k hlt2
              have hmem := (isRows_mem HX.out).1 (iG_mem hlt2)
              have hla := laR_lt HM.out HX.out hlt2
              have HLA : Hid (laR L X (k + 1) = (sG L ((iG X k).toNat - 1)).2) := rfl
              obtain ⟨x, hx⟩ : ∃ x, x = iG X k := ⟨_, rfl⟩
              rw [← hx] at c0 hmem hla HLA
              have CAk := fun (W : World) (q : Option Addr) (d B : Nat) (h : GvS B W q L d) => CA W q d B h x
              rw [HGA.out] at CAk
              have hf : fiB L x = true := by
                obtain ⟨j, h1, h2, _, h4⟩ := hmem
                exact fiB_iff.2 ⟨j, h4, h1, h2⟩
              have e2 : fiA L x = (sG L (x.toNat - 1), 0) := by unfold fiA; rw [hf]; rfl
              rw [e2] at CAk
              obtain ⟨⟨a, dd⟩, hs⟩ : ∃ s, s = sG L (x.toNat - 1) := ⟨_, rfl⟩
              rw [← hs] at CAk hla HLA
              obtain ⟨la, hlae⟩ : ∃ la, la = laR L X k := ⟨_, rfl⟩
              rw [← hlae] at hla
              rw [← hlae]
              dsimp only at hla HLA
              have hdl : decide (dd ≤ la) = false := decide_eq_false (by omega)
              clear hcs hir hmem hf e2 hs hx hlae CA CI
              go_wp2_with (first
                | (go_at_call 14; refine Calls.mono (CAk _ _ _ _ HGr.out) ?_; rintro e w5 ⟨rfl, hb⟩; have hy := bal w5 (.cells #[.int .i64 a, .int .i64 dd] 34); have HB5 := hidOg (hb.trans (hy.mono hb.size)); clear hb hy))
              go_roundw
              case rel => exact ⟨k + 1, by omega, by go_num, by rw [HLA.out], HBr.out.trans (HB5.out.mono HBr.out.size)⟩
              case measure => simp [intOf]; omega
            · obtain rfl : k = X.length := by omega
              go_wp2
              go_ret
              exact ⟨rfl, HB4.out.trans (HBr.out.mono HB4.out.size)⟩
end Go.Proofs.Ytijlkdppjmfbhaa
