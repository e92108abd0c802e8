/- AllocGives: its walk. -/
import Derived.Test.YtaglhajlgnjhcaaDoorGvA
namespace Go.Proofs.YtaglhajlgnjhcaaDoor
open Go.RowKit

/-- What lies where behind Give: the copy, what was given, and the answer. -/
structure GS (w W : World) (m : Int) (l : List (Int × Bool)) (f : List Int) (A : Nat) (pa : Option Addr) (ca : Nat) (qa : Option Addr) (da : Nat) (l' : List (Int × Bool)) (f' : List Int) (B : Nat) (pb : Option Addr) (cb : Nat) (qb : Option Addr) (db : Nat) (pi : Option Addr) (ids : List Int) (pw : Option Addr) (wt : List Int) : Prop where
  a : Bo W A m l f pa ca qa da
  b : Bo W B m l' f' pb cb qb db
  i : IRow .u64 W.heap.size W pi ids
  v : IRow .u64 W.heap.size W pw wt
  w : Below w.heap.size w W
theorem GS.to {w W W' : World} {m : Int} {l : List (Int × Bool)} {f : List Int} {A : Nat} {pa : Option Addr} {ca : Nat} {qa : Option Addr} {da : Nat} {l' : List (Int × Bool)} {f' : List Int} {B : Nat} {pb : Option Addr} {cb : Nat} {qb : Option Addr} {db : Nat} {pi : Option Addr} {ids : List Int} {pw : Option Addr} {wt : List Int} (h : GS w W m l f A pa ca qa da l' f' B pb cb qb db pi ids pw wt) (hb : Below W.heap.size W W') : GS w W' m l f A pa ca qa da l' f' B pb cb qb db pi ids pw wt :=
  ⟨h.a.to hb, h.b.to hb, (h.i.below hb (Nat.le_refl _)).mono hb.size, (h.v.below hb (Nat.le_refl _)).mono hb.size, h.w.trans (hb.mono h.w.size)⟩

theorem GS.start {w w3 w4 : World} {m : Int} {l : List (Int × Bool)} {f : List Int} {A : Nat} {pa : Option Addr} {ca : Nat} {qa : Option Addr} {da : Nat} {l' : List (Int × Bool)} {f' : List Int} {pb : Option Addr} {cb : Nat} {qb : Option Addr} {db : Nat} {pi : Option Addr} {ids : List Int} (hA : Bo w3 A m l f pa ca qa da) (hI : IRow .u64 w3.heap.size w3 pi ids) (hB : Below w.heap.size w w3) (hin : AIn w4 pb l' qb f') (hb : Below w3.heap.size w3 w4) :
    GS w (w4.alloc (.cells #[.int .i64 m, .slice pb l'.length cb, .slice qb f'.length db] 25)) m l f A pa ca qa da l' f' w4.heap.size pb cb qb db pi ids none [] := by
  have h5 : Below w4.heap.size w4 (w4.alloc (.cells #[.int .i64 m, .slice pb l'.length cb, .slice qb f'.length db] 25)) := (Below.refl _ _).alloc (Nat.le_refl _) _
  have h6 := hB.trans (hb.mono hB.size)
  exact ⟨(hA.to hb).to h5, Bo.new hin, (((hI.below hb (Nat.le_refl _)).mono hb.size).below h5 (Nat.le_refl _)).mono h5.size, IRow.nil, h6.trans (h5.mono h6.size)⟩

set_option maxRecDepth 20000 in
set_option maxHeartbeats 8000000 in
theorem gives_no (m : Int) (p : Option Addr) (l : List (Int × Bool)) (c : Nat) (q : Option Addr) (f : List Int) (d : Nat) (r : Option Addr) (ids0 : List Int) (ce : Nat) (w : World) (hF : Fr w)
    (hs : SRow w.heap.size w p l) (hi : IRow .i64 w.heap.size w q f) (hp : AdOk p ∨ l.length = 0) (hq : AdOk q ∨ f.length = 0) (c1 : l.length ≤ c) (d1 : f.length ≤ d) (hn : IRow .u64 w.heap.size w r ids0) (hr : AdOk r ∨ ids0.length = 0) (e1 : ids0.length ≤ ce) (hid : idsOk (ids0.take 12))
    (h : mayB m (l.take 40) (f.take 40) = false ∨ allLive (l.take 40) (ids0.take 12) = false ∨ gRun (l.take 40) (ids0.take 12) (ids0.take 12).length = none) :
    Calls Tryd.prog 8 #[.agg #[.int .i64 m, .slice p l.length c, .slice q f.length d], .slice r ids0.length ce] w fun e w' => e = .returned (.bool true) ∧ Below w.heap.size w w' := by
  have CW := fun (o : Obj) => wakes_any (w.alloc o) (hF.alloc o)
  have CO := fun (W : World) (hb : Below w.heap.size w W) => own10 m p l c q f d W (hF.below hb hF.lt) ((hs.below hb (Nat.le_refl _)).mono hb.size) ((hi.below hb (Nat.le_refl _)).mono hb.size) hp hq c1 d1
  have CI := fun (W : World) (hb : Below w.heap.size w W) => clone28 r (ids0.take 12) ce W (((hn.below hb (Nat.le_refl _)).mono hb.size).take 12) (hr.imp_right (fun h => by simp [h])) (by simp; omega)
  obtain ⟨n, hne, CG⟩ := give_no m (l.take 40) (f.take 40) (ids0.take 12) hid (by simp; omega) h
  obtain ⟨n12, hn12⟩ : ∃ k, k = (ids0.take 12).length := ⟨_, rfl⟩
  have t1 : (if (12 : Int) < (ids0.length : Int) then (12 : Int) else (ids0.length : Int)) = (n12 : Int) := by rw [hn12]; simp only [List.length_take]; split <;> omega
  have t2 : min (ids0.length : Int) 12 = (n12 : Int) := by rw [hn12]; simp only [List.length_take]; omega
  have t3 : (0 : Int) ≤ (n12 : Int) := by omega
  have t4 : (n12 : Int) ≤ (ce : Int) := by omega
  obtain ⟨l4, hl4⟩ : ∃ l4, l4 = l.take 40 := ⟨_, rfl⟩
  obtain ⟨f4, hf4⟩ : ∃ f4, f4 = f.take 40 := ⟨_, rfl⟩
  obtain ⟨ids, hids⟩ : ∃ ids, ids = ids0.take 12 := ⟨_, rfl⟩
  rw [← hn12] at CI CG
  rw [← hl4, ← hf4] at CO CG
  rw [← hids] at CI CG
  have hne' : (n == 0) = false := by simpa using hne
  clear hF hs hi hp hq c1 d1 hn hr e1 hid h hl4 hf4 hids hn12 hne
  go_enter Tryd.func8, Tryd.ntmps8
  go_wp2_with (first
    | (go_at_call 9; with_reducible refine Calls.mono (CW _) ?_; rintro e w1 ⟨rfl, hb1⟩; obtain ⟨a0, a1, a2, hz1⟩ := box3 hb1; have HB1 := hidOv hb1; clear hb1)
    | (go_at_call 10; with_reducible refine Calls.mono (CO _ (below1 HB1.out)) ?_; rintro e w2 ⟨pa, ca, qa, da, rfl, hix, hb2⟩; have HA := hidOv (Bo.new (m := m) (c := ca) (d := da) hix.i); have HB2 := hidOv (((below1 HB1.out).trans (hb2.mono (below1 HB1.out).size)).alloc (o := .cells #[.int .i64 m, .slice pa l4.length ca, .slice qa f4.length da] 25) (Nat.le_trans (below1 HB1.out).size hb2.size)); clear hix hb2)
    | (go_at_call 28; with_reducible refine Calls.mono (CI _ HB2.out) ?_; rintro e w3 ⟨pi, ci, rfl, _, _, hi3, hb3⟩; have HA3 := hidOv (HA.out.to hb3); have HI3 := hidOv hi3; have HB3 := hidOv (HB2.out.trans (hb3.mono HB2.out.size)); obtain ⟨s0, s1, s2⟩ := HA3.out.s3; clear hi3 hb3)
    | (go_at_call 29; with_reducible refine Calls.mono (CG _ _ _ _ _ _ _ HA3.out.ia HI3.out) ?_; rintro e w4 ⟨rfl, hb4⟩; have HB4 := hidOv (HB3.out.trans (hb4.mono HB3.out.size)); clear hb4))
  go_ret
  exact ⟨rfl, HB4.out.alloc HB4.out.size _⟩

set_option maxRecDepth 20000 in
set_option maxHeartbeats 8000000 in
theorem gives_yes (m : Int) (p : Option Addr) (l : List (Int × Bool)) (c : Nat) (q : Option Addr) (f : List Int) (d : Nat) (r : Option Addr) (ids0 : List Int) (ce : Nat) (w : World) (hF : Fr w)
    (hs : SRow w.heap.size w p l) (hi : IRow .i64 w.heap.size w q f) (hp : AdOk p ∨ l.length = 0) (hq : AdOk q ∨ f.length = 0) (c1 : l.length ≤ c) (d1 : f.length ≤ d) (hn : IRow .u64 w.heap.size w r ids0) (hr : AdOk r ∨ ids0.length = 0) (e1 : ids0.length ≤ ce) (hid : idsOk (ids0.take 12))
    (hm : mayB m (l.take 40) (f.take 40) = true) (ha : allLive (l.take 40) (ids0.take 12) = true) (l' : List (Int × Bool)) (left : List Int) (hg : gRun (l.take 40) (ids0.take 12) (ids0.take 12).length = some (l', left)) :
    Calls Tryd.prog 8 #[.agg #[.int .i64 m, .slice p l.length c, .slice q f.length d], .slice r ids0.length ce] w fun e w' => e = .returned (.bool true) ∧ Below w.heap.size w w' := by
  have CW := fun (o : Obj) => wakes_any (w.alloc o) (hF.alloc o)
  have CO := fun (W : World) (hb : Below w.heap.size w W) => own10 m p l c q f d W (hF.below hb hF.lt) ((hs.below hb (Nat.le_refl _)).mono hb.size) ((hi.below hb (Nat.le_refl _)).mono hb.size) hp hq c1 d1
  have CI := fun (W : World) (hb : Below w.heap.size w W) => clone28 r (ids0.take 12) ce W (((hn.below hb (Nat.le_refl _)).mono hb.size).take 12) (hr.imp_right (fun h => by simp [h])) (by simp; omega)
  have CG := give_yes hid (by simp; omega) hm ha hg (by simp; omega)
  have I := ginv_run ha (Nat.le_refl _) hg
  have hm' := mayB_give hm I
  have hliv := liv_give hm ha I _ (Nat.le_refl _)
  have hl40 : (l.take 40).length ≤ 40 := by simp; omega
  have hi12 : (ids0.take 12).length ≤ 12 := by simp; omega
  obtain ⟨n12, hn12⟩ : ∃ k, k = (ids0.take 12).length := ⟨_, rfl⟩
  have t1 : (if (12 : Int) < (ids0.length : Int) then (12 : Int) else (ids0.length : Int)) = (n12 : Int) := by rw [hn12]; simp only [List.length_take]; split <;> omega
  have t2 : min (ids0.length : Int) 12 = (n12 : Int) := by rw [hn12]; simp only [List.length_take]; omega
  have t3 : (0 : Int) ≤ (n12 : Int) := by omega
  have t4 : (n12 : Int) ≤ (ce : Int) := by omega
  obtain ⟨l4, hl4⟩ : ∃ l4, l4 = l.take 40 := ⟨_, rfl⟩
  obtain ⟨f4, hf4⟩ : ∃ f4, f4 = f.take 40 := ⟨_, rfl⟩
  obtain ⟨ids, hids⟩ : ∃ ids, ids = ids0.take 12 := ⟨_, rfl⟩
  obtain ⟨f', hf'⟩ : ∃ f', f' = f4 ++ srt left := ⟨_, rfl⟩
  have HN12 : Hid (n12 = ids.length) := by unfold Hid; rw [hn12, hids]
  rw [← hn12] at CI CG hi12
  rw [← hl4, ← hf4] at CO CG hm
  rw [← hf4, ← hf'] at hm'
  rw [← hl4] at I hliv hl40 ha
  rw [← hids] at CI CG I hliv ha hid
  rw [← hf'] at CG
  have hll := I.len
  have e5 : allM m l4 f4 = livN l4 l4.length := by unfold allM; rw [hm]; rfl
  have e6 : allM m l' f' = livN l' l4.length := by unfold allM; rw [hm', I.len]; rfl
  have lw : (livN l' l4.length).length ≤ l4.length := livN_len l' l4.length
  have lx : (livN l4 l4.length).length ≤ l4.length := livN_len l4 l4.length
  have hwn : notN (livN l4 l4.length) ids (livN l4 l4.length).length = livN l' l4.length := by unfold notN; rw [List.take_length]; exact hliv.symm
  have HAl : Hid (∀ k, k < n12 → aliveM m l4 f4 (iG ids k) = true ∧ aliveM m l' f' (iG ids k) = false) := fun k hk => by
    have hk' : k < ids.length := by rw [← HN12.out]; exact hk
    unfold aliveM
    rw [hm, allLive_at ha k hk', give_not I hk']
    simp
  have HAt : Hid (∀ i : Int, atOk m l' f' i = decide (atV m l' f' i ∈ livN l' l4.length) ∧ (atOk m l' f' i = true → atV m l' f' i % 4294967296 = i ∧ 0 ≤ atV m l' f' i ∧ atV m l' f' i < 18446744073709551616)) := fun i => by
    have := at_liv hm' i
    rwa [I.len] at this
  have hc0 : chkE m l' f' = 0 := by unfold chkE; rw [hm']; rfl
  have HID := hidOv hid
  have CA := fun (W : World) (pa : Option Addr) (ca : Nat) (qa : Option Addr) (da : Nat) (h : AIn W pa l4 qa f4) => all_any m pa l4 ca qa f4 da W h.fr h.s h.i h.ln (by have := h.fn; omega)
  have CB := fun (W : World) (pa : Option Addr) (ca : Nat) (qa : Option Addr) (da : Nat) (h : AIn W pa l' qa f') => all_any m pa l' ca qa f' da W h.fr h.s h.i h.ln (by have := h.fn; omega)
  have CK := fun (W : World) (pa : Option Addr) (ca : Nat) (qa : Option Addr) (da : Nat) (h : AIn W pa l' qa f') => check_any m ca da W pa l' qa f' h
  have CL := fun (W : World) (pa : Option Addr) (ca : Nat) (qa : Option Addr) (da : Nat) (x : Int) (h0 : 0 ≤ x) (h1 : x < 18446744073709551616) (h : AIn W pa l4 qa f4) => alive_any m ca da x W pa l4 qa f4 h h0 h1
  have CM := fun (W : World) (pa : Option Addr) (ca : Nat) (qa : Option Addr) (da : Nat) (x : Int) (h0 : 0 ≤ x) (h1 : x < 18446744073709551616) (h : AIn W pa l' qa f') => alive_any m ca da x W pa l' qa f' h h0 h1
  have CT := fun (W : World) (pa : Option Addr) (ca : Nat) (qa : Option Addr) (da : Nat) (i : Int) (h : AIn W pa l' qa f') => at_any m ca da i W pa l' qa f' h
  rw [e5] at CA
  rw [e6] at CB
  rw [hc0] at CK
  obtain ⟨xs, hxs⟩ : ∃ xs, xs = livN l4 l4.length := ⟨_, rfl⟩
  obtain ⟨wt, hwt⟩ : ∃ wt, wt = livN l' l4.length := ⟨_, rfl⟩
  rw [← hxs] at CA lx hwn
  rw [← hwt] at CB lw hwn
  have HAt' : Hid (∀ i : Int, atOk m l' f' i = decide (atV m l' f' i ∈ wt) ∧ (atOk m l' f' i = true → atV m l' f' i % 4294967296 = i ∧ 0 ≤ atV m l' f' i ∧ atV m l' f' i < 18446744073709551616)) := by rw [hwt]; exact HAt.out
  have hl' : l'.length ≤ 40 := by omega
  obtain ⟨nl, hnl⟩ : ∃ nl, nl = l'.length := ⟨_, rfl⟩
  have HNL := hidOv hnl
  have CE := fun (W : World) (p1 : Option Addr) (k1 : Nat) (p2 : Option Addr) (k2 : Nat) (h1 : IRow .u64 W.heap.size W p1 wt) (h2 : IRow .u64 W.heap.size W p2 wt) => equal19 p1 wt k1 p2 wt k2 W h1 h2 (by omega)
  rw [samI_refl] at CE
  have hwl : wt.length ≤ 40 := by omega
  have hxl : xs.length ≤ 40 := by omega
  have HWN := hidOv hwn
  obtain ⟨i0, hi0, iz0, iz1, iz2⟩ := info_parts Tryd.info41
  clear hF hs hi hp hq c1 d1 hn hr e1 hid hl4 hf4 hids hn12 hm ha hg I hm' hliv hll e5 e6 lw lx hwn HAt hc0 hxs hwt hf' hnl
  go_enter Tryd.func8, Tryd.ntmps8
  go_wp2_with (first
    | (go_at_call 9; with_reducible refine Calls.mono (CW _) ?_; rintro e w1 ⟨rfl, hb1⟩; obtain ⟨a0, a1, a2, hz1⟩ := box3 hb1; have HB1 := hidOv hb1; clear hb1)
    | (go_at_call 10; with_reducible refine Calls.mono (CO _ (below1 HB1.out)) ?_; rintro e w2 ⟨pa, ca, qa, da, rfl, hix, hb2⟩; have HA := hidOv (Bo.new (m := m) (c := ca) (d := da) hix.i); have HB2 := hidOv (((below1 HB1.out).trans (hb2.mono (below1 HB1.out).size)).alloc (o := .cells #[.int .i64 m, .slice pa l4.length ca, .slice qa f4.length da] 25) (Nat.le_trans (below1 HB1.out).size hb2.size)); clear hix hb2)
    | (go_at_call 28; with_reducible refine Calls.mono (CI _ HB2.out) ?_; rintro e w3 ⟨pi, ci, rfl, _, _, hi3, hb3⟩; have HA3 := hidOv (HA.out.to hb3); have HI3 := hidOv hi3; have HB3 := hidOv (HB2.out.trans (hb3.mono HB2.out.size)); obtain ⟨s0, s1, s2⟩ := HA3.out.s3; clear hi3 hb3)
    | (go_at_call 29; with_reducible refine Calls.mono (CG _ _ _ _ _ _ _ HA3.out.ia HI3.out) ?_; rintro e w4 ⟨G, H, rfl, hin4, hb4⟩; have HS4 := hidOv (GS.start (cb := l'.length) (db := f'.length) HA3.out HI3.out HB3.out hin4 hb4); obtain ⟨k0, k1, k2⟩ := HS4.out.a.s3; clear hb4 hin4)
    | (go_at_call 20; with_reducible refine Calls.mono (CA _ _ _ _ _ HS4.out.a.ia) ?_; rintro e w5 ⟨v5, rfl, hv5, hb5⟩; have HS5 := hidOv (HS4.out.to hb5); obtain ⟨p5, c5, rfl, hx5⟩ := all_row5 hv5; have HX5 := hidOv hx5; clear hb5 hv5 hx5))
  clear CW CO CI CG CA HA HA3 HI3 HB1 HB2 HB3 HS4 a0 a1 a2 s0 s1 s2 k0 k1 k2
  go_loopw [8, 41] (fun o i wr => ∃ k : Nat, k ≤ xs.length ∧ i = .int .i64 k ∧ wr.ownsRow w5.heap.size 41 1 o (notN xs ids k).length (cellsI .u64 (notN xs ids k)) ∧ Below w5.heap.size w5 wr) (fun _ i _ => xs.length - (intOf i).toNat)
  case atStart => exact ⟨0, Nat.zero_le _, rfl, World.ownsRow_nil _ _ _ _, Below.refl _ _⟩
  case round =>
    obtain ⟨k, hk, rfl, ho, hB⟩ := hrel
    have HO := hidOv ho
    have HB := hidOv hB
    have hsz := hB.size
    have HLL : Hid ((notN xs ids k).length ≤ k) := notN_len xs ids k
    clear ho hB
    by_cases hlt : k < xs.length
    · obtain ⟨b, off, rfl, hbB, hcs⟩ := (HX5.out.below HB.out (Nat.le_refl _)) (by omega)
      have c0 := hcs k hlt
      clear hcs
      have HT1 : Hid (decide (iG xs k ∈ ids) = false → notN xs ids (k + 1) = notN xs ids k ++ [iG xs k]) := notN_t hlt
      have HT0 : Hid (decide (iG xs k ∈ ids) = true → notN xs ids (k + 1) = notN xs ids k) := notN_f hlt
      have CC := contains31 pi ids ci (iG xs k) wr ((HS5.out.to HB.out).i) (by have := HN12.out; omega)
      rw [← HN12.out] at CC
      obtain ⟨y, hy⟩ : ∃ y, y = iG xs k := ⟨_, rfl⟩
      rw [← hy] at c0 HT1 HT0 CC
      clear hy
      cases hd : decide (y ∈ ids)
      · have HA := hidOv (HT1.out hd)
        rw [hd] at CC
        have hll := HLL.out
        obtain ⟨t, ht⟩ : ∃ t, t = notN xs ids k := ⟨_, rfl⟩
        rw [← ht] at HO HA hll
        clear ht HLL HT0 HT1 hd
        go_wp2_with (first | (go_at_call 31; with_reducible refine Calls.mono CC ?_; rintro e w6 ⟨rfl, hw6⟩; rw [hw6]; clear hw6 w6) | (at_builtin; refine wpList_append_own _ rfl _ _ 36 rfl w5.heap.size 41 i0 (.int .u64 0) 1 8 Tryd.underlying36 hi0 iz0 iz1 iz2 rfl (by decide) _ _ _ rfl (HO.out.alloc _) _ 1 1 [.int .u64 y] rfl rfl (cell_one_new _ _ _) (by simp [Value.oneCell']) (by unfold maxLen; omega) (by omega) (by simp; omega) ?_; intro v7 w7 hown7 hgrow7 _))
        go_roundw
        case rel => exact ⟨k + 1, by omega, by go_num, by rw [HA.out]; simpa [cellsI] using hown7, (HB.out.alloc HB.out.size _).grown hgrow7 (by simp; omega) (fun j hj => own_ge HO.out hj)⟩
        case measure => simp [intOf]; omega
      · have HA := hidOv (HT0.out hd)
        rw [hd] at CC
        clear HT0 HT1 hd
        go_wp2_with (first | (go_at_call 31; with_reducible refine Calls.mono CC ?_; rintro e w6 ⟨rfl, hw6⟩; rw [hw6]; clear hw6 w6))
        go_roundw
        case rel => exact ⟨k + 1, by omega, by go_num, by rw [HA.out]; exact HO.out, HB.out⟩
        case measure => simp [intOf]; omega
    · obtain rfl : k = xs.length := by omega
      rw [HWN.out] at HO
      obtain ⟨pw, cw, hv, _, _, hrw⟩ := irow_own' HO.out
      subst hv
      have h5 := HS5.out.to HB.out
      have HT := hidOv (⟨h5.a, h5.b, h5.i, hrw, h5.w⟩ : GS w wr m l4 f4 w2.heap.size pa ca qa da l' f' w4.heap.size (some ⟨G, 0, none⟩) l'.length (some ⟨H, 0, none⟩) f'.length pi ids pw wt)
      clear HO HB HLL hrw h5 HS5 HX5 HWN hsz
      go_wp2
      go_loopw [56] (fun i wr => ∃ k : Nat, k ≤ n12 ∧ i = .int .i64 k ∧ GS w wr m l4 f4 w2.heap.size pa ca qa da l' f' w4.heap.size (some ⟨G, 0, none⟩) l'.length (some ⟨H, 0, none⟩) f'.length pi ids pw wt) (fun i _ => n12 - (intOf i).toNat)
      case atStart => exact ⟨0, Nat.zero_le _, rfl, HT.out⟩
      case round =>
        clear HT
        obtain ⟨j, hj, rfl, hT⟩ := hrel
        have HT := hidOv hT
        clear hT
        obtain ⟨s0, s1, s2⟩ := HT.out.a.s3
        by_cases hj' : j < n12
        · obtain ⟨b, off, rfl, hbB, hcs⟩ := HT.out.i (by have := HN12.out; omega)
          have c0 := hcs j (by have := HN12.out; omega)
          clear hcs
          obtain ⟨u0, u1⟩ := HID.out j (by have := HN12.out; omega)
          obtain ⟨v1, v2⟩ := HAl.out j hj'
          have CL1 := fun (W : World) (pa : Option Addr) (ca : Nat) (qa : Option Addr) (da : Nat) (h : AIn W pa l4 qa f4) => CL W pa ca qa da (iG ids j) u0 u1 h
          have CM1 := fun (W : World) (pa : Option Addr) (ca : Nat) (qa : Option Addr) (da : Nat) (h : AIn W pa l' qa f') => CM W pa ca qa da (iG ids j) u0 u1 h
          rw [v1] at CL1
          rw [v2] at CM1
          obtain ⟨y, hy⟩ : ∃ y, y = iG ids j := ⟨_, rfl⟩
          rw [← hy] at c0 CL1 CM1
          clear hy v1 v2 u0 u1
          go_wp2_with (first
            | (go_at_call 22; with_reducible refine Calls.mono (CL1 _ _ _ _ _ HT.out.a.ia) ?_; clear CL1; rintro e w6 ⟨rfl, hb6⟩; have HT6 := hidOv (HT.out.to hb6); obtain ⟨x0, x1, x2⟩ := HT6.out.b.s3; clear hb6)
            | (go_at_call 22; with_reducible refine Calls.mono (CM1 _ _ _ _ _ HT6.out.b.ia) ?_; rintro e w7 ⟨rfl, hb7⟩; have HT7 := hidOv (HT6.out.to hb7); clear hb7))
          go_roundw
          case rel => exact ⟨j + 1, by omega, by go_num, HT7.out⟩
          case measure => simp [intOf]; omega
        · obtain rfl : j = n12 := by omega
          obtain ⟨x0, x1, x2⟩ := HT.out.b.s3
          go_wp2
          go_loopw [74] (fun i wr => ∃ k : Nat, k ≤ l'.length + 2 ∧ i = .int .i64 k ∧ GS w wr m l4 f4 w2.heap.size pa ca qa da l' f' w4.heap.size (some ⟨G, 0, none⟩) l'.length (some ⟨H, 0, none⟩) f'.length pi ids pw wt) (fun i _ => l'.length + 2 - (intOf i).toNat)
          case atStart => exact ⟨0, Nat.zero_le _, rfl, HT.out⟩
          case round =>
            clear HT s0 s1 s2 x0 x1 x2
            obtain ⟨n, hnn, rfl, hT⟩ := hrel
            have HT := hidOv hT
            clear hT
            obtain ⟨x0, x1, x2⟩ := HT.out.b.s3
            by_cases hn' : n < l'.length + 2
            · obtain ⟨q1, q2⟩ := HAt'.out (n : Int)
              have CT1 := fun (W : World) (pa : Option Addr) (ca : Nat) (qa : Option Addr) (da : Nat) (h : AIn W pa l' qa f') => CT W pa ca qa da (n : Int) h
              have CC := fun (W : World) (h : IRow .u64 W.heap.size W pw wt) => contains31 pw wt cw (atV m l' f' (n : Int)) W h (by omega)
              rw [← q1] at CC
              have hn2 : (n : Int) < (l'.length : Int) + 2 := by omega
              obtain ⟨z, hz⟩ : ∃ z, z = atV m l' f' (n : Int) := ⟨_, rfl⟩
              rw [← hz] at CT1 CC q2
              clear hz q1
              cases hok : atOk m l' f' (n : Int)
              · rw [hok] at CT1 CC
                clear q2 hok
                go_wp2_with (first
                  | (go_at_call 24; with_reducible refine Calls.mono (CT1 _ _ _ _ _ HT.out.b.ia) ?_; rintro e w6 ⟨rfl, hb6⟩; have HT6 := hidOv (HT.out.to hb6); clear hb6)
                  | (go_at_call 31; with_reducible refine Calls.mono (CC _ HT6.out.v) ?_; rintro e w7 ⟨rfl, hw7⟩; rw [hw7]; clear hw7 w7))
                go_roundw
                case rel => exact ⟨n + 1, by omega, by go_num, HT6.out⟩
                case measure => simp [intOf]; omega
              · obtain ⟨z1, z2, z3⟩ := q2 hok
                rw [hok] at CT1 CC
                clear q2 hok
                go_wp2_with (first
                  | (go_at_call 24; with_reducible refine Calls.mono (CT1 _ _ _ _ _ HT.out.b.ia) ?_; rintro e w6 ⟨rfl, hb6⟩; have HT6 := hidOv (HT.out.to hb6); clear hb6)
                  | (go_at_call 31; with_reducible refine Calls.mono (CC _ HT6.out.v) ?_; rintro e w7 ⟨rfl, hw7⟩; rw [hw7]; clear hw7 w7))
                go_roundw
                case rel => exact ⟨n + 1, by omega, by go_num, HT6.out⟩
                case measure => simp [intOf]; omega
            · have hn2 : ¬ ((n : Int) < (l'.length : Int) + 2) := by omega
              go_wp2_with (first
                | (go_at_call 20; with_reducible refine Calls.mono (CB _ _ _ _ _ HT.out.b.ia) ?_; rintro e w6 ⟨v6, rfl, hv6, hb6⟩; have HT6 := hidOv (HT.out.to hb6); obtain ⟨p6, c6, rfl, hx6⟩ := all_row5 hv6; have HX6 := hidOv hx6; clear hb6 hv6 hx6)
                | (go_at_call 19; with_reducible refine Calls.mono (CE _ _ _ _ _ HX6.out HT6.out.v) ?_; rintro e w7 ⟨rfl, hb7⟩; have HT7 := hidOv (HT6.out.to hb7); obtain ⟨y0, y1, y2⟩ := HT7.out.b.s3; clear hb7)
                | (go_at_call 11; with_reducible refine Calls.mono (CK _ _ _ _ _ HT7.out.b.ia) ?_; rintro e w8 ⟨rfl, hb8⟩; have HT8 := hidOv (HT7.out.to hb8); clear hb8))
              go_ret
              exact ⟨rfl, HT8.out.w⟩
end Go.Proofs.YtaglhajlgnjhcaaDoor
