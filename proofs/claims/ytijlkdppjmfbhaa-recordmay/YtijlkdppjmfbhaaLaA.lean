/- The law's own: own, small. Rows are told by one row alone. -/
import Derived.Test.YtijlkdppjmfbhaaRcO
namespace Go.Proofs.Ytijlkdppjmfbhaa
open Go.RowKit Go.Sort Go.Maps

theorem wfL.take {l : List Sp} (h : wfL l) (n : Nat) : wfL (l.take n) := fun s hs => h s (List.mem_of_mem_take hs)
theorem own9 (p : Option Addr) (l : List Sp) (c : Nat) (w : World) (hE : SRow w.heap.size w p l) (hl : l.length ≤ maxLen) (hc : l.length ≤ c) :
    Calls Try.prog 9 #[.agg #[.slice p l.length c]] w fun e w' => ∃ q d, e = .returned (.agg #[.slice q (l.take 40).length d]) ∧ GvS w.heap.size w' q (l.take 40) d ∧ Below w.heap.size w w' := by
  unfold maxLen at hl
  have hb := al2b w (.cells #[.slice p l.length c] 24) (.cells #[.slice none 0 0] 24)
  obtain ⟨q0, q1⟩ := al2 w (.cells #[.slice p l.length c] 24) (.cells #[.slice none 0 0] 24)
  have CC := fun (c : Nat) => clone31 p (l.take 40) c _ ((hE.take 40).to hb) (by simp; omega)
  have hk : (l.take 40).length = min 40 l.length := by simp
  obtain ⟨n, hn⟩ : ∃ n, n = l.length := ⟨_, rfl⟩
  obtain ⟨k, hk2⟩ : ∃ k, k = min 40 n := ⟨_, rfl⟩
  obtain ⟨X, hX⟩ : ∃ X, X = l.take 40 := ⟨_, rfl⟩
  rw [← hX] at CC hk
  rw [← hX]
  rw [← hn, ← hk2] at hk
  rw [← hn] at hl hc q0 q1 hb CC
  rw [← hn]
  have HB := hidOg hb
  have HN := hidOg q1
  have HS2 : Hid (((w.alloc (.cells #[.slice p n c] 24)).alloc (.cells #[.slice none 0 0] 24)).heap.size = w.heap.size + 2) := by unfold Hid; simp
  have hx := cell1_heap q0
  have hmin : min (n : Int) 40 = (k : Int) := by omega
  have hkn : k ≤ n := by omega
  have hkc : k ≤ c := by omega
  have hmi : (if 40 < n then (40 : Int) else (n : Int)) = (k : Int) := by split <;> omega
  have hk40 : (k : Int) ≤ 40 := by omega
  unfold GivesS at CC
  rw [hk] at CC
  have HK := hidOg hk
  clear hE hb q0 q1 hn hk hX hk2
  go_enter Try.func9, Try.ntmps9
  go_wp2_with (first | (go_at_call 31; refine Calls.mono (CC _) ?_; rintro e w1 ⟨q, d, rfl, ho, hb⟩; have z1 := atW hb HN.out; have y1 := cell1_heap z1; have f1 := fr_heap z1; have HG := hidOg ho.gv; have HB1 := hidOg (HB.out.trans (hb.mono HB.out.size)); clear ho hb z1))
  refine bodyPost_ret (v := .agg #[.slice q k d]) (by simp [results, Try.results9, go_sem, y1]) rfl ⟨q, d, by rw [HK.out], ?_, HB1.out.setCell (p := ⟨w.heap.size + 1, 0, none⟩) (Nat.le_succ _) _⟩
  exact ((HG.out.weak (B' := w.heap.size + 2) (by rw [HS2.out]; exact Nat.le_refl _)).setC (by omega) _).weak (by omega)
/-- The chapter's records. -/
def smL : List Sp := [(0, 0), (0, 0), (1, 0), (1, 1), (0, 0), (2, 0)]
theorem small30 (w : World) : Calls Try.prog 30 #[] w fun e w' => ∃ q d, e = .returned (.agg #[.slice q 6 d]) ∧ GvS w.heap.size w' q smL d ∧ Below w.heap.size w w' := by
  go_enter Try.func30, Try.ntmps30
  go_wp2
  obtain ⟨h1, h2⟩ := al2 w (.cells #[.slice (some ⟨w.heap.size + 1, 0, none⟩) 6 6] 24) (.cells #[.int .i64 0, .int .i64 0, .int .i64 0, .int .i64 0, .int .i64 1, .int .i64 0, .int .i64 1, .int .i64 1, .int .i64 0, .int .i64 0, .int .i64 2, .int .i64 0] 34)
  refine bodyPost_ret (v := .agg #[.slice (some ⟨w.heap.size + 1, 0, none⟩) 6 6]) (by simp [results, Try.results30, go_sem, cell1_heap h1]) rfl ⟨some ⟨w.heap.size + 1, 0, none⟩, 6, rfl, ⟨fun _ => ⟨w.heap.size + 1, _, rfl, Nat.le_succ _, h2, rfl⟩, by decide, by decide⟩, al2b _ _ _⟩
theorem pw_ne {α : Type} {R : α → α → Prop} (sym : ∀ a b, R a b → R b a) : ∀ {L : List α}, L.Pairwise R → ∀ {x y : α}, x ∈ L → y ∈ L → x ≠ y → R x y
  | [], _, _, _, h, _, _ => by cases h
  | z :: L, hp, x, y, hx, hy, hne => by
    rw [List.pairwise_cons] at hp
    rcases List.mem_cons.1 hx with rfl | hx'
    · rcases List.mem_cons.1 hy with rfl | hy'
      · exact absurd rfl hne
      · exact hp.1 y hy'
    · rcases List.mem_cons.1 hy with rfl | hy'
      · exact sym _ _ (hp.1 x hx')
      · exact pw_ne sym hp.2 hx' hy' hne
theorem GoodQ.inj {l : List Sp} {L : List Nat} (h : GoodQ l L) {x y : Nat} (hx : x ∈ L) (hy : y ∈ L) (e : sG l x = sG l y) : x = y :=
  Decidable.byContradiction fun hne => pw_ne (R := fun a b => sG l a ≠ sG l b) (fun _ _ h => h.symm) h.2 hx hy hne e
theorem isRows_uniq {l : List Sp} {t : Int} {X Y : List Int} (hm : mayS l = true) (hX : IsRows l t X) (hY : IsRows l t Y) : X = Y := by
  refine List.Perm.eq_of_pairwise (le := fun x y => (sG l (x.toNat - 1)).2 ≤ (sG l (y.toNat - 1)).2) (fun a b ha hb h1 h2 => ?_) hX.2 hY.2 (hX.1.trans hY.1.symm)
  obtain ⟨k, hk, e1, rfl⟩ := rwN_mem.1 (hX.1.mem_iff.1 ha)
  obtain ⟨j, hj, e2, rfl⟩ := rwN_mem.1 (hY.1.mem_iff.1 hb)
  have hk1 : ((k : Int) + 1).toNat - 1 = k := by omega
  have hj1 : ((j : Int) + 1).toNat - 1 = j := by omega
  rw [hk1, hj1] at h1 h2
  have : k = j := (mayS_bd hm).2.2.inj hk hj (Prod.ext (by rw [e1, e2]) (by omega))
  rw [this]
theorem wk_may : mayS smL = true := by decide +kernel
theorem wk_at : gaA smL 4 = ((1, 1), 0) := by decide +kernel
theorem wk_who : whoV smL (2, 0) = 6 := by decide +kernel
def smL2 : List Sp := [(0, 0), (0, 0), (0, 0), (1, 0), (0, 0), (2, 0)]
theorem wk_swap : swR smL 3 1 = (smL2, 0) := by decide +kernel
theorem wk_put : puR smL 5 (2, 0) = ([], 5) := by decide +kernel
theorem wk_rows : IsRows smL 1 [3, 4] := by
  refine ⟨?_, by decide +kernel⟩
  rw [show rwN smL 1 (plN smL smL.length) = [3, 4] from by decide +kernel]
theorem wk_rows2 : IsRows smL2 1 [4] := by
  refine ⟨?_, by decide +kernel⟩
  rw [show rwN smL2 1 (plN smL2 smL2.length) = [4] from by decide +kernel]
theorem wk_may2 : mayS smL2 = true := by decide +kernel
theorem wk_wf : wfL smL := fun s hs => by
  simp [smL] at hs
  rcases hs with rfl | rfl | rfl | rfl | rfl | rfl <;> exact ⟨wfI_of (by decide) (by decide), wfI_of (by decide) (by decide)⟩
theorem wk_wf2 : wfL smL2 := fun s hs => by
  simp [smL2] at hs
  rcases hs with rfl | rfl | rfl | rfl | rfl | rfl <;> exact ⟨wfI_of (by decide) (by decide), wfI_of (by decide) (by decide)⟩
end Go.Proofs.Ytijlkdppjmfbhaa
