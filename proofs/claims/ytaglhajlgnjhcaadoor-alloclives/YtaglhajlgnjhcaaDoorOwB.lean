/- The law's own copy of an allocator lies in memory of its own. -/
import Derived.Test.YtaglhajlgnjhcaaDoorOwA
namespace Go.Proofs.YtaglhajlgnjhcaaDoor
open Go.RowKit

set_option maxRecDepth 20000 in
set_option maxHeartbeats 1000000 in
theorem own10f (m : Int) (p : Option Addr) (l : List (Int × Bool)) (c : Nat) (q : Option Addr) (f : List Int) (d : Nat) (w : World) (hF : Fr w) (hs : SRow w.heap.size w p l) (hi : IRow .i64 w.heap.size w q f) (hp : AdOk p ∨ l.length = 0) (hq : AdOk q ∨ f.length = 0) (c1 : l.length ≤ c) (c2 : f.length ≤ d) :
    Calls Tryd.prog 10 #[.agg #[.int .i64 m, .slice p l.length c, .slice q f.length d]] w fun e w' => ∃ p' c' q' d', e = .returned (.agg #[.int .i64 m, .slice p' (l.take 40).length c', .slice q' (f.take 40).length d']) ∧ (AIx w' p' (l.take 40) c' q' (f.take 40) d' ∧ FreshP w.heap.size p' ∧ FreshP w.heap.size q') ∧ Below w.heap.size w w' := by
  obtain ⟨n, hn⟩ : ∃ n, n = (l.take 40).length := ⟨_, rfl⟩
  obtain ⟨k, hk⟩ : ∃ k, k = (f.take 40).length := ⟨_, rfl⟩
  have hn' : min (l.length : Int) 40 = (n : Int) := by rw [hn]; simp; omega
  have hk' : min (f.length : Int) 40 = (k : Int) := by rw [hk]; simp; omega
  have n0 : (0 : Int) ≤ (n : Int) := by omega
  have n1 : (n : Int) ≤ (c : Int) := by omega
  have k0 : (0 : Int) ≤ (k : Int) := by omega
  have k1 : (k : Int) ≤ (d : Int) := by omega
  have CS := fun (W : World) (hb : BxA w W (.int .i64 m) (.slice p l.length c) (.slice q f.length d)) => clone32 p (l.take 40) c W (((hs.below hb.b (Nat.le_refl _)).mono hb.b.size).take 40) (hp.imp_right (fun h => by simp [h])) (by simp; omega)
  have CI := fun (W : World) (hb : BxA w W (.int .i64 m) (.slice p l.length c) (.slice q f.length d)) => clone33 q (f.take 40) d W (((hi.below hb.b (Nat.le_refl _)).mono hb.b.size).take 40) (hq.imp_right (fun h => by simp [h])) (by simp; omega)
  rw [← hn] at CS
  rw [← hk] at CI
  rw [← hn, ← hk]
  have HF : Hid (Fr w) := hF
  have HN : Hid (n = (l.take 40).length) := hn
  have HK : Hid (k = (f.take 40).length) := hk
  have K0 : Hid (BxA w ((w.alloc (.cells #[.int .i64 m, .slice p l.length c, .slice q f.length d] 25)).alloc (.cells #[.int .i64 0, .slice none 0 0, .slice none 0 0] 25)).drew (.int .i64 m) (.slice p l.length c) (.slice q f.length d)) := BxA.start w _ _ _
  have hR : w.heap.size + 1 ≠ w.heap.size := by omega
  clear hF hs hi hp hq hn hk c1 c2
  go_enter Tryd.func10, Tryd.ntmps10
  go_wp2
  go_region_held3 (fun w' => w'.cell? ⟨w.heap.size, 0, none⟩ = some (.int .i64 m) ∧ w'.cell? ⟨w.heap.size, 1, none⟩ = some (.slice p l.length c) ∧ w'.cell? ⟨w.heap.size, 2, none⟩ = some (.slice q f.length d)) (first | go_keep | with_reducible exact TT.out _ _ _) (first | (go_at_call 32; refine Calls.mono (CS _ K0.out) ?_; rintro e w1 ⟨p', c', rfl, hc', hp', hs', hb1⟩; have HS : Hid ((AdOk p' ∧ FreshP (w.heap.size + 2) p') ∧ SRow w1.heap.size w1 p' (l.take 40)) := ⟨⟨hp'.1, fun a ha => (by have := hp'.2 a ha; simpa using this)⟩, hs'⟩; clear hp' hs'; have HC : Hid (n ≤ c') := hc'; clear hc'; have K1 : Hid (BxA w w1 (.int .i64 m) (.slice p l.length c) (.slice q f.length d)) := K0.out.below hb1; obtain ⟨a0, a1, a2, _, a3⟩ := cells3 K1.out.a) | (go_at_call 33; refine Calls.mono (CI _ K1.out) ?_; rintro e w2 ⟨q', d', rfl, hd', hq', hi', hb2⟩; have HI : Hid ((AdOk q' ∧ FreshP (w.heap.size + 2) q') ∧ IRow .i64 w2.heap.size w2 q' (f.take 40)) := ⟨⟨hq'.1, fun a ha => Nat.le_trans K1.out.z (hq'.2 a ha)⟩, hi'⟩; clear hq' hi'; have HD : Hid (k ≤ d') := hd'; clear hd'; have HB2 : Hid (Below w1.heap.size w1 w2) := hb2; have K2 : Hid (BxA w w2 (.int .i64 m) (.slice p l.length c) (.slice q f.length d)) := K1.out.below hb2; obtain ⟨b0, b1, b2, _, b3⟩ := cells3 K2.out.a; obtain ⟨r0, r1, r2, rf, r3⟩ := cells3 K2.out.r; have TT : Hid _ := fun (x y z : Value) => (⟨set3far hR b0, set3far hR b1, set3far hR b2⟩ : (((w2.setCell ⟨w.heap.size + 1, 0, none⟩ x).setCell ⟨w.heap.size + 1, 1, none⟩ y).setCell ⟨w.heap.size + 1, 2, none⟩ z).cell? ⟨w.heap.size, 0, none⟩ = some (.int .i64 m) ∧ (((w2.setCell ⟨w.heap.size + 1, 0, none⟩ x).setCell ⟨w.heap.size + 1, 1, none⟩ y).setCell ⟨w.heap.size + 1, 2, none⟩ z).cell? ⟨w.heap.size, 1, none⟩ = some (.slice p l.length c) ∧ (((w2.setCell ⟨w.heap.size + 1, 0, none⟩ x).setCell ⟨w.heap.size + 1, 1, none⟩ y).setCell ⟨w.heap.size + 1, 2, none⟩ z).cell? ⟨w.heap.size, 2, none⟩ = some (.slice q f.length d))))
  all_goals
    go_wp2
    obtain ⟨t0, t1, t2, _, _⟩ := cells3 (set3_heap (x' := .int .i64 m) (y' := .slice p' n c') (z' := .slice q' k d') K2.out.r)
    have hB := below_set3 K2.out.b (by omega : w.heap.size ≤ w.heap.size + 1) (.int .i64 m) (.slice p' n c') (.slice q' k d')
    have hin : AIx (((w2.setCell ⟨w.heap.size + 1, 0, none⟩ (.int .i64 m)).setCell ⟨w.heap.size + 1, 1, none⟩ (.slice p' n c')).setCell ⟨w.heap.size + 1, 2, none⟩ (.slice q' k d')) p' (l.take 40) c' q' (f.take 40) d' := by
      refine ⟨⟨HF.out.below hB HF.out.lt, ?_, ?_, ?_, ?_⟩, HS.out.1.1, HI.out.1.1, ?_, ?_⟩
      · have h1 := (HS.out.2.below HB2.out (Nat.le_refl _)).mono HB2.out.size
        have h2 := h1.set3 HS.out.1.2 (by omega : w.heap.size + 1 < w.heap.size + 2) (.int .i64 m) (.slice p' n c') (.slice q' k d')
        simpa using h2
      · have h2 := HI.out.2.set3 HI.out.1.2 (by omega : w.heap.size + 1 < w.heap.size + 2) (.int .i64 m) (.slice p' n c') (.slice q' k d')
        simpa using h2
      · simp; omega
      · simp; omega
      · rw [← HN.out]; exact HC.out
      · rw [← HK.out]; exact HD.out
    exact bodyPost_ret (v := .agg #[.int .i64 m, .slice p' n c', .slice q' k d']) (by simp [results, Tryd.results10, go_sem, t0, t1, t2]) rfl ⟨p', c', q', d', rfl, ⟨hin, fun a ha => (by have := HS.out.1.2 a ha; omega), fun a ha => (by have := HI.out.1.2 a ha; omega)⟩, hB⟩
end Go.Proofs.YtaglhajlgnjhcaaDoor
