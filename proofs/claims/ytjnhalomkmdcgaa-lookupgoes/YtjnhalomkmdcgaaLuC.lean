/- bits.OnesCount at small numbers; entryMayBe, count, notFree, hasRoom, enough. -/
import Derived.Test.YtjnhalomkmdcgaaLuA
import Derived.Laws.BitsAllLaws
import Derived.Laws.Bits128
namespace Go.Proofs.Ytjnhalomkmdcgaa
open Go.RowKit

def pc1 (m : Nat) : Nat := ((m / 2) &&& 6148914691236517205) + (m &&& 6148914691236517205)
def pc2 (m : Nat) : Nat := ((m / 4) &&& 3689348814741910323) + (m &&& 3689348814741910323)
def pc3 (m : Nat) : Nat := (m / 16 + m) &&& 1085102592571150095
def pc4 (m : Nat) : Nat := (m + m / 256) % 128
def pcN (m : Nat) : Nat := pc4 (pc3 (pc2 (pc1 m)))
def pwL : List Nat := [1, 2, 4, 8, 16, 32, 64, 128, 256, 512]
theorem pcN_all : (List.range 513).all (fun m => (pcN m == 1) == pwL.contains m) = true := by kernel_rfl
theorem pcN_is {m : Nat} (h : m ≤ 512) : (pcN m = 1) = (m ∈ pwL) := by
  have := List.all_eq_true.1 pcN_all m (by simp; omega)
  rw [beq_iff_eq] at this
  by_cases h1 : pcN m = 1
  · rw [h1] at this; simp at this; simp [h1, this]
  · have h2 : (pcN m == 1) = false := by simpa using h1
    rw [h2] at this; simp at this; simp [h1, this]
theorem pow_is {m : Nat} (h8 : 8 ≤ m) (h : m ≤ 512) : m ∈ pwL ↔ ∃ e, m = 8 * 2 ^ e := by
  constructor
  · intro hm
    simp [pwL] at hm
    rcases hm with rfl | rfl | rfl | rfl | rfl | rfl | rfl | rfl | rfl | rfl
    all_goals first | omega | skip
    · exact ⟨0, rfl⟩
    · exact ⟨1, rfl⟩
    · exact ⟨2, rfl⟩
    · exact ⟨3, rfl⟩
    · exact ⟨4, rfl⟩
    · exact ⟨5, rfl⟩
    · exact ⟨6, rfl⟩
  · rintro ⟨e, rfl⟩
    have : e < 7 := by
      refine Classical.byContradiction fun hn => ?_
      have : 2 ^ 7 ≤ 2 ^ e := Nat.pow_le_pow_right (by omega) (by omega)
      omega
    rcases (show e = 0 ∨ e = 1 ∨ e = 2 ∨ e = 3 ∨ e = 4 ∨ e = 5 ∨ e = 6 by omega) with rfl | rfl | rfl | rfl | rfl | rfl | rfl <;> decide
theorem ones70 (m : Nat) (hm : m ≤ 512) (w : World) : Calls Try.prog 70 #[.int .u64 (m : Int)] w fun e w' => e = .returned (.int .i64 ((pcN m : Nat) : Int)) ∧ w' = w := by
  obtain ⟨a1, ha1⟩ : ∃ a, a = (m / 2) &&& 6148914691236517205 := ⟨_, rfl⟩
  obtain ⟨a2, ha2⟩ : ∃ a, a = m &&& 6148914691236517205 := ⟨_, rfl⟩
  obtain ⟨a3, ha3⟩ : ∃ a, a = ((a1 + a2) / 4) &&& 3689348814741910323 := ⟨_, rfl⟩
  obtain ⟨a4, ha4⟩ : ∃ a, a = (a1 + a2) &&& 3689348814741910323 := ⟨_, rfl⟩
  obtain ⟨a5, ha5⟩ : ∃ a, a = ((a3 + a4) / 16 + (a3 + a4)) &&& 1085102592571150095 := ⟨_, rfl⟩
  obtain ⟨b6, hb6⟩ : ∃ b, b = a5 + a5 / 256 := ⟨_, rfl⟩
  obtain ⟨a6, ha6⟩ : ∃ a, a = b6 % 128 := ⟨_, rfl⟩
  have l1 : a1 ≤ m / 2 := by rw [ha1]; exact Nat.and_le_left
  have l2 : a2 ≤ m := by rw [ha2]; exact Nat.and_le_left
  have l3 : a3 ≤ (a1 + a2) / 4 := by rw [ha3]; exact Nat.and_le_left
  have l4 : a4 ≤ a1 + a2 := by rw [ha4]; exact Nat.and_le_left
  have l5 : a5 ≤ (a3 + a4) / 16 + (a3 + a4) := by rw [ha5]; exact Nat.and_le_left
  have l6 : a6 ≤ b6 := by rw [ha6]; exact Nat.mod_le _ _
  have l7 : b6 ≤ 2000 := by omega
  have E : Hid (pcN m = a6) := by unfold Hid pcN pc4 pc3 pc2 pc1; rw [ha6, hb6, ha5, ha3, ha4, ha1, ha2]
  have e1 : bits .and .u64 ((m : Int) / 2) 6148914691236517205 = ((a1 : Nat) : Int) := by rw [ha1]; exact u64_and_nat (m / 2) 6148914691236517205 (by omega) (by omega)
  have e2 : bits .and .u64 ((m : Nat) : Int) 6148914691236517205 = ((a2 : Nat) : Int) := by rw [ha2]; exact u64_and_nat m 6148914691236517205 (by omega) (by omega)
  have e3 : bits .and .u64 (((a1 : Int) + (a2 : Int)) / 4) 3689348814741910323 = ((a3 : Nat) : Int) := by rw [ha3]; exact u64_and_nat ((a1 + a2) / 4) 3689348814741910323 (by omega) (by omega)
  have e4 : bits .and .u64 ((a1 : Int) + (a2 : Int)) 3689348814741910323 = ((a4 : Nat) : Int) := by rw [ha4]; exact u64_and_nat (a1 + a2) 3689348814741910323 (by omega) (by omega)
  have e5 : bits .and .u64 (((a3 : Int) + (a4 : Int)) / 16 + ((a3 : Int) + (a4 : Int))) 1085102592571150095 = ((a5 : Nat) : Int) := by rw [ha5]; exact u64_and_nat ((a3 + a4) / 16 + (a3 + a4)) 1085102592571150095 (by omega) (by omega)
  have e6 : bits .and .i64 ((b6 : Nat) : Int) 127 = ((a6 : Nat) : Int) := by rw [ha6, i64_and127]; omega
  have f1 : IntKind.u64.wrap ((a1 : Int) + (a2 : Int)) = (a1 : Int) + (a2 : Int) := by simp [IntKind.wrap, IntKind.bits, IntKind.signed]; omega
  have f2 : IntKind.u64.wrap ((a3 : Int) + (a4 : Int)) = (a3 : Int) + (a4 : Int) := by simp [IntKind.wrap, IntKind.bits, IntKind.signed]; omega
  have f3 : IntKind.u64.wrap (((a3 : Int) + (a4 : Int)) / 16 + ((a3 : Int) + (a4 : Int))) = ((a3 : Int) + (a4 : Int)) / 16 + ((a3 : Int) + (a4 : Int)) := by simp [IntKind.wrap, IntKind.bits, IntKind.signed]; omega
  have f4 : IntKind.u64.wrap ((a5 : Int) + (a5 : Int) / 256) = (b6 : Int) := by rw [hb6]; simp [IntKind.wrap, IntKind.bits, IntKind.signed]; omega
  have f0 : IntKind.u64.wrap (b6 : Int) = (b6 : Int) := by simp [IntKind.wrap, IntKind.bits, IntKind.signed]; omega
  have f5 : IntKind.u64.wrap ((b6 : Int) + (b6 : Int) / 65536) = (b6 : Int) := by rw [show (b6 : Int) / 65536 = 0 by omega, Int.add_zero]; exact f0
  have f6 : IntKind.u64.wrap ((b6 : Int) + (b6 : Int) / 4294967296) = (b6 : Int) := by rw [show (b6 : Int) / 4294967296 = 0 by omega, Int.add_zero]; exact f0
  have f7 : IntKind.i64.wrap (b6 : Int) = (b6 : Int) := by simp [IntKind.wrap, IntKind.bits, IntKind.signed]; omega
  clear ha1 ha2 ha3 ha4 ha5 ha6 hb6
  go_enter Try.func70, Try.ntmps70
  go_wp2
  go_ret
  exact ⟨ret_int (by rw [E.out]), rfl⟩
theorem ones55 (m : Nat) (hm : m ≤ 512) (w : World) : Calls Try.prog 55 #[.int .u64 (m : Int)] w fun e w' => e = .returned (.int .i64 ((pcN m : Nat) : Int)) ∧ w' = w := by
  have CC := fun (W : World) => ones70 m hm W
  obtain ⟨r, hr⟩ : ∃ r, r = pcN m := ⟨_, rfl⟩
  rw [← hr] at CC ⊢
  clear hr
  go_enter Try.func55, Try.ntmps55
  go_wp2_with (first | (go_at_call 70; refine Calls.mono (CC _) ?_; rintro e w1 ⟨rfl, hw⟩; rw [hw]; clear hw w1))
  go_ret
  exact ⟨rfl, rfl⟩

/-- May it be a slot, wherever it stands? -/
def okE (x : En) : Bool := if x.1 = 1 then decide (0 ≤ x.2.2) && mayT x.2.1 else (decide (x.1 = 0) || decide (x.1 = 2)) && (decide (x.2.2 = 0) && decide (x.2.1.length = 0))
theorem entry56 (s n : Int) (q : Option Addr) (l : List Int) (c : Nat) (w : World) (hS : IRow .u64 w.heap.size w q l) (hU : U64 l) (hl : l.length ≤ 1000) :
    Calls Try.prog 56 #[.agg #[.int .i64 s, .slice q l.length c, .int .i64 n]] w fun e w' => e = .returned (.bool (okE (s, l, n))) ∧ Below w.heap.size w w' := by
  have CK := fun (W : World) (hb : Below w.heap.size w W) => check30 q l c W (hS.to hb) hU hl
  obtain ⟨k, hk⟩ : ∃ k, k = l.length := ⟨_, rfl⟩
  have HKl := hidOg hk
  rw [← hk] at CK ⊢
  clear hS hU hl hk
  by_cases h1 : s = 1
  · subst h1
    by_cases h0 : 0 ≤ n
    · cases hm : mayT l
      · have E : Hid (okE (1, l, n) = false) := by unfold Hid okE; simp [hm]
        have hc : chkE l = 130 := by unfold chkE; rw [hm]; rfl
        rw [hc] at CK
        clear hm hc
        go_enter Try.func56, Try.ntmps56
        go_wp2_with (first | (go_at_call 30; refine Calls.mono (CK _ ((Below.refl _ _).alloc (Nat.le_refl _) _)) ?_; rintro e w1 ⟨rfl, hb⟩))
        go_ret
        exact ⟨ret_bool E.out.symm, below1 hb⟩
      · have E : Hid (okE (1, l, n) = true) := by unfold Hid okE; simp [hm, h0]
        have hc : chkE l = 0 := by unfold chkE; rw [hm]; rfl
        rw [hc] at CK
        clear hm hc
        go_enter Try.func56, Try.ntmps56
        go_wp2_with (first | (go_at_call 30; refine Calls.mono (CK _ ((Below.refl _ _).alloc (Nat.le_refl _) _)) ?_; rintro e w1 ⟨rfl, hb⟩))
        go_ret
        exact ⟨ret_bool E.out.symm, below1 hb⟩
    · have E : Hid (okE (1, l, n) = false) := by unfold Hid okE; simp [h0]
      clear CK
      go_enter Try.func56, Try.ntmps56
      go_wp2
      go_ret
      exact ⟨ret_bool E.out.symm, (Below.refl _ _).alloc (Nat.le_refl _) _⟩
  · by_cases h2 : s = 0 ∨ s = 2
    · have E : Hid (okE (s, l, n) = (decide (n = 0) && decide (k = 0))) := by unfold Hid okE; rw [HKl.out]; rcases h2 with rfl | rfl <;> simp
      clear CK
      by_cases hn : n = 0
      · subst hn
        by_cases hk0 : k = 0
        · subst hk0
          rcases h2 with rfl | rfl
          all_goals
            go_enter Try.func56, Try.ntmps56
            go_wp2
            go_ret
            exact ⟨ret_bool E.out.symm, (Below.refl _ _).alloc (Nat.le_refl _) _⟩
        · have hk1 : ((k : Int) == 0) = false := by simp; omega
          have E' : Hid (okE (s, l, 0) = false) := by unfold Hid; rw [E.out]; simp [hk0]
          clear E
          rcases h2 with rfl | rfl
          all_goals
            go_enter Try.func56, Try.ntmps56
            go_wp2
            go_ret
            exact ⟨ret_bool E'.out.symm, (Below.refl _ _).alloc (Nat.le_refl _) _⟩
      · have hn' : (n == 0) = false := by simpa using hn
        have E' : Hid (okE (s, l, n) = false) := by unfold Hid; rw [E.out]; simp [hn]
        clear E
        rcases h2 with rfl | rfl
        all_goals
          go_enter Try.func56, Try.ntmps56
          go_wp2
          go_ret
          exact ⟨ret_bool E'.out.symm, (Below.refl _ _).alloc (Nat.le_refl _) _⟩
    · have h0 : s ≠ 0 := fun h => h2 (.inl h)
      have h3 : s ≠ 2 := fun h => h2 (.inr h)
      have E : Hid (okE (s, l, n) = false) := by unfold Hid okE; simp [h1, h0, h3]
      have g1 : (s == 1) = false := by simpa using h1
      have g0 : (s == 0) = false := by simpa using h0
      have g2 : (s == 2) = false := by simpa using h3
      clear CK h2 h1 h0 h3
      go_enter Try.func56, Try.ntmps56
      go_wp2
      go_ret
      exact ⟨ret_bool E.out.symm, (Below.refl _ _).alloc (Nat.le_refl _) _⟩
def hrB (m t : Nat) : Bool := decide (t ≤ 4000) && decide (t ≤ m / 4 * 3)
theorem hasRoom45 (m t : Nat) (hm : m ≤ 1000000) (w : World) : Calls Try.prog 45 #[.int .i64 (m : Int), .int .i64 (t : Int)] w fun e w' => e = .returned (.bool (hrB m t)) ∧ w' = w := by
  have E : Hid (hrB m t = (decide (t ≤ 4000) && decide (t ≤ m / 4 * 3))) := rfl
  by_cases h1 : t ≤ 4000
  · by_cases h2 : t ≤ m / 4 * 3
    · have h2' : (t : Int) ≤ (m : Int) / 4 * 3 := by omega
      go_enter Try.func45, Try.ntmps45
      go_wp2
      go_ret
      exact ⟨ret_bool (by rw [E.out]; simp [h1, h2]), rfl⟩
    · have h2' : (m : Int) / 4 * 3 < (t : Int) := by omega
      go_enter Try.func45, Try.ntmps45
      go_wp2
      go_ret
      exact ⟨ret_bool (by rw [E.out, decide_eq_false h2, Bool.and_false]; exact decide_eq_false (by omega)), rfl⟩
  · go_enter Try.func45, Try.ntmps45
    go_wp2
    go_ret
    exact ⟨ret_bool (by rw [E.out]; simp [h1]), rfl⟩
theorem notFree46 (a b c : Int) (hb : 0 ≤ b ∧ b ≤ 1000000) (hc : 0 ≤ c ∧ c ≤ 1000000) (w : World) : Calls Try.prog 46 #[.agg #[.int .i64 a, .int .i64 b, .int .i64 c]] w fun e w' => e = .returned (.int .i64 (b + c)) ∧ Below w.heap.size w w' := by
  go_enter Try.func46, Try.ntmps46
  go_wp2
  go_ret
  exact ⟨rfl, (Below.refl _ _).alloc (Nat.le_refl _) _⟩
/-- How many slots are of a state. -/
def ctS (L : List En) (s : Int) : Nat := (L.filter fun x => decide (x.1 = s)).length
theorem ctS_snoc (L : List En) (x : En) (s : Int) : ctS (L ++ [x]) s = ctS L s + if x.1 = s then 1 else 0 := by
  unfold ctS; rw [List.filter_append, List.length_append]
  by_cases h : x.1 = s <;> simp [h]
theorem ctS_le (L : List En) (s : Int) : ctS L s ≤ L.length := List.length_filter_le _ _
theorem ctS_us (L : List En) : ctS L 1 = (L.filter usB).length := rfl
def Ct3 (W : World) (B : Nat) (L : List En) : Prop := W.heap[B]? = some (.cells #[.int .i64 (ctS L 0 : Nat), .int .i64 (ctS L 1 : Nat), .int .i64 (ctS L 2 : Nat)] 72 (0, 0))
theorem ct3_cell {W : World} {B : Nat} {L : List En} (h : Ct3 W B L) : W.cell? ⟨B, 0, none⟩ = some (.int .i64 (ctS L 0 : Nat)) ∧ W.cell? ⟨B, 1, none⟩ = some (.int .i64 (ctS L 1 : Nat)) ∧ W.cell? ⟨B, 2, none⟩ = some (.int .i64 (ctS L 2 : Nat)) ∧ (∀ o, W.frozen? ⟨B, o, none⟩ = false) := by
  unfold Ct3 at h
  refine ⟨by simp [World.cell?, h], by simp [World.cell?, h], by simp [World.cell?, h], fun o => by simp [World.frozen?, h]⟩
theorem ct3_set0 {W : World} {B : Nat} {L : List En} {x : En} (h : Ct3 W B L) (hs : x.1 = 0) : Ct3 (W.setCell ⟨B, 0, none⟩ (.int .i64 ((ctS L 0 : Nat) + 1))) B (L ++ [x]) := by
  unfold Ct3 at *; rw [heap_setCell_same W B 0 _ 72 _ h]; simp [ctS_snoc, hs]
theorem ct3_set1 {W : World} {B : Nat} {L : List En} {x : En} (h : Ct3 W B L) (hs : x.1 = 1) : Ct3 (W.setCell ⟨B, 1, none⟩ (.int .i64 ((ctS L 1 : Nat) + 1))) B (L ++ [x]) := by
  unfold Ct3 at *; rw [heap_setCell_same W B 1 _ 72 _ h]; simp [ctS_snoc, hs]
theorem ct3_set2 {W : World} {B : Nat} {L : List En} {x : En} (h : Ct3 W B L) (hs : x.1 = 2) : Ct3 (W.setCell ⟨B, 2, none⟩ (.int .i64 ((ctS L 2 : Nat) + 1))) B (L ++ [x]) := by
  unfold Ct3 at *; rw [heap_setCell_same W B 2 _ 72 _ h]; simp [ctS_snoc, hs]
set_option maxRecDepth 20000 in
set_option maxHeartbeats 2000000 in
theorem count39 (p : Option Addr) (L : List En) (c : Nat) (w : World) (hE : ERow w.heap.size w p L) (hm2 : L.length ≤ 1000000) (hst : ∀ k, k < L.length → (gE L k).1 = 0 ∨ (gE L k).1 = 1 ∨ (gE L k).1 = 2) :
    Calls Try.prog 39 #[.slice p L.length c] w fun e w' => e = .returned (.agg #[.int .i64 (ctS L 0 : Nat), .int .i64 (ctS L 1 : Nat), .int .i64 (ctS L 2 : Nat)]) ∧ Below w.heap.size w w' := by
  obtain ⟨n, hn⟩ : ∃ n, n = L.length := ⟨_, rfl⟩
  have HN := hidOg hn
  have HE := hidOg hE
  have HST := hidOg hst
  rw [← hn] at hm2 ⊢
  clear hn hE hst
  go_enter Try.func39, Try.ntmps39
  go_wp2
  go_loopw [7] (fun i wr => ∃ k : Nat, k ≤ n ∧ i = .int .i64 k ∧ Ct3 wr (w.heap.size + 1) (L.take k) ∧ Below w.heap.size w wr ∧ wr.heap[w.heap.size]? = some (.cells #[.int .i64 0, .int .i64 0, .int .i64 0] 72 (0, 0))) (fun i _ => n - (intOf i).toNat)
  case atStart =>
    refine ⟨0, Nat.zero_le _, rfl, ?_, ((Below.refl _ _).alloc (Nat.le_refl _) _).alloc (by simp) _, ?_⟩
    · have := World.alloc_heap_new (w.alloc (.cells #[.int .i64 0, .int .i64 0, .int .i64 0] 72)) (.cells #[.int .i64 0, .int .i64 0, .int .i64 0] 72)
      rw [World.size_alloc] at this
      exact this
    · exact (Below.heap_alloc _ _ _ (by simp)).trans (World.alloc_heap_new w _)
  case round =>
    obtain ⟨k, hk, rfl, hC, hB, hR⟩ := hrel
    have HC := hidOg hC
    have HB := hidOg hB
    have HR := hidOg hR
    obtain ⟨z0, z1, z2, zf⟩ := ct3_cell hC
    have n0 : ctS (L.take k) 0 ≤ 1000000 := Nat.le_trans (ctS_le _ _) (by simp; have := HN.out; omega)
    have n1 : ctS (L.take k) 1 ≤ 1000000 := Nat.le_trans (ctS_le _ _) (by simp; have := HN.out; omega)
    have n2 : ctS (L.take k) 2 ≤ 1000000 := Nat.le_trans (ctS_le _ _) (by simp; have := HN.out; omega)
    obtain ⟨y0, hy0⟩ : ∃ y, y = ctS (L.take k) 0 := ⟨_, rfl⟩
    obtain ⟨y1, hy1⟩ : ∃ y, y = ctS (L.take k) 1 := ⟨_, rfl⟩
    obtain ⟨y2, hy2⟩ : ∃ y, y = ctS (L.take k) 2 := ⟨_, rfl⟩
    rw [← hy0] at z0 n0
    rw [← hy1] at z1 n1
    rw [← hy2] at z2 n2
    have HY0 := hidOg hy0
    have HY1 := hidOg hy1
    have HY2 := hidOg hy2
    clear hC hB hR hy0 hy1 hy2
    by_cases hlt : k < n
    · obtain ⟨b, off, rfl, hbN, hcs⟩ := HE.out (by have := HN.out; omega)
      have k0 := (HB.out.cell (p := ⟨b, off + k * 3, none⟩) hbN).trans (hcs k (by have := HN.out; omega)).1
      have hs := HST.out k (by have := HN.out; omega)
      have HT : Hid (L.take (k + 1) = L.take k ++ [gE L k]) := take_succ_gE (by have := HN.out; omega)
      clear hcs
      rcases hs with e | e | e
      · have HEe := hidOg e
        rw [e] at k0
        clear e
        go_wp2
        go_roundw
        case rel => exact ⟨k + 1, by omega, by go_num, by rw [HT.out, HY0.out]; exact ct3_set0 HC.out HEe.out, HB.out.setCell (p := ⟨w.heap.size + 1, 0, none⟩) (by simp) _, by rw [heap_setCell_other _ _ _ _ (by simp)]; exact HR.out⟩
        case measure => simp [intOf]; omega
      · have HEe := hidOg e
        rw [e] at k0
        clear e
        go_wp2
        go_roundw
        case rel => exact ⟨k + 1, by omega, by go_num, by rw [HT.out, HY1.out]; exact ct3_set1 HC.out HEe.out, HB.out.setCell (p := ⟨w.heap.size + 1, 1, none⟩) (by simp) _, by rw [heap_setCell_other _ _ _ _ (by simp)]; exact HR.out⟩
        case measure => simp [intOf]; omega
      · have HEe := hidOg e
        rw [e] at k0
        clear e
        go_wp2
        go_roundw
        case rel => exact ⟨k + 1, by omega, by go_num, by rw [HT.out, HY2.out]; exact ct3_set2 HC.out HEe.out, HB.out.setCell (p := ⟨w.heap.size + 1, 2, none⟩) (by simp) _, by rw [heap_setCell_other _ _ _ _ (by simp)]; exact HR.out⟩
        case measure => simp [intOf]; omega
    · obtain rfl : k = n := by omega
      have r0 : wr.cell? ⟨w.heap.size, 0, none⟩ = some (.int .i64 0) := by simp [World.cell?, HR.out]
      have r1 : wr.cell? ⟨w.heap.size, 1, none⟩ = some (.int .i64 0) := by simp [World.cell?, HR.out]
      have r2 : wr.cell? ⟨w.heap.size, 2, none⟩ = some (.int .i64 0) := by simp [World.cell?, HR.out]
      have rf : ∀ o, wr.frozen? ⟨w.heap.size, o, none⟩ = false := fun o => by simp [World.frozen?, HR.out]
      have HTk : Hid (L.take k = L) := by unfold Hid; rw [HN.out, List.take_length]
      go_wp2
      refine bodyPost_ret (v := .agg #[.int .i64 (y0 : Nat), .int .i64 (y1 : Nat), .int .i64 (y2 : Nat)]) (by simp [results, Try.results39, go_sem, r0, r1, r2]) rfl ⟨?_, ?_⟩
      · rw [HY0.out, HY1.out, HY2.out, HTk.out]
      · exact ((HB.out.setCell (p := ⟨w.heap.size, 0, none⟩) (by simp) _).setCell (p := ⟨w.heap.size, 1, none⟩) (by simp) _).setCell (p := ⟨w.heap.size, 2, none⟩) (by simp) _
/-- So many slots are enough. -/
def enN (m u : Nat) : Nat := if u ≤ m / 4 * 3 then m else 2 * m
theorem enough48 (m u : Nat) (hm : m ≤ 1000) (hu : u ≤ 4000) (h2 : u ≤ 2 * m / 4 * 3) (w : World) : Calls Try.prog 48 #[.int .i64 (m : Int), .int .i64 (u : Int)] w fun e w' => e = .returned (.int .i64 ((enN m u : Nat) : Int)) ∧ w' = w := by
  obtain ⟨r, hr⟩ : ∃ r, r = enN m u := ⟨_, rfl⟩
  have HR : Hid (r = enN m u) := hr
  rw [← hr]
  clear hr
  go_enter Try.func48, Try.ntmps48
  go_wp2
  go_loopw [0] (fun x wr => ∃ k : Nat, x = .int .i64 (k : Int) ∧ (k = m ∨ (k = 2 * m ∧ ¬ u ≤ m / 4 * 3)) ∧ wr = w) (fun x _ => 2 * m + 1 - (intOf x).toNat)
  case atStart => exact ⟨m, rfl, .inl rfl, rfl⟩
  case round =>
    obtain ⟨k, rfl, hk, rfl⟩ := hrel
    by_cases h : u ≤ k / 4 * 3
    · have CC := fun (W : World) => hasRoom45 k u (by omega) W
      have hb : hrB k u = true := by unfold hrB; simp [hu, h]
      rw [hb] at CC
      have E : Hid (r = k) := by
        unfold Hid; rw [HR.out]; unfold enN
        rcases hk with rfl | ⟨rfl, hn⟩
        · rw [if_pos h]
        · rw [if_neg hn]
      clear hb hk
      go_wp2_with (first | (go_at_call 45; refine Calls.mono (CC _) ?_; rintro e w1 ⟨rfl, hw⟩; rw [hw]; clear hw w1))
      go_ret
      exact ⟨ret_int (by rw [E.out]), rfl⟩
    · have hk' : k = m := by rcases hk with rfl | ⟨rfl, _⟩; { rfl }; { exact absurd h2 h }
      subst hk'
      have CC := fun (W : World) => hasRoom45 k u (by omega) W
      have hb : hrB k u = false := by unfold hrB; simp [h]
      rw [hb] at CC
      have h0 : 0 < k := by omega
      clear hb hk
      go_wp2_with (first | (go_at_call 45; refine Calls.mono (CC _) ?_; rintro e w1 ⟨rfl, hw⟩; rw [hw]; clear hw w1))
      go_roundw
      case rel => exact ⟨2 * k, by go_num, .inr ⟨rfl, h⟩, by trivial⟩
      case measure => simp [intOf]; omega
end Go.Proofs.Ytjnhalomkmdcgaa
