/- wellLaid, mayBe. -/
import Derived.Test.YtjnhalomkmdcgaaLuB
import Derived.Test.YtjnhalomkmdcgaaLuC
namespace Go.Proofs.Ytjnhalomkmdcgaa
open Go.RowKit
attribute [local instance] Classical.propDecidable

theorem skr_one {L : List En} {t : List Int} {i i' : Nat} {b' : Bool} (h : SkR L t i true) (h' : SkR L t i' b') : i' = i ∧ b' = true := by
  obtain ⟨_, j, hj, hg, hx⟩ := h
  obtain ⟨_, j', hj', hg', hx'⟩ := h'
  rcases hx with ⟨_, ei, hu, hty⟩ | ⟨hb, _⟩
  · rw [ei] at hu hty
    have hle : ¬ j' < j := fun hlt => by
      have := hg j' hlt
      rcases hx' with ⟨_, ei', hu', hty'⟩ | ⟨_, hz, _⟩
      · rw [ei'] at hu' hty'; exact this.2 ⟨hu', hty'⟩
      · exact this.1 hz
    have hge : ¬ j < j' := fun hlt => (hg' j hlt).2 ⟨hu, hty⟩
    obtain rfl : j = j' := by omega
    rcases hx' with ⟨hb', ei', _, _⟩ | ⟨_, hz, _⟩
    · exact ⟨ei'.trans ei.symm, hb'⟩
    · rw [hz] at hu; exact absurd hu (by decide)
  · cases hb
theorem wl_iff (L : List En) : (∀ i, i < L.length → (gE L i).1 = 1 → SkR L (gE L i).2.1 i true) ↔ Laid hsT L ∧ DT L := by
  constructor
  · intro h
    refine ⟨fun i hi hu => ?_, (dt_iff L).2 fun i k hi hk ui uk e => ?_⟩
    · obtain ⟨_, j, hj, hg, hx⟩ := h i hi hu
      rcases hx with ⟨_, ei, _, _⟩ | ⟨hb, _⟩
      · exact ⟨j, hj, ei.symm, fun k hk => (hg k hk).1⟩
      · cases hb
    · have h1 := h i hi ui
      have h2 := h k hk uk
      rw [← e] at h2
      exact ((skr_one h1 h2).1).symm
  · rintro ⟨hl, hd⟩ i hi hu
    obtain ⟨j, hj, ej, hf⟩ := look_some hd hl hi hu
    exact ⟨hi, j, hj, fun k hk => hf k hk, .inl ⟨rfl, ej.symm, hu, rfl⟩⟩
theorem st_of_ok {L : List En} (h : ∀ k, k < L.length → okE (gE L k) = true) : ST L := fun k hk => by
  have := h k hk
  unfold okE at this
  by_cases h1 : (gE L k).1 = 1
  · exact .inr (.inl h1)
  · rw [if_neg h1] at this
    simp at this
    rcases this.1 with h | h
    · exact .inl h
    · exact .inr (.inr h)
theorem ok_iff (L : List En) (i : Nat) : okE (gE L i) = true ↔ (((gE L i).1 = 0 ∨ (gE L i).1 = 2) ∧ (gE L i).2.1 = [] ∧ (gE L i).2.2 = 0 ∨ (gE L i).1 = 1 ∧ mayT (gE L i).2.1 = true ∧ 0 ≤ (gE L i).2.2) := by
  unfold okE
  by_cases h1 : (gE L i).1 = 1
  · rw [if_pos h1]; simp [h1, and_comm]
  · rw [if_neg h1]; simp [h1, and_comm, and_assoc]
theorem ta_ct : ∀ {L : List En}, (∀ x ∈ L, x.1 = 0 ∨ x.1 = 1 ∨ x.1 = 2) → taK L = ctS L 1 + ctS L 2
  | [], _ => rfl
  | x :: L, h => by
    have ih := ta_ct (L := L) (fun y hy => h y (List.mem_cons_of_mem _ hy))
    unfold taK ctS at *
    rcases h x (List.mem_cons_self ..) with e | e | e <;> simp [e] <;> omega
theorem ta_st {L : List En} (h : ST L) : taK L = ctS L 1 + ctS L 2 := ta_ct fun x hx => by
  obtain ⟨k, hk, rfl⟩ := mem_gE hx
  exact h k hk
/-- May these be a lookup's slots? -/
noncomputable def riB (L : List En) : Bool := decide (RiL hsT mayT L)
theorem riB_t {L : List En} (h : RiL hsT mayT L) : riB L = true := decide_eq_true h
theorem riB_f {L : List En} (h : ¬ RiL hsT mayT L) : riB L = false := decide_eq_false h
theorem riB_of {L : List En} (h : riB L = true) : RiL hsT mayT L := of_decide_eq_true h

theorem three_ways (bb : Bool) (i k : Nat) : bb = false ∨ (bb = true ∧ i = k) ∨ (bb = true ∧ ((i : Int) == (k : Int)) = false) := by
  cases bb
  · exact .inl rfl
  · by_cases h : i = k
    · exact .inr (.inl ⟨rfl, h⟩)
    · exact .inr (.inr ⟨rfl, by simp; omega⟩)
set_option maxRecDepth 20000 in
set_option maxHeartbeats 2000000 in
theorem wellLaid57 (p : Option Addr) (L : List En) (c : Nat) (w : World) (hE : ERow w.heap.size w p L) (hm : 0 < L.length) (hm2 : L.length ≤ 1000000) (hB : LB L) (hst : ST L) (hf : ∃ k, k < L.length ∧ (gE L k).1 = 0) :
    Calls Try.prog 57 #[.slice p L.length c] w fun e w' => ∃ r, e = .returned (.bool r) ∧ (r = true ↔ Laid hsT L ∧ DT L) ∧ Below w.heap.size w w' := by
  obtain ⟨n, hn⟩ : ∃ n, n = L.length := ⟨_, rfl⟩
  have HN := hidOg hn
  have HE := hidOg hE
  have CS := fun (W : World) (hb : Below w.heap.size w W) (q : Option Addr) (t : List Int) (d : Nat) (hT : TRow w.heap.size w q t d) (ht : t.length ≤ 1000) => seek40 p L c q t d W (hE.to hb) ((hT.below hb (Nat.le_refl _)).mono hb.size) hm hm2 hB ht hst hf
  have HLB := hidOg hB
  rw [← hn] at hm2 CS ⊢
  clear hn hE hst hB hf hm
  go_enter Try.func57, Try.ntmps57
  go_wp2
  go_loopw [9] (fun i wr => ∃ k : Nat, k ≤ n ∧ i = .int .i64 k ∧ (∀ i, i < k → (gE L i).1 = 1 → SkR L (gE L i).2.1 i true) ∧ Below w.heap.size w wr) (fun i _ => n - (intOf i).toNat)
  case atStart => exact ⟨0, Nat.zero_le _, rfl, fun i h => by omega, Below.refl _ _⟩
  case round =>
    obtain ⟨k, hk, rfl, hall, hB⟩ := hrel
    have HA := hidOg hall
    have HB := hidOg hB
    clear hall hB
    by_cases hlt : k < n
    · obtain ⟨b, off, rfl, hbN, hcs⟩ := HE.out (by have := HN.out; omega)
      obtain ⟨k0, ⟨qx, cx, k1, hTx⟩, k2⟩ := hcs k (by have := HN.out; omega)
      have k0' := (HB.out.cell (p := ⟨b, off + k * 3, none⟩) hbN).trans k0
      have k1' := (HB.out.cell (p := ⟨b, off + k * 3 + 1, none⟩) hbN).trans k1
      have k2' := (HB.out.cell (p := ⟨b, off + k * 3 + 2, none⟩) hbN).trans k2
      have CSk := fun (W : World) (hb : Below w.heap.size w W) => CS W hb qx (gE L k).2.1 cx hTx (HLB.out k (by have := HN.out; omega))
      have bAl := fun (o : Obj) => HB.out.trans (((Below.refl _ wr).alloc (Nat.le_refl _) o).mono HB.out.size)
      have HBA := hidOg bAl
      obtain ⟨la, hla⟩ : ∃ la, la = (gE L k).2.1.length := ⟨_, rfl⟩
      rw [← hla] at CSk k1'
      clear hla hcs k0 k1 k2 hTx CS bAl
      by_cases hu : (gE L k).1 = 1
      · have HU := hidOg hu
        rw [hu] at k0'
        clear hu
        go_wp2_with (first | (go_at_call 40; refine Calls.mono (CSk _ (HBA.out _)) ?_; rintro e w1 ⟨i, bb, rfl, hsk, hb1⟩; have HSK := hidOg hsk; clear hsk; have HB1 := hidOg hb1; clear hb1; rcases three_ways bb i k with rfl | ⟨rfl, rfl⟩ | ⟨rfl, hik⟩))
        · go_ret
          refine ⟨false, rfl, ⟨(fun h => by cases h), fun h => ?_⟩, (HBA.out _).trans (HB1.out.mono (HBA.out _).size)⟩
          have := (wl_iff L).2 h k (by have := HN.out; omega) HU.out
          exact absurd (skr_one this HSK.out).2 (by decide)
        · go_roundw
          case rel =>
            refine ⟨i + 1, by omega, by go_num, fun j hj hu => ?_, (HBA.out _).trans (HB1.out.mono (HBA.out _).size)⟩
            by_cases e : j = i
            · rw [e]; exact HSK.out
            · exact HA.out j (by omega) hu
          case measure => simp [intOf]; omega
        · go_ret
          refine ⟨false, rfl, ⟨(fun h => by cases h), fun h => ?_⟩, (HBA.out _).trans (HB1.out.mono (HBA.out _).size)⟩
          have := (wl_iff L).2 h k (by have := HN.out; omega) HU.out
          have e := (skr_one this HSK.out).1
          rw [e] at hik
          simp at hik
      · obtain ⟨s, hs⟩ : ∃ s, s = (gE L k).1 := ⟨_, rfl⟩
        rw [← hs] at k0' hu
        have HS := hidOg hs
        have hu' : (s == 1) = false := by simpa using hu
        have HNU := hidOg hu
        clear hs hu CSk
        go_wp2
        go_roundw
        case rel =>
          refine ⟨k + 1, by omega, by go_num, fun j hj hu => ?_, HBA.out _⟩
          by_cases e : j = k
          · rw [e, ← HS.out] at hu; exact absurd hu HNU.out
          · exact HA.out j (by omega) hu
        case measure => simp [intOf]; omega
    · obtain rfl : k = n := by omega
      go_wp2
      go_ret
      exact ⟨true, rfl, ⟨fun _ => (wl_iff L).1 (fun i hi => HA.out i (by rw [HN.out]; exact hi)), fun _ => rfl⟩, HB.out⟩
end Go.Proofs.Ytjnhalomkmdcgaa
