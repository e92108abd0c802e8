/- Entities and their parts; one more is taken, in plain words. -/
import Derived.Test.YtaglhajlgnjhcaaDoorPlB
import Derived.Test.YtaglhajlgnjhcaaDoorAlV
namespace Go.Proofs.YtaglhajlgnjhcaaDoor
open Go.RowKit

theorem isHd_eq {x n : Int} (h : isHd x n = true) : fH x = n ∧ fS x = 0 := by simpa [isHd] using h
theorem x_eq (x : Int) (h : fS x = 0) : x = mk (fH x) (fA x) (fB x) := by
  unfold fS at h; unfold mk fH fA fB; omega
theorem fH_mk (h a b : Int) (a0 : 0 ≤ a) (a1 : a < 1073741824) (b0 : 0 ≤ b) (b1 : b < 1073741824) : fH (mk h a b) = h := by unfold fH mk; omega
theorem fA_mk (h a b : Int) (a0 : 0 ≤ a) (a1 : a < 1073741824) (b0 : 0 ≤ b) (b1 : b < 1073741824) : fA (mk h a b) = a := by unfold fA mk; omega
theorem fB_mk (h a b : Int) (_a0 : 0 ≤ a) (_a1 : a < 1073741824) (b0 : 0 ≤ b) (b1 : b < 1073741824) : fB (mk h a b) = b := by unfold fB mk; omega
theorem fS_mk (h a b : Int) (_a0 : 0 ≤ a) (_a1 : a < 1073741824) (b0 : 0 ≤ b) (b1 : b < 1073741824) : fS (mk h a b) = 0 := by unfold fS mk; omega
theorem kind1 {x : Int} (k : kindOf x = 1) : isEnt x = true := by
  unfold kindOf at k
  cases h1 : isEnt x <;> cases h2 : isCom x <;> cases h3 : isPai x <;> cases h4 : isPat x <;> simp [h1, h2, h3, h4] at k ⊢
theorem ent_is {x : Int} (k : kindOf x = 1) : p1 x = fB x ∧ p2 x = fA x ∧ inR 1 1048578 (fB x) = true ∧ inR 0 7 (fA x) = true ∧ x = mk 0 (fA x) (fB x) := by
  have h := kind1 k
  unfold isEnt at h
  rw [Bool.and_eq_true, Bool.and_eq_true] at h
  obtain ⟨⟨h1, h2⟩, h3⟩ := h
  obtain ⟨e1, e2⟩ := isHd_eq h1
  refine ⟨by simp [p1, k], by simp [p2, k], h3, h2, ?_⟩
  have := x_eq x e2; rw [e1] at this; exact this
theorem kind_ent (i g : Int) (h : entB i g = true) : kindOf (mk 0 g i) = 1 := by
  unfold entB at h; rw [Bool.and_eq_true] at h
  have a := inR_le h.1
  have b := inR_le h.2
  have e1 := fH_mk 0 g i (by omega) (by omega) (by omega) (by omega)
  have e2 := fA_mk 0 g i (by omega) (by omega) (by omega) (by omega)
  have e3 := fB_mk 0 g i (by omega) (by omega) (by omega) (by omega)
  have e4 := fS_mk 0 g i (by omega) (by omega) (by omega) (by omega)
  simp [kindOf, isEnt, isHd, e1, e2, e3, e4, h.1, h.2]

theorem entB_of {i g : Int} (h1 : 1 ≤ i) (h2 : i ≤ 1048578) (h3 : 0 ≤ g) (h4 : g ≤ 7) : entB i g = true := by simp [entB, inR, h1, h2, h3, h4]
/-- The entity of an index and a generation: a number, and its parts. -/
theorem ent_parts {i g : Int} (h1 : 1 ≤ i) (h2 : i ≤ 1048578) (h3 : 0 ≤ g) (h4 : g ≤ 7) : entV i g = g * 4294967296 + i ∧ kindOf (entV i g) = 1 ∧ p1 (entV i g) = i ∧ p2 (entV i g) = g := by
  have hb := entB_of h1 h2 h3 h4
  have e : entV i g = mk 0 g i := by unfold entV; rw [hb]; rfl
  have hk := kind_ent i g hb
  have hi := ent_is hk
  rw [e]
  refine ⟨by unfold mk; omega, hk, ?_, ?_⟩
  · rw [hi.1]; exact fB_mk 0 g i (by omega) (by omega) (by omega) (by omega)
  · rw [hi.2.1]; exact fA_mk 0 g i (by omega) (by omega) (by omega) (by omega)
theorem lives_ent {l : List (Int × Bool)} {j : Nat} {g : Int} (h2 : (j : Int) + 1 ≤ 1048578) (h3 : 0 ≤ g) (h4 : g ≤ 7) : livesB l (entV ((j : Int) + 1) g) = (decide (j < l.length) && (decide (sG l j = g) && sA l j)) := by
  obtain ⟨_, hk, hp, hq⟩ := ent_parts (i := (j : Int) + 1) (by omega) h2 h3 h4
  unfold livesB
  rw [hk, hp, hq]
  have e1 : ((j : Int) + 1 - 1).toNat = j := by omega
  have e2 : hasB l.length ((j : Int) + 1) = decide (j < l.length) := by
    unfold hasB
    rw [Bool.eq_iff_iff]; simp; omega
  rw [e1, e2]; simp

/-- One more is taken: of Free, or a new one. -/
def Nxt (m : Int) (l : List (Int × Bool)) (f : List Int) (l' : List (Int × Bool)) (f' : List Int) (x : Int) : Prop :=
  (∃ k j : Nat, f.length = k + 1 ∧ iG f k = (j : Int) + 1 ∧ j < l.length ∧ usB (sG l j) (sA l j) = true ∧ l' = l.set j (sG l j + 1, true) ∧ f' = f.take k ∧ x = entV ((j : Int) + 1) (sG l j + 1)) ∨
  (f.length = 0 ∧ (l.length : Int) < m + 2 ∧ l' = l ++ [(0, true)] ∧ f' = f ∧ x = entV ((l.length : Int) + 1) 0)
theorem Nxt.may {m : Int} {l : List (Int × Bool)} {f : List Int} {l' : List (Int × Bool)} {f' : List Int} {x : Int} (h : Nxt m l f l' f' x) (hm : mayB m l f = true) : mayB m l' f' = true := by
  rcases h with ⟨k, j, hf, hi, hj, hu, rfl, rfl, rfl⟩ | ⟨hf, hl, rfl, rfl, rfl⟩
  · exact mayB_again hm hf hi hj hu
  · exact mayB_further hm hf hl
theorem Nxt.len {m : Int} {l : List (Int × Bool)} {f : List Int} {l' : List (Int × Bool)} {f' : List Int} {x : Int} (h : Nxt m l f l' f' x) : (f'.length : Int) - l'.length = f.length - l.length - 1 ∧ f'.length ≤ f.length ∧ l'.length ≤ l.length + 1 := by
  rcases h with ⟨k, j, hf, hi, hj, hu, rfl, rfl, rfl⟩ | ⟨hf, hl, rfl, rfl, rfl⟩
  · simp; omega
  · simp; omega
theorem Nxt.id {m : Int} {l : List (Int × Bool)} {f : List Int} {l' : List (Int × Bool)} {f' : List Int} {x : Int} (h : Nxt m l f l' f' x) (hm : mayB m l f = true) : (0 ≤ x ∧ x < 18446744073709551616) ∧ livesB l x = false ∧ livesB l' x = true := by
  obtain ⟨m1, m2, m3, m4⟩ := mayB_most hm
  rcases h with ⟨k, j, hf, hi, hj, hu, rfl, rfl, rfl⟩ | ⟨hf, hl, rfl, rfl, rfl⟩
  · obtain ⟨t1, t2, t3⟩ := mayB_two hm hj hu
    have g0 := (mayB_slot hm j hj).1
    have he := (ent_parts (i := (j : Int) + 1) (g := sG l j + 1) (by omega) (by omega) (by omega) (by omega)).1
    refine ⟨by omega, ?_, ?_⟩
    · rw [lives_ent (by omega) (by omega) (by omega), t2]; simp
    · rw [lives_ent (by omega) (by omega) (by omega), (sG_set l j j _ hj).1, (sG_set l j j _ hj).2]; simp [hj]
  · have he := (ent_parts (i := (l.length : Int) + 1) (g := 0) (by omega) (by omega) (by omega) (by omega)).1
    refine ⟨by omega, ?_, ?_⟩
    · rw [lives_ent (by omega) (by omega) (by omega)]; simp
    · rw [lives_ent (by omega) (by omega) (by omega), (sG_last l _).1, (sG_last l _).2]; simp
theorem full_room {m : Int} {l : List (Int × Bool)} {f : List Int} (h : mayB m l f = true) (hc : cntM l = m + 2) : (f.length : Int) + m + 2 - l.length = 0 := by
  obtain ⟨m1, m2, m3, m4⟩ := mayB_most h
  have h1 := (mayB_parts h).2.2.1
  have h2 := cnt_us l l.length
  unfold cntM at hc
  omega
theorem take_ok {m : Int} {c d : Nat} {w : World} {p : Option Addr} {l : List (Int × Bool)} {q : Option Addr} {f : List Int} (h : AIn w p l q f) (hm : mayB m l f = true) (hr : 0 < (f.length : Int) + m + 2 - l.length) :
    ∃ l' f' x, Nxt m l f l' f' x ∧ Calls Tryd.prog 25 #[.agg #[.int .i64 m, .slice p l.length c, .slice q f.length d]] w fun e w' => ∃ G H, e = .returned (.tuple #[.agg #[.int .i64 m, .slice (some ⟨G, 0, none⟩) l'.length l'.length, .slice (some ⟨H, 0, none⟩) f'.length f'.length], .int .u64 x, .int .i64 0]) ∧ AOwn w w' G l' H f' := by
  have hc : ¬ cntM l = m + 2 := fun hc => by have := full_room hm hc; omega
  by_cases hf : f.length = 0
  · refine ⟨l ++ [(0, true)], f, _, .inr ⟨hf, by omega, rfl, rfl, rfl⟩, ?_⟩
    have := take_further m c d w p l q f h hm hc hf (by omega)
    simpa using this
  · obtain ⟨k, hk⟩ : ∃ k, f.length = k + 1 := ⟨f.length - 1, by omega⟩
    obtain ⟨j, hi, hj, hu⟩ := mayB_free hm k (by omega)
    refine ⟨l.set j (sG l j + 1, true), f.take k, _, .inl ⟨k, j, hk, hi, hj, hu, rfl, rfl, rfl⟩, ?_⟩
    have := take_again m c d w p l q f h hm hc k j hk hi hj
    have e1 : (l.set j (sG l j + 1, true)).length = l.length := by simp
    have e2 : (f.take k).length = k := by simp; omega
    rw [e1, e2]; exact this
/-- Where there is no room, Take says that it is full, or worn. -/
theorem take_none {m : Int} {c d : Nat} {w : World} {p : Option Addr} {l : List (Int × Bool)} {q : Option Addr} {f : List Int} (h : AIn w p l q f) (hm : mayB m l f = true) (hr : (f.length : Int) + m + 2 - l.length = 0) :
    ∃ n : Int, (n = 6 ∨ (n = 121 ∧ ((livN l l.length).length : Int) < m + 2)) ∧ Calls Tryd.prog 25 #[.agg #[.int .i64 m, .slice p l.length c, .slice q f.length d]] w fun e w' => e = .returned (.tuple #[.agg #[.int .i64 0, .slice none 0 0, .slice none 0 0], .int .u64 0, .int .i64 n]) ∧ Below w.heap.size w w' := by
  obtain ⟨m1, m2, m3, m4⟩ := mayB_most hm
  by_cases hc : cntM l = m + 2
  · exact ⟨6, .inl rfl, take_full m c d w p l q f h hm hc⟩
  · refine ⟨121, .inr ⟨rfl, ?_⟩, take_worn m c d w p l q f h hm hc (by omega) (by omega)⟩
    have := livN_len l l.length
    unfold cntM at hc
    omega
end Go.Proofs.YtaglhajlgnjhcaaDoor
