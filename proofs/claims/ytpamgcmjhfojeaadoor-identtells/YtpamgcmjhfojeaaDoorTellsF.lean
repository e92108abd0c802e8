/- Plain facts: the document's Read tells the id whose text it is handed, or none. -/
import Derived.Test.YtpamgcmjhfojeaaDoorTellsE
namespace Go.Proofs.YtpamgcmjhfojeaaDoor
open Go.RowKit

theorem digL_zero : digL 0 = [48] := by
  unfold digL
  exact (Lib.decDigits_one (i := 0) (by decide)).trans rfl
theorem nf_cons (c : UInt8) (cs : List UInt8) (n : Int) : nf (c :: cs) n = if (c.toNat : Int) < 48 ∨ 57 < (c.toNat : Int) ∨ 10000000 < n then none else nf cs (10 * n + ((c.toNat : Int) - 48)) := rfl

theorem dec_snoc (u d : Nat) (hu : 1 ≤ u) (hd : d < 10) : Lib.decDigits (10 * u + d) = Lib.decDigits u ++ [UInt8.ofNat (48 + d)] := by
  rw [Lib.decDigits, dif_neg (by omega)]
  have a : (10 * u + d) / 10 = u := by omega
  have b : (10 * u + d) % 10 = d := by omega
  rw [a, b]
theorem u8_back (c : UInt8) (h : 48 ≤ c.toNat) (h2 : c.toNat ≤ 57) : UInt8.ofNat (48 + (c.toNat - 48)) = c := by
  apply UInt8.toNat_inj.1; rw [UInt8.toNat_ofNat']; omega

theorem nf_from (cs : List UInt8) : ∀ (u : Nat) (v : Int), 1 ≤ u → nf cs (u : Int) = some v → 0 ≤ v ∧ Lib.decDigits v.toNat = Lib.decDigits u ++ cs := by
  induction cs with
  | nil =>
    intro u v hu h
    simp [nf] at h
    subst h
    exact ⟨by omega, by simp⟩
  | cons c cs ih =>
    intro u v hu h
    rw [nf_cons] at h
    split at h
    · cases h
    · rename_i hb
      have e : 10 * (u : Int) + ((c.toNat : Int) - 48) = ((10 * u + (c.toNat - 48) : Nat) : Int) := by omega
      rw [e] at h
      obtain ⟨h0, hd⟩ := ih _ v (by omega) h
      refine ⟨h0, ?_⟩
      rw [hd, dec_snoc u (c.toNat - 48) hu (by omega), u8_back c (by omega) (by omega), List.append_assoc]
      rfl

/-- A text of which a number is read is that number's digits. -/
theorem numF_back (l : List UInt8) (v : Int) (h0 : 0 ≤ v) (h : numF l = v) : l = digL v := by
  unfold numF at h
  cases hn : nf l 0 with
  | none => rw [hn] at h; simp at h; omega
  | some n =>
    rw [hn] at h
    simp only at h
    split at h
    · omega
    · rename_i hc
      subst h
      match l, hn, hc with
      | [], _, hc => exact absurd (Or.inl rfl) hc
      | c :: cs, hn, hc =>
        rw [nf_cons] at hn
        split at hn
        · cases hn
        · rename_i hb
          by_cases h48 : c.toNat = 48
          · have ec : c = 48 := u8_48 c (by omega)
            subst ec
            have hcs : (48 : UInt8) :: cs = [48] := by
              apply Classical.byContradiction
              intro hne
              exact hc (Or.inr ⟨rfl, hne⟩)
            simp at hcs
            subst hcs
            simp [nf] at hn
            subst hn
            exact digL_zero.symm
          · have e : 10 * (0 : Int) + ((c.toNat : Int) - 48) = ((c.toNat - 48 : Nat) : Int) := by omega
            rw [e] at hn
            obtain ⟨_, hd⟩ := nf_from cs (c.toNat - 48) n (by omega) hn
            unfold digL
            rw [hd, Lib.decDigits, dif_pos (by omega), u8_back c (by omega) (by omega)]
            rfl

theorem nf_dec (u : Nat) : ∀ (rest : List UInt8), u ≤ 1048578 → nf (Lib.decDigits u ++ rest) 0 = nf rest u := by
  induction u using Nat.strongRecOn with
  | ind u ih =>
    intro rest hu
    rw [Lib.decDigits]
    split
    · rename_i h
      rw [List.singleton_append, nf_cons, dig_toNat u h, if_neg (by omega)]
      have e : 10 * (0 : Int) + (((48 + u : Nat) : Int) - 48) = (u : Int) := by omega
      rw [e]
    · rename_i h
      rw [List.append_assoc, ih (u / 10) (by omega) _ (by omega), List.singleton_append, nf_cons, dig_toNat (u % 10) (by omega), if_neg (by omega)]
      have e : 10 * ((u / 10 : Nat) : Int) + (((48 + u % 10 : Nat) : Int) - 48) = (u : Int) := by omega
      rw [e]
theorem dec_head (u : Nat) : 1 ≤ u → ∃ c cs, Lib.decDigits u = c :: cs ∧ 49 ≤ c.toNat ∧ c.toNat ≤ 57 := by
  induction u using Nat.strongRecOn with
  | ind u ih =>
    intro hu
    rw [Lib.decDigits]
    split
    · rename_i h
      exact ⟨_, [], rfl, by rw [dig_toNat u h]; omega, by rw [dig_toNat u h]; omega⟩
    · obtain ⟨c, cs, e, h1, h2⟩ := ih (u / 10) (by omega) (by omega)
      rw [e]
      exact ⟨c, _, rfl, h1, h2⟩
theorem numF_digL (v : Int) (h0 : 0 ≤ v) (h1 : v ≤ 1048578) : numF (digL v) = v := by
  have hn := nf_dec v.toNat [] (by omega)
  rw [List.append_nil] at hn
  have hn' : nf (digL v) 0 = some v := by
    unfold digL; rw [hn]; simp [nf]; omega
  rw [numF_some hn', if_neg]
  by_cases hz : v = 0
  · subst hz
    intro h
    revert h
    rw [digL_zero]; simp
  · obtain ⟨c, cs, e, h2, _⟩ := dec_head v.toNat (by omega)
    unfold digL
    rw [e]
    rintro (a | ⟨a, _⟩)
    · cases a
    · simp at a; subst a; revert h2; decide
theorem anyF_partL (v : Int) (h0 : 0 ≤ v) (h1 : v ≤ 1048578) : anyF (partL v) = v := by
  unfold partL
  split
  · rename_i h; subst h; rfl
  · rename_i h
    unfold anyF
    obtain ⟨c, cs, e, h2, h3⟩ := dec_head v.toNat (by omega)
    have hd : digL v = c :: cs := e
    rw [if_neg (by rw [hd]; intro a; simp at a; rw [a.1] at h2; revert h2; decide), if_neg (by rw [hd]; intro a; simp at a; rw [a.1] at h2; revert h2; decide)]
    exact numF_digL v h0 h1
theorem anyF_back (l : List UInt8) (v : Int) (h0 : 0 ≤ v) (h : anyF l = v) : l = partL v := by
  unfold anyF at h
  split at h
  · rename_i a; subst h; rw [a]; rfl
  · split at h
    · omega
    · rename_i b
      have e := numF_back l v h0 h
      by_cases hz : v = 0
      · subst hz
        exfalso; apply b; rw [e]; exact digL_zero
      · unfold partL; rw [if_neg hz]; exact e

theorem cutF_back (c : UInt8) : ∀ (l x y : List UInt8), cutF (c.toNat : Int) l = some (x, y) → l = x ++ c :: y := by
  intro l
  induction l with
  | nil => intro x y h; simp [cutF] at h
  | cons b bs ih =>
    intro x y h
    rw [cutF] at h
    split at h
    · rename_i e
      simp at h
      obtain ⟨rfl, rfl⟩ := h
      have : b = c := UInt8.toNat_inj.1 (by omega)
      rw [this]; rfl
    · simp only [Option.map_eq_some_iff, Prod.mk.injEq] at h
      obtain ⟨⟨p, q⟩, hp, rfl, rfl⟩ := h
      rw [ih p q hp]; rfl
theorem cutF_at (c : UInt8) (x y : List UInt8) (h : ∀ b ∈ x, b ≠ c) : cutF (c.toNat : Int) (x ++ c :: y) = some (x, y) := by
  induction x with
  | nil => simp [cutF]
  | cons b bs ih =>
    have hb : ¬ (b.toNat : Int) = (c.toNat : Int) := by
      intro e; exact h b (by simp) (UInt8.toNat_inj.1 (by omega))
    rw [List.cons_append, cutF, if_neg hb, ih (fun b' hb' => h b' (by simp [hb']))]
    rfl
theorem dec_digit (u : Nat) : ∀ c ∈ Lib.decDigits u, 48 ≤ c.toNat ∧ c.toNat ≤ 57 := by
  induction u using Nat.strongRecOn with
  | ind u ih =>
    intro c hc
    rw [Lib.decDigits] at hc
    split at hc
    · rename_i h
      rw [List.mem_singleton] at hc; subst hc; rw [dig_toNat u h]; omega
    · rename_i h
      rw [List.mem_append] at hc
      rcases hc with hc | hc
      · exact ih _ (by omega) c hc
      · rw [List.mem_singleton] at hc; subst hc; rw [dig_toNat (u % 10) (by omega)]; omega
theorem digL_no (v : Int) : ∀ b ∈ digL v, b ≠ (46 : UInt8) := by
  intro b hb e; have := dec_digit _ b hb; rw [e] at this; revert this; decide
theorem partL_no (v : Int) : ∀ b ∈ partL v, b ≠ (58 : UInt8) := by
  intro b hb e
  unfold partL at hb
  split at hb
  · simp at hb; rw [hb] at e; revert e; decide
  · have := dec_digit _ b hb; rw [e] at this; revert this; decide

/-- Of an id's text the document's Read tells that id. -/
theorem refF_text (x : Int) (k : kindOf x ≠ 0) : refF (textOf x).data.toList = x := by
  rw [text_list]
  have m := made_parts x k
  rcases kind_cases x with h | h | h | h | h
  · exact absurd h k
  · obtain ⟨a, b, c, d, e⟩ := ent_is h
    have c' := inR_le c
    have d' := inR_le d
    simp only [h, if_true]
    have hc : cutF 46 (digL (p1 x) ++ (46 : UInt8) :: digL (p2 x)) = some (digL (p1 x), digL (p2 x)) := cutF_at 46 _ _ (digL_no _)
    rw [refF_101 rfl _ _ true (Or.inl ⟨rfl, hc⟩), numF_digL (p1 x) (by omega) (by omega), numF_digL (p2 x) (by omega) (by omega), a, b, c, d]
    exact e.symm
  · obtain ⟨a, b, c, e⟩ := com_is h
    have c' := inR_le c
    simp only [h]
    show refF (99 :: digL (p1 x)) = x
    have r : refF (99 :: digL (p1 x)) = if inR 1 24 (numF (digL (p1 x))) then mk 1 0 (numF (digL (p1 x))) else 0 := rfl
    rw [r, numF_digL (p1 x) (by omega) (by omega), a, c]
    exact e.symm
  all_goals
    have hb : p1 x = fA x ∧ p2 x = fB x ∧ (0 ≤ p1 x ∧ p1 x ≤ 1048578) ∧ (0 ≤ p2 x ∧ p2 x ≤ 1048578) ∧ x = mk 2 (fA x) (fB x) := by
      first
        | (obtain ⟨a, b, c, d, e⟩ := pai_is h
           have c' := inR_le c
           have d' := inR_le d
           exact ⟨a, b, by omega, by omega, e⟩)
        | (obtain ⟨a, b, c, d, _, e⟩ := pat_is h
           have c' := inR_le c
           have d' := inR_le d
           exact ⟨a, b, by omega, by omega, e⟩)
    obtain ⟨a, b, c, d, e⟩ := hb
    simp only [h]
    show refF (112 :: (partL (p1 x) ++ (58 : UInt8) :: partL (p2 x))) = x
    have hc : cutF 58 (partL (p1 x) ++ (58 : UInt8) :: partL (p2 x)) = some (partL (p1 x), partL (p2 x)) := cutF_at 58 _ _ (partL_no _)
    have i1 : inR 0 1048578 (p1 x) = true := by simp [inR]; omega
    have i2 : inR 0 1048578 (p2 x) = true := by simp [inR]; omega
    rw [refF_112 rfl _ _ true (Or.inl ⟨rfl, hc⟩), anyF_partL (p1 x) (by omega) (by omega), anyF_partL (p2 x) (by omega) (by omega), i1, i2, a, b]
    exact e.symm

/-- What the document's Read tells is an id, and has the text. -/
theorem refF_back (l : List UInt8) (h : refF l ≠ 0) : kindOf (refF l) ≠ 0 ∧ (textOf (refF l)).data.toList = l := by
  match l, h with
  | [], h => exact absurd rfl h
  | c :: t, h =>
    by_cases c1 : c = 101
    · subst c1
      cases hc : cutF 46 t with
      | none => rw [refF_101 rfl [] [] false (Or.inr ⟨rfl, hc⟩)] at h; exact absurd rfl h
      | some p =>
        obtain ⟨x, y⟩ := p
        have r := refF_101 (l := 101 :: t) rfl x y true (Or.inl ⟨rfl, hc⟩)
        cases hb : (inR 1 1048578 (numF x) && inR 0 7 (numF y))
        · rw [r, hb] at h; exact absurd rfl h
        · rw [r, hb]
          show kindOf (mk 0 (numF y) (numF x)) ≠ 0 ∧ (textOf (mk 0 (numF y) (numF x))).data.toList = 101 :: t
          have kk := kind_ent (numF x) (numF y) hb
          rw [Bool.and_eq_true] at hb
          have b1 := inR_le hb.1
          have b2 := inR_le hb.2
          have q1 : p1 (mk 0 (numF y) (numF x)) = numF x := by rw [(ent_is kk).1]; exact fB_mk 0 _ _ (by omega) (by omega) (by omega) (by omega)
          have q2 : p2 (mk 0 (numF y) (numF x)) = numF y := by rw [(ent_is kk).2.1]; exact fA_mk 0 _ _ (by omega) (by omega) (by omega) (by omega)
          refine ⟨by rw [kk]; decide, ?_⟩
          rw [text_list, if_pos kk, q1, q2, ← numF_back x _ (by omega) rfl, ← numF_back y _ (by omega) rfl, cutF_back 46 t x y hc]
    · by_cases c2 : c = 99
      · subst c2
        have r : refF (99 :: t) = if inR 1 24 (numF t) then mk 1 0 (numF t) else 0 := rfl
        cases hb : inR 1 24 (numF t)
        · rw [r, hb] at h; exact absurd rfl h
        · rw [r, hb]
          show kindOf (mk 1 0 (numF t)) ≠ 0 ∧ (textOf (mk 1 0 (numF t))).data.toList = 99 :: t
          have kk := kind_com (numF t) hb
          have b1 := inR_le hb
          have q1 : p1 (mk 1 0 (numF t)) = numF t := by rw [(com_is kk).1]; exact fB_mk 1 _ _ (by omega) (by omega) (by omega) (by omega)
          refine ⟨by rw [kk]; decide, ?_⟩
          rw [text_list, if_neg (by rw [kk]; decide), if_pos kk, q1, ← numF_back t _ (by omega) rfl]
      · by_cases c3 : c = 112
        · subst c3
          cases hc : cutF 58 t with
          | none => rw [refF_112 rfl [] [] false (Or.inr ⟨rfl, hc⟩)] at h; exact absurd rfl h
          | some p =>
            obtain ⟨x, y⟩ := p
            have r := refF_112 (l := 112 :: t) rfl x y true (Or.inl ⟨rfl, hc⟩)
            cases hb : (inR 0 1048578 (anyF x) && inR 0 1048578 (anyF y))
            · rw [r, hb] at h; exact absurd rfl h
            · rw [r, hb]
              show kindOf (mk 2 (anyF x) (anyF y)) ≠ 0 ∧ (textOf (mk 2 (anyF x) (anyF y))).data.toList = 112 :: t
              have kk := kind_pai (anyF x) (anyF y) hb
              rw [Bool.and_eq_true] at hb
              have b1 := inR_le hb.1
              have b2 := inR_le hb.2
              have f1 : fA (mk 2 (anyF x) (anyF y)) = anyF x := fA_mk 2 _ _ (by omega) (by omega) (by omega) (by omega)
              have f2 : fB (mk 2 (anyF x) (anyF y)) = anyF y := fB_mk 2 _ _ (by omega) (by omega) (by omega) (by omega)
              have k34 : kindOf (mk 2 (anyF x) (anyF y)) = 3 ∨ kindOf (mk 2 (anyF x) (anyF y)) = 4 := by
                rw [kk]; split <;> simp
              have q1 : p1 (mk 2 (anyF x) (anyF y)) = anyF x := by
                rcases k34 with k | k
                · rw [(pai_is k).1]; exact f1
                · rw [(pat_is k).1]; exact f1
              have q2 : p2 (mk 2 (anyF x) (anyF y)) = anyF y := by
                rcases k34 with k | k
                · rw [(pai_is k).2.1]; exact f2
                · rw [(pat_is k).2.1]; exact f2
              refine ⟨by rcases k34 with k | k <;> rw [k] <;> decide, ?_⟩
              rw [text_list, if_neg (by rcases k34 with k | k <;> rw [k] <;> decide), if_neg (by rcases k34 with k | k <;> rw [k] <;> decide), if_pos k34, q1, q2, ← anyF_back x _ (by omega) rfl, ← anyF_back y _ (by omega) rfl, cutF_back 58 t x y hc]
        · exact absurd (refF_else c t c1 c2 c3) h

/-- Both answers to a text are one. -/
theorem read_both {s : ByteArray} {v er : Int} (h : ReadIs s v er) : v = refF s.data.toList ∧ ((er = 0 ∧ (refF s.data.toList != 0) = true) ∨ (er = 110 ∧ (refF s.data.toList != 0) = false)) := by
  rcases h with ⟨e, k, t, _⟩ | ⟨e, f, n⟩
  · have r : refF s.data.toList = v := by rw [← t]; exact refF_text v k
    rw [r]
    refine ⟨rfl, Or.inl ⟨e, bne_iff_ne.2 ?_⟩⟩
    intro z; subst z; exact k (by decide)
  · have r : refF s.data.toList = 0 := by
      apply Classical.byContradiction
      intro hne
      obtain ⟨a, b⟩ := refF_back _ hne
      exact n _ a (byteArray_ext b)
    rw [r]
    exact ⟨f, Or.inr ⟨e, rfl⟩⟩
end Go.Proofs.YtpamgcmjhfojeaaDoor
