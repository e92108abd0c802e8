/- Plain facts: reading the text of an id gives that id; unlike ids have unlike texts. -/
import Derived.Test.YtpamgcmjhfojeaaDoorPlainB
namespace Go.Proofs.YtpamgcmjhfojeaaDoor
open Go.RowKit

/-- reading a row of bytes that are all below 128 -/
def lr : List UInt8 → Nat → Int → Int → Int → Int → Int × Int × Int × Int
  | [], _, k, p, a, b => (k, p, a, b)
  | c :: cs, pos, k, p, a, b => if (gstep pos (c.toNat : Int) k p a b).1 then (gstep pos (c.toNat : Int) k p a b).2 else
      lr cs (pos + 1) (gstep pos (c.toNat : Int) k p a b).2.1 (gstep pos (c.toNat : Int) k p a b).2.2.1 (gstep pos (c.toNat : Int) k p a b).2.2.2.1 (gstep pos (c.toNat : Int) k p a b).2.2.2.2

theorem gr_lr {s : ByteArray} (hA : ∀ c ∈ s.data.toList, c.toNat < 128) {pos : Nat} {k p a b : Int} {f : Int × Int × Int × Int} (h : GR s pos k p a b f) : f = lr (s.data.toList.drop pos) pos k p a b := by
  refine h (fun pos k p a b f => f = lr (s.data.toList.drop pos) pos k p a b) ⟨?_, ?_, ?_⟩
  · intro pos k p a b hn
    rw [List.drop_eq_nil_of_le (by have : s.data.toList.length = s.size := rfl; omega)]; rfl
  · intro pos k p a b k' p' a' b' hlt hg
    have hl : pos < s.data.toList.length := hlt
    rw [List.drop_eq_getElem_cons hl]
    have e : s.data.toList[pos] = s[pos] := rfl
    rw [decode_ascii s pos hlt (hA _ (by rw [← e]; exact List.getElem_mem _))] at hg
    unfold lr
    rw [e, hg]; rfl
  · intro pos k p a b k' p' a' b' f hlt hg ih
    have hl : pos < s.data.toList.length := hlt
    rw [List.drop_eq_getElem_cons hl]
    have e : s.data.toList[pos] = s[pos] := rfl
    have ea : Utf8.decode s pos = ((s[pos]'hlt).toNat, 1) := decode_ascii s pos hlt (hA _ (by rw [← e]; exact List.getElem_mem _))
    rw [ea] at hg ih
    unfold lr
    rw [e, hg]; exact ih

theorem dig_toNat (d : Nat) (h : d < 10) : (UInt8.ofNat (48 + d)).toNat = 48 + d := by
  rw [UInt8.toNat_ofNat']; omega

theorem lr_cons (c : UInt8) (cs : List UInt8) (pos : Nat) (k p a b k' p' a' b' : Int) (h : gstep pos (c.toNat : Int) k p a b = (false, k', p', a', b')) : lr (c :: cs) pos k p a b = lr cs (pos + 1) k' p' a' b' := by
  rw [lr, h]; rfl

theorem lr_dig0 (d : Nat) (hd : d < 10) (rest : List UInt8) (pos : Nat) (hp : 0 < pos) (k a b : Int) (h : 10 * a + d ≤ 1048578) : lr (UInt8.ofNat (48 + d) :: rest) pos k 0 a b = lr rest (pos + 1) k 0 (10 * a + d) b := by
  apply lr_cons
  rw [dig_toNat d hd]
  unfold gstep
  rw [if_neg (by omega), if_pos (by omega), if_pos rfl]
  have e : ((48 + d : Nat) : Int) - 48 = d := by omega
  rw [e]
  simp; omega
theorem lr_dig1 (d : Nat) (hd : d < 10) (rest : List UInt8) (pos : Nat) (hp : 0 < pos) (k a b : Int) (h : 10 * b + d ≤ 1048578) : lr (UInt8.ofNat (48 + d) :: rest) pos k 1 a b = lr rest (pos + 1) k 1 a (10 * b + d) := by
  apply lr_cons
  rw [dig_toNat d hd]
  unfold gstep
  rw [if_neg (by omega), if_pos (by omega), if_neg (by omega)]
  have e : ((48 + d : Nat) : Int) - 48 = d := by omega
  rw [e]
  simp; omega

theorem lr_num0 (u : Nat) : ∀ (rest : List UInt8) (pos : Nat) (k b : Int), 0 < pos → u ≤ 1048578 → lr (Lib.decDigits u ++ rest) pos k 0 0 b = lr rest (pos + (Lib.decDigits u).length) k 0 u b := by
  induction u using Nat.strongRecOn with
  | ind u ih =>
    intro rest pos k b hp hu
    rw [Lib.decDigits]
    split
    · rename_i h
      rw [List.singleton_append, lr_dig0 u h rest pos hp k 0 b (by omega)]
      simp
    · rename_i h
      rw [List.append_assoc, ih (u / 10) (by omega) _ pos k b hp (by omega), List.singleton_append, lr_dig0 (u % 10) (by omega) rest _ (by omega) k _ b (by omega)]
      have e : 10 * ((u / 10 : Nat) : Int) + ((u % 10 : Nat) : Int) = (u : Int) := by omega
      rw [e, List.length_append]; rfl
theorem lr_num1 (u : Nat) : ∀ (rest : List UInt8) (pos : Nat) (k a : Int), 0 < pos → u ≤ 1048578 → lr (Lib.decDigits u ++ rest) pos k 1 a 0 = lr rest (pos + (Lib.decDigits u).length) k 1 a u := by
  induction u using Nat.strongRecOn with
  | ind u ih =>
    intro rest pos k a hp hu
    rw [Lib.decDigits]
    split
    · rename_i h
      rw [List.singleton_append, lr_dig1 u h rest pos hp k a 0 (by omega)]
      simp
    · rename_i h
      rw [List.append_assoc, ih (u / 10) (by omega) _ pos k a hp (by omega), List.singleton_append, lr_dig1 (u % 10) (by omega) rest _ (by omega) k a _ (by omega)]
      have e : 10 * ((u / 10 : Nat) : Int) + ((u % 10 : Nat) : Int) = (u : Int) := by omega
      rw [e, List.length_append]; rfl

/-- the digits' bytes, and a part's -/
def digL (n : Int) : List UInt8 := Lib.decDigits n.toNat
def partL (n : Int) : List UInt8 := if n = 0 then [42] else digL n
theorem digS_list (n : Int) (h : 0 ≤ n) : (digS n).data.toList = digL n := by
  unfold digS digL Lib.itoa; rw [if_neg (by omega)]
theorem partS_list (n : Int) (h : 0 ≤ n) : (partS n).data.toList = partL n := by
  unfold partS partL; split
  · rfl
  · exact digS_list n h
theorem lr_digL0 (n : Int) (h0 : 0 ≤ n) (h1 : n ≤ 1048578) (rest : List UInt8) (pos : Nat) (hp : 0 < pos) (k b : Int) : lr (digL n ++ rest) pos k 0 0 b = lr rest (pos + (digL n).length) k 0 n b := by
  unfold digL; rw [lr_num0 n.toNat rest pos k b hp (by omega), Int.toNat_of_nonneg h0]
theorem lr_digL1 (n : Int) (h0 : 0 ≤ n) (h1 : n ≤ 1048578) (rest : List UInt8) (pos : Nat) (hp : 0 < pos) (k a : Int) : lr (digL n ++ rest) pos k 1 a 0 = lr rest (pos + (digL n).length) k 1 a n := by
  unfold digL; rw [lr_num1 n.toNat rest pos k a hp (by omega), Int.toNat_of_nonneg h0]
theorem star0 (rest : List UInt8) (pos : Nat) (hp : 0 < pos) (k p a b : Int) : lr ((42 : UInt8) :: rest) pos k p a b = lr rest (pos + 1) k p a b := by
  apply lr_cons
  have e : (42 : UInt8).toNat = 42 := rfl
  rw [e]; unfold gstep
  rw [if_neg (by omega), if_neg (by omega), if_neg (by omega)]; rfl
theorem lr_partL0 (n : Int) (h0 : 0 ≤ n) (h1 : n ≤ 1048578) (rest : List UInt8) (pos : Nat) (hp : 0 < pos) (k b : Int) : lr (partL n ++ rest) pos k 0 0 b = lr rest (pos + (partL n).length) k 0 n b := by
  unfold partL; split
  · rename_i h; subst h; exact star0 rest pos hp k 0 0 b
  · exact lr_digL0 n h0 h1 rest pos hp k b
theorem lr_partL1 (n : Int) (h0 : 0 ≤ n) (h1 : n ≤ 1048578) (rest : List UInt8) (pos : Nat) (hp : 0 < pos) (k a : Int) : lr (partL n ++ rest) pos k 1 a 0 = lr rest (pos + (partL n).length) k 1 a n := by
  unfold partL; split
  · rename_i h; subst h; exact star0 rest pos hp k 1 a 0
  · exact lr_digL1 n h0 h1 rest pos hp k a
theorem sep (c : UInt8) (hc : c.toNat = 46 ∨ c.toNat = 58) (rest : List UInt8) (pos : Nat) (hp : 0 < pos) (k a b : Int) : lr (c :: rest) pos k 0 a b = lr rest (pos + 1) k 1 a b := by
  apply lr_cons
  unfold gstep
  rw [if_neg (by omega), if_neg (by omega), if_pos (by omega)]

theorem dec_ascii (u : Nat) : ∀ c ∈ Lib.decDigits u, c.toNat < 128 := by
  induction u using Nat.strongRecOn with
  | ind u ih =>
    intro c hc
    rw [Lib.decDigits] at hc
    split at hc
    · rename_i h
      rw [List.mem_singleton] at hc; subst hc; rw [dig_toNat u h]; omega
    · rename_i h
      rw [List.mem_append] at hc
      rcases hc with hc | hc
      · exact ih _ (by omega) c hc
      · rw [List.mem_singleton] at hc; subst hc; rw [dig_toNat (u % 10) (by omega)]; omega
theorem part_ascii (n : Int) : ∀ c ∈ partL n, c.toNat < 128 := by
  intro c hc
  unfold partL at hc
  split at hc
  · simp at hc; subst hc; decide
  · exact dec_ascii _ c hc

/-- the bytes of an id's text -/
theorem text_list (x : Int) : (textOf x).data.toList =
    if kindOf x = 1 then 101 :: (digL (p1 x) ++ (46 :: digL (p2 x))) else if kindOf x = 2 then 99 :: digL (p1 x)
    else if kindOf x = 3 ∨ kindOf x = 4 then 112 :: (partL (p1 x) ++ (58 :: partL (p2 x))) else [] := by
  obtain ⟨⟨a0, _⟩, b0, _⟩ := p_bd x
  unfold textOf
  split
  · simp [digS_list _ a0, digS_list _ b0]
  · split
    · simp [digS_list _ a0]
    · split
      · simp [partS_list _ a0, partS_list _ b0]
      · rfl

theorem text_ascii (x : Int) : ∀ c ∈ (textOf x).data.toList, c.toNat < 128 := by
  intro c hc
  rw [text_list] at hc
  have hd : ∀ n : Int, ∀ c ∈ digL n, c.toNat < 128 := fun n => dec_ascii _
  split at hc
  · simp only [List.mem_cons, List.mem_append] at hc
    rcases hc with rfl | hc | rfl | hc
    · decide
    · exact hd _ c hc
    · decide
    · exact hd _ c hc
  · split at hc
    · simp only [List.mem_cons] at hc
      rcases hc with rfl | hc
      · decide
      · exact hd _ c hc
    · split at hc
      · simp only [List.mem_cons, List.mem_append] at hc
        rcases hc with rfl | hc | rfl | hc
        · decide
        · exact part_ascii _ c hc
        · decide
        · exact part_ascii _ c hc
      · simp at hc

theorem lr_text (x : Int) (k : kindOf x ≠ 0) : ∃ p, lr (textOf x).data.toList 0 0 0 0 0 = ((if kindOf x = 4 then 3 else kindOf x), p, p1 x, p2 x) := by
  rw [text_list]
  rcases kind_cases x with h | h | h | h | h
  · exact absurd h k
  · obtain ⟨a, b, c, d, _⟩ := ent_is h
    have c' := inR_le c
    have d' := inR_le d
    simp only [h, if_true]
    refine ⟨1, ?_⟩
    rw [lr_cons 101 _ 0 0 0 0 0 1 0 0 0 (by rfl), lr_digL0 (p1 x) (by omega) (by omega) _ 1 (by omega), sep 46 (by decide) _ _ (by omega)]
    have := lr_digL1 (p2 x) (by omega) (by omega) [] (1 + (digL (p1 x)).length + 1) (by omega) 1 (p1 x)
    rw [List.append_nil] at this
    rw [this]; rfl
  · obtain ⟨a, b, c, _⟩ := com_is h
    have c' := inR_le c
    simp only [h]
    refine ⟨0, ?_⟩
    show lr (99 :: digL (p1 x)) 0 0 0 0 0 = _
    rw [lr_cons 99 _ 0 0 0 0 0 2 0 0 0 (by rfl)]
    have := lr_digL0 (p1 x) (by omega) (by omega) [] 1 (by omega) 2 0
    rw [List.append_nil] at this
    rw [this, b]; rfl
  all_goals
    have hb : (0 ≤ p1 x ∧ p1 x ≤ 1048578) ∧ (0 ≤ p2 x ∧ p2 x ≤ 1048578) := by
      first
        | (obtain ⟨a, b, c, d, _⟩ := pai_is h
           have c' := inR_le c
           have d' := inR_le d
           omega)
        | (obtain ⟨a, b, c, d, _⟩ := pat_is h
           have c' := inR_le c
           have d' := inR_le d
           omega)
    simp only [h]
    refine ⟨1, ?_⟩
    show lr (112 :: (partL (p1 x) ++ (58 :: partL (p2 x)))) 0 0 0 0 0 = _
    rw [lr_cons 112 _ 0 0 0 0 0 3 0 0 0 (by rfl), lr_partL0 (p1 x) (by omega) (by omega) _ 1 (by omega), sep 58 (by decide) _ _ (by omega)]
    have := lr_partL1 (p2 x) (by omega) (by omega) [] (1 + (partL (p1 x)).length + 1) (by omega) 3 (p1 x)
    rw [List.append_nil] at this
    rw [this]; rfl

/-- Reading an id's text ends in the state of which that id is made. -/
theorem gr_text (x : Int) (k : kindOf x ≠ 0) {q : Int × Int × Int × Int} (h : GR (textOf x) 0 0 0 0 0 q) : madeV q.1 q.2.2.1 q.2.2.2 = x := by
  have e := gr_lr (text_ascii x) h
  rw [List.drop_zero] at e
  obtain ⟨p, hp⟩ := lr_text x k
  rw [hp] at e
  subst e
  exact made_parts x k
end Go.Proofs.YtpamgcmjhfojeaaDoor
