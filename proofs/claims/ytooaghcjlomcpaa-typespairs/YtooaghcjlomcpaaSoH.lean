/- The mathematics of pairs: what the patterns (0, 0), (i, 0) and (0, i) take. -/
import Derived.Test.YtooaghcjlomcpaaSoA
namespace Go.Proofs.Ytooaghcjlomcpaa
open Go.RowKit Go.Sort

theorem mk_fields (r t : Int) (r0 : 0 ≤ r) (r1 : r ≤ 1048578) (t0 : 0 ≤ t) (t1 : t ≤ 1048578) : fH (mk 2 r t) = 2 ∧ fA (mk 2 r t) = r ∧ fS (mk 2 r t) = 0 ∧ fB (mk 2 r t) = t := by
  unfold fH fA fS fB mk
  refine ⟨?_, ?_, ?_, ?_⟩ <;> omega
theorem mk_u (r t : Int) (r0 : 0 ≤ r) (r1 : r ≤ 1048578) (t0 : 0 ≤ t) (t1 : t ≤ 1048578) : 0 ≤ mk 2 r t ∧ mk 2 r t < 18446744073709551616 := by
  unfold mk; omega
theorem kind_pat (r t : Int) (r0 : 0 ≤ r) (r1 : r ≤ 1048578) (t0 : 0 ≤ t) (t1 : t ≤ 1048578) (h : r = 0 ∨ t = 0) : kindOf (mk 2 r t) = 4 := by
  obtain ⟨e1, e2, e3, e4⟩ := mk_fields r t r0 r1 t0 t1
  unfold kindOf isEnt isCom isPai isPat isHd inR
  rw [e1, e2, e3, e4]
  have : ¬ ((1 ≤ r ∧ r ≤ 1048578) ∧ (1 ≤ t ∧ t ≤ 1048578)) := by omega
  rcases h with rfl | rfl <;> simp <;> omega
theorem pai_of (x : Int) (h : kindOf x = 3) : isPai x = true := by
  unfold kindOf at h
  cases h1 : isEnt x <;> cases h2 : isCom x <;> cases h3 : isPai x <;> cases h4 : isPat x <;> simp [h1, h2, h3, h4] at h ⊢
theorem pai_parts (x : Int) (h : kindOf x = 3) : fH x = 2 ∧ fS x = 0 ∧ 1 ≤ fA x ∧ fA x ≤ 1048578 ∧ 1 ≤ fB x ∧ fB x ≤ 1048578 := by
  have := pai_of x h
  simp [isPai, isHd, inR] at this
  omega
theorem p1_pai (x : Int) (h : kindOf x = 3) : p1 x = fA x := by unfold p1; simp [h]
theorem p2_pai (x : Int) (h : kindOf x = 3) : p2 x = fB x := by unfold p2; simp [h]
theorem tak_00 (x : Int) : takesB (mk 2 0 0) x = paiK x := by
  obtain ⟨_, e2, _, e4⟩ := mk_fields 0 0 (by omega) (by omega) (by omega) (by omega)
  unfold takesB coversB cov1
  rw [kind_pat 0 0 (by omega) (by omega) (by omega) (by omega) (.inl rfl), e2, e4]
  unfold paiK
  by_cases h : kindOf x = 3 <;> simp [h]
theorem tak_i0 (i x : Int) (h1 : 1 ≤ i) (h2 : i ≤ 1048578) : takesB (mk 2 i 0) x = relB i x := by
  obtain ⟨_, e2, _, e4⟩ := mk_fields i 0 (by omega) (by omega) (by omega) (by omega)
  unfold takesB coversB cov1
  rw [kind_pat i 0 (by omega) (by omega) (by omega) (by omega) (.inr rfl), e2, e4]
  unfold relB paiK
  by_cases h : kindOf x = 3
  · rw [p1_pai x h]
    have : (i == 0) = false := by simp; omega
    by_cases e : fA x = i
    · simp [h, e]
    · have e' : ¬ i = fA x := fun h => e h.symm
      simp [h, e, e', this]
  · simp [h]
def reR (n x : Int) : Bool := paiK x && decide (p2 x = n)
theorem tak_0i (i x : Int) (h1 : 1 ≤ i) (h2 : i ≤ 1048578) : takesB (mk 2 0 i) x = reR i x := by
  obtain ⟨_, e2, _, e4⟩ := mk_fields 0 i (by omega) (by omega) (by omega) (by omega)
  unfold takesB coversB cov1
  rw [kind_pat 0 i (by omega) (by omega) (by omega) (by omega) (.inl rfl), e2, e4]
  unfold reR paiK
  by_cases h : kindOf x = 3
  · rw [p2_pai x h]
    have : (i == 0) = false := by simp; omega
    by_cases e : fB x = i
    · simp [h, e]
    · have e' : ¬ i = fB x := fun h => e h.symm
      simp [h, e, e', this]
  · simp [h]
theorem pair_00 : paiV 0 0 = mk 2 0 0 ∧ paiE 0 0 = 0 := by constructor <;> rfl
theorem pair_i {i : Int} (h1 : 1 ≤ i) (h2 : i ≤ 1048578) : paiV i 0 = mk 2 i 0 ∧ paiE i 0 = 0 ∧ paiV 0 i = mk 2 0 i ∧ paiE 0 i = 0 := by
  have a : paiB i 0 = true := by unfold paiB inR; simp; omega
  have b : paiB 0 i = true := by unfold paiB inR; simp; omega
  unfold paiV paiE
  rw [a, b]
  exact ⟨rfl, rfl, rfl, rfl⟩
theorem pair_no {i : Int} (h : ¬ (0 ≤ i ∧ i ≤ 1048578)) : paiE i 0 = 2 ∧ paiE 0 i = 2 := by
  have a : paiB i 0 = false := by unfold paiB inR; simp; omega
  have b : paiB 0 i = false := by unfold paiB inR; simp; omega
  unfold paiE
  rw [a, b]
  exact ⟨rfl, rfl⟩
theorem men_none (l : List Int) {i : Int} (h : ¬ (1 ≤ i ∧ i ≤ 1048578)) : tolL l (menB i) = [] := by
  rw [tolL_eq]
  split
  · rw [List.filter_eq_nil_iff]
    intro x _ hx
    unfold menB paiK at hx
    rw [Bool.and_eq_true] at hx
    have k : kindOf x = 3 := by simpa using hx.1
    have := pai_parts x k
    rw [p1_pai x k, p2_pai x k] at hx
    simp at hx
    omega
  · rfl
theorem two_filters (l : List Int) (f g : Int → Bool) : (l.filter f).length + (l.filter g).length ≤ l.length + (l.filter fun x => f x && g x).length := by
  induction l with
  | nil => simp
  | cons x t ih =>
    simp only [List.filter_cons]
    cases f x <;> cases g x <;> simp <;> omega
theorem ss_one {m : List Int} (h : SS m) (z : Int) (hz : ∀ x ∈ m, x = z) : m.length ≤ 1 := by
  match m, h, hz with
  | [], _, _ => simp
  | [_], _, _ => simp
  | x :: y :: t, h, hz =>
    have e1 := hz x (by simp)
    have e2 := hz y (by simp)
    unfold SS at h
    have := (List.pairwise_cons.1 h).1 y (by simp)
    omega
theorem ss_filter {l : List Int} (h : SS l) (f : Int → Bool) : SS (l.filter f) := List.Pairwise.filter f h
theorem mid_eq (x i : Int) (h : fH x = 2) (hs : fS x = 0) (ha : fA x = i) (hb : fB x = i) : x = mk 2 i i := by
  unfold fH at h; unfold fS at hs; unfold fA at ha; unfold fB at hb; unfold mk
  have e1 : x / 4294967296 / 1073741824 = x / 4611686018427387904 := by omega
  have e2 : x / 1073741824 / 4 = x / 4294967296 := by omega
  have e3 : x / 4294967296 = 2 * 1073741824 + i := by omega
  have e4 : x / 1073741824 = 4 * (x / 4294967296) := by omega
  omega
theorem both_len {l : List Int} (hm : mayT l = true) (i : Int) : (l.filter (relB i)).length + (l.filter (reR i)).length ≤ 13 := by
  obtain ⟨h12, _, hs⟩ := (mayT_iff l).1 hm
  have h1 := two_filters l (relB i) (reR i)
  have h2 := ss_one (ss_filter hs fun x => relB i x && reR i x) (mk 2 i i) (fun x hx => by
    have := (List.mem_filter.1 hx).2
    unfold relB reR paiK at this
    simp at this
    obtain ⟨⟨k, e1⟩, _, e2⟩ := this
    rw [p1_pai x k] at e1
    rw [p2_pai x k] at e2
    have := pai_parts x k
    exact mid_eq x i this.1 this.2.1 e1 e2)
  omega
theorem both_mem (l : List Int) (i y : Int) : y ∈ l.filter (relB i) ++ l.filter (reR i) ↔ y ∈ l.filter (menB i) := by
  rw [List.mem_append, List.mem_filter, List.mem_filter, List.mem_filter]
  unfold relB reR menB
  cases paiK y <;> simp
  constructor
  · rintro (⟨h1, h2⟩ | ⟨h1, h2⟩)
    · exact ⟨h1, .inl h2⟩
    · exact ⟨h1, .inr h2⟩
  · rintro ⟨h1, h2 | h2⟩
    · exact .inl ⟨h1, h2⟩
    · exact .inr ⟨h1, h2⟩
end Go.Proofs.Ytooaghcjlomcpaa
