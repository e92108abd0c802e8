/- TypesPairs: what the walk's second half leans on. -/
import Derived.Test.YtooaghcjlomcpaaSpA
namespace Go.Proofs.Ytooaghcjlomcpaa
open Go.RowKit Go.Sort

/-- Two rows, and one that the law owns. -/
structure St (w W0 W : World) (q : Option Addr) (A : List Int) (d : Nat) (p : Option Addr) (M : List Int) (c : Nat) (r : Option Addr) (L : List Int) (k : Nat) : Prop where
  z : Pq w W0 q A d p M c
  b : Below W0.heap.size W0 W
  o : OwnR W0.heap.size W r L k
section
variable {w W0 W W' : World} {q : Option Addr} {A : List Int} {d : Nat} {p : Option Addr} {M : List Int} {c : Nat} {r : Option Addr} {L L' : List Int} {k k' : Nat}
theorem St.to (h : St w W0 W q A d p M c r L k) (hb : Below W.heap.size W W') : St w W0 W' q A d p M c r L k := ⟨h.z, h.b.trans (hb.mono h.b.size), h.o.to hb⟩
theorem St.turn (h : St w W0 W q A d p M c r L k) (hg : W.grownBy W' (r.map (·.block))) (ho : OwnR W0.heap.size W' r L' k') : St w W0 W' q A d p M c r L' k' := ⟨h.z, below_turned h.b h.b.size hg h.o.fr, ho⟩
theorem St.a (h : St w W0 W q A d p M c r L k) : Row W q A d := h.z.a.to h.b
theorem St.m (h : St w W0 W q A d p M c r L k) : Row W p M c := h.z.m.to h.b
theorem St.bw (h : St w W0 W q A d p M c r L k) : Below w.heap.size w W := h.z.w.trans (h.b.mono h.z.w.size)
end
theorem owns_to {w w' : World} {B s n : Nat} {e : TypeId} {v : Value} {xs : List Value} (h : w.ownsRow B e s v n xs) (hb : Below w.heap.size w w') : w'.ownsRow B e s v n xs :=
  h.kept (row := none) (grown_of_below hb) (by cases v.ownBlock <;> simp)

theorem concat_new (W : World) (pf : Option Addr) (fr : List Int) (cf : Nat) (pt : Option Addr) (to : List Int) (ct : Nat) (nf nt nb : Nat) (t : TypeId) (hnf : nf = fr.length) (hnt : nt = to.length) (hnb : nb = (fr ++ to).length) (hf : Row W pf fr cf) (ht : Row W pt to ct) (hl : fr.length + to.length ≤ 13) :
    Calls Try.prog 40 #[.slice (some ⟨W.heap.size, 0, none⟩) 2 2] (W.alloc (.cells #[.slice pf nf cf, .slice pt nt ct] t)) fun e w' => ∃ r k W0, e = .returned (.slice r nb k) ∧ Below W.heap.size W W0 ∧ OwnR W0.heap.size w' r (fr ++ to) k ∧ Below W0.heap.size W0 w' := by
  subst hnf hnt hnb
  have hb : Below W.heap.size W (W.alloc (.cells #[.slice pf fr.length cf, .slice pt to.length ct] t)) := (Below.refl _ _).alloc (Nat.le_refl _) _
  refine Calls.mono (concat40 W.heap.size pf fr cf pt to ct _ (by simp) ?_ ?_ (hf.to hb) (ht.to hb) (by omega)) ?_
  · rw [World.cell?_alloc_at _ _ _ _ rfl]; rfl
  · rw [World.cell?_alloc_at _ _ _ _ rfl]; rfl
  · rintro e w' ⟨r, k, rfl, ho, hb'⟩
    exact ⟨r, k, _, rfl, hb, ho, hb'⟩

def Srt (L men : List Int) (n : Nat) : Prop := n = L.length ∧ Up L 0 L.length ∧ ∀ y, y ∈ L ↔ y ∈ men
theorem sort_both {B : Nat} {W : World} {r : Option Addr} {bo : List Int} {k : Nat} (h : OwnR B W r bo k) (n : Nat) (hn : n = bo.length) (hl : bo.length ≤ 13) (men : List Int) (hm : ∀ y, y ∈ bo ↔ y ∈ men) :
    Calls Try.prog 41 #[.slice r n k] W fun e w' => e = .returned (.tuple #[]) ∧ ∃ L, Srt L men n ∧ OwnR B w' r L k ∧ W.grownBy w' (r.map (·.block)) := by
  subst hn
  refine Calls.mono (sort41 B r bo k W h hl) ?_
  rintro e w' ⟨rfl, L, hs, hu, ho, hg⟩
  exact ⟨rfl, L, ⟨hs.len.symm, by rw [hs.len]; exact hu, fun y => (hs.mem y).trans (hm y)⟩, ho, hg⟩
theorem compact_men {B : Nat} {W : World} {r : Option Addr} {L : List Int} {k n m : Nat} {men : List Int} (h : OwnR B W r L k) (hs : Srt L men n) (hss : SS men) (hm : m = men.length) :
    Calls Try.prog 43 #[.slice r n k] W fun e w' => ∃ c', e = .returned (.slice r m c') ∧ OwnR B w' r men c' ∧ W.grownBy w' (r.map (·.block)) := by
  obtain ⟨h1, h2, h3⟩ := hs
  have e : comL L = men := ss_ext (com_ss h2) hss fun y => (com_mem h2 y).trans (h3 y)
  subst h1 hm
  have := compact43 B r L k W h
  rw [e] at this
  exact this
theorem take_more {l : List Int} {k : Nat} (hk : k < l.length) : l.take (k + 1) = l.take k ++ [iG l k] := by
  rw [List.take_succ_eq_append_getElem hk]; simp [iG, hk]
theorem goals_step {W : World} {B : Nat} {v : Value} {l : List Int} {k : Nat} {y : Int} (hk : k < l.length) (hy : p2 (iG l k) = y) (h : W.ownsRow B 3 1 v (k + 1) ((l.take k).map (fun y => Value.int .i64 (p2 y)) ++ [.int .i64 y])) :
    W.ownsRow B 3 1 v (k + 1) ((l.take (k + 1)).map (fun y => Value.int .i64 (p2 y))) := by
  rw [take_more hk, List.map_append, List.map_cons, List.map_nil, hy]; exact h
theorem goals_end {W : World} {B : Nat} {v : Value} {l g : List Int} {k : Nat} (hk : k = l.length) (hg : g = l.map p2) (h : W.ownsRow B 3 1 v k ((l.take k).map (fun y => Value.int .i64 (p2 y)))) :
    W.ownsRow B 3 1 v g.length (g.map (Value.int .i64)) := by
  subst hk hg
  rw [List.take_length] at h
  rw [List.length_map, List.map_map]
  exact h
/-- What the index is mentioned by, what each pattern takes. -/
structure Fac (A : List Int) (i : Int) (fr to men gl : List Int) : Prop where
  l : fr.length + to.length ≤ 13
  m : ∀ y, y ∈ fr ++ to ↔ y ∈ men
  s : SS men
  g : gl = fr.map p2
  u : U64 fr
  k : men.length ≤ 20
theorem fac_of {A : List Int} {i : Int} (hm : mayT A = true) (hU : U64 A) (h1 : 1 ≤ i) (h2 : i ≤ 1048578) : Fac A i (tolL A (takesB (paiV i 0))) (tolL A (takesB (paiV 0 i))) (tolL A (menB i)) (tarL A i) := by
  obtain ⟨e1, _, e2, _⟩ := pair_i h1 h2
  obtain ⟨h12, _, hss⟩ := (mayT_iff A).1 hm
  have f1 : tolL A (takesB (paiV i 0)) = A.filter (relB i) := by rw [tolL_eq, hm, if_pos rfl, e1]; exact congrArg (A.filter ·) (funext fun x => tak_i0 i x h1 h2)
  have f2 : tolL A (takesB (paiV 0 i)) = A.filter (reR i) := by rw [tolL_eq, hm, if_pos rfl, e2]; exact congrArg (A.filter ·) (funext fun x => tak_0i i x h1 h2)
  have f3 : tolL A (menB i) = A.filter (menB i) := by rw [tolL_eq, hm, if_pos rfl]
  have f4 : tolL A (relB i) = A.filter (relB i) := by rw [tolL_eq, hm, if_pos rfl]
  unfold tarL
  rw [f1, f2, f3, f4]
  exact ⟨both_len hm i, both_mem A i, ss_filter hss _, rfl, fun x hx => hU x (List.mem_filter.1 hx).1, Nat.le_trans (List.length_filter_le _ _) (by omega)⟩
end Go.Proofs.Ytooaghcjlomcpaa
