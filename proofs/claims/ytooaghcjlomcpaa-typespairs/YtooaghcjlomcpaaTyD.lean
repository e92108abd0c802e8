/- put, drop. -/
import Derived.Test.YtooaghcjlomcpaaTyC
import Derived.Deep.RegionHeld3
namespace Go.Proofs.Ytooaghcjlomcpaa
open Go.RowKit

theorem cat3 (p1 p2 p3 : Option Addr) (a b c : List Int) (x y z : Nat) : catN [(p1, a, x), (p2, b, y), (p3, c, z)] 3 = a ++ b ++ c := by simp [catN, rL]
theorem cat2 (p1 p2 : Option Addr) (a b : List Int) (x y : Nat) : catN [(p1, a, x), (p2, b, y)] 2 = a ++ b := by simp [catN, rL]

/-- A row in memory, with room for at least itself. -/
structure Row (w : World) (p : Option Addr) (l : List Int) (c : Nat) : Prop where
  i : IRow .u64 w.heap.size w p l
  r : l.length ≤ c
  n : l.length ≤ 1099511627776
  a : (p = none ∧ l = [] ∧ c = 0) ∨ ∃ b off, p = some ⟨b, off, none⟩
theorem Row.to {w w' : World} {p : Option Addr} {l : List Int} {c : Nat} (h : Row w p l c) (hb : Below w.heap.size w w') : Row w' p l c := ⟨h.i.to hb, h.r, h.n, h.a⟩
theorem Row.nil (w : World) : Row w none [] 0 := ⟨IRow.nil, by simp, by simp, .inl ⟨rfl, rfl, rfl⟩⟩

theorem iG_take {l : List Int} {i k : Nat} (h : k < i) : iG (l.take i) k = iG l k := by
  unfold iG; rw [List.getD_eq_getElem?_getD, List.getD_eq_getElem?_getD, List.getElem?_take_of_lt h]
theorem iG_drop (l : List Int) (i k : Nat) : iG (l.drop i) k = iG l (i + k) := by
  unfold iG; rw [List.getD_eq_getElem?_getD, List.getD_eq_getElem?_getD, List.getElem?_drop]
theorem IRow.take {q : IntKind} {N : Nat} {w : World} {p : Option Addr} {l : List Int} (h : IRow q N w p l) (i : Nat) : IRow q N w p (l.take i) := by
  intro h0
  have hl : (l.take i).length ≤ l.length := by simp; omega
  obtain ⟨b, off, rfl, hN, hc⟩ := h (by omega)
  refine ⟨b, off, rfl, hN, fun k hk => ?_⟩
  rw [iG_take (by simp at hk; omega)]
  exact hc k (by omega)
theorem IRow.drop {q : IntKind} {N : Nat} {w : World} {b off : Nat} {l : List Int} (h : IRow q N w (some ⟨b, off, none⟩) l) (i : Nat) : IRow q N w (some ⟨b, off + i, none⟩) (l.drop i) := by
  intro h0
  have hl : (l.drop i).length = l.length - i := by simp
  obtain ⟨b', off', e, hN, hc⟩ := h (by omega)
  cases e
  refine ⟨b, off + i, rfl, hN, fun k hk => ?_⟩
  rw [iG_drop, ← hc (i + k) (by omega), Nat.add_assoc]

theorem jrow_new {w : World} {R : List RR} {t : TypeId} (o : List Value) (ho : o = R.map fun r => Value.slice r.1 r.2.1.length r.2.2) (h : ∀ k, k < R.length → IRow .u64 w.heap.size w (rP R k) (rL R k)) :
    JRow (w.alloc (.cells o.toArray t)).drew.heap.size (w.alloc (.cells o.toArray t)).drew w.heap.size R := by
  intro k hk
  have hb : Below w.heap.size w (w.alloc (.cells o.toArray t)).drew := ((Below.refl w.heap.size w).alloc (Nat.le_refl _) _).drew
  refine ⟨?_, (h k hk).to hb⟩
  subst ho
  have hh : (w.alloc (.cells (R.map fun r => Value.slice r.1 r.2.1.length r.2.2).toArray t)).drew.heap[w.heap.size]? = some (.cells (R.map fun r => Value.slice r.1 r.2.1.length r.2.2).toArray t) := heap_alloc_new w _
  simp only [World.cell?]
  rw [hh]
  simp [rP, rL, rC, hk]

def putL (l : List Int) (i : Nat) (ids : List Int) : List Int := l.take i ++ ids ++ l.drop i
def dropL (l : List Int) (i : Nat) : List Int := l.take i ++ l.drop (i + 1)

/-- What comes is a row of the call's own. -/
def Own (l : List Int) (w : World) (e : Ending) (w' : World) : Prop := ∃ G, e = .returned (.slice (some ⟨G, 0, none⟩) l.length l.length) ∧ w.heap.size ≤ G ∧ w'.heap[G]? = some (.cells (cellsI .u64 l).toArray 33 (0, 0)) ∧ Below w.heap.size w w'

theorem join_new {w : World} {R : List RR} {m : List Int} (hm : m = catN R R.length) (o : List Value) (ho : o = R.map fun r => Value.slice r.1 r.2.1.length r.2.2) (h : ∀ k, k < R.length → IRow .u64 w.heap.size w (rP R k) (rL R k)) (hr : R.length ≤ 1000) (ht : m.length ≤ 8796093022208) (n : Nat) (hn : n = R.length) :
    Calls Try.prog 84 #[.slice (some ⟨w.heap.size, 0, none⟩) n n] (w.alloc (.cells o.toArray 22)).drew fun e w' => ∃ G, e = .returned (.slice (some ⟨G, 0, none⟩) m.length m.length) ∧ w.heap.size ≤ G ∧ w'.heap[G]? = some (.cells (cellsI .u64 m).toArray 33 (0, 0)) ∧ Below w.heap.size w w' := by
  subst hm hn
  have hb : Below w.heap.size w (w.alloc (.cells o.toArray 22)).drew := ((Below.refl w.heap.size w).alloc (Nat.le_refl _) _).drew
  refine (join_rows w.heap.size R R.length _ (by simp [World.drew]) (jrow_new o ho h) hr ht).mono ?_
  rintro e w' ⟨rfl, hh, hb'⟩
  exact ⟨_, rfl, hb.size, hh, hb.trans (hb'.mono hb.size)⟩

set_option maxRecDepth 20000 in
set_option maxHeartbeats 2000000 in
theorem put_any (p : Option Addr) (l : List Int) (c : Nat) (i : Nat) (q : Option Addr) (ids : List Int) (d : Nat) (w : World) (h : Row w p l c) (hi : i ≤ l.length) (hI : Row w q ids d) :
    Calls Try.prog 50 #[.slice p l.length c, .int .i64 i, .slice q ids.length d] w fun e w' => Own (putL l i ids) w e w' := by
  obtain ⟨n, hn⟩ : ∃ n, n = l.length := ⟨_, rfl⟩
  obtain ⟨m, hm⟩ : ∃ m, m = putL l i ids := ⟨_, rfl⟩
  have hml : m.length ≤ 8796093022208 := by
    have a := h.n
    have b := hI.n
    rw [hm, putL]; simp; omega
  rcases h.a with ⟨rfl, rfl, rfl⟩ | ⟨b, off, rfl⟩
  · have e0 : i = 0 := by simpa using hi
    subst e0
    have CJ := join_new (w := w) (R := [(none, [], 0), (q, ids, d), (none, [], 0)]) (m := m) (by rw [hm, putL]; simp [catN, rL]) [.slice none 0 0, .slice q ids.length d, .slice none 0 0] rfl (fun k hk => match k, hk with
      | 0, _ => IRow.nil
      | 1, _ => hI.i
      | 2, _ => IRow.nil) (by simp) hml 3 rfl
    rw [← hm]
    obtain rfl : n = 0 := by simpa using hn
    clear hm hml h hI hi hn
    go_enter Try.func50, Try.ntmps50
    go_wp2
    go_region_held3 (fun _ => True) (trivial) (first | (go_at_call 84; refine Calls.mono CJ ?_; rintro e w1 ⟨G, rfl, hG, hh, hb⟩))
    all_goals go_wp2
    go_ret
    exact ⟨G, rfl, hG, hh, hb⟩
  · have g1 : (0 : Int) ≤ (i : Int) := by omega
    have g2 : (i : Int) ≤ (n : Int) := by omega
    have g3 : (n : Int) ≤ (c : Int) := by have := h.r; omega
    have g4 : (i : Int) ≤ (c : Int) := by omega
    have h2 : n ≤ 1099511627776 := by have := h.n; omega
    have h3 : i ≤ n := by omega
    have h4 : n ≤ c := by omega
    have hd : (l.drop i).length = n - i := by simp [hn]
    have ht : (l.take i).length = i := by simp; omega
    have CJ := join_new (w := w) (R := [(some ⟨b, off, none⟩, l.take i, i), (q, ids, d), (if n = i then some ⟨b, off, none⟩ else some ⟨b, off + i, none⟩, l.drop i, n - i)]) (m := m) (by rw [hm, putL]; simp [catN, rL]) [.slice (some ⟨b, off, none⟩) i i, .slice q ids.length d, .slice (if n = i then some ⟨b, off, none⟩ else some ⟨b, off + i, none⟩) (n - i) (n - i)] (by simp [hd, ht]) (fun k hk => match k, hk with
      | 0, _ => h.i.take i
      | 1, _ => hI.i
      | 2, _ => by
        by_cases e : n = i
        · show IRow _ _ _ _ (l.drop i)
          rw [List.drop_eq_nil_of_le (by omega)]; exact IRow.nil
        · show IRow _ _ _ (if n = i then _ else _) (l.drop i)
          rw [if_neg e]; exact h.i.drop i) (by simp) hml 3 rfl
    rw [← hm, ← hn]
    clear hm hml h hI hi hn hd ht
    by_cases e : n = i
    · subst e
      simp only [Nat.sub_self, if_true] at CJ
      go_enter Try.func50, Try.ntmps50
      go_wp2
      go_region_held3 (fun _ => True) (trivial) (first | (go_at_call 84; refine Calls.mono CJ ?_; rintro e w1 ⟨G, rfl, hG, hh, hb⟩))
      all_goals go_wp2
      go_ret
      exact ⟨G, rfl, hG, hh, hb⟩
    · simp only [if_neg e] at CJ
      go_enter Try.func50, Try.ntmps50
      go_wp2
      go_region_held3 (fun _ => True) (trivial) (first | (go_at_call 84; refine Calls.mono CJ ?_; rintro e w1 ⟨G, rfl, hG, hh, hb⟩))
      all_goals go_wp2
      go_ret
      exact ⟨G, rfl, hG, hh, hb⟩

set_option maxRecDepth 20000 in
set_option maxHeartbeats 2000000 in
theorem drop_any (p : Option Addr) (l : List Int) (c : Nat) (i : Nat) (w : World) (h : Row w p l c) (hi : i < l.length) :
    Calls Try.prog 68 #[.slice p l.length c, .int .i64 i] w fun e w' => Own (dropL l i) w e w' := by
  obtain ⟨n, hn⟩ : ∃ n, n = l.length := ⟨_, rfl⟩
  obtain ⟨m, hm⟩ : ∃ m, m = dropL l i := ⟨_, rfl⟩
  have hml : m.length ≤ 8796093022208 := by
    have a := h.n
    rw [hm, dropL]; simp; omega
  rcases h.a with ⟨rfl, rfl, rfl⟩ | ⟨b, off, rfl⟩
  · simp at hi
  · have g1 : (0 : Int) ≤ (i : Int) := by omega
    have g2 : (i : Int) + 1 ≤ (n : Int) := by omega
    have g3 : (n : Int) ≤ (c : Int) := by have := h.r; omega
    have g4 : (i : Int) ≤ (c : Int) := by omega
    have g5 : (0 : Int) ≤ (i : Int) + 1 := by omega
    have h2 : n ≤ 1099511627776 := by have := h.n; omega
    have h3 : i ≤ n := by omega
    have h4 : n ≤ c := by omega
    have hd : (l.drop (i + 1)).length = n - (i + 1) := by simp [hn]
    have ht : (l.take i).length = i := by simp; omega
    have CJ := join_new (w := w) (R := [(some ⟨b, off, none⟩, l.take i, i), (if n = i + 1 then some ⟨b, off, none⟩ else some ⟨b, off + (i + 1), none⟩, l.drop (i + 1), n - (i + 1))]) (m := m) (by rw [hm, dropL]; simp [catN, rL]) [.slice (some ⟨b, off, none⟩) i i, .slice (if n = i + 1 then some ⟨b, off, none⟩ else some ⟨b, off + (i + 1), none⟩) (n - (i + 1)) (n - (i + 1))] (by simp [hd, ht]) (fun k hk => match k, hk with
      | 0, _ => h.i.take i
      | 1, _ => by
        by_cases e : n = i + 1
        · show IRow _ _ _ _ (l.drop (i + 1))
          rw [List.drop_eq_nil_of_le (by omega)]; exact IRow.nil
        · show IRow _ _ _ (if n = i + 1 then _ else _) (l.drop (i + 1))
          rw [if_neg e]; exact h.i.drop (i + 1)) (by simp) hml 2 rfl
    rw [← hm, ← hn]
    have wr1 : IntKind.i64.wrap ((i : Int) + 1) = (i : Int) + 1 := by simp [IntKind.wrap, IntKind.bits, IntKind.signed]; omega
    clear hm hml h hi hn hd ht
    by_cases e : n = i + 1
    · subst e
      simp only [Nat.sub_self, if_true] at CJ
      have g6 : (i : Int) + 1 ≤ (c : Int) := by omega
      clear g2 g3
      go_enter Try.func68, Try.ntmps68
      go_wp2
      go_region_held3 (fun _ => True) (trivial) (first | (go_at_call 84; refine Calls.mono CJ ?_; rintro e w1 ⟨G, rfl, hG, hh, hb⟩))
      all_goals go_wp2
      go_ret
      exact ⟨G, rfl, hG, hh, hb⟩
    · simp only [if_neg e] at CJ
      go_enter Try.func68, Try.ntmps68
      go_wp2
      go_region_held3 (fun _ => True) (trivial) (first | (go_at_call 84; refine Calls.mono CJ ?_; rintro e w1 ⟨G, rfl, hG, hh, hb⟩))
      all_goals go_wp2
      go_ret
      exact ⟨G, rfl, hG, hh, hb⟩
end Go.Proofs.Ytooaghcjlomcpaa
