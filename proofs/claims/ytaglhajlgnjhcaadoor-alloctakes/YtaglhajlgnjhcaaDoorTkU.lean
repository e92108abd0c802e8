/- AllocTakes: spoil writes in the memory of what it is handed alone. -/
import Derived.Test.YtaglhajlgnjhcaaDoorGvA
import Derived.Test.YtaglhajlgnjhcaaDoorReA
import Derived.Test.YtaglhajlgnjhcaaDoorSeA
import Derived.Maps.AppendAt
import Derived.Test.YtaglhajlgnjhcaaDoorGvM
namespace Go.Proofs.YtaglhajlgnjhcaaDoor
open Go.RowKit

/-- Nothing but what lies in two blocks has changed. -/
structure But (G H : Nat) (w w' : World) : Prop where
  os : w'.os = w.os
  tape : w'.tape = w.tape
  output : w'.output = w.output
  size : w.heap.size ≤ w'.heap.size
  block : ∀ k, k < w.heap.size → k ≠ G → k ≠ H → w'.heap[k]? = w.heap[k]?
theorem But.below {G H B : Nat} {w w' : World} (h : But G H w w') (hB : B ≤ w.heap.size) (hG : B ≤ G) (hH : B ≤ H) : Below B w w' := ⟨h.os, h.tape, h.output, h.size, fun k hk => h.block k (by omega) (by omega) (by omega)⟩
theorem But.of {G H : Nat} {w w' : World} (hb : Below w.heap.size w w') : But G H w w' := ⟨hb.os, hb.tape, hb.output, hb.size, fun k hk _ _ => hb.block k hk⟩
theorem But.setCell {G H : Nat} {w w' : World} (h : But G H w w') {C i : Nat} (hC : C = G ∨ C = H) (u : Value) : But G H w (w'.setCell ⟨C, i, none⟩ u) :=
  ⟨h.os, h.tape, h.output, by have := h.size; simpa using this, fun k hk h1 h2 => (Below.heap_setCell _ ⟨C, i, none⟩ _ k (by rcases hC with rfl | rfl <;> assumption)).trans (h.block k hk h1 h2)⟩

/-- What spoil meets: the box A, the slots' cells in G, the free ones' in H. -/
structure SpI (w wr : World) (A : Nat) (x y z : Value) (G n H k : Nat) : Prop where
  b : But G H w wr
  a : wr.heap[A]? = some (.cells #[x, y, z] 25 (0, 0))
  s : ∀ j, j < n → ∃ g, wr.cell? ⟨G, j * 2, none⟩ = some (.int .i64 g) ∧ wr.frozen? ⟨G, j * 2, none⟩ = false
  f : ∀ j, j < k → ∃ g, wr.cell? ⟨H, j, none⟩ = some (.int .i64 g) ∧ wr.frozen? ⟨H, j, none⟩ = false
theorem SpI.set {w wr : World} {A : Nat} {x y z : Value} {G n H k : Nat} (h : SpI w wr A x y z G n H k) {C i : Nat} (hC : C = G ∨ C = H) (hA : A ≠ C) (u : Int) : SpI w (wr.setCell ⟨C, i, none⟩ (.int .i64 u)) A x y z G n H k := by
  have key : ∀ (D j : Nat), (∃ g, wr.cell? ⟨D, j, none⟩ = some (.int .i64 g) ∧ wr.frozen? ⟨D, j, none⟩ = false) → ∃ g, (wr.setCell ⟨C, i, none⟩ (.int .i64 u)).cell? ⟨D, j, none⟩ = some (.int .i64 g) ∧ (wr.setCell ⟨C, i, none⟩ (.int .i64 u)).frozen? ⟨D, j, none⟩ = false := by
    rintro D j ⟨g, h1, h2⟩
    by_cases e : (⟨C, i, none⟩ : Addr) = ⟨D, j, none⟩
    · rw [← e] at h1 h2 ⊢
      exact ⟨u, World.cell?_setCell_same _ _ _ h1, by rw [World.frozen?_setCell]; exact h2⟩
    · exact ⟨g, by rw [World.cell?_setCell_other _ _ _ _ e]; exact h1, by rw [World.frozen?_setCell]; exact h2⟩
  exact ⟨h.b.setCell hC _, (Below.heap_setCell _ ⟨C, i, none⟩ _ A hA).trans h.a, fun j hj => key _ _ (h.s j hj), fun j hj => key _ _ (h.f j hj)⟩

set_option maxRecDepth 20000 in
set_option maxHeartbeats 1000000 in
theorem spoil27 (m : Int) (G n c H k d : Nat) (w : World) (hn : n ≤ 1099511627776) (hk : k ≤ 1099511627776) (hGw : G < w.heap.size) (hHw : H < w.heap.size)
    (h : SpI w (w.alloc (.cells #[.int .i64 m, .slice (some ⟨G, 0, none⟩) n c, .slice (some ⟨H, 0, none⟩) k d] 25)) w.heap.size (.int .i64 m) (.slice (some ⟨G, 0, none⟩) n c) (.slice (some ⟨H, 0, none⟩) k d) G n H k) :
    Calls Tryd.prog 27 #[.agg #[.int .i64 m, .slice (some ⟨G, 0, none⟩) n c, .slice (some ⟨H, 0, none⟩) k d]] w fun e w' => e = .returned (.tuple #[]) ∧ But G H w w' := by
  have HH := hidOv h
  obtain ⟨A, hA⟩ : ∃ A, A = w.heap.size := ⟨_, rfl⟩
  obtain ⟨a0, a1, a2, af, _⟩ := cells3 h.a
  clear h
  go_enter Tryd.func27, Tryd.ntmps27
  go_wp2
  go_loopw [7] (fun i wr => ∃ j : Nat, j ≤ n ∧ i = .int .i64 j ∧ SpI w wr w.heap.size (.int .i64 m) (.slice (some ⟨G, 0, none⟩) n c) (.slice (some ⟨H, 0, none⟩) k d) G n H k) (fun i _ => n - (intOf i).toNat)
  case atStart => exact ⟨0, Nat.zero_le _, rfl, HH.out⟩
  case round =>
    obtain ⟨j, hj, rfl, hS⟩ := hrel
    have HS := hidOv hS
    clear hS a0 a1 a2 af
    obtain ⟨b0, b1, b2, _, _⟩ := cells3 HS.out.a
    by_cases hlt : j < n
    · obtain ⟨g, c0, c1⟩ := HS.out.s j hlt
      go_wp2
      go_roundw
      case rel => exact ⟨j + 1, by omega, by go_num, HS.out.set (.inl rfl) (by omega) _⟩
      case measure => simp [intOf]; omega
    · obtain rfl : j = n := by omega
      go_wp2
      go_loopw [23] (fun i wr => ∃ j2 : Nat, j2 ≤ k ∧ i = .int .i64 j2 ∧ SpI w wr w.heap.size (.int .i64 m) (.slice (some ⟨G, 0, none⟩) j c) (.slice (some ⟨H, 0, none⟩) k d) G j H k) (fun i _ => k - (intOf i).toNat)
      case atStart => exact ⟨0, Nat.zero_le _, rfl, HS.out⟩
      case round =>
        obtain ⟨j2, hj2, rfl, hS2⟩ := hrel
        have HS2 := hidOv hS2
        clear hS2 b0 b1 b2
        obtain ⟨b0, b1, b2, _, _⟩ := cells3 HS2.out.a
        by_cases hlt2 : j2 < k
        · obtain ⟨g, c0, c1⟩ := HS2.out.f j2 hlt2
          go_wp2
          go_roundw
          case rel => exact ⟨j2 + 1, by omega, by go_num, HS2.out.set (.inr rfl) (by omega) _⟩
          case measure => simp [intOf]; omega
        · obtain rfl : j2 = k := by omega
          go_wp2
          go_end0
          exact ⟨rfl, HS2.out.b⟩
end Go.Proofs.YtaglhajlgnjhcaaDoor
/- AllocTakes: spoil of what Take and Give hand back; the document's has, Take where there is no room. -/
namespace Go.Proofs.YtaglhajlgnjhcaaDoor
open Go.RowKit

theorem spoil_own {w0 w : World} {G H : Nat} {l : List (Int × Bool)} {f : List Int} (h : AOwn w0 w G l H f) (m : Int) (c d n k : Nat) (hn : n = l.length) (hk : k = f.length) (l1 : n ≤ 1099511627776) (l2 : k ≤ 1099511627776) :
    Calls Tryd.prog 27 #[.agg #[.int .i64 m, .slice (some ⟨G, 0, none⟩) n c, .slice (some ⟨H, 0, none⟩) k d]] w fun e w' => e = .returned (.tuple #[]) ∧ But G H w w' := by
  obtain ⟨r, hh⟩ := h.h
  have hGl : G < w.heap.size := (Array.getElem?_eq_some_iff.1 h.g).1
  have hHl : H < w.heap.size := (Array.getElem?_eq_some_iff.1 hh).1
  have hb := (Below.refl w.heap.size w).alloc (Nat.le_refl _) (.cells #[.int .i64 m, .slice (some ⟨G, 0, none⟩) n c, .slice (some ⟨H, 0, none⟩) k d] 25)
  refine spoil27 m G n c H k d w l1 l2 hGl hHl ⟨But.of hb, heap_at rfl, fun j hj => ?_, fun j hj => ?_⟩
  · obtain ⟨e1, _, e2, _⟩ := cellG h.g j (by omega)
    exact ⟨_, (hb.cell (p := ⟨G, j * 2, none⟩) hGl).trans e1, (hb.frozen (p := ⟨G, j * 2, none⟩) hGl).trans (e2 _)⟩
  · obtain ⟨e1, e2, _⟩ := cellH hh j (by simp; omega)
    exact ⟨_, (hb.cell (p := ⟨H, j, none⟩) hHl).trans e1, (hb.frozen (p := ⟨H, j, none⟩) hHl).trans (e2 _)⟩

set_option maxRecDepth 20000 in
theorem spoil_nil (m : Int) (w : World) :
    Calls Tryd.prog 27 #[.agg #[.int .i64 m, .slice none 0 0, .slice none 0 0]] w fun e w' => e = .returned (.tuple #[]) ∧ Below w.heap.size w w' := by
  go_enter Tryd.func27, Tryd.ntmps27
  go_wp2
  go_loopw [7] (fun i wr => i = .int .i64 0 ∧ wr = w.alloc (.cells #[.int .i64 m, .slice none 0 0, .slice none 0 0] 25)) (fun _ _ => 0)
  case atStart => exact ⟨rfl, rfl⟩
  case round =>
    obtain ⟨rfl, hw⟩ := hrel
    rw [hw]
    clear hw
    go_wp2
    go_loopw [23] (fun i wr => i = .int .i64 0 ∧ wr = w.alloc (.cells #[.int .i64 m, .slice none 0 0, .slice none 0 0] 25)) (fun _ _ => 0)
    case atStart => exact ⟨rfl, rfl⟩
    case round =>
      obtain ⟨rfl, hw⟩ := hrel
      rw [hw]
      clear hw
      go_wp2
      go_end0
      exact ⟨rfl, (Below.refl _ _).alloc (Nat.le_refl _) _⟩

set_option maxRecDepth 20000 in
set_option maxHeartbeats 1000000 in
theorem has56 (p : Option Addr) (l : List Int) (c : Nat) (x : Int) (w : World) (hS : IRow .u64 w.heap.size w p l) (hn : l.length ≤ 1099511627776) :
    Calls Tryd.prog 56 #[.slice p l.length c, .int .u64 x] w fun e w' => e = .returned (.bool (decide (x ∈ l))) ∧ w' = w := by
  obtain ⟨n, hn'⟩ : ∃ n, n = l.length := ⟨_, rfl⟩
  have HN := hidOv hn'
  obtain ⟨v, hv⟩ : ∃ v, v = decide (x ∈ l) := ⟨_, rfl⟩
  have HV := hidOv hv
  have HS := hidOv hS
  rw [← hn'] at hn ⊢
  rw [← hv]
  clear hS hn' hv
  go_enter Tryd.func56, Tryd.ntmps56
  go_wp2
  go_loop [9] (fun i => ∃ k : Nat, k ≤ n ∧ i = .int .i64 k ∧ ∀ j, j < k → iG l j ≠ x) (fun i => n - (intOf i).toNat)
  case atStart => exact ⟨0, Nat.zero_le _, rfl, fun j h => by omega⟩
  case round =>
    obtain ⟨k, hk, rfl, hok⟩ := hrel
    have HO := hidOv hok
    clear hok
    by_cases hlt : k < n
    · obtain ⟨b, off, rfl, hbB, hcs⟩ := HS.out (by have := HN.out; omega)
      have c0 := hcs k (by have := HN.out; omega)
      clear hcs
      obtain ⟨y, hy⟩ : ∃ y, y = iG l k := ⟨_, rfl⟩
      rw [← hy] at c0
      have HY := hidOv hy
      clear hy
      by_cases hxy : y = x
      · have e : v = true := by rw [HV.out, decide_eq_true]; rw [← hxy, HY.out]; exact iG_mem' (by rw [← HN.out]; exact hlt)
        subst e
        have h' : (y == x) = true := by simpa using hxy
        clear HV HO HY hxy
        go_wp2
        go_ret
        exact ⟨rfl, rfl⟩
      · have h' : (y == x) = false := by simpa using hxy
        have HO' : Hid (∀ j, j < k + 1 → iG l j ≠ x) := fun j hj => by
          by_cases e : j = k
          · rw [e, ← HY.out]; exact hxy
          · exact HO.out j (by omega)
        clear HO HY hxy
        go_wp2
        go_round
        case rel => exact ⟨k + 1, by omega, by go_num, HO'.out⟩
        case measure => simp [intOf]; omega
    · obtain rfl : k = n := by omega
      have e : v = false := by
        rw [HV.out, decide_eq_false]; intro h
        obtain ⟨j, hj, e⟩ := List.getElem_of_mem h
        exact HO.out j (by rw [HN.out]; exact hj) (by simp [iG, hj, e])
      subst e
      clear HV HO
      go_wp2
      go_ret
      exact ⟨rfl, rfl⟩
end Go.Proofs.YtaglhajlgnjhcaaDoor
/- AllocTakes: the document's Take. -/
namespace Go.Proofs.YtaglhajlgnjhcaaDoor
open Go.RowKit

/-- Behind the copy of the slots: the box, the result's box, the copy. -/
structure Tk (w W : World) (m : Int) (p : Option Addr) (n c : Nat) (q : Option Addr) (k d : Nat) (v : Value) (l : List (Int × Bool)) : Prop where
  a : W.heap[w.heap.size]? = some (.cells #[.int .i64 m, .slice p n c, .slice q k d] 25 (0, 0))
  r : W.heap[w.heap.size + 1]? = some (.cells #[.int .i64 0, .slice none 0 0, .slice none 0 0] 25 (0, 0))
  o : W.ownsRow (w.heap.size + 2) 61 2 v l.length (cellsS l)
  b : Below w.heap.size w W
  z : w.heap.size + 2 ≤ W.heap.size
theorem Tk.to {w W W' : World} {m : Int} {p : Option Addr} {n c : Nat} {q : Option Addr} {k d : Nat} {v : Value} {l : List (Int × Bool)} (h : Tk w W m p n c q k d v l) (hb : Below W.heap.size W W') : Tk w W' m p n c q k d v l :=
  ⟨atW hb h.a, atW hb h.r, h.o.kept (row := none) ⟨hb.os, hb.tape, hb.output, hb.size, fun k hk _ => hb.block k hk⟩ (by cases v.ownBlock <;> simp), h.b.trans (hb.mono h.b.size), Nat.le_trans h.z hb.size⟩

/-- The world in which the copy begins. -/
def tkW (w : World) (m : Int) (p : Option Addr) (n c : Nat) (q : Option Addr) (k d : Nat) : World :=
  ((w.alloc (.cells #[.int .i64 m, .slice p n c, .slice q k d] 25)).alloc (.cells #[.int .i64 0, .slice none 0 0, .slice none 0 0] 25)).alloc (.cells #[] 61)
theorem tk_start (w : World) (m : Int) (p : Option Addr) (n c : Nat) (q : Option Addr) (k d : Nat) :
    (tkW w m p n c q k d).ownsRow (w.heap.size + 2) 61 2 (.slice (some ⟨w.heap.size + 2, 0, none⟩) 0 0) 0 [] ∧ (tkW w m p n c q k d).heap.size = w.heap.size + 3 ∧ Below w.heap.size w (tkW w m p n c q k d) ∧
      (tkW w m p n c q k d).heap[w.heap.size]? = some (.cells #[.int .i64 m, .slice p n c, .slice q k d] 25 (0, 0)) ∧ (tkW w m p n c q k d).heap[w.heap.size + 1]? = some (.cells #[.int .i64 0, .slice none 0 0, .slice none 0 0] 25 (0, 0)) := by
  unfold tkW
  have ho := World.ownsRow_made (base := w.heap.size + 2) (e := 61) (size := 2) ((w.alloc (.cells #[.int .i64 m, .slice p n c, .slice q k d] 25)).alloc (.cells #[.int .i64 0, .slice none 0 0, .slice none 0 0] 25)) #[] 0 (by simp) (by unfold maxLen; omega) (by simp)
  refine ⟨by simpa using ho, by simp, (((Below.refl _ _).alloc (Nat.le_refl _) _).alloc (by simp) _).alloc (by simp; omega) _, ?_, ?_⟩
  · rw [heap_alloc_old (by simp; omega), heap_alloc_old (by simp)]; exact heap_at rfl
  · rw [heap_alloc_old (by simp)]; exact heap_at (by simp)
theorem tk_of {w w3 : World} {m : Int} {p : Option Addr} {n c : Nat} {q : Option Addr} {k d : Nat} {v : Value} {l : List (Int × Bool)} (ho : w3.ownsRow (w.heap.size + 2) 61 2 v l.length (cellsS l)) (hg : (tkW w m p n c q k d).grownBy w3 (some (w.heap.size + 2))) : Tk w w3 m p n c q k d v l := by
  obtain ⟨_, s1, s2, s3, s4⟩ := tk_start w m p n c q k d
  have hz := hg.size
  refine ⟨(hg.block _ (by omega) (by simp)).trans s3, (hg.block _ (by omega) (by simp)).trans s4, ho, s2.grown hg (by omega) (fun j hj => by cases hj; omega), by omega⟩

set_option maxRecDepth 20000 in
set_option maxHeartbeats 1000000 in
theorem refTake_full (m : Int) (c d : Nat) (w : World) (p : Option Addr) (l : List (Int × Bool)) (q : Option Addr) (f : List Int) (h : AIn w p l q f) (hm : mayB m l f = true) (hc : cntM l = m + 2) :
    Calls Tryd.prog 26 #[.agg #[.int .i64 m, .slice p l.length c, .slice q f.length d]] w fun e w' => e = .returned (.tuple #[.agg #[.int .i64 0, .slice none 0 0, .slice none 0 0], .int .u64 0, .int .i64 6]) ∧ Below w.heap.size w w' := by
  have l1 := h.ln
  have l2 := h.fn
  obtain ⟨m1, m2, m3, m4⟩ := mayB_most hm
  obtain ⟨i0, hi, hz0, hz1, hz2⟩ := info_parts Tryd.info61
  have CA := fun (w1 : World) (hb : Below w.heap.size w w1) => alive35 m p l c q f.length d w1 (h.below hb).s (by omega)
  obtain ⟨ad, rfl, hsrc⟩ := srcS h.s (tk_start w m p l.length c q f.length d).2.2.1 (by omega)
  have ho := (tk_start w m (some ad) l.length c q f.length d).1
  obtain ⟨n, hn'⟩ : ∃ n : Nat, n = (livN l l.length).length := ⟨_, rfl⟩
  have hnl : n ≤ l.length := by rw [hn']; exact livN_len l l.length
  rw [← hn'] at CA
  unfold cntM at hc
  rw [← hn'] at hc
  have hd : ((n : Int) - 2 == m) = true := by simp; omega
  clear hn' hc
  have HL := hidOv (cellsS_len l)
  have H1 := hidOv (cellsS_one l)
  have HO := hidOv ho
  have HS := hidOv hsrc
  clear ho hsrc h hm
  go_enter Tryd.func26, Tryd.ntmps26
  go_wp2_with (first | (at_builtin; refine wpList_append_own (tkW w m (some ad) l.length c q f.length d) rfl _ _ 22 rfl (w.heap.size + 2) 61 i0 (.agg #[.int .i64 0, .bool false]) 2 16 Tryd.underlying22 hi hz0 hz1 hz2 rfl (by decide) _ _ _ rfl HO.out ad l.length c (cellsS l) rfl HL.out HS.out H1.out (by unfold maxLen; omega) (by omega) (by have := (tk_start w m (some ad) l.length c q f.length d).2.1; omega) ?_; intro v3 w3 hown hgrow _; have HT : Hid (Tk w w3 m (some ad) l.length c q f.length d v3 l) := tk_of (by simpa using hown) hgrow; clear hown hgrow))
  obtain ⟨a0, a1, a2, _, a3⟩ := cells3 HT.out.a
  clear hi hz0 hz1 hz2
  go_region_held3 (fun w' => w'.cell? ⟨w.heap.size, 0, none⟩ = some (.int .i64 m) ∧ w'.cell? ⟨w.heap.size, 1, none⟩ = some (.slice (some ad) l.length c) ∧ w'.cell? ⟨w.heap.size, 2, none⟩ = some (.slice q f.length d)) (first | go_keep | exact ⟨b0, b1, b2⟩) (first | (go_at_call 35; refine Calls.mono (CA _ ?_) ?_; exact HT.out.b.drew; rintro e w2 ⟨rfl, hb2⟩; have HB2 : Hid (Tk w w2 m (some ad) l.length c q f.length d v3 l) := HT.out.to (((Below.refl _ _).drew).trans hb2); obtain ⟨b0, b1, b2, _, _⟩ := cells3 HB2.out.a; obtain ⟨r0, r1, r2, rf, r3⟩ := cells3 HB2.out.r))
  clear CA
  all_goals go_wp2
  obtain ⟨t0, t1, t2, _, _⟩ := cells3 (set3_heap (x' := .int .i64 0) (y' := .slice none 0 0) (z' := .slice none 0 0) HB2.out.r)
  exact bodyPost_ret (v := .tuple #[.agg #[.int .i64 0, .slice none 0 0, .slice none 0 0], .int .u64 0, .int .i64 6]) (by simp [results, Tryd.results26, go_sem, t0, t1, t2]) rfl ⟨rfl, ((HB2.out.b.setCell (p := ⟨w.heap.size + 1, 0, none⟩) (by simp) _).setCell (p := ⟨w.heap.size + 1, 1, none⟩) (by simp) _).setCell (p := ⟨w.heap.size + 1, 2, none⟩) (by simp) _⟩
end Go.Proofs.YtaglhajlgnjhcaaDoor
/- AllocTakes: the document's Take where the indexes are worn, and where it goes further. -/
namespace Go.Proofs.YtaglhajlgnjhcaaDoor
open Go.RowKit

theorem Tk.shape {w W : World} {m : Int} {p : Option Addr} {n c : Nat} {q : Option Addr} {k d : Nat} {v : Value} {l : List (Int × Bool)} (h : Tk w W m p n c q k d v l) (hl : 0 < l.length) : ∃ g cap, v = .slice (some ⟨g, 0, none⟩) l.length cap ∧ l.length ≤ cap ∧ w.heap.size + 2 ≤ g := by
  rcases h.o.2 with ⟨_, h0⟩ | ⟨g, cap, cur, e, hg, _, h1, _⟩
  · omega
  · exact ⟨g, cap, e, h1, hg⟩

set_option maxRecDepth 20000 in
set_option maxHeartbeats 1000000 in
theorem refTake_worn (m : Int) (c d : Nat) (w : World) (p : Option Addr) (l : List (Int × Bool)) (q : Option Addr) (f : List Int) (h : AIn w p l q f) (hm : mayB m l f = true) (hc : ¬ cntM l = m + 2) (hf : f.length = 0) (hl : ¬ (l.length : Int) < m + 2) :
    Calls Tryd.prog 26 #[.agg #[.int .i64 m, .slice p l.length c, .slice q f.length d]] w fun e w' => e = .returned (.tuple #[.agg #[.int .i64 0, .slice none 0 0, .slice none 0 0], .int .u64 0, .int .i64 121]) ∧ Below w.heap.size w w' := by
  have l1 := h.ln
  have l2 := h.fn
  obtain ⟨m1, m2, m3, m4⟩ := mayB_most hm
  obtain ⟨i0, hi, hz0, hz1, hz2⟩ := info_parts Tryd.info61
  have CA := fun (w1 : World) (hb : Below w.heap.size w w1) => alive35 m p l c q f.length d w1 (h.below hb).s (by omega)
  obtain ⟨ad, rfl, hsrc⟩ := srcS h.s (tk_start w m p l.length c q f.length d).2.2.1 (by omega)
  have ho := (tk_start w m (some ad) l.length c q f.length d).1
  obtain ⟨n, hn'⟩ : ∃ n : Nat, n = (livN l l.length).length := ⟨_, rfl⟩
  have hnl : n ≤ l.length := by rw [hn']; exact livN_len l l.length
  rw [← hn'] at CA
  unfold cntM at hc
  rw [← hn'] at hc
  have hd : ((n : Int) - 2 == m) = false := by simp; omega
  clear hn' hc
  have hw : IntKind.i64.wrap (m + 2) = m + 2 := (by rw [IntKind.wrap_i64]; omega)
  have HL := hidOv (cellsS_len l)
  have H1 := hidOv (cellsS_one l)
  have HO := hidOv ho
  have HS := hidOv hsrc
  have hf' : ¬ 0 < f.length := (by omega)
  clear ho hsrc h hm hf
  go_enter Tryd.func26, Tryd.ntmps26
  go_wp2_with (first | (at_builtin; refine wpList_append_own (tkW w m (some ad) l.length c q f.length d) rfl _ _ 22 rfl (w.heap.size + 2) 61 i0 (.agg #[.int .i64 0, .bool false]) 2 16 Tryd.underlying22 hi hz0 hz1 hz2 rfl (by decide) _ _ _ rfl HO.out ad l.length c (cellsS l) rfl HL.out HS.out H1.out (by unfold maxLen; omega) (by omega) (by have := (tk_start w m (some ad) l.length c q f.length d).2.1; omega) ?_; intro v3 w3 hown hgrow _; have HT : Hid (Tk w w3 m (some ad) l.length c q f.length d v3 l) := tk_of (by simpa using hown) hgrow; clear hown hgrow; obtain ⟨g, cap, hv, _, _⟩ := HT.out.shape (by omega); subst hv))
  obtain ⟨a0, a1, a2, _, a3⟩ := cells3 HT.out.a
  clear hi hz0 hz1 hz2
  go_region_held3 (fun w' => w'.cell? ⟨w.heap.size, 0, none⟩ = some (.int .i64 m) ∧ w'.cell? ⟨w.heap.size, 1, none⟩ = some (.slice (some ad) l.length c) ∧ w'.cell? ⟨w.heap.size, 2, none⟩ = some (.slice q f.length d)) (first | go_keep | exact ⟨b0, b1, b2⟩) (first | (go_at_call 35; refine Calls.mono (CA _ ?_) ?_; exact HT.out.b.drew; rintro e w2 ⟨rfl, hb2⟩; have HB2 : Hid (Tk w w2 m (some ad) l.length c q f.length d (.slice (some ⟨g, 0, none⟩) l.length cap) l) := HT.out.to (((Below.refl _ _).drew).trans hb2); obtain ⟨b0, b1, b2, _, _⟩ := cells3 HB2.out.a; obtain ⟨r0, r1, r2, rf, r3⟩ := cells3 HB2.out.r))
  clear CA
  all_goals go_wp2
  obtain ⟨t0, t1, t2, _, _⟩ := cells3 (set3_heap (x' := .int .i64 0) (y' := .slice none 0 0) (z' := .slice none 0 0) HB2.out.r)
  exact bodyPost_ret (v := .tuple #[.agg #[.int .i64 0, .slice none 0 0, .slice none 0 0], .int .u64 0, .int .i64 121]) (by simp [results, Tryd.results26, go_sem, t0, t1, t2]) rfl ⟨rfl, ((HB2.out.b.setCell (p := ⟨w.heap.size + 1, 0, none⟩) (by simp) _).setCell (p := ⟨w.heap.size + 1, 1, none⟩) (by simp) _).setCell (p := ⟨w.heap.size + 1, 2, none⟩) (by simp) _⟩
end Go.Proofs.YtaglhajlgnjhcaaDoor
/- AllocTakes: the document's Take where it goes further. -/
namespace Go.Proofs.YtaglhajlgnjhcaaDoor
open Go.RowKit

theorem cell_two_new (w : World) (x y : Value) (t : TypeId) : ∀ j u, [x, y][j]? = some u → (w.alloc (.cells #[x, y] t)).cell? ((⟨w.heap.size, 0, none⟩ : Addr).add j) = some u := by
  intro j u hj
  match j, hj with
  | 0, hj => cases hj; rw [Addr.add_lit, World.cell?_alloc_at _ _ _ _ rfl]; rfl
  | 1, hj => cases hj; rw [Addr.add_lit, World.cell?_alloc_at _ _ _ _ rfl]; rfl
  | k + 2, hj => simp at hj
theorem Tk.app {w W W' : World} {m : Int} {p : Option Addr} {n c : Nat} {q : Option Addr} {k d : Nat} {v v' : Value} {l l' : List (Int × Bool)} (h : Tk w W m p n c q k d v l) (o : Obj) (ho : W'.ownsRow (w.heap.size + 2) 61 2 v' l'.length (cellsS l')) (hg : (W.alloc o).grownBy W' v.ownBlock) : Tk w W' m p n c q k d v' l' := by
  have hz := h.z
  have hs := hg.size
  have hs' : W.heap.size + 1 ≤ W'.heap.size := by simpa using hs
  have hk : ∀ j, v.ownBlock = some j → w.heap.size + 2 ≤ j := by
    intro j hj
    rcases h.o.2 with ⟨e, _⟩ | ⟨g, cap, cur, e, hg', _⟩
    · rw [e] at hj; cases hj
    · rw [e] at hj; cases hj; exact hg'
  have hb : Below (w.heap.size + 2) W W' := ((Below.refl _ _).alloc hz o).grown hg (by simp; omega) hk
  exact ⟨(hb.block _ (by omega)).trans h.a, (hb.block _ (by omega)).trans h.r, ho, h.b.trans (hb.mono (by omega)), by omega⟩

set_option maxRecDepth 20000 in
set_option maxHeartbeats 1000000 in
theorem refTake_further (m : Int) (c d : Nat) (w : World) (p : Option Addr) (l : List (Int × Bool)) (q : Option Addr) (f : List Int) (h : AIn w p l q f) (hm : mayB m l f = true) (hf : f.length = 0) (hl : (l.length : Int) < m + 2) :
    Calls Tryd.prog 26 #[.agg #[.int .i64 m, .slice p l.length c, .slice q f.length d]] w fun e w' => ∃ v, e = .returned (.tuple #[.agg #[.int .i64 m, v, .slice none 0 0], .int .u64 ((l.length : Int) + 1 + 0 * 4294967296), .int .i64 0]) ∧ w'.ownsRow (w.heap.size + 2) 61 2 v (l ++ [(0, true)]).length (cellsS (l ++ [(0, true)])) ∧ Below w.heap.size w w' := by
  have l1 := h.ln
  have l2 := h.fn
  obtain ⟨m1, m2, m3, m4⟩ := mayB_most hm
  obtain ⟨i0, hi, hz0, hz1, hz2⟩ := info_parts Tryd.info61
  have CA := fun (w1 : World) (hb : Below w.heap.size w w1) => alive35 m p l c q f.length d w1 (h.below hb).s (by omega)
  have CE := fun (W : World) => entity41 ((l.length : Int) + 1) 0 W (by omega) (by omega) (by omega) (by omega)
  obtain ⟨ad, rfl, hsrc⟩ := srcS h.s (tk_start w m p l.length c q f.length d).2.2.1 (by omega)
  have ho := (tk_start w m (some ad) l.length c q f.length d).1
  obtain ⟨n, hn'⟩ : ∃ n : Nat, n = (livN l l.length).length := ⟨_, rfl⟩
  have hnl : n ≤ l.length := by rw [hn']; exact livN_len l l.length
  rw [← hn'] at CA
  have hd : ((n : Int) - 2 == m) = false := by simp; omega
  clear hn'
  have hw : IntKind.i64.wrap (m + 2) = m + 2 := (by rw [IntKind.wrap_i64]; omega)
  have HL := hidOv (cellsS_len l)
  have H1 := hidOv (cellsS_one l)
  have HO := hidOv ho
  have HS := hidOv hsrc
  have hf' : ¬ 0 < f.length := (by omega)
  have hR : w.heap.size + 1 ≠ w.heap.size := by omega
  clear ho hsrc h hm hf
  go_enter Tryd.func26, Tryd.ntmps26
  go_wp2_with (first | (at_builtin; refine wpList_append_own (tkW w m (some ad) l.length c q f.length d) rfl _ _ 22 rfl (w.heap.size + 2) 61 i0 (.agg #[.int .i64 0, .bool false]) 2 16 Tryd.underlying22 hi hz0 hz1 hz2 rfl (by decide) _ _ _ rfl HO.out ad l.length c (cellsS l) rfl HL.out HS.out H1.out (by unfold maxLen; omega) (by omega) (by have := (tk_start w m (some ad) l.length c q f.length d).2.1; omega) ?_; intro v3 w3 hown hgrow _; have HT : Hid (Tk w w3 m (some ad) l.length c q f.length d v3 l) := tk_of (by simpa using hown) hgrow; clear hown hgrow; obtain ⟨g, cap, hv, _, _⟩ := HT.out.shape (by omega); subst hv))
  obtain ⟨a0, a1, a2, _, a3⟩ := cells3 HT.out.a
  go_region_held3 (fun w' => w'.cell? ⟨w.heap.size, 0, none⟩ = some (.int .i64 m) ∧ w'.cell? ⟨w.heap.size, 1, none⟩ = some (.slice (some ad) l.length c) ∧ w'.cell? ⟨w.heap.size, 2, none⟩ = some (.slice q f.length d)) (first | go_keep | exact ⟨b0, b1, b2⟩) (first | (go_at_call 35; refine Calls.mono (CA _ ?_) ?_; exact HT.out.b.drew; rintro e w2 ⟨rfl, hb2⟩; have HB2 : Hid (Tk w w2 m (some ad) l.length c q f.length d (.slice (some ⟨g, 0, none⟩) l.length cap) l) := HT.out.to (((Below.refl _ _).drew).trans hb2); obtain ⟨b0, b1, b2, _, _⟩ := cells3 HB2.out.a; obtain ⟨r0, r1, r2, rf, r3⟩ := cells3 HB2.out.r))
  clear CA HT a0 a1 a2 a3
  have hz2' := HB2.out.z
  go_wp2_with (first | (at_builtin; refine wpList_append_own _ rfl _ _ 22 rfl (w.heap.size + 2) 61 i0 (.agg #[.int .i64 0, .bool false]) 2 16 Tryd.underlying22 hi hz0 hz1 hz2 rfl (by decide) _ _ _ rfl (HB2.out.o.alloc _) _ 1 1 [.int .i64 0, .bool true] rfl rfl (cell_two_new _ _ _ _) (by simp [Value.oneCell']) (by unfold maxLen; omega) (by omega) (by simp; omega) ?_; intro v5 w5 hown hgrow _; have HT5 : Hid (Tk w w5 m (some ad) l.length c q f.length d v5 (l ++ [(0, true)])) := HB2.out.app _ (by simpa [cellsS_append, cellsS] using hown) hgrow; clear hown hgrow; obtain ⟨g5, cap5, hv, _, _⟩ := HT5.out.shape (by simp); subst hv))
  obtain ⟨c0, c1, c2, _, c3⟩ := cells3 HT5.out.a
  obtain ⟨s0, s1, s2, sf, s3⟩ := cells3 HT5.out.r
  have TT : Hid _ := fun (x y z : Value) => (⟨set3far hR c0, set3far hR c1, set3far hR c2⟩ : (((w5.drew.setCell ⟨w.heap.size + 1, 0, none⟩ x).setCell ⟨w.heap.size + 1, 1, none⟩ y).setCell ⟨w.heap.size + 1, 2, none⟩ z).cell? ⟨w.heap.size, 0, none⟩ = some (.int .i64 m) ∧ (((w5.drew.setCell ⟨w.heap.size + 1, 0, none⟩ x).setCell ⟨w.heap.size + 1, 1, none⟩ y).setCell ⟨w.heap.size + 1, 2, none⟩ z).cell? ⟨w.heap.size, 1, none⟩ = some (.slice (some ad) l.length c) ∧ (((w5.drew.setCell ⟨w.heap.size + 1, 0, none⟩ x).setCell ⟨w.heap.size + 1, 1, none⟩ y).setCell ⟨w.heap.size + 1, 2, none⟩ z).cell? ⟨w.heap.size, 2, none⟩ = some (.slice q f.length d))
  clear hi hz0 hz1 hz2 b0 b1 b2 r0 r1 r2 HB2
  go_region_held3 (fun w' => w'.cell? ⟨w.heap.size, 0, none⟩ = some (.int .i64 m) ∧ w'.cell? ⟨w.heap.size, 1, none⟩ = some (.slice (some ad) l.length c) ∧ w'.cell? ⟨w.heap.size, 2, none⟩ = some (.slice q f.length d)) (first | go_keep | with_reducible exact TT.out _ _ _) (first | (go_at_call 41; refine Calls.mono (CE _) ?_; rintro e w6 ⟨rfl, rfl⟩))
  all_goals go_wp2
  all_goals
    obtain ⟨t0, t1, t2, _, _⟩ := cells3 (set3_heap (x' := .int .i64 m) (y' := .slice (some ⟨g5, 0, none⟩) (l.length + 1) cap5) (z' := .slice none 0 0) (W := w5) HT5.out.r)
    have hown := HT5.out.o
    have hlen : (l ++ [((0 : Int), true)]).length = l.length + 1 := by simp
    rw [hlen] at hown
    have hB := below_set3 HT5.out.b (by omega : w.heap.size ≤ w.heap.size + 1) (.int .i64 m) (.slice (some ⟨g5, 0, none⟩) (l.length + 1) cap5) (.slice none 0 0)
    have hO : (((w5.setCell ⟨w.heap.size + 1, 0, none⟩ (.int .i64 m)).setCell ⟨w.heap.size + 1, 1, none⟩ (.slice (some ⟨g5, 0, none⟩) (l.length + 1) cap5)).setCell ⟨w.heap.size + 1, 2, none⟩ (.slice none 0 0)).ownsRow (w.heap.size + 2) 61 2 (.slice (some ⟨g5, 0, none⟩) (l.length + 1) cap5) (l.length + 1) (cellsS (l ++ [(0, true)])) :=
      ownsRow_setCell_below (ownsRow_setCell_below (ownsRow_setCell_below (w := w5) hown (a := ⟨w.heap.size + 1, 0, none⟩) (by simp) _) (a := ⟨w.heap.size + 1, 1, none⟩) (by simp) _) (a := ⟨w.heap.size + 1, 2, none⟩) (by simp) _
    exact bodyPost_ret (v := .tuple #[.agg #[.int .i64 m, .slice (some ⟨g5, 0, none⟩) (l.length + 1) cap5, .slice none 0 0], .int .u64 ((l.length : Int) + 1 + 0 * 4294967296), .int .i64 0]) (by simp [results, Tryd.results26, go_sem, t0, t1, t2]) rfl ⟨_, rfl, by rw [hlen]; exact hO, hB.drew⟩
end Go.Proofs.YtaglhajlgnjhcaaDoor
/- AllocTakes: for the document's Take where an index is free: a row that is written to, an append in a region that draws its order. -/
namespace Go.Proofs.YtaglhajlgnjhcaaDoor
open Go.RowKit

theorem ownsRow_set {w : World} {base : Nat} {e : TypeId} {size g n cap : Nat} {xs : List Value} (h : w.ownsRow base e size (.slice (some ⟨g, 0, none⟩) n cap) n xs) (hg : 0 < n) (i : Nat) (u : Value) : (w.setCell ⟨g, i, none⟩ u).ownsRow base e size (.slice (some ⟨g, 0, none⟩) n cap) n (xs.set i u) := by
  obtain ⟨h1, h2⟩ := h
  rcases h2 with ⟨hv, h0⟩ | ⟨g', cap', cur, hv, hb, hh, c1, c2, c3, c4⟩
  · omega
  · cases hv
    refine ⟨by simpa using h1, .inr ⟨g, cap, cur.setIfInBounds i u, rfl, hb, heap_setCell_same w g i cur e u hh, c1, c2, by simpa using c3, ?_⟩⟩
    rw [Array.toList_setIfInBounds, List.take_set, c4]
theorem own_frozen {w : World} {base : Nat} {e : TypeId} {size g n cap : Nat} {xs : List Value} (h : w.ownsRow base e size (.slice (some ⟨g, 0, none⟩) n cap) n xs) (i : Nat) : w.frozen? ⟨g, i, none⟩ = false := by
  rcases h.2 with ⟨hv, _⟩ | ⟨g', cap', cur, hv, hb, hh, _⟩
  · cases hv
  · cases hv; simp [World.frozen?, hh]
section
variable {w W : World} {m : Int} {p : Option Addr} {n c : Nat} {q : Option Addr} {k d g cap : Nat} {l : List (Int × Bool)}
theorem Tk.set (h : Tk w W m p n c q k d (.slice (some ⟨g, 0, none⟩) l.length cap) l) (hl : 0 < l.length) (j : Nat) (g' : Int) (b : Bool) : Tk w ((W.setCell ⟨g, j * 2, none⟩ (.int .i64 g')).setCell ⟨g, j * 2 + 1, none⟩ (.bool b)) m p n c q k d (.slice (some ⟨g, 0, none⟩) l.length cap) (l.set j (g', b)) := by
  have hg : w.heap.size + 2 ≤ g := by
    rcases h.o.2 with ⟨hv, _⟩ | ⟨g', cap', cur, hv, hb, _⟩
    · cases hv
    · cases hv; exact hb
  have ho := ownsRow_set (ownsRow_set h.o hl (j * 2) (.int .i64 g')) hl (j * 2 + 1) (.bool b)
  rw [cellsS_set] at ho
  refine ⟨?_, ?_, by simpa using ho, (h.b.setCell (p := ⟨g, j * 2, none⟩) (by simp; omega) _).setCell (p := ⟨g, j * 2 + 1, none⟩) (by simp; omega) _, by simpa using h.z⟩
  · rw [heap_setCell_other _ _ _ _ (by simp; omega), heap_setCell_other _ _ _ _ (by simp; omega)]; exact h.a
  · rw [heap_setCell_other _ _ _ _ (by simp; omega), heap_setCell_other _ _ _ _ (by simp; omega)]; exact h.r
theorem Tk.at (h : Tk w W m p n c q k d (.slice (some ⟨g, 0, none⟩) l.length cap) l) {j : Nat} (hj : j < l.length) : W.cell? ⟨g, j * 2, none⟩ = some (.int .i64 (sG l j)) ∧ W.cell? ⟨g, j * 2 + 1, none⟩ = some (.bool (sA l j)) := by
  have e1 := h.o.cellAt (j * 2) (by omega)
  have e2 := h.o.cellAt (j * 2 + 1) (by omega)
  rw [(cellsS_even l j hj).1] at e1
  rw [(cellsS_even l j hj).2] at e2
  exact ⟨e1, e2⟩
end
/-- An append at a step of a region that draws its order. -/
theorem step_append_any {P : Program} (w : World) {ops : Array Oper} {o : Oper} {a : Act} {K : Act → World → Prop} {Q : Exit → Act → World → Prop} {E : Prop} (hgd : o.guard = none) (s x : Operand) (t : TypeId)
    (ho : o.op = .call { callee := .builtin .append, args := #[s, x], argTypes := #[t, t] })
    (base : Nat) (e : TypeId) (i : TypeInfo) (z : Value) (size bytes : Nat) (ht : P.underlying t = some (.slice e)) (hi : P.info? e = some i) (hz : i.zero = some z)
    (hsize : i.size = size) (hby : i.bytes = bytes) (hzs : z.cells.size = size) (hsz : 0 < size)
    (v : Value) (n : Nat) (xs : List Value) (hs : a.eval s = v) (hown : w.ownsRow base e size v n xs)
    (ad : Addr) (m c : Nat) (news : List Value) (hx : a.eval x = .slice (some ad) m c) (hl : news.length = m * size) (hnews : ∀ j u, news[j]? = some u → w.cell? (ad.add j) = some u) (h1 : ∀ u ∈ news, u.oneCell' = true)
    (h63 : n + m ≤ maxLen) (hbytes : (n + m) * bytes ≤ 140737488355328) (hbase : base ≤ w.heap.size)
    (h : ∀ v' w', w'.ownsRow base e size v' (n + m) (xs ++ news) → w.grownBy w' v.ownBlock → K (a.put o.dst v') w') :
    if Region.wanted o (yielded ops a.tmps) = true then Oper.wp P o a w K Q else E := by
  have hw : Region.wanted o (yielded ops a.tmps) = true := by simp [Region.wanted, hgd]
  rw [if_pos hw]
  obtain ⟨v', w', hr, h2, h3, _, h5⟩ := run_append_own_at (P := P) w base t o.type e i z size bytes ht hi hz hsize hby hzs hsz v n xs hown ad m c news hl hnews h1 h63 hbytes hbase
  unfold Oper.wp execOp
  simp only [ho, resolve, invoke, builtin, Sem.run_bind, Sem.run_pure, Result.andThen_ok, List.map_toArray, List.map_cons, List.map_nil, hs, hx, hr]
  exact h v' w' h2 h3

theorem step_keep {W w5 : World} {o : Obj} (hg : (W.drew.alloc o).grownBy w5 (some W.heap.size)) : Below W.heap.size W w5 :=
  (((Below.refl _ _).drew).alloc (Nat.le_refl _) o).grown hg (show W.heap.size ≤ (W.drew.alloc o).heap.size from by rw [World.size_alloc]; exact Nat.le_succ W.heap.size) (fun k hk => by cases hk; exact Nat.le_refl _)
theorem own_slice {W : World} {base : Nat} {e : TypeId} {size n : Nat} {v : Value} {xs : List Value} (h : W.ownsRow base e size v n xs) : ∃ p c, v = .slice p n c := by
  rcases h.2 with ⟨rfl, rfl⟩ | ⟨g, cap, cur, rfl, _⟩
  · exact ⟨none, 0, rfl⟩
  · exact ⟨_, _, rfl⟩
theorem made_drew {W : World} {base : Nat} (h : base ≤ W.heap.size) : (W.drew.alloc (.cells #[] 3)).ownsRow base 3 1 (.slice (some ⟨W.heap.size, 0, none⟩) 0 0) 0 [] := by
  have := World.ownsRow_made (base := base) (e := 3) (size := 1) W.drew #[] 0 (show base ≤ W.heap.size from h) (by unfold maxLen; omega) (by simp)
  exact this

end Go.Proofs.YtaglhajlgnjhcaaDoor
/- AllocTakes: the document's Take where an index is free. -/
namespace Go.Proofs.YtaglhajlgnjhcaaDoor
open Go.RowKit

theorem ne_two {a g : Nat} (h : a + 2 ≤ g) : a + 1 ≠ g := by omega
theorem ne_one (a : Nat) : a + 1 ≠ a := by omega
theorem Tk.sat {w W : World} {m : Int} {p : Option Addr} {n c : Nat} {q : Option Addr} {k d g cap : Nat} {l : List (Int × Bool)} {j : Nat} {x : Int} (h : Tk w W m p n c q k d (.slice (some ⟨g, 0, none⟩) l.length cap) (l.set j (x, true))) (hj : j < l.length) : W.cell? ⟨w.heap.size, 0, none⟩ = some (.int .i64 m) ∧ W.cell? ⟨w.heap.size, 2, none⟩ = some (.slice q k d) ∧ W.cell? ⟨g, j * 2, none⟩ = some (.int .i64 x) := by
  obtain ⟨a0, a1, a2, _, a3⟩ := cells3 h.a
  refine ⟨a0, a2, ?_⟩
  have hlen : (l.set j (x, true)).length = l.length := by simp
  have ho := h.o
  rw [hlen] at ho
  have e1 := ho.cellAt (j * 2) (by omega)
  rw [(cellsS_even (l.set j (x, true)) j (by rw [hlen]; exact hj)).1, (sG_set l j j (x, true) hj).1] at e1
  simpa using e1
theorem src_take {w W : World} {qb qo k : Nat} {f : List Int} (hq : ∀ i, i < f.length → w.cell? ⟨qb, qo + i, none⟩ = some (.int .i64 (iG f i))) (hk : f.length = k + 1) (hb : Below w.heap.size w W) (hqb : qb < w.heap.size) : ∀ jj v, (cellsI .i64 (f.take k))[jj]? = some v → W.cell? ((⟨qb, qo, none⟩ : Addr).add jj) = some v := cellsI_src fun i hi' => by
  have hik : i < k := by simp at hi'; omega
  rw [iG_take' hik]
  exact (hb.cell (p := ⟨qb, qo + i, none⟩) (by exact hqb)).trans (hq i (by omega))

set_option maxRecDepth 20000 in
set_option maxHeartbeats 4000000 in
theorem refTake_again (m : Int) (c d : Nat) (w : World) (p : Option Addr) (l : List (Int × Bool)) (q : Option Addr) (f : List Int) (h : AIn w p l q f) (hm : mayB m l f = true) (hc : ¬ cntM l = m + 2) (k j : Nat) (hk : f.length = k + 1) (hkd : k + 1 ≤ d) (hij : iG f k = (j : Int) + 1) (hj : j < l.length) :
    Calls Tryd.prog 26 #[.agg #[.int .i64 m, .slice p l.length c, .slice q f.length d]] w fun e w' => ∃ v v', e = .returned (.tuple #[.agg #[.int .i64 m, v, v'], .int .u64 ((j : Int) + 1 + (sG l j + 1) * 4294967296), .int .i64 0]) ∧ w'.ownsRow (w.heap.size + 2) 61 2 v l.length (cellsS (l.set j (sG l j + 1, true))) ∧ w'.ownsRow (w.heap.size + 2) 3 1 v' k (cellsI .i64 (f.take k)) ∧ Below w.heap.size w w' := by
  have l1 := h.ln
  have l2 := h.fn
  obtain ⟨m1, m2, m3, m4⟩ := mayB_most hm
  obtain ⟨g0, g7⟩ := mayB_slot hm j hj
  obtain ⟨i0, hi, hz0, hz1, hz2⟩ := info_parts Tryd.info61
  have CA := fun (w1 : World) (hb : Below w.heap.size w w1) => alive35 m p l c q f.length d w1 (h.below hb).s (by omega)
  have CE := fun (W : World) => entity41 ((j : Int) + 1) (sG l j + 1) W (by omega) (by omega) (by omega) (by omega)
  obtain ⟨ad, rfl, hsrc⟩ := srcS h.s (tk_start w m p l.length c q f.length d).2.2.1 (by omega)
  obtain ⟨qb, qo, rfl, hqb, hqc⟩ := h.i (by omega)
  have ho := (tk_start w m (some ad) l.length c (some ⟨qb, qo, none⟩) f.length d).1
  obtain ⟨n, hn'⟩ : ∃ n : Nat, n = (livN l l.length).length := ⟨_, rfl⟩
  have hnl : n ≤ l.length := by rw [hn']; exact livN_len l l.length
  rw [← hn'] at CA
  have hd : ((n : Int) - 2 == m) = false := by unfold cntM at hc; simp; omega
  clear hn' hc
  have HL := hidOv (cellsS_len l)
  have H1 := hidOv (cellsS_one l)
  have HO := hidOv ho
  have HS := hidOv hsrc
  have HQ := hidOv hqc
  have qk := hqc k (by omega)
  rw [hij] at qk
  have HJ := hidOv (sG_set l j j (sG l j + 1, true) hj)
  have HK := hidOv hk
  have hkb : k < 8796093022208 := by omega
  have HLN : Hid ((cellsI .i64 (f.take k)).length = k * 1) := by unfold Hid; rw [cellsI_len]; have := HK.out; simp; omega
  have hl0 : 0 < l.length := by omega
  have HKM : Hid (0 + k ≤ maxLen) := by unfold Hid maxLen; omega
  have HKB : Hid ((0 + k) * 8 ≤ 140737488355328) := by unfold Hid; omega
  have t3 : (0 : Int) ≤ (k : Int) := by omega
  have t4 : (k : Int) ≤ (d : Int) := by omega
  have t5 : (0 : Int) ≤ (j : Int) := by omega
  have t6 : (j : Int) < (l.length : Int) := by omega
  have t9 : IntKind.i64.wrap (k : Int) = (k : Int) := by rw [IntKind.wrap_i64]; omega
  have t10 : IntKind.i64.wrap (j : Int) = (j : Int) := by rw [IntKind.wrap_i64]; omega
  obtain ⟨gj, hgj⟩ : ∃ gj, gj = sG l j := ⟨_, rfl⟩
  have HGJ := hidOv hgj
  rw [← hgj] at CE g0 g7 HJ ⊢
  rw [hk] at CA HO HS ⊢
  clear ho hsrc h hm hqc hij hk hgj
  go_enter Tryd.func26, Tryd.ntmps26
  go_wp2_with (first | (at_builtin; refine wpList_append_own (tkW w m (some ad) l.length c (some ⟨qb, qo, none⟩) (k + 1) d) rfl _ _ 22 rfl (w.heap.size + 2) 61 i0 (.agg #[.int .i64 0, .bool false]) 2 16 Tryd.underlying22 hi hz0 hz1 hz2 rfl (by decide) _ _ _ rfl HO.out ad l.length c (cellsS l) rfl HL.out HS.out H1.out (by unfold maxLen; omega) (by omega) (by have := (tk_start w m (some ad) l.length c (some ⟨qb, qo, none⟩) (k + 1) d).2.1; omega) ?_; intro v3 w3 hown hgrow _; have HT : Hid (Tk w w3 m (some ad) l.length c (some ⟨qb, qo, none⟩) (k + 1) d v3 l) := tk_of (by simpa using hown) hgrow; clear hown hgrow; obtain ⟨g, cap, hv, _, hgw⟩ := HT.out.shape (by omega); subst hv))
  obtain ⟨a0, a1, a2, _, a3⟩ := cells3 HT.out.a
  go_region_held3 (fun w' => w'.cell? ⟨w.heap.size, 0, none⟩ = some (.int .i64 m) ∧ w'.cell? ⟨w.heap.size, 1, none⟩ = some (.slice (some ad) l.length c) ∧ w'.cell? ⟨w.heap.size, 2, none⟩ = some (.slice (some ⟨qb, qo, none⟩) (k + 1) d)) (first | go_keep | exact ⟨b0, b1, b2⟩) (first | (go_at_call 35; refine Calls.mono (CA _ ?_) ?_; exact HT.out.b.drew; rintro e w2 ⟨rfl, hb2⟩; have HB2 : Hid (Tk w w2 m (some ad) l.length c (some ⟨qb, qo, none⟩) (k + 1) d (.slice (some ⟨g, 0, none⟩) l.length cap) l) := HT.out.to (((Below.refl _ _).drew).trans hb2); obtain ⟨b0, b1, b2, _, _⟩ := cells3 HB2.out.a; obtain ⟨r0, r1, r2, rf, r3⟩ := cells3 HB2.out.r))
  clear CA HT a0 a1 a2 a3 hi hz0 hz1 hz2
  have q2 := (HB2.out.b.cell (p := ⟨qb, qo + k, none⟩) (by exact hqb)).trans qk
  obtain ⟨c0, c1⟩ := HB2.out.at hj
  rw [← HGJ.out] at c0
  have cf := fun i => own_frozen HB2.out.o i
  go_wp2_with (fail)
  obtain ⟨W7, hW7⟩ : ∃ W7, W7 = ((w2.setCell ⟨g, j * 2, none⟩ (.int .i64 (gj + 1))).setCell ⟨g, j * 2 + 1, none⟩ (.bool true)) := ⟨_, rfl⟩
  rw [← hW7]
  have H7 : Hid (Tk w W7 m (some ad) l.length c (some ⟨qb, qo, none⟩) (k + 1) d (.slice (some ⟨g, 0, none⟩) l.length cap) (l.set j (gj + 1, true))) := by rw [hW7]; exact HB2.out.set hl0 j (gj + 1) true
  clear hW7 HB2 c0 c1 cf b0 b1 b2 r0 r1 r2 rf r3 q2 qk
  have T7 : Hid (∀ W, Below W7.heap.size W7 W → W.cell? ⟨w.heap.size, 0, none⟩ = some (.int .i64 m) ∧ W.cell? ⟨w.heap.size, 2, none⟩ = some (.slice (some ⟨qb, qo, none⟩) (k + 1) d) ∧ W.cell? ⟨g, j * 2, none⟩ = some (.int .i64 (gj + 1))) := fun W hb => (H7.out.to hb).sat hj
  obtain ⟨y0, y1, y2⟩ := T7.out W7 (Below.refl _ _)
  obtain ⟨r0, r1, r2, rf, r3⟩ := cells3 H7.out.r
  obtain ⟨i3, hi3, hz30, hz31, hz32⟩ := info_parts Tryd.info3
  have HSR : Hid (∀ W, Below W7.heap.size W7 W → ∀ jj v, (cellsI .i64 (f.take k))[jj]? = some v → W.cell? ((⟨qb, qo, none⟩ : Addr).add jj) = some v) := fun W hb => src_take HQ.out HK.out (H7.out.to hb).b hqb
  have hR : w.heap.size + 1 ≠ w.heap.size := ne_one _
  have hRg : w.heap.size + 1 ≠ g := ne_two hgw
  have HZ7 : Hid (w.heap.size + 2 ≤ W7.heap.size) := H7.out.z
  go_region_held3 (fun w' => w'.cell? ⟨w.heap.size, 0, none⟩ = some (.int .i64 m) ∧ w'.cell? ⟨w.heap.size, 2, none⟩ = some (.slice (some ⟨qb, qo, none⟩) (k + 1) d) ∧ w'.cell? ⟨g, j * 2, none⟩ = some (.int .i64 (gj + 1))) (first | go_keep | exact ⟨x0, x1, x2⟩ | with_reducible exact TT.out _ _ _) (first | (refine step_append_any _ (by rfl) _ _ 23 (by rfl) (w.heap.size + 2) 3 i3 (.int .i64 0) 1 8 Tryd.underlying23 hi3 hz30 hz31 hz32 (by rfl) (by decide) (.slice (some ⟨W7.heap.size, 0, none⟩) 0 0) 0 [] (by rfl) (made_drew HZ7.out) ⟨qb, qo, none⟩ k d (cellsI .i64 (f.take k)) (by rfl) HLN.out (HSR.out _ ((((Below.refl _ _).drew).alloc (Nat.le_refl _) _))) (cellsI_one _ _) HKM.out HKB.out (show w.heap.size + 2 ≤ (W7.drew.alloc (.cells #[] 3)).heap.size from by rw [World.size_alloc]; exact Nat.le_succ_of_le HZ7.out) ?_; intro v5 w5 hown5 hg5; rw [Nat.zero_add] at hown5; have hb5 := step_keep hg5; have H5 := hidOv (H7.out.to hb5); obtain ⟨x0, x1, x2⟩ := T7.out w5 hb5; have TT := hidOv (fun (x y z : Value) => (And.intro (set3far (x := x) (y := y) (z := z) hR x0) (And.intro (set3far (x := x) (y := y) (z := z) hR x1) (set3far (x := x) (y := y) (z := z) hRg x2)))); obtain ⟨s0, s1, s2, sf, s3⟩ := cells3 H5.out.r; obtain ⟨p5, c5, hv5⟩ := own_slice hown5; subst hv5; have HW5 := hidOv hown5; clear hown5 hg5 hb5) | (go_at_call 41; refine Calls.mono (CE _) ?_; rintro e w6 ⟨rfl, rfl⟩))
  all_goals go_wp2
  obtain ⟨t0, t1, t2, _, _⟩ := cells3 (set3_heap (x' := .int .i64 m) (y' := .slice (some ⟨g, 0, none⟩) l.length cap) (z' := .slice p5 k c5) (W := w6) H5.out.r)
  have hlen : (l.set j (gj + 1, true)).length = l.length := by simp
  have hown := H5.out.o
  rw [hlen] at hown
  have hB := below_set3 H5.out.b (Nat.le_succ w.heap.size) (.int .i64 m) (.slice (some ⟨g, 0, none⟩) l.length cap) (.slice p5 k c5)
  have hO1 := ownsRow_setCell_below (ownsRow_setCell_below (ownsRow_setCell_below (w := w6) hown (a := ⟨w.heap.size + 1, 0, none⟩) (by simp) (.int .i64 m)) (a := ⟨w.heap.size + 1, 1, none⟩) (by simp) (.slice (some ⟨g, 0, none⟩) l.length cap)) (a := ⟨w.heap.size + 1, 2, none⟩) (by simp) (.slice p5 k c5)
  have hO2 := ownsRow_setCell_below (ownsRow_setCell_below (ownsRow_setCell_below (w := w6) HW5.out (a := ⟨w.heap.size + 1, 0, none⟩) (by simp) (.int .i64 m)) (a := ⟨w.heap.size + 1, 1, none⟩) (by simp) (.slice (some ⟨g, 0, none⟩) l.length cap)) (a := ⟨w.heap.size + 1, 2, none⟩) (by simp) (.slice p5 k c5)
  exact bodyPost_ret (v := .tuple #[.agg #[.int .i64 m, .slice (some ⟨g, 0, none⟩) l.length cap, .slice p5 k c5], .int .u64 ((j : Int) + 1 + (gj + 1) * 4294967296), .int .i64 0]) (by simp [results, Tryd.results26, go_sem, t0, t1, t2]) rfl ⟨_, _, rfl, hO1, hO2, hB⟩
end Go.Proofs.YtaglhajlgnjhcaaDoor
/- AllocTakes: the document's Give where one is not alive. -/
namespace Go.Proofs.YtaglhajlgnjhcaaDoor
open Go.RowKit

/-- The box and the result's box, as the document's Give begins. -/
structure Gi (w W : World) (x y z : Value) : Prop where
  a : W.heap[w.heap.size]? = some (.cells #[x, y, z] 25 (0, 0))
  r : W.heap[w.heap.size + 1]? = some (.cells #[.int .i64 0, .slice none 0 0, .slice none 0 0] 25 (0, 0))
  b : Below w.heap.size w W
theorem Gi.to {w W W' : World} {x y z : Value} (h : Gi w W x y z) (hb : Below W.heap.size W W') : Gi w W' x y z := ⟨atW hb h.a, atW hb h.r, h.b.trans (hb.mono h.b.size)⟩
theorem gi_start (w : World) (x y z : Value) : Gi w ((w.alloc (.cells #[x, y, z] 25)).alloc (.cells #[.int .i64 0, .slice none 0 0, .slice none 0 0] 25)) x y z := by
  refine ⟨?_, ?_, ((Below.refl _ _).alloc (Nat.le_refl _) _).alloc (by simp) _⟩
  · rw [heap_alloc_old (by simp)]; exact heap_at rfl
  · exact heap_at (by simp)

set_option maxRecDepth 20000 in
set_option maxHeartbeats 1000000 in
theorem refGive_dead (m : Int) (c d : Nat) (qi : Option Addr) (ids : List Int) (ci : Nat) (w : World) (p : Option Addr) (l : List (Int × Bool)) (q : Option Addr) (f : List Int) (CI : ∀ (x : Int) (W : World), AIn W p l q f → Calls Tryd.prog 23 #[.agg #[.int .i64 m, .slice p l.length c, .slice q f.length d], .int .u64 x] W fun e w' => e = .returned (.bool (isB l x)) ∧ Below W.heap.size W w') (h : AIn w p l q f) (hI : IRow .u64 w.heap.size w qi ids) (hn : ids.length ≤ 40) (hd : ∃ j, j < ids.length ∧ isB l (iG ids j) = false) :
    Calls Tryd.prog 30 #[.agg #[.int .i64 m, .slice p l.length c, .slice q f.length d], .slice qi ids.length ci] w fun e w' => e = .returned (.tuple #[.agg #[.int .i64 0, .slice none 0 0, .slice none 0 0], .int .i64 122]) ∧ Below w.heap.size w w' := by
  obtain ⟨n, hn'⟩ : ∃ n, n = ids.length := ⟨_, rfl⟩
  have HN := hidOv hn'
  have HD := hidOv hd
  have HI := hidOv hI
  have HH := hidOv h
  have HG := hidOv (gi_start w (.int .i64 m) (.slice p l.length c) (.slice q f.length d))
  rw [← hn'] at hn ⊢
  clear h hI hd hn'
  go_enter Tryd.func30, Tryd.ntmps30
  go_wp2
  go_loopw [15] (fun i wr => ∃ k : Nat, k ≤ n ∧ i = .int .i64 k ∧ (∀ j, j < k → isB l (iG ids j) = true) ∧ Gi w wr (.int .i64 m) (.slice p l.length c) (.slice q f.length d)) (fun i _ => n - (intOf i).toNat)
  case atStart => exact ⟨0, Nat.zero_le _, rfl, fun j hj => by omega, HG.out⟩
  case round =>
    obtain ⟨k, hk, rfl, hok, hg⟩ := hrel
    have HO := hidOv hok
    have HGr := hidOv hg
    clear hok hg HG
    by_cases hlt : k < n
    · obtain ⟨b, off, rfl, hbB, hcs⟩ := (HI.out.below HGr.out.b (Nat.le_refl _)) (by have := HN.out; omega)
      have c0 := hcs k (by have := HN.out; omega)
      clear hcs
      obtain ⟨x, hx⟩ : ∃ x, x = iG ids k := ⟨_, rfl⟩
      have HX := hidOv hx
      rw [← hx] at c0
      clear hx
      have C1 := CI x wr (HH.out.below HGr.out.b)
      clear CI
      obtain ⟨a0, a1, a2, _, _⟩ := cells3 HGr.out.a
      cases hv : isB l x
      · rw [hv] at C1
        clear hv
        go_wp2_with (first | (go_at_call 23; refine Calls.mono C1 ?_; rintro e w1 ⟨rfl, hb⟩; have H1 := hidOv (HGr.out.to hb); clear hb; obtain ⟨r0, r1, r2, rf, _⟩ := cells3 H1.out.r))
        obtain ⟨t0, t1, t2, _, _⟩ := cells3 (set3_heap (x' := .int .i64 0) (y' := .slice none 0 0) (z' := .slice none 0 0) H1.out.r)
        exact bodyPost_ret (v := .tuple #[.agg #[.int .i64 0, .slice none 0 0, .slice none 0 0], .int .i64 122]) (by simp [results, Tryd.results30, go_sem, t0, t1, t2]) rfl ⟨rfl, below_set3 H1.out.b (by omega) _ _ _⟩
      · rw [hv] at C1
        have HO' : Hid (∀ j, j < k + 1 → isB l (iG ids j) = true) := fun j hj => by
          by_cases e : j = k
          · rw [e, ← HX.out]; exact hv
          · exact HO.out j (by omega)
        clear hv HO HX
        go_wp2_with (first | (go_at_call 23; refine Calls.mono C1 ?_; rintro e w1 ⟨rfl, hb⟩; have H1 := hidOv (HGr.out.to hb); clear hb))
        go_roundw
        case rel => exact ⟨k + 1, by omega, by go_num, HO'.out, H1.out⟩
        case measure => simp [intOf]; omega
    · exfalso
      obtain ⟨j, hj, e⟩ := HD.out
      have := HO.out j (by have := HN.out; omega)
      rw [e] at this; cases this
end Go.Proofs.YtaglhajlgnjhcaaDoor
/- AllocTakes: the document's Give where all are alive, but one may not be given, or twice. -/
namespace Go.Proofs.YtaglhajlgnjhcaaDoor
open Go.RowKit

def badAt (ids : List Int) (j : Nat) : Bool := decide (iG ids j ≤ 2) || decide (iG ids j ∈ ids.take j)

set_option maxRecDepth 20000 in
set_option maxHeartbeats 1000000 in
theorem refGive_arg (m : Int) (c d : Nat) (qi : Option Addr) (ids : List Int) (ci : Nat) (w : World) (p : Option Addr) (l : List (Int × Bool)) (q : Option Addr) (f : List Int) (CI : ∀ (x : Int) (W : World), AIn W p l q f → Calls Tryd.prog 23 #[.agg #[.int .i64 m, .slice p l.length c, .slice q f.length d], .int .u64 x] W fun e w' => e = .returned (.bool (isB l x)) ∧ Below W.heap.size W w') (h : AIn w p l q f) (hI : IRow .u64 w.heap.size w qi ids) (hn : ids.length ≤ 40) (hci : ids.length ≤ ci) (hall : ∀ j, j < ids.length → isB l (iG ids j) = true) (hd : ∃ j, j < ids.length ∧ badAt ids j = true) :
    Calls Tryd.prog 30 #[.agg #[.int .i64 m, .slice p l.length c, .slice q f.length d], .slice qi ids.length ci] w fun e w' => e = .returned (.tuple #[.agg #[.int .i64 0, .slice none 0 0, .slice none 0 0], .int .i64 2]) ∧ Below w.heap.size w w' := by
  obtain ⟨n, hn'⟩ : ∃ n, n = ids.length := ⟨_, rfl⟩
  have HN := hidOv hn'
  have HD := hidOv hd
  have HI := hidOv hI
  have HH := hidOv h
  have HA := hidOv hall
  have HG := hidOv (gi_start w (.int .i64 m) (.slice p l.length c) (.slice q f.length d))
  rw [← hn'] at hn hci ⊢
  clear h hI hd hn' hall
  go_enter Tryd.func30, Tryd.ntmps30
  go_wp2
  go_loopw [15] (fun i wr => ∃ k : Nat, k ≤ n ∧ i = .int .i64 k ∧ Gi w wr (.int .i64 m) (.slice p l.length c) (.slice q f.length d)) (fun i _ => n - (intOf i).toNat)
  case atStart => exact ⟨0, Nat.zero_le _, rfl, HG.out⟩
  case round =>
    obtain ⟨k, hk, rfl, hg⟩ := hrel
    have HGr := hidOv hg
    clear hg HG
    by_cases hlt : k < n
    · obtain ⟨b, off, rfl, hbB, hcs⟩ := (HI.out.below HGr.out.b (Nat.le_refl _)) (by have := HN.out; omega)
      have c0 := hcs k (by have := HN.out; omega)
      clear hcs
      have C1 := CI (iG ids k) wr (HH.out.below HGr.out.b)
      rw [HA.out k (by rw [← HN.out]; exact hlt)] at C1
      obtain ⟨x, hx⟩ : ∃ x, x = iG ids k := ⟨_, rfl⟩
      rw [← hx] at c0 C1
      clear CI hx
      obtain ⟨a0, a1, a2, _, _⟩ := cells3 HGr.out.a
      go_wp2_with (first | (go_at_call 23; refine Calls.mono C1 ?_; rintro e w1 ⟨rfl, hb⟩; have H1 := hidOv (HGr.out.to hb); clear hb))
      go_roundw
      case rel => exact ⟨k + 1, by omega, by go_num, H1.out⟩
      case measure => simp [intOf]; omega
    · obtain rfl : k = n := by omega
      clear CI HA HH
      obtain ⟨w1, hw1⟩ : ∃ w1, w1 = wr := ⟨_, rfl⟩
      rw [← hw1] at HGr ⊢
      clear hw1
      go_wp2
      go_loopw [27] (fun i wr => ∃ j : Nat, j ≤ k ∧ i = .int .i64 j ∧ (∀ s, s < j → badAt ids s = false) ∧ wr = w1) (fun i _ => k - (intOf i).toNat)
      case atStart => exact ⟨0, Nat.zero_le _, rfl, fun s hs => by omega, rfl⟩
      case round =>
        obtain ⟨j, hj, rfl, hok, hw⟩ := hrel
        rw [hw]
        clear hw
        have HO := hidOv hok
        clear hok
        by_cases hlt2 : j < k
        · have hIr := (HI.out.below HGr.out.b (Nat.le_refl _)).mono HGr.out.b.size
          have CH := has56 qi (ids.take j) ci (iG ids j) w1 (hIr.take j) (by simp; omega)
          have hlj : (ids.take j).length = j := by simp; have := HN.out; omega
          rw [hlj] at CH
          clear hlj
          obtain ⟨b, off, rfl, hbB, hcs⟩ := hIr (by have := HN.out; omega)
          have c0 := hcs j (by have := HN.out; omega)
          clear hcs
          have HB : Hid (badAt ids j = (decide (iG ids j ≤ 2) || decide (iG ids j ∈ ids.take j))) := rfl
          obtain ⟨v, hv⟩ : ∃ v, v = decide (iG ids j ∈ ids.take j) := ⟨_, rfl⟩
          rw [← hv] at CH HB
          clear hv
          obtain ⟨x, hx⟩ : ∃ x, x = iG ids j := ⟨_, rfl⟩
          rw [← hx] at c0 CH HB
          clear hx
          obtain ⟨r0, r1, r2, rf, _⟩ := cells3 HGr.out.r
          have hj0 : (0 : Int) ≤ (j : Int) := by omega
          have hjc : (j : Int) ≤ (ci : Int) := by omega
          by_cases h2 : x ≤ 2
          · have e2 : decide (x ≤ 2) = true := decide_eq_true h2
            clear HB
            go_wp2
            obtain ⟨t0, t1, t2, _, _⟩ := cells3 (set3_heap (x' := .int .i64 0) (y' := .slice none 0 0) (z' := .slice none 0 0) HGr.out.r)
            exact bodyPost_ret (v := .tuple #[.agg #[.int .i64 0, .slice none 0 0, .slice none 0 0], .int .i64 2]) (by simp [results, Tryd.results30, go_sem, t0, t1, t2]) rfl ⟨rfl, below_set3 HGr.out.b (by omega) _ _ _⟩
          · have e2 : decide (x ≤ 2) = false := decide_eq_false h2
            rw [e2] at HB
            cases v
            · go_wp2_with (first | (go_at_call 56; refine Calls.mono CH ?_; rintro e w6 ⟨rfl, hw6⟩; rw [hw6]; clear hw6 w6))
              go_roundw
              case rel => exact ⟨j + 1, by omega, by go_num, fun s hs => (by
                by_cases e : s = j
                · rw [e]; exact HB.out
                · exact HO.out s (by omega)), trivial⟩
              case measure => simp [intOf]; omega
            · go_wp2_with (first | (go_at_call 56; refine Calls.mono CH ?_; rintro e w6 ⟨rfl, hw6⟩; rw [hw6]; clear hw6 w6))
              obtain ⟨t0, t1, t2, _, _⟩ := cells3 (set3_heap (x' := .int .i64 0) (y' := .slice none 0 0) (z' := .slice none 0 0) HGr.out.r)
              exact bodyPost_ret (v := .tuple #[.agg #[.int .i64 0, .slice none 0 0, .slice none 0 0], .int .i64 2]) (by simp [results, Tryd.results30, go_sem, t0, t1, t2]) rfl ⟨rfl, below_set3 HGr.out.b (by omega) _ _ _⟩
        · exfalso
          obtain ⟨s, hs, e⟩ := HD.out
          have := HO.out s (by have := HN.out; omega)
          rw [e] at this; cases this
end Go.Proofs.YtaglhajlgnjhcaaDoor
/- AllocTakes: plain mathematics of the document's Give: where it refuses, and that it leaves what the program's leaves. -/
namespace Go.Proofs.YtaglhajlgnjhcaaDoor

theorem mem_take_iG {ids : List Int} {n : Nat} (hn : n ≤ ids.length) (y : Int) : y ∈ ids.take n ↔ ∃ i, i < n ∧ iG ids i = y := by
  constructor
  · intro h
    obtain ⟨i, hi, e⟩ := List.getElem_of_mem h
    have hi' : i < n := by simp at hi; omega
    refine ⟨i, hi', ?_⟩
    rw [← e]; simp [iG, show i < ids.length by omega]
  · rintro ⟨i, hi, rfl⟩
    have e : iG ids i = (ids.take n)[i]'(by simp; omega) := by simp [iG, show i < ids.length by omega]
    rw [e]; exact List.getElem_mem _
/-- An id that is alive is at most 2 just where its index is. -/
theorem live_low {m : Int} {l : List (Int × Bool)} {f : List Int} (h : mayB m l f = true) {x : Int} (hx : livesB l x = true) : x ≤ 2 ↔ p1 x ≤ 2 := by
  obtain ⟨j, hp, hj, hg, hs, hk⟩ := live_parts hx
  have e := live_is h hp hx
  obtain ⟨e1, _⟩ := mayB_ent h hj
  obtain ⟨g0, g7⟩ := mayB_slot h j hj
  rw [e1] at e
  constructor
  · intro h2; omega
  · intro h2
    have hs := ((mayB_iff m l f).1 h).2.1 j hj
    unfold slotOk at hs
    simp only [Bool.and_eq_true, Bool.or_eq_true, decide_eq_true_eq] at hs
    rcases hs.2 with h3 | h3
    · omega
    · omega
theorem live_inj {m : Int} {l : List (Int × Bool)} {f : List Int} (h : mayB m l f = true) {x y : Int} (hx : livesB l x = true) (hy : livesB l y = true) (e : p1 x = p1 y) : x = y := by
  obtain ⟨j, hp, hj, _⟩ := live_parts hx
  rw [live_is h hp hx, live_is h (e ▸ hp) hy]
/-- Give refuses just where one stands twice, or is one of the first two. -/
theorem gRun_refuses {m : Int} {l : List (Int × Bool)} {f ids : List Int} (h : mayB m l f = true) (ha : allLive l ids = true) : ∀ n, n ≤ ids.length → (gRun l ids n = none ↔ ∃ i, i < n ∧ badAt ids i = true)
  | 0, _ => ⟨fun e => by simp [gRun] at e, fun ⟨i, hi, _⟩ => by omega⟩
  | n + 1, hn => by
    have IH := gRun_refuses h ha n (by omega)
    cases hk : gRun l ids n with
    | none =>
      obtain ⟨i, hi, hb⟩ := IH.1 hk
      refine ⟨fun _ => ⟨i, by omega, hb⟩, fun _ => ?_⟩
      unfold gRun; rw [hk]; rfl
    | some s =>
      have hno : ¬ ∃ i, i < n ∧ badAt ids i = true := fun hb => by rw [IH.2 hb] at hk; cases hk
      have I := ginv_run ha (n := n) (l' := s.1) (left := s.2) (by omega) hk
      have hx := allLive_at ha n (by omega)
      obtain ⟨j, hp, hj, hg, hs, _⟩ := live_parts hx
      have ej : (p1 (iG ids n) - 1).toNat = j := by omega
      have e1 : gRun l ids (n + 1) = gStep s (iG ids n) := by
        show (gRun l ids n).bind _ = _
        rw [hk]; rfl
      have key : badAt ids n = true ↔ gStep s (iG ids n) = none := by
        unfold badAt gStep
        rw [ej]
        have hd : iG ids n ∈ ids.take n ↔ sA s.1 j = false := by
          rw [mem_take_iG (by omega)]
          have hI := I.a j hj
          constructor
          · rintro ⟨i, hi, e⟩
            rw [Bool.eq_false_iff]; intro hc
            exact (hI.1 hc).2 ⟨i, hi, by rw [e]; exact hp⟩
          · intro hc
            have hgo : gone ids n j := by
              refine Classical.byContradiction fun hng => ?_
              have := hI.2 ⟨hs, hng⟩
              rw [hc] at this; cases this
            obtain ⟨i, hi, e⟩ := hgo
            exact ⟨i, hi, live_inj h (allLive_at ha i (by omega)) hx (by rw [e, hp])⟩
        have hl := live_low h hx
        by_cases c1 : p1 (iG ids n) ≤ 2
        · have c2 := hl.2 c1
          simp [c1, c2]
        · have c2 : ¬ iG ids n ≤ 2 := fun c => c1 (hl.1 c)
          cases c3 : sA s.1 j
          · simp [hd.2 c3]
          · have c4 : ¬ iG ids n ∈ ids.take n := fun c => by rw [hd.1 c] at c3; cases c3
            simp [c1, c2, c4]
      rw [e1, ← key]
      constructor
      · intro hb; exact ⟨n, by omega, hb⟩
      · rintro ⟨i, hi, hb⟩
        by_cases e : i = n
        · subst e; exact hb
        · exact absurd ⟨i, by omega, hb⟩ hno

/-- What the document's Give leaves: the slots, and the indexes that are free anew. -/
def docS (l : List (Int × Bool)) (ids : List Int) : Nat → List (Int × Bool)
  | 0 => []
  | k + 1 => docS l ids k ++ [(sG l k, if decide (entV ((k : Int) + 1) (sG l k) ∈ ids) then false else sA l k)]
def docF (l : List (Int × Bool)) (ids : List Int) : Nat → List Int
  | 0 => []
  | k + 1 => docF l ids k ++ if decide (entV ((k : Int) + 1) (sG l k) ∈ ids) && decide (sG l k < 7) then [(k : Int) + 1] else []
theorem docS_len (l : List (Int × Bool)) (ids : List Int) : ∀ k, (docS l ids k).length = k
  | 0 => rfl
  | k + 1 => by unfold docS; rw [List.length_append, docS_len l ids k]; rfl
theorem take_succ_s {l : List (Int × Bool)} {k : Nat} (hk : k < l.length) : l.take (k + 1) = l.take k ++ [(sG l k, sA l k)] := by
  rw [List.take_succ_eq_append_getElem hk]
  have e : (sG l k, sA l k) = l[k] := by simp [sG, sA, hk]
  rw [e]
theorem docS_give {m : Int} {l : List (Int × Bool)} {f ids : List Int} {l' : List (Int × Bool)} {left : List Int} (h : mayB m l f = true) (ha : allLive l ids = true) (I : GInv l ids ids.length l' left) : ∀ k, k ≤ l.length → l'.take k = docS l ids k
  | 0, _ => rfl
  | k + 1, hk => by
    have hkl : k < l.length := by omega
    rw [take_succ_s (by rw [I.len]; exact hkl), docS_give h ha I k (by omega), I.g k hkl]
    show _ = docS l ids k ++ [(sG l k, if decide (entV ((k : Int) + 1) (sG l k) ∈ ids) then false else sA l k)]
    have hi := ids_gone h ha hkl
    have ia := I.a k hkl
    by_cases c : entV ((k : Int) + 1) (sG l k) ∈ ids
    · have : sA l' k = false := by
        rw [Bool.eq_false_iff]; intro hc; exact (ia.1 hc).2 (hi.1 c)
      rw [this, decide_eq_true c]; rfl
    · have : sA l' k = sA l k := by
        rw [Bool.eq_iff_iff, ia]; exact ⟨fun h => h.1, fun h => ⟨h, fun hg => c (hi.2 hg)⟩⟩
      rw [this, decide_eq_false c]; rfl
theorem docF_mem (l : List (Int × Bool)) (ids : List Int) (y : Int) : ∀ k, y ∈ docF l ids k ↔ ∃ j : Nat, j < k ∧ y = (j : Int) + 1 ∧ entV ((j : Int) + 1) (sG l j) ∈ ids ∧ sG l j < 7
  | 0 => by simp [docF]
  | k + 1 => by
    unfold docF
    rw [List.mem_append, docF_mem l ids y k]
    constructor
    · rintro (⟨j, h1, h2⟩ | h)
      · exact ⟨j, by omega, h2⟩
      · split at h
        · rename_i hc
          simp only [Bool.and_eq_true, decide_eq_true_eq] at hc
          exact ⟨k, by omega, by simpa using h, hc⟩
        · simp at h
    · rintro ⟨j, h1, h2, h3, h4⟩
      by_cases e : j = k
      · subst e; right; rw [if_pos (by simp [h3, h4])]; simp [h2]
      · exact .inl ⟨j, by omega, h2, h3, h4⟩
theorem docF_up (l : List (Int × Bool)) (ids : List Int) : ∀ k, (docF l ids k).Pairwise (· < ·)
  | 0 => List.Pairwise.nil
  | k + 1 => by
    unfold docF
    rw [List.pairwise_append]
    refine ⟨docF_up l ids k, ?_, fun a ha b hb => ?_⟩
    · split <;> simp
    · obtain ⟨j, h1, h2, _⟩ := (docF_mem l ids a k).1 ha
      split at hb
      · have : b = (k : Int) + 1 := by simpa using hb
        omega
      · simp at hb
theorem up_eq : ∀ {a b : List Int}, a.Pairwise (· < ·) → b.Pairwise (· < ·) → (∀ y, y ∈ a ↔ y ∈ b) → a = b
  | [], [], _, _, _ => rfl
  | [], y :: b, _, _, h => absurd ((h y).2 (by simp)) (by simp)
  | x :: a, [], _, _, h => absurd ((h x).1 (by simp)) (by simp)
  | x :: a, y :: b, ha, hb, h => by
    have ha' := List.pairwise_cons.1 ha
    have hb' := List.pairwise_cons.1 hb
    have e : x = y := by
      rcases List.mem_cons.1 ((h x).1 (by simp)) with e | e
      · exact e
      · rcases List.mem_cons.1 ((h y).2 (by simp)) with e' | e'
        · exact e'.symm
        · have := ha'.1 y e'; have := hb'.1 x e; omega
    subst e
    congr 1
    refine up_eq ha'.2 hb'.2 fun z => ⟨fun hz => ?_, fun hz => ?_⟩
    · rcases List.mem_cons.1 ((h z).1 (List.mem_cons_of_mem _ hz)) with e | e
      · subst e; have := ha'.1 z hz; omega
      · exact e
    · rcases List.mem_cons.1 ((h z).2 (List.mem_cons_of_mem _ hz)) with e | e
      · subst e; have := hb'.1 z hz; omega
      · exact e
theorem srt_up {l : List Int} (h : l.Nodup) : (srt l).Pairwise (· < ·) := by
  have h1 : (srt l).Pairwise (fun x y => decide (x ≤ y) = true) := List.pairwise_mergeSort (fun a b c hab hbc => by simp at *; omega) (fun a b => by simp; omega) l
  have h2 := srt_nd h
  have h3 := h1.and h2
  exact h3.imp fun {a b} h => by
    have : a ≤ b := by simpa using h.1
    have : a ≠ b := h.2
    omega
/-- Whoever is given and can be used again stands among those that are left. -/
theorem left_has {l : List (Int × Bool)} {ids : List Int} (ha : allLive l ids = true) : ∀ {n : Nat} {l' : List (Int × Bool)} {left : List Int}, n ≤ ids.length → gRun l ids n = some (l', left) → ∀ j : Nat, j < l.length → gone ids n j → usB (sG l j) false = true → (j : Int) + 1 ∈ left
  | 0, _, _, _, _, j, _, ⟨i, hi, _⟩, _ => by omega
  | n + 1, l', left, hn, h, j, hj, hgo, hu => by
    unfold gRun at h
    cases hk : gRun l ids n with
    | none => rw [hk] at h; cases h
    | some s =>
      rw [hk] at h
      have I := ginv_run ha (n := n) (l' := s.1) (left := s.2) (by omega) hk
      have IH := left_has ha (n := n) (l' := s.1) (left := s.2) (by omega) hk j hj
      have h : gStep s (iG ids n) = some (l', left) := h
      unfold gStep at h
      split at h
      · cases h
      · have e3 : left = s.2 ++ if usB (sG s.1 (p1 (iG ids n) - 1).toNat) false then [p1 (iG ids n)] else [] := (congrArg Prod.snd (Option.some.inj h)).symm
        rw [e3]
        obtain ⟨i, hi, e⟩ := hgo
        by_cases ei : i = n
        · subst ei
          have ej : (p1 (iG ids i) - 1).toNat = j := by omega
          rw [ej, I.g j hj, if_pos hu, e]; simp
        · exact List.mem_append_left _ (IH ⟨i, by omega, e⟩ hu)
theorem docF_give {m : Int} {l : List (Int × Bool)} {f ids : List Int} {l' : List (Int × Bool)} {left : List Int} (h : mayB m l f = true) (ha : allLive l ids = true) (hr : gRun l ids ids.length = some (l', left)) : srt left = docF l ids l.length := by
  have I := ginv_run ha (Nat.le_refl _) hr
  refine up_eq (srt_up I.nd) (docF_up l ids _) fun y => ?_
  rw [srt_mem, docF_mem]
  constructor
  · intro hy
    obtain ⟨j, e, hj, a1, a2, a3⟩ := I.el y hy
    have hgo : gone ids ids.length j := by
      refine Classical.byContradiction fun hng => ?_
      have := (I.a j hj).2 ⟨a1, hng⟩
      rw [a2] at this; cases this
    refine ⟨j, hj, e, (ids_gone h ha hj).2 hgo, ?_⟩
    unfold usB at a3; simpa using a3
  · rintro ⟨j, hj, rfl, h1, h2⟩
    exact left_has ha (Nat.le_refl _) hr j hj ((ids_gone h ha hj).1 h1) (by unfold usB; simp [h2])
end Go.Proofs.YtaglhajlgnjhcaaDoor
/- AllocTakes: what lies where in the document's Give, where it gives. -/
namespace Go.Proofs.YtaglhajlgnjhcaaDoor
open Go.RowKit

theorem own_ne {W : World} {base : Nat} {e : TypeId} {size n : Nat} {v : Value} {xs : List Value} (h : W.ownsRow base e size v n xs) {g : Nat} {cs : Array Value} {t : TypeId} (hg : W.heap[g]? = some (.cells cs t (0, 0))) (ht : t ≠ e) : v.ownBlock ≠ some g := by
  rcases h.2 with ⟨rfl, _⟩ | ⟨g', cap, cur, rfl, _, hh, _⟩
  · simp [Value.ownBlock]
  · intro he
    simp [Value.ownBlock] at he
    subst he
    rw [hh] at hg
    simp at hg
    exact ht hg.2.symm
theorem own_ne2 {W : World} {b1 b2 : Nat} {e1 e2 : TypeId} {s1 s2 n1 n2 : Nat} {v1 v2 : Value} {xs1 xs2 : List Value} (h1 : W.ownsRow b1 e1 s1 v1 n1 xs1) (h2 : W.ownsRow b2 e2 s2 v2 n2 xs2) (ht : e1 ≠ e2) : v1.ownBlock = none ∨ v1.ownBlock ≠ v2.ownBlock := by
  rcases h1.2 with ⟨rfl, _⟩ | ⟨g', cap, cur, rfl, _, hh, _⟩
  · left; rfl
  · right
    intro he
    exact own_ne h2 hh ht he.symm
theorem grow_set (W : World) (g i : Nat) (v : Value) : W.grownBy (W.setCell ⟨g, i, none⟩ v) (some g) :=
  ⟨rfl, rfl, rfl, by simp, fun k _ hk => heap_setCell_other _ _ _ _ (by intro e; exact hk (congrArg some e))⟩

structure G3 (w W : World) (g : Nat) (x y z : Value) (m : Int) (vS : Value) (xs : List (Int × Bool)) (vF : Value) (ys : List Int) : Prop where
  a : W.heap[w.heap.size]? = some (.cells #[x, y, z] 25 (0, 0))
  r : W.heap[w.heap.size + 1]? = some (.cells #[.int .i64 0, .slice none 0 0, .slice none 0 0] 25 (0, 0))
  o : W.heap[g]? = some (.cells #[.int .i64 m, vS, vF] 25 (0, 0))
  s : W.ownsRow (w.heap.size + 2) 61 2 vS xs.length (cellsS xs)
  f : W.ownsRow (w.heap.size + 2) 3 1 vF ys.length (cellsI .i64 ys)
  b : Below w.heap.size w W
  z : w.heap.size + 2 ≤ g
theorem below_grown {W W' : World} (hb : Below W.heap.size W W') : W.grownBy W' none := ⟨hb.os, hb.tape, hb.output, hb.size, fun k hk _ => hb.block k hk⟩
section
variable {w W W' : World} {g : Nat} {x y z : Value} {m : Int} {vS : Value} {xs : List (Int × Bool)} {vF : Value} {ys : List Int}
theorem G3.to (h : G3 w W g x y z m vS xs vF ys) (hb : Below W.heap.size W W') : G3 w W' g x y z m vS xs vF ys :=
  ⟨atW hb h.a, atW hb h.r, atW hb h.o, h.s.kept (below_grown hb) (by cases vS.ownBlock <;> simp), h.f.kept (below_grown hb) (by cases vF.ownBlock <;> simp), h.b.trans (hb.mono h.b.size), h.z⟩
theorem keepB {n : Nat} {o : Obj} {row : Option Nat} (hg : W.grownBy W' row) (h : W.heap[n]? = some o) (hne : row ≠ some n) : W'.heap[n]? = some o := (hg.block n (Array.getElem?_eq_some_iff.1 h).1 (fun e => hne e.symm)).trans h
theorem G3.setF (h : G3 w W g x y z m vS xs vF ys) (hg : W.grownBy W' vF.ownBlock) {vF' : Value} {ys' : List Int} (ho : W'.ownsRow (w.heap.size + 2) 3 1 vF' ys'.length (cellsI .i64 ys')) : G3 w (W'.setCell ⟨g, 2, none⟩ vF') g x y z m vS xs vF' ys' := by
  have hz := h.z
  have nA := own_ne h.f h.a (by decide)
  have nR := own_ne h.f h.r (by decide)
  have nO := own_ne h.f h.o (by decide)
  have hO := keepB hg h.o nO
  have hS := h.s.kept hg (own_ne2 h.s h.f (by decide))
  have e := heap_setCell_same W' g 2 _ 25 vF' hO
  refine ⟨?_, ?_, by simpa using e, hS.kept (grow_set _ _ _ _) (.inr (own_ne hS hO (by decide))), ho.kept (grow_set _ _ _ _) (.inr (own_ne ho hO (by decide))), ?_, hz⟩
  · rw [heap_setCell_other _ _ _ _ (by simp; omega)]; exact keepB hg h.a nA
  · rw [heap_setCell_other _ _ _ _ (by simp; omega)]; exact keepB hg h.r nR
  · refine Below.setCell (p := ⟨g, 2, none⟩) ?_ (by simp; omega) _
    exact h.b.grown hg h.b.size (fun k hk => by have := (h.f.lt k hk).1; omega)
theorem G3.setS (h : G3 w W g x y z m vS xs vF ys) (hg : W.grownBy W' vS.ownBlock) {vS' : Value} {xs' : List (Int × Bool)} (ho : W'.ownsRow (w.heap.size + 2) 61 2 vS' xs'.length (cellsS xs')) : G3 w (W'.setCell ⟨g, 1, none⟩ vS') g x y z m vS' xs' vF ys := by
  have hz := h.z
  have nA := own_ne h.s h.a (by decide)
  have nR := own_ne h.s h.r (by decide)
  have nO := own_ne h.s h.o (by decide)
  have hO := keepB hg h.o nO
  have hF := h.f.kept hg (own_ne2 h.f h.s (by decide))
  have e := heap_setCell_same W' g 1 _ 25 vS' hO
  refine ⟨?_, ?_, by simpa using e, ho.kept (grow_set _ _ _ _) (.inr (own_ne ho hO (by decide))), hF.kept (grow_set _ _ _ _) (.inr (own_ne hF hO (by decide))), ?_, hz⟩
  · rw [heap_setCell_other _ _ _ _ (by simp; omega)]; exact keepB hg h.a nA
  · rw [heap_setCell_other _ _ _ _ (by simp; omega)]; exact keepB hg h.r nR
  · refine Below.setCell (p := ⟨g, 1, none⟩) ?_ (by simp; omega) _
    exact h.b.grown hg h.b.size (fun k hk => by have := (h.s.lt k hk).1; omega)
end
theorem bel2 (w : World) (a b : Obj) : Below w.heap.size w ((w.alloc a).alloc b) := ((Below.refl _ _).alloc (Nat.le_refl _) _).alloc (by simp) _
/-- The cell of one that is appended. -/
theorem src_one3 (W : World) (v : Value) : ∀ j u, ([v] : List Value)[j]? = some u → (W.alloc (.cells #[v] 3)).cell? ((⟨W.heap.size, 0, none⟩ : Addr).add j) = some u := by
  intro j u h
  have hj : j = 0 := by have := (List.getElem?_eq_some_iff.1 h).1; simp at this; omega
  subst hj
  simp at h
  subst h
  rw [show (⟨W.heap.size, 0, none⟩ : Addr).add 0 = ⟨W.heap.size, 0, none⟩ from rfl, World.cell?_alloc_at _ _ _ _ rfl]; rfl
theorem src_one61 (W : World) (a b : Value) : ∀ j u, ([a, b] : List Value)[j]? = some u → (W.alloc (.cells #[a, b] 61)).cell? ((⟨W.heap.size, 0, none⟩ : Addr).add j) = some u := by
  intro j u h
  have hj : j = 0 ∨ j = 1 := by have := (List.getElem?_eq_some_iff.1 h).1; simp at this; omega
  rcases hj with rfl | rfl
  · simp at h
    subst h
    rw [show (⟨W.heap.size, 0, none⟩ : Addr).add 0 = ⟨W.heap.size, 0, none⟩ from rfl, World.cell?_alloc_at _ _ _ _ rfl]; rfl
  · simp at h
    subst h
    rw [show (⟨W.heap.size, 0, none⟩ : Addr).add 1 = ⟨W.heap.size, 1, none⟩ from rfl, World.cell?_alloc_at _ _ _ _ rfl]; rfl
theorem cellsS_snoc (l : List (Int × Bool)) (s : Int × Bool) : cellsS (l ++ [s]) = cellsS l ++ [.int .i64 s.1, .bool s.2] := by
  induction l with
  | nil => rfl
  | cons a l ih => simp [cellsS, ih]
theorem cellsI_snoc (q : IntKind) (l : List Int) (x : Int) : cellsI q (l ++ [x]) = cellsI q l ++ [.int q x] := by simp [cellsI]
end Go.Proofs.YtaglhajlgnjhcaaDoor
