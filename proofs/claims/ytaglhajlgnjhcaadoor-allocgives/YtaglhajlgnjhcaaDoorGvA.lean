/- AllocGives: slices.Contains; what Give answers; what lies where. -/
import Derived.Test.YtaglhajlgnjhcaaDoorGvM
import Derived.Test.YtaglhajlgnjhcaaDoorSeA
import Derived.Test.YtaglhajlgnjhcaaDoorOwA
namespace Go.Proofs.YtaglhajlgnjhcaaDoor
open Go.RowKit

theorem hidOv {p : Prop} (h : p) : Hid p := h
set_option maxRecDepth 20000 in
set_option maxHeartbeats 2000000 in
theorem index57 (p : Option Addr) (l : List Int) (c : Nat) (x : Int) (w : World) (hS : IRow .u64 w.heap.size w p l) (hn : l.length ≤ 1099511627776) :
    Calls Tryd.prog 57 #[.slice p l.length c, .int .u64 x] w fun e w' => ∃ i : Int, e = .returned (.int .i64 i) ∧ decide (0 ≤ i) = decide (x ∈ l) ∧ w' = w := by
  obtain ⟨n, hn'⟩ : ∃ n, n = l.length := ⟨_, rfl⟩
  have HN := hidOv hn'
  obtain ⟨v, hv⟩ : ∃ v, v = decide (x ∈ l) := ⟨_, rfl⟩
  have HV := hidOv hv
  have HS := hidOv hS
  rw [← hn'] at hn ⊢
  rw [← hv]
  clear hS hn' hv
  go_enter Tryd.func57, Tryd.ntmps57
  go_wp2
  go_loop [8] (fun i => ∃ k : Nat, k ≤ n ∧ i = .int .i64 k ∧ ∀ j, j < k → iG l j ≠ x) (fun i => n - (intOf i).toNat)
  case atStart => exact ⟨0, Nat.zero_le _, rfl, fun j h => by omega⟩
  case round =>
    obtain ⟨k, hk, rfl, hok⟩ := hrel
    have HO := hidOv hok
    clear hok
    by_cases hlt : k < n
    · obtain ⟨b, off, rfl, hbB, hcs⟩ := HS.out (by have := HN.out; omega)
      have c0 := hcs k (by have := HN.out; omega)
      clear hcs
      obtain ⟨y, hy⟩ : ∃ y, y = iG l k := ⟨_, rfl⟩
      rw [← hy] at c0
      have HY := hidOv hy
      clear hy
      by_cases hxy : x = y
      · have e : v = true := by rw [HV.out, decide_eq_true]; rw [hxy, HY.out]; exact iG_mem' (by rw [← HN.out]; exact hlt)
        subst e
        have h' : (x == y) = true := by simpa using hxy
        clear HV HO HY hxy
        go_wp2
        go_ret
        exact ⟨(k : Int), rfl, by simp, rfl⟩
      · have h' : (x == y) = false := by simpa using hxy
        have HO' : Hid (∀ j, j < k + 1 → iG l j ≠ x) := fun j hj => by
          by_cases e : j = k
          · rw [e, ← HY.out]; exact fun e => hxy e.symm
          · exact HO.out j (by omega)
        clear HO HY hxy
        go_wp2
        go_round
        case rel => exact ⟨k + 1, by omega, by go_num, HO'.out⟩
        case measure => simp [intOf]; omega
    · obtain rfl : k = n := by omega
      have e : v = false := by
        rw [HV.out, decide_eq_false]; intro h
        obtain ⟨j, hj, e⟩ := List.getElem_of_mem h
        exact HO.out j (by rw [HN.out]; exact hj) (by simp [iG, hj, e])
      subst e
      clear HV HO
      go_wp2
      go_ret
      exact ⟨-1, rfl, by decide, rfl⟩
theorem contains31 (p : Option Addr) (l : List Int) (c : Nat) (x : Int) (w : World) (hS : IRow .u64 w.heap.size w p l) (hn : l.length ≤ 1099511627776) :
    Calls Tryd.prog 31 #[.slice p l.length c, .int .u64 x] w fun e w' => e = .returned (.bool (decide (x ∈ l))) ∧ w' = w := by
  have CI := index57 p l c x w hS hn
  obtain ⟨v, hv⟩ : ∃ v, v = decide (x ∈ l) := ⟨_, rfl⟩
  rw [← hv] at CI ⊢
  clear hS hn hv
  go_enter Tryd.func31, Tryd.ntmps31
  go_wp2_with (first | (go_at_call 57; refine Calls.mono CI ?_; rintro e w1 ⟨i, rfl, hi, rfl⟩; have HI := hidOv hi; clear hi))
  go_ret
  exact ⟨ret_bool HI.out, rfl⟩

/-- A boxed allocator at A, and where its rows lie. -/
structure Bo (W : World) (A : Nat) (m : Int) (l : List (Int × Bool)) (f : List Int) (p : Option Addr) (c : Nat) (q : Option Addr) (d : Nat) : Prop where
  a : W.heap[A]? = some (.cells #[.int .i64 m, .slice p l.length c, .slice q f.length d] 25 (0, 0))
  ia : AIn W p l q f
theorem Bo.to {W W' : World} {A : Nat} {m : Int} {l : List (Int × Bool)} {f : List Int} {p : Option Addr} {c : Nat} {q : Option Addr} {d : Nat} (h : Bo W A m l f p c q d) (hb : Below W.heap.size W W') : Bo W' A m l f p c q d := ⟨atW hb h.a, h.ia.below hb⟩
theorem Bo.s3 {W : World} {A : Nat} {m : Int} {l : List (Int × Bool)} {f : List Int} {p : Option Addr} {c : Nat} {q : Option Addr} {d : Nat} (h : Bo W A m l f p c q d) :
    W.cell? ⟨A, 0, none⟩ = some (.int .i64 m) ∧ W.cell? ⟨A, 1, none⟩ = some (.slice p l.length c) ∧ W.cell? ⟨A, 2, none⟩ = some (.slice q f.length d) := by
  obtain ⟨a0, a1, a2, _, _⟩ := cells3 h.a
  exact ⟨a0, a1, a2⟩
theorem Bo.new {W : World} {m : Int} {l : List (Int × Bool)} {f : List Int} {p : Option Addr} {c : Nat} {q : Option Addr} {d : Nat} (h : AIn W p l q f) : Bo (W.alloc (.cells #[.int .i64 m, .slice p l.length c, .slice q f.length d] 25)) W.heap.size m l f p c q d := ⟨heap_at rfl, h.alloc _⟩

/-- Where Give refuses. -/
theorem give_no (m : Int) (l : List (Int × Bool)) (f ids : List Int) (hid : idsOk ids) (hn : ids.length ≤ 40) (h : mayB m l f = false ∨ allLive l ids = false ∨ gRun l ids ids.length = none) :
    ∃ n : Int, n ≠ 0 ∧ ∀ (c d : Nat) (qi : Option Addr) (ci : Nat) (w : World) (p q : Option Addr), AIn w p l q f → IRow .u64 w.heap.size w qi ids →
      Calls Tryd.prog 29 #[.agg #[.int .i64 m, .slice p l.length c, .slice q f.length d], .slice qi ids.length ci] w fun e w' => e = .returned (.tuple #[.agg #[.int .i64 0, .slice none 0 0, .slice none 0 0], .int .i64 n]) ∧ Below w.heap.size w w' := by
  cases hm : mayB m l f
  · exact ⟨120, by decide, fun c d qi ci w p q hA _ => give_bad m c d qi ids ci w p l q f hA hm⟩
  · cases ha : allLive l ids
    · exact ⟨122, by decide, fun c d qi ci w p q hA hI => give_dead m c d qi ids ci w p l q f hA hI hid (by omega) hm ha⟩
    · rw [hm, ha] at h
      have hr : gRun l ids ids.length = none := by simpa using h
      refine ⟨2, by decide, fun c d qi ci w p q hA hI => ?_⟩
      have := give_run m c d qi ids ci w p l q f hA hI hid (by omega) hm ha
      rw [hr] at this
      exact this
theorem give_yes {m : Int} {l : List (Int × Bool)} {f ids : List Int} {l' : List (Int × Bool)} {left : List Int} (hid : idsOk ids) (hn : ids.length ≤ 40) (hm : mayB m l f = true) (ha : allLive l ids = true) (hr : gRun l ids ids.length = some (l', left)) (hf : f.length ≤ 40) :
    ∀ (c d : Nat) (qi : Option Addr) (ci : Nat) (w : World) (p q : Option Addr), AIn w p l q f → IRow .u64 w.heap.size w qi ids →
      Calls Tryd.prog 29 #[.agg #[.int .i64 m, .slice p l.length c, .slice q f.length d], .slice qi ids.length ci] w fun e w' => ∃ G H, e = .returned (.tuple #[.agg #[.int .i64 m, .slice (some ⟨G, 0, none⟩) l'.length l'.length, .slice (some ⟨H, 0, none⟩) (f ++ srt left).length (f ++ srt left).length], .int .i64 0]) ∧ AIn w' (some ⟨G, 0, none⟩) l' (some ⟨H, 0, none⟩) (f ++ srt left) ∧ Below w.heap.size w w' := by
  intro c d qi ci w p q hA hI
  have H := give_run m c d qi ids ci w p l q f hA hI hid (by omega) hm ha
  rw [hr] at H
  have I := ginv_run ha (Nat.le_refl _) hr
  have hl := hA.ln
  have hlf := (gRun_len hr).2
  refine Calls.mono H ?_
  rintro e w' ⟨G, H, rfl, ho⟩
  refine ⟨G, H, by rw [I.len], ho.inW (hA.fr.below ho.b hA.fr.lt) (by rw [I.len]; exact hl) ?_, ho.b⟩
  rw [List.length_append, srt_len]
  dsimp only at hlf ⊢
  omega

/-- The first k that do not stand in a row. -/
def notN (xs ids : List Int) (k : Nat) : List Int := (xs.take k).filter fun y => !decide (y ∈ ids)
theorem notN_t {xs ids : List Int} {k : Nat} (hk : k < xs.length) (h : decide (iG xs k ∈ ids) = false) : notN xs ids (k + 1) = notN xs ids k ++ [iG xs k] := by
  have e : xs.take (k + 1) = xs.take k ++ [iG xs k] := by rw [List.take_succ_eq_append_getElem hk]; simp [iG, hk]
  unfold notN; rw [e, List.filter_append]; simp [h]
theorem notN_f {xs ids : List Int} {k : Nat} (hk : k < xs.length) (h : decide (iG xs k ∈ ids) = true) : notN xs ids (k + 1) = notN xs ids k := by
  have e : xs.take (k + 1) = xs.take k ++ [iG xs k] := by rw [List.take_succ_eq_append_getElem hk]; simp [iG, hk]
  unfold notN; rw [e, List.filter_append]; simp [h]
theorem notN_len (xs ids : List Int) (k : Nat) : (notN xs ids k).length ≤ k := by
  unfold notN; exact Nat.le_trans (List.length_filter_le _ _) (by simp; omega)
theorem own_ge {w : World} {base s n k : Nat} {e : TypeId} {v : Value} {xs : List Value} (h : w.ownsRow base e s v n xs) (hk : v.ownBlock = some k) : base ≤ k := by
  rcases h.2 with ⟨rfl, _⟩ | ⟨g, cap, cur, rfl, hg, _⟩
  · cases hk
  · have : g = k := Option.some.inj hk
    omega
theorem all_row5 {B : Nat} {W : World} {xs : List Int} {v : Value} (h : W.ownsRow B 41 1 v xs.length (xs.map (Value.int .u64))) : ∃ p c, v = .slice p xs.length c ∧ IRow .u64 W.heap.size W p xs := by
  obtain ⟨p, c, hv, _, _, hr⟩ := irow_own' (q := .u64) (e := 41) (w := W) (base := B) (v := v) (l := xs) h
  exact ⟨p, c, hv, hr⟩
end Go.Proofs.YtaglhajlgnjhcaaDoor
