/- slices.SortedFunc, inOrder, All. -/
import Derived.Test.YtjnhalomkmdcgaaLuN
import Derived.Shelf.SlSortCmp.NoneTotal
namespace Go.Proofs.Ytjnhalomkmdcgaa
open Go.RowKit

/-- Sorted entries are those that All says. -/
theorem all_of {L : List En} (hd : DT L) {X X' : List Ep} (hX : X.map eOf = L.filter usB) (hp : X'.Perm X) (hs : ∀ i j, i < j → j < X'.length → ¬ cmpL (gP X' j).2.1.2.1 (gP X' i).2.1.2.1 < 0) : X'.map eOf = alL cmpL L := by
  have hpe : (X'.map eOf).Perm (L.filter usB) := by rw [← hX]; exact hp.map _
  have hne : (X'.map eOf).Pairwise fun a b => a.2.1 ≠ b.2.1 := (hpe.pairwise_iff (fun h => Ne.symm h)).2 hd
  refine se_ext isCmp ?_ (alL_se isCmp hd) (fun y => ?_)
  · unfold SE
    rw [List.pairwise_iff_getElem] at hne ⊢
    intro i j hi hj hij
    have hi' : i < X'.length := by simpa using hi
    have hj' : j < X'.length := by simpa using hj
    have h1 := hne i j hi hj hij
    have h2 := hs i j hij hj'
    rw [gP_eq hj', gP_eq hi'] at h2
    simp only [List.getElem_map] at h1 ⊢
    exact isCmp.ge (fun e => h1 e.symm) h2
  · rw [alL_mem, hpe.mem_iff, List.mem_filter]
    simp [usB]
theorem owns_len {w : World} {B e s n : Nat} {v : Value} {xs : List Value} (h : w.ownsRow B e s v n xs) : (v = .slice none 0 0 ∧ n = 0) ∨ ∃ g c, v = .slice (some ⟨g, 0, none⟩) n c ∧ B ≤ g := by
  rcases h.2 with h | ⟨g, cap, cur, rfl, hb, _⟩
  · exact .inl h
  · exact .inr ⟨g, cap, rfl, hb⟩
theorem owns_kept {w w' : World} {B e s n G : Nat} {v : Value} {xs : List Value} (h : w.ownsRow B e s v n xs) (hG : v.ownBlock = none ∨ v.ownBlock ≠ some G) (hh : ∀ b, b ≠ G → b < w.heap.size → w'.heap[b]? = w.heap[b]?) : w'.ownsRow B e s v n xs := by
  refine ⟨h.1, ?_⟩
  rcases h.2 with hn | ⟨g, cap, cur, rfl, hb, hgg, rest⟩
  · exact .inl hn
  · have hne : g ≠ G := by
      rcases hG with h | h
      · simp [Value.ownBlock] at h
      · intro e; exact h (by rw [e]; rfl)
    exact .inr ⟨g, cap, cur, rfl, hb, (hh g hne (Array.getElem?_eq_some_iff.1 hgg).1).trans hgg, rest⟩
theorem sort_none (p : Option Addr) (c : Nat) (fv : Value) (w : World) : Calls Try.prog 72 #[.slice p 0 c, fv] w fun e w' => e = .returned (.tuple #[]) ∧ w' = w := AnyF.slices_SortFunc_none Try.sortE p c fv w
set_option maxHeartbeats 1000000 in
theorem sorted58 (p : Option Addr) (L : List En) (c B4 Bc Bk n₀ : Nat) (w : World) (hE : ERow n₀ w p L) (hn₀ : n₀ ≤ w.heap.size) (hr : RiL hsT mayT L) (hl : L.length ≤ 1000) (h4 : w.cell? ⟨B4, 0, none⟩ = some (.slice p L.length c))
    (hc : w.cell? ⟨Bc, 0, none⟩ = some (.func (.func 38) #[] #[])) (hk : w.cell? ⟨Bk, 0, none⟩ = some (.func (.func 37) #[] #[])) :
    Calls Try.prog 58 #[.func (.func 60) #[] #[.pointer (some ⟨B4, 0, none⟩)], .func (.func 59) #[] #[.pointer (some ⟨Bc, 0, none⟩), .pointer (some ⟨Bk, 0, none⟩)]] w fun e w' => AnsE (alL cmpL L) w e w' := by
  have CC := collect71 p L c B4 n₀ w hE hn₀ (lb_of_ri hr) hl h4
  have bc := World.block_lt_of_cell? w _ hc
  have bk := World.block_lt_of_cell? w _ hk
  have KEY : Hid (∀ (w1 : World) (v : Value) (xs : List Ep), xs.map eOf = L.filter usB → w1.ownsRow w.heap.size 39 3 v xs.length (cellsE xs) → (∀ x ∈ xs, OwT w.heap.size w1 x.2.1.1 x.2.1.2.1 x.2.1.2.2) → Below w.heap.size w w1 →
      Calls Try.prog 72 #[v, .func (.func 59) #[] #[.pointer (some ⟨Bc, 0, none⟩), .pointer (some ⟨Bk, 0, none⟩)]] w1 fun e w' => e = .returned (.tuple #[]) ∧ AnsE (alL cmpL L) w (.returned v) w') := by
    intro w1 v xs h1 h2 h3 hb
    have hxl : xs.length ≤ 1000 := by
      have : xs.length = (L.filter usB).length := by rw [← h1, List.length_map]
      have := used_le L
      omega
    rcases owns_len h2 with ⟨rfl, h0⟩ | ⟨g, cap, rfl, hg⟩
    · obtain rfl : xs = [] := List.eq_nil_of_length_eq_zero h0
      refine (sort_none none 0 _ w1).mono ?_
      rintro e w' ⟨rfl, rfl⟩
      have e1 : alL cmpL L = [] := by unfold alL; rw [← h1]; rfl
      rw [e1]
      exact ⟨rfl, none, 0, rfl, ⟨[], rfl, World.ownsRow_nil _ _ _ _, fun x hx => by simp at hx⟩, hb⟩
    · have hX : ERC w.heap.size g xs.length cap w1 xs := ⟨h2, rfl, fun x hx => ⟨(h3 x hx).row, fun _ a ha => by
        rcases owns_apart (h3 x hx).o h2 (by decide) with h | h
        · rw [ownBlock_slice, ha] at h; cases h
        · rw [ownBlock_slice, ha] at h; intro e; exact h (by rw [Option.map_some, e]; rfl)⟩⟩
      have hlx : ∀ x ∈ xs, x.2.1.2.1.length ≤ 1000 := fun x hx => by
        have hm : eOf x ∈ L := by
          have : eOf x ∈ xs.map eOf := List.mem_map_of_mem hx
          rw [h1] at this; exact (List.mem_filter.1 this).1
        obtain ⟨k, hk, e⟩ := mem_gE hm
        have := lb_of_ri hr k hk
        rw [← e] at this; exact this
      refine (sort72 w.heap.size g cap Bc Bk w1 xs hX hlx ((hb.cell (p := ⟨Bc, 0, none⟩) bc).trans hc) ((hb.cell (p := ⟨Bk, 0, none⟩) bk).trans hk) (by simp at bc; omega) (by simp at bk; omega) hxl).mono ?_
      rintro e w' ⟨rfl, X', hp, hs, hE', hsz, hh, ho, hta, hou⟩
      refine ⟨rfl, some ⟨g, 0, none⟩, cap, ?_, ⟨X', all_of hr.dt h1 hp hs, ?_, fun x hx => ?_⟩, ?_⟩
      · rw [← all_of hr.dt h1 hp hs, List.length_map, hp.length_eq]
      · rw [← all_of hr.dt h1 hp hs, List.length_map, hp.length_eq]; exact hE'.o
      · have hx' := hp.mem_iff.1 hx
        exact ⟨owns_kept (h3 x hx').o (owns_apart (h3 x hx').o h2 (by decide)) hh, (h3 x hx').u⟩
      · exact ⟨ho.trans hb.os, hta.trans hb.tape, hou.trans hb.output, Nat.le_trans hb.size hsz, fun k hk => (hh k (by omega) (by have := hb.size; omega)).trans (hb.block k hk)⟩
  clear hE hr hl h4 hc hk
  go_enter Try.func58, Try.ntmps58
  go_wp2_with (first | (go_at_call 71; refine Calls.mono CC ?_; rintro e w1 ⟨v, xs, rfl, h1, h2, h3, h5⟩; have CS := KEY.out w1 v xs h1 h2 h3 h5; clear h1 h2 h3 h5) | (go_at_call 72; refine Calls.mono CS ?_; rintro e w2 ⟨rfl, hA⟩; have HA := hidOg hA; clear hA))
  go_ret
  exact HA.out
set_option maxHeartbeats 1000000 in
theorem inOrder35 (p : Option Addr) (L : List En) (c B4 n₀ : Nat) (w : World) (hE : ERow n₀ w p L) (hn₀ : n₀ ≤ w.heap.size) (hr : RiL hsT mayT L) (hl : L.length ≤ 1000) (h4 : w.cell? ⟨B4, 0, none⟩ = some (.slice p L.length c)) :
    Calls Try.prog 35 #[.func (.func 60) #[] #[.pointer (some ⟨B4, 0, none⟩)], .func (.func 37) #[] #[], .func (.func 38) #[] #[]] w fun e w' => AnsE (alL cmpL L) w e w' := by
  obtain ⟨wA, hA⟩ : ∃ wA, wA = (w.alloc (.cells #[.func (.func 37) #[] #[]] 70)).alloc (.cells #[.func (.func 38) #[] #[]] 71) := ⟨_, rfl⟩
  have bA : Below w.heap.size w wA := by rw [hA]; exact ((Below.refl _ _).alloc (Nat.le_refl _) _).alloc (by simp) _
  have sA : wA.heap.size = w.heap.size + 2 := by rw [hA]; simp
  have h4' := World.block_lt_of_cell? w _ h4
  have CS := sorted58 p L c B4 (w.heap.size + 1) w.heap.size n₀ wA (hE.below bA hn₀) (by omega) hr hl ((bA.cell (p := ⟨B4, 0, none⟩) h4').trans h4) (by rw [hA]; simp [go_sem]) (by rw [hA]; simp [go_sem])
  have HB := hidOg bA
  clear hE hr hl h4
  go_enter Try.func35, Try.ntmps35
  go_wp2_with (first | (go_at_call 58; rw [← hA]; refine Calls.mono CS ?_; rintro e w2 ⟨p', c', rfl, h1, h2⟩))
  go_ret
  exact ⟨p', c', rfl, h1.base (by omega), HB.out.trans (h2.mono HB.out.size)⟩
/-- What All says. -/
noncomputable def alO (L : List En) : List En := if riB L then alL cmpL L else []
set_option maxHeartbeats 1000000 in
theorem all11 (p : Option Addr) (L : List En) (c : Nat) (w : World) (hE : ERow w.heap.size w p L) (hm2 : L.length ≤ 512) (hB : LB L) :
    Calls Try.prog 11 #[.agg #[.slice p L.length c]] w fun e w' => AnsE (alO L) w e w' := by
  have CM := fun (W : World) (hb : Below w.heap.size w W) => mayBe34 p L c W (hE.to hb) hm2 hB
  have bA : Below w.heap.size w (w.alloc (.cells #[.slice p L.length c] 24)) := (Below.refl _ _).alloc (Nat.le_refl _) _
  have cA : (w.alloc (.cells #[.slice p L.length c] 24)).cell? ⟨w.heap.size, 0, none⟩ = some (.slice p L.length c) := World.cell?_alloc_at _ _ _ _ rfl
  have sA : w.heap.size < (w.alloc (.cells #[.slice p L.length c] 24)).heap.size := by simp
  cases hr : riB L
  · have E : alO L = [] := by unfold alO; rw [hr]; rfl
    rw [E]
    rw [hr] at CM
    clear hr hE hB
    go_enter Try.func11, Try.ntmps11
    go_wp2_with (first | (go_at_call 34; refine Calls.mono (CM _ bA) ?_; rintro e w1 ⟨rfl, hb⟩))
    go_ret
    exact ⟨none, 0, rfl, ⟨[], rfl, World.ownsRow_nil _ _ _ _, fun x hx => by simp at hx⟩, bA.trans (hb.mono bA.size)⟩
  · have E : alO L = alL cmpL L := by unfold alO; rw [hr]; rfl
    rw [E]
    have hri := riB_of hr
    have CI := fun (W : World) (hb : Below w.heap.size w W) => inOrder35 p L c W.heap.size w.heap.size (W.alloc (.cells #[.slice p L.length c] 22)) (hE.below (hb.trans (((Below.refl _ W).alloc (Nat.le_refl _) _).mono hb.size)) (Nat.le_refl _)) (by have := hb.size; simp; omega) hri (by omega) (World.cell?_alloc_at _ _ _ _ rfl)
    rw [hr] at CM
    clear hr hE hB hri
    go_enter Try.func11, Try.ntmps11
    go_wp2_with (first | (go_at_call 34; refine Calls.mono (CM _ bA) ?_; rintro e w1 ⟨rfl, hb⟩; have hb1 := hidOg (bA.trans (hb.mono bA.size)); have cB := (hb.cell (p := ⟨w.heap.size, 0, none⟩) sA).trans cA; clear hb) | (go_at_call 36; refine Calls.mono (used36 _ _ _ _) ?_; rintro e w2 ⟨rfl, rfl⟩) | (go_at_call 35; refine Calls.mono (CI _ hb1.out) ?_; rintro e w3 ⟨p', c', rfl, h1, h2⟩))
    go_ret
    have hb2 := hb1.out.trans (((Below.refl _ w1).alloc (Nat.le_refl _) (.cells #[.slice p L.length c] 22)).mono hb1.out.size)
    exact ⟨p', c', rfl, h1.base hb2.size, hb2.trans (h2.mono hb2.size)⟩
end Go.Proofs.Ytjnhalomkmdcgaa
