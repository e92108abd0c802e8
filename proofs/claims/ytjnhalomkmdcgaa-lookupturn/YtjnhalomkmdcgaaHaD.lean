/- Rows of ids; added, Of, Add, Back. -/
import Derived.Test.YtjnhalomkmdcgaaHaC
namespace Go.Proofs.Ytjnhalomkmdcgaa
open Go.RowKit


theorem bt {a b c : World} (h1 : Below a.heap.size a b) (h2 : Below b.heap.size b c) : Below a.heap.size a c := h1.trans (h2.mono h1.size)
/-- The k-th number of a row. -/
def nG (l : List Nat) (k : Nat) : Nat := l.getD k 0
theorem nG_eq {l : List Nat} {k : Nat} (h : k < l.length) : nG l k = l[k] := by simp [nG, h]
theorem nG_mem {l : List Nat} {k : Nat} (h : k < l.length) : nG l k ∈ l := by rw [nG_eq h]; exact List.getElem_mem h
/-- The slice that begins at p holds the words l, in a block below N. -/
def NRow (N : Nat) (w : World) (p : Option Addr) (l : List Nat) : Prop :=
  0 < l.length → ∃ b off, p = some ⟨b, off, none⟩ ∧ b < N ∧ ∀ k, k < l.length → w.cell? ⟨b, off + k, none⟩ = some (.int .u64 (nG l k : Int))
theorem NRow.below {N M : Nat} {w w' : World} {p : Option Addr} {l : List Nat} (h : NRow N w p l) (hb : Below M w w') (hm : N ≤ M) : NRow N w' p l := by
  intro h0
  obtain ⟨b, off, rfl, hN, hc⟩ := h h0
  exact ⟨b, off, rfl, hN, fun k hk => (hb.cell (p := ⟨b, off + k, none⟩) (by simp; omega)).trans (hc k hk)⟩
theorem NRow.mono {N M : Nat} {w : World} {p : Option Addr} {l : List Nat} (h : NRow N w p l) (hm : N ≤ M) : NRow M w p l := by
  intro h0
  obtain ⟨b, off, rfl, hN, hc⟩ := h h0
  exact ⟨b, off, rfl, by omega, hc⟩
theorem NRow.nil {N : Nat} {w : World} {p : Option Addr} : NRow N w p [] := fun h => by simp at h
theorem NRow.to {w w' : World} {p : Option Addr} {l : List Nat} (h : NRow w.heap.size w p l) (hb : Below w.heap.size w w') : NRow w'.heap.size w' p l :=
  (h.below hb (Nat.le_refl _)).mono hb.size
/-- All of a row are words. -/
def UN (l : List Nat) : Prop := ∀ x ∈ l, x < 18446744073709551616
theorem UN.at {l : List Nat} (h : UN l) {k : Nat} (hk : k < l.length) : nG l k < 18446744073709551616 := h _ (nG_mem hk)
theorem UN.take {l : List Nat} (h : UN l) (n : Nat) : UN (l.take n) := fun x hx => h x (List.mem_of_mem_take hx)
theorem nG_take {l : List Nat} {i k : Nat} (h : k < i) : nG (l.take i) k = nG l k := by
  unfold nG; rw [List.getD_eq_getElem?_getD, List.getD_eq_getElem?_getD, List.getElem?_take_of_lt h]
theorem NRow.take {N : Nat} {w : World} {p : Option Addr} {l : List Nat} (h : NRow N w p l) (i : Nat) : NRow N w p (l.take i) := by
  intro h0
  have hl : (l.take i).length ≤ l.length := by simp; omega
  obtain ⟨b, off, rfl, hN, hc⟩ := h (by omega)
  refine ⟨b, off, rfl, hN, fun k hk => ?_⟩
  rw [nG_take (by simp at hk; omega)]
  exact hc k (by omega)
/-- The hash, the first k ids being added. -/
def adN (h : Nat) (l : List Nat) (k : Nat) : Nat := (l.take k).foldl hId h
theorem adN_succ {h : Nat} {l : List Nat} {k : Nat} (hk : k < l.length) : adN h l (k + 1) = hId (adN h l k) (nG l k) := by
  unfold adN
  rw [List.take_succ_eq_append_getElem hk, List.foldl_append, List.foldl_cons, List.foldl_nil, nG_eq hk]
theorem adN_lt {h : Nat} (hh : h < 18446744073709551616) (l : List Nat) (k : Nat) : adN h l k < 18446744073709551616 := fold_lt _ _ hh
theorem adN_all (h : Nat) (l : List Nat) : adN h l l.length = l.foldl hId h := by unfold adN; rw [List.take_length]

/-- The world behind bytesOf. -/
def wB (w : World) (x : Int) (g : Nat) : World := (w.alloc (.cells #[.int .u64 x] 41)).alloc (.cells #[.func (.func g) #[] #[]] 120)
theorem wB_size (w : World) (x : Int) (g : Nat) : (wB w x g).heap.size = w.heap.size + 2 := by unfold wB; simp
theorem wB_below (w : World) (x : Int) (g : Nat) : Below w.heap.size w (wB w x g) := ((Below.refl _ _).alloc (Nat.le_refl _) _).alloc (by simp) _
theorem wB_c0 (w : World) (x : Int) (g : Nat) : (wB w x g).cell? ⟨w.heap.size, 0, none⟩ = some (.int .u64 x) := by unfold wB; simp
theorem wB_c1 (w : World) (x : Int) (g : Nat) : (wB w x g).cell? ⟨w.heap.size + 1, 0, none⟩ = some (.func (.func g) #[] #[]) := by
  unfold wB; exact World.cell?_alloc_at _ _ _ _ (by simp)
theorem bytesOf24' (x : Int) (g : Nat) (w : World) :
    Calls Try.prog 88 #[.int .u64 x, .func (.func g) #[] #[]] w fun e w' => e = .returned (.func (.func 108) #[] #[.pointer (some ⟨w.heap.size, 0, none⟩), .pointer (some ⟨w.heap.size + 1, 0, none⟩)]) ∧ w' = wB w x g := bytesOf24 x g w
theorem thr_add (h x : Nat) (w : World) (hh : h < 18446744073709551616) (hx : x < 18446744073709551616) :
    Calls Try.prog 87 #[.int .u64 (h : Int), .func (.func 108) #[] #[.pointer (some ⟨w.heap.size, 0, none⟩), .pointer (some ⟨w.heap.size + 1, 0, none⟩)], .func (.func 86) #[] #[]] (wB w x 89) fun e w' => e = .returned (.int .u64 (hId h x : Nat)) ∧ Below w.heap.size w w' := by
  refine (through_add h x w.heap.size (w.heap.size + 1) (wB w x 89) hx hh (wB_c0 w x 89) (by rw [wB_size]; omega) (wB_c1 w x 89) (by rw [wB_size]; omega)).mono ?_
  rintro e w' ⟨rfl, hb⟩
  exact ⟨rfl, bt (wB_below w x 89) hb⟩
set_option maxRecDepth 20000 in
theorem added19 (h : Nat) (p : Option Addr) (l : List Nat) (c : Nat) (w : World) (hh : h < 18446744073709551616) (hS : NRow w.heap.size w p l) (hU : UN l) (hlen : l.length < 1152921504606846976) :
    Calls Try.prog 76 #[.int .u64 (h : Int), .slice p l.length c] w fun e w' => e = .returned (.int .u64 (l.foldl hId h : Nat)) ∧ Below w.heap.size w w' := by
  have HS := hidOg hS
  have HU := hidOg hU
  have HH := hidOg hh
  clear hS hU hh
  go_enter Try.func76, Try.ntmps76
  go_wp2
  go_loopw [0, 10] (fun v i wr => ∃ k : Nat, k ≤ l.length ∧ i = .int .i64 k ∧ v = .int .u64 (adN h l k : Nat) ∧ Below w.heap.size w wr) (fun _ i _ => l.length - (intOf i).toNat)
  case atStart => exact ⟨0, Nat.zero_le _, rfl, rfl, Below.refl _ _⟩
  case round =>
    obtain ⟨k, hk, rfl, rfl, hnx⟩ := hrel
    have hsz := hnx.size
    have HX := hidOg hnx
    clear hnx
    by_cases hlt : k < l.length
    · obtain ⟨b, off, rfl, hbB, hcs⟩ := (HS.out.below HX.out (Nat.le_refl _)) (by omega)
      have c0 := hcs k hlt
      clear hcs
      have HE := hidOg (adN_succ (h := h) hlt)
      have T := thr_add (adN h l k) (nG l k) wr (adN_lt HH.out l k) (HU.out.at hlt)
      obtain ⟨x, hx⟩ : ∃ x, x = nG l k := ⟨_, rfl⟩
      obtain ⟨q, hq⟩ : ∃ q, q = adN h l k := ⟨_, rfl⟩
      obtain ⟨r, hr⟩ : ∃ r, r = hId q x := ⟨_, rfl⟩
      rw [← hx, ← hq, ← hr] at HE T
      rw [← hx] at c0
      rw [← hq]
      clear hr hq hx
      go_wp2_with (first | (go_at_call 88; refine Calls.mono (bytesOf24' (x : Int) 89 _) ?_; rintro e w1 ⟨rfl, hw⟩; rw [hw]; clear hw w1) | (go_at_call 87; refine Calls.mono T ?_; rintro e w2 ⟨rfl, hb2⟩))
      go_roundw
      case rel => exact ⟨k + 1, by omega, by go_num, by rw [HE.out], HX.out.trans (hb2.mono hsz)⟩
      case measure => simp [intOf]; omega
    · obtain rfl : k = l.length := by omega
      go_wp2
      go_ret
      exact ⟨by rw [← adN_all]; rfl, HX.out⟩

end Go.Proofs.Ytjnhalomkmdcgaa
