/- Check, has, Has, Without, With, Of. -/
/- slices.Equal, slices.Clone; few, Made, small. -/
import Derived.Test.YtjnhalomkmdcgaaPlT
import Derived.Lib.SliceRun
namespace Go.Proofs.Ytjnhalomkmdcgaa
open Go.RowKit

def FreshP (B : Nat) (p : Option Addr) : Prop := ∀ a, p = some a → B ≤ a.block
/-- The call hands back a row of its own. -/
structure Res (B : Nat) (w : World) (p : Option Addr) (l : List Int) (c : Nat) : Prop where
  row : Row w p l c
  fr : FreshP B p
theorem Res.nil (B : Nat) (w : World) : Res B w none [] 0 := ⟨Row.nil w, fun a h => by cases h⟩
theorem res_own {l : List Int} {w w' : World} {G : Nat} (hG : w.heap.size ≤ G) (hh : w'.heap[G]? = some (.cells (cellsI .u64 l).toArray 41 (0, 0))) (hl : l.length ≤ 1099511627776) : Res w.heap.size w' (some ⟨G, 0, none⟩) l l.length :=
  ⟨⟨irow_heap .u64 hh, Nat.le_refl _, hl, .inr ⟨G, 0, rfl⟩⟩, fun a h => by cases h; exact hG⟩

def chkE (l : List Int) : Int := if mayT l then 0 else 130
def hasB (l : List Int) (x : Int) : Bool := mayT l && decide (x ∈ l)

theorem check_any (p : Option Addr) (l : List Int) (c : Nat) (w : World) (h : Row w p l c) (hU : U64 l) :
    Calls Try.prog 30 #[.slice p l.length c] w fun e w' => e = .returned (.int .i64 (chkE l)) ∧ Below w.heap.size w w' := by
  have CM := mayBe_any p l c w h.i hU (by have := h.n; omega)
  cases hm : mayT l
  · have E : Hid (chkE l = 130) := by unfold Hid chkE; rw [hm]; rfl
    rw [hm] at CM
    clear hm h hU
    go_enter Try.func30, Try.ntmps30
    go_wp2_with (first | (go_at_call 52; refine Calls.mono CM ?_; rintro e w1 ⟨rfl, hb⟩))
    go_ret
    exact ⟨ret_int E.out.symm, hb⟩
  · have E : Hid (chkE l = 0) := by unfold Hid chkE; rw [hm]; rfl
    rw [hm] at CM
    clear hm h hU
    go_enter Try.func30, Try.ntmps30
    go_wp2_with (first | (go_at_call 52; refine Calls.mono CM ?_; rintro e w1 ⟨rfl, hb⟩))
    go_ret
    exact ⟨ret_int E.out.symm, hb⟩

/-- What Without answers. -/
def wouL (l : List Int) (x : Int) : List Int := if hasB l x then delL l x else []
def wouE (l : List Int) (x : Int) : Int := if mayT l then (if decide (x ∈ l) then 0 else 4) else 130
/-- What With answers. -/
def witOk (l : List Int) (x : Int) : Bool := mayT l && canB x && (decide (x ∈ l) || decide (l.length < 12))
def witL (l : List Int) (x : Int) : List Int := if witOk l x then insL l x else []
def witE (l : List Int) (x : Int) : Int := if mayT l then (if canB x then (if decide (x ∈ l) || decide (l.length < 12) then 0 else 6) else 2) else 130

end Go.Proofs.Ytjnhalomkmdcgaa
namespace Go.Proofs.Ytjnhalomkmdcgaa
open Go.RowKit

theorem irow_owns {q : IntKind} {t B : Nat} {w : World} {v : Value} {l : List Int} (h : w.ownsRow B t 1 v l.length (l.map (Value.int q))) :
    ∃ p c, v = .slice p l.length c ∧ IRow q w.heap.size w p l ∧ FreshP B p ∧ l.length ≤ c ∧ ((p = none ∧ l = [] ∧ c = 0) ∨ ∃ b off, p = some ⟨b, off, none⟩) := by
  rcases h.2 with ⟨rfl, h0⟩ | ⟨g, cap, cur, rfl, hg, hh, h1, _, _, ht⟩
  · obtain rfl : l = [] := List.eq_nil_of_length_eq_zero h0
    exact ⟨none, 0, rfl, IRow.nil, (fun a h => by cases h), (by simp), .inl ⟨rfl, rfl, rfl⟩⟩
  · refine ⟨some ⟨g, 0, none⟩, cap, rfl, ?_, (fun a h => by cases h; exact hg), h1, .inr ⟨g, 0, rfl⟩⟩
    intro _
    refine ⟨g, 0, rfl, (Array.getElem?_eq_some_iff.1 hh).1, fun k hk => ?_⟩
    have e : cur.toList[k]? = (l.map (Value.int q))[k]? := by
      rw [← ht, List.getElem?_take_of_lt (by omega)]
    simp only [World.cell?]
    rw [hh]
    simp only [Array.getElem?_toList] at e
    simp [e, iG, hk]
def Gives (l : List Int) (w : World) (e : Ending) (w' : World) : Prop := ∃ p c, e = .returned (.slice p l.length c) ∧ Res w.heap.size w' p l c ∧ Below w.heap.size w w'
theorem gives_owns {w w0 w' : World} {v : Value} {l : List Int} (hb0 : Below w.heap.size w w0) (h : w'.ownsRow w0.heap.size 41 1 v l.length (l.map (Value.int .u64))) (hl : l.length ≤ 1099511627776) (hb : Below w0.heap.size w0 w') : Gives l w (.returned v) w' := by
  obtain ⟨p, c, rfl, hi, hf, hc, ha⟩ := irow_owns h
  exact ⟨p, c, rfl, ⟨⟨hi, hc, hl, ha⟩, fun a e => Nat.le_trans hb0.size (hf a e)⟩, hb0.trans (hb.mono hb0.size)⟩
theorem owns_base {w : World} {base base' : Nat} {e : TypeId} {size : Nat} {v : Value} {n : Nat} {xs : List Value} (h : w.ownsRow base e size v n xs) (hb : base' ≤ base) : w.ownsRow base' e size v n xs :=
  ⟨h.1, h.2.imp id fun ⟨g, cap, cur, a, b, c⟩ => ⟨g, cap, cur, a, Nat.le_trans hb b, c⟩⟩

/-- The append, under a name that no rule lays open. -/
def appS (ats : Array TypeId) (ty : TypeId) (args : Array Value) : Sem Value := Builtin.append_ ats ty args
theorem app_hide (ats : Array TypeId) (ty : TypeId) (args : Array Value) : Builtin.append_ ats ty args = appS ats ty args := rfl

/-- Two rows are one. -/
def samI (l r : List Int) : Bool := decide (l = r)
theorem samI_refl (l : List Int) : samI l l = true := by simp [samI]
theorem samI_len {l r : List Int} (h : l.length ≠ r.length) : samI l r = false := by
  unfold samI; rw [decide_eq_false]; intro e; rw [e] at h; exact h rfl
theorem samI_at {l r : List Int} (k : Nat) (h : ¬ iG l k = iG r k) : samI l r = false := by
  unfold samI; rw [decide_eq_false]; intro e; rw [e] at h; exact h rfl
theorem samI_all {l r : List Int} (hl : l.length = r.length) (h : ∀ k, k < l.length → iG l k = iG r k) : samI l r = true := by
  unfold samI; rw [decide_eq_true]
  refine List.ext_getElem hl fun k h1 h2 => ?_
  have := h k h1
  rwa [iG_eq h1, iG_eq h2] at this

set_option maxRecDepth 20000 in
set_option maxHeartbeats 4000000 in
theorem equal18 (p : Option Addr) (l : List Int) (c : Nat) (q : Option Addr) (r : List Int) (d : Nat) (w : World) (hS : IRow .u64 w.heap.size w p l) (hR : IRow .u64 w.heap.size w q r) (l1 : l.length ≤ 8796093022208) :
    Calls Try.prog 51 #[.slice p l.length c, .slice q r.length d] w fun e w' => e = .returned (.bool (samI l r)) ∧ Below w.heap.size w w' := by
  by_cases hl : l.length = r.length
  · obtain ⟨v, hv⟩ : ∃ v, v = samI l r := ⟨_, rfl⟩
    rw [← hv]
    have HV := hidOg hv
    clear hv
    have HL := hidOg hl
    obtain ⟨n, hn⟩ : ∃ n, n = r.length := ⟨_, rfl⟩
    have HN : Hid (n = l.length) := by unfold Hid; omega
    have HS := hidOg hS
    have HR := hidOg hR
    have HNr := hidOg hn
    rw [show l.length = n by omega, show r.length = n by omega]
    have hn1 : n ≤ 8796093022208 := by omega
    clear hl hn hS hR l1
    go_enter Try.func51, Try.ntmps51
    go_wp2
    go_loopw [13] (fun i wr => ∃ k : Nat, k ≤ n ∧ i = .int .i64 k ∧ (∀ j, j < k → iG l j = iG r j) ∧ Below w.heap.size w wr) (fun i _ => n - (intOf i).toNat)
    case atStart => exact ⟨0, Nat.zero_le _, rfl, fun j h => by omega, Below.refl _ _⟩
    case round =>
      obtain ⟨k, hk, rfl, hall, hbr⟩ := hrel
      have HA := hidOg hall
      clear hall
      have hsz := hbr.size
      by_cases hk' : k < n
      · obtain ⟨b, off, rfl, hbB, hcs⟩ := (HS.out.below hbr (Nat.le_refl _)) (by have := HN.out; omega)
        have c0 := hcs k (by have := HN.out; omega)
        obtain ⟨b', off', rfl, hbB', hcs'⟩ := (HR.out.below hbr (Nat.le_refl _)) (by have := HNr.out; omega)
        have c0' := hcs' k (by have := HNr.out; omega)
        clear hcs hcs'
        obtain ⟨x, hx⟩ : ∃ x, x = iG l k := ⟨_, rfl⟩
        obtain ⟨y, hy⟩ : ∃ y, y = iG r k := ⟨_, rfl⟩
        rw [← hx] at c0
        rw [← hy] at c0'
        have HX := hidOg hx
        have HY := hidOg hy
        clear hx hy
        by_cases hxy : x = y
        · have HXY := hidOg hxy
          subst hxy
          go_wp2
          go_region
          go_wp2
          go_roundw
          case rel => exact ⟨k + 1, by omega, by go_num, fun j hj => (by by_cases e : j = k; { subst e; rw [← HX.out, ← HY.out] }; { exact HA.out j (by omega) }), below_drewN' hbr _⟩
          case measure => simp [intOf]; omega
        · have hd : (x == y) = false := by simpa using hxy
          go_wp2
          go_region
          go_wp2
          go_ret
          exact ⟨ret_bool (by rw [HV.out, samI_at k (by rw [← HX.out, ← HY.out]; exact hxy)]), below_drewN' hbr _⟩
      · obtain rfl : k = n := by omega
        go_wp2
        go_ret
        exact ⟨ret_bool (by rw [HV.out, samI_all HL.out (by rw [← HN.out]; exact HA.out)]), hbr⟩
  · have hl' : ((l.length : Int) == (r.length : Int)) = false := by simp; omega
    rw [samI_len hl]
    clear hS hR l1 hl
    go_enter Try.func51, Try.ntmps51
    go_wp2
    go_ret
    exact ⟨rfl, Below.refl _ _⟩

/-- A row that came in: where it is empty its address may be any. -/
structure InR (w : World) (p : Option Addr) (l : List Int) (c : Nat) : Prop where
  i : IRow .u64 w.heap.size w p l
  r : l.length ≤ c
  u : U64 l
theorem InR.to {w w' : World} {p : Option Addr} {l : List Int} {c : Nat} (h : InR w p l c) (hb : Below w.heap.size w w') : InR w' p l c := ⟨h.i.to hb, h.r, h.u⟩
theorem U64.take {l : List Int} (h : U64 l) (n : Nat) : U64 (l.take n) := fun x hx => h x (List.mem_of_mem_take hx)

set_option maxRecDepth 20000 in
theorem clone46 (p : Option Addr) (l : List Int) (c : Nat) (w : World) (hS : IRow .u64 w.heap.size w p l) (hn : l.length ≤ 1099511627776) :
    Calls Try.prog 19 #[.slice p l.length c] w fun e w' => Gives l w e w' := by
  cases p with
  | none =>
    have h0 : l = [] := by
      cases l with
      | nil => rfl
      | cons x t => obtain ⟨b, off, h, _⟩ := hS (by simp); cases h
    subst h0
    clear hS hn
    have qn := fun (w : World) => Lib.run_eql_slice_nil (P := Try.prog) w 34 _ none 0 c 0 0 Try.underlying34
    go_enter Try.func19, Try.ntmps19
    go_wp2
    go_ret
    exact ⟨none, 0, rfl, Res.nil _ _, Below.refl _ _⟩
  | some a =>
    obtain ⟨i0, hi, hz0, hz1, hz2⟩ := info_parts Try.info41
    have ho := World.ownsRow_made (base := w.heap.size) (e := 41) (size := 1) w #[] 0 (Nat.le_refl _) (by unfold maxLen; omega) (by simp)
    have qn := fun (w : World) => Lib.run_eql_slice_nil (P := Try.prog) w 34 _ (some a) l.length c 0 0 Try.underlying34
    have hsrc : ∀ (o : Obj) j u, (cellsI .u64 l)[j]? = some u → (w.alloc o).cell? (a.add j) = some u := by
      intro o j u hj
      have hlt : j < l.length := by have := (List.getElem?_eq_some_iff.1 hj).1; simpa [cellsI] using this
      obtain ⟨b, off, e, _, hc⟩ := hS.to ((Below.refl w.heap.size w).alloc (Nat.le_refl _) o) (by omega)
      cases e
      exact cellsI_src hc j u hj
    have hlen := cellsI_len .u64 l
    have hone := cellsI_one .u64 l
    have HN := hidOg hn
    obtain ⟨n, hn'⟩ : ∃ n, n = l.length := ⟨_, rfl⟩
    have HE := hidOg hn'
    rw [← hn'] at hlen qn hn ⊢
    clear hS hn'
    go_enter Try.func19, Try.ntmps19
    go_wp2_with (first | (at_builtin; refine wpList_append_own _ rfl _ _ 34 rfl w.heap.size 41 i0 (.int .u64 0) 1 8 Try.underlying34 hi hz0 hz1 hz2 rfl (by decide) _ _ _ rfl ho a n c (cellsI .u64 l) rfl hlen (hsrc _) hone (by unfold maxLen; omega) (by omega) (by simp) ?_; intro v' w1 hown hgrow _))
    go_ret
    have hb : Below w.heap.size w w1 := ((Below.refl _ w).alloc (Nat.le_refl _) _).grown hgrow (by simp) (fun k hk => by have h' : w.heap.size = k := Option.some.inj hk; omega)
    rw [HE.out, Nat.zero_add] at hown
    exact gives_owns (w0 := w) (Below.refl _ _) hown HN.out hb

theorem made_com (n : Int) (w : World) (h0 : 0 ≤ n) (h1 : n ≤ 24) :
    Calls Try.prog 31 #[.int .u64 4611686018427387904, .int .i64 0, .int .i64 n] w fun e w' => e = .returned (.int .u64 (4611686018427387904 + n)) ∧ w' = w := by
  go_enter Try.func31, Try.ntmps31
  go_wp2
  go_ret
  exact ⟨by go_num, rfl⟩
theorem made_pai (r t : Int) (w : World) (h0 : 0 ≤ r) (h1 : r ≤ 24) (h2 : 0 ≤ t) (h3 : t ≤ 24) :
    Calls Try.prog 31 #[.int .u64 9223372036854775808, .int .i64 r, .int .i64 t] w fun e w' => e = .returned (.int .u64 (9223372036854775808 + r * 4294967296 + t)) ∧ w' = w := by
  go_enter Try.func31, Try.ntmps31
  go_wp2
  go_ret
  exact ⟨by go_num, rfl⟩
end Go.Proofs.Ytjnhalomkmdcgaa
