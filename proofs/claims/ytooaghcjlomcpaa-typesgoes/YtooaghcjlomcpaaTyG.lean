/- Check, has, Has, Without, With, Of. -/
import Derived.Test.YtooaghcjlomcpaaPlT
namespace Go.Proofs.Ytooaghcjlomcpaa
open Go.RowKit

def FreshP (B : Nat) (p : Option Addr) : Prop := ∀ a, p = some a → B ≤ a.block
/-- The call hands back a row of its own. -/
structure Res (B : Nat) (w : World) (p : Option Addr) (l : List Int) (c : Nat) : Prop where
  row : Row w p l c
  fr : FreshP B p
theorem Res.nil (B : Nat) (w : World) : Res B w none [] 0 := ⟨Row.nil w, fun a h => by cases h⟩
theorem res_own {l : List Int} {w w' : World} {G : Nat} (hG : w.heap.size ≤ G) (hh : w'.heap[G]? = some (.cells (cellsI .u64 l).toArray 33 (0, 0))) (hl : l.length ≤ 1099511627776) : Res w.heap.size w' (some ⟨G, 0, none⟩) l l.length :=
  ⟨⟨irow_heap .u64 hh, Nat.le_refl _, hl, .inr ⟨G, 0, rfl⟩⟩, fun a h => by cases h; exact hG⟩

def chkE (l : List Int) : Int := if mayT l then 0 else 130
def hasB (l : List Int) (x : Int) : Bool := mayT l && decide (x ∈ l)

theorem check_any (p : Option Addr) (l : List Int) (c : Nat) (w : World) (h : Row w p l c) (hU : U64 l) :
    Calls Try.prog 11 #[.slice p l.length c] w fun e w' => e = .returned (.int .i64 (chkE l)) ∧ Below w.heap.size w w' := by
  have CM := mayBe_any p l c w h.i hU (by have := h.n; omega)
  cases hm : mayT l
  · have E : Hid (chkE l = 130) := by unfold Hid chkE; rw [hm]; rfl
    rw [hm] at CM
    clear hm h hU
    go_enter Try.func11, Try.ntmps11
    go_wp2_with (first | (go_at_call 47; refine Calls.mono CM ?_; rintro e w1 ⟨rfl, hb⟩))
    go_ret
    exact ⟨ret_int E.out.symm, hb⟩
  · have E : Hid (chkE l = 0) := by unfold Hid chkE; rw [hm]; rfl
    rw [hm] at CM
    clear hm h hU
    go_enter Try.func11, Try.ntmps11
    go_wp2_with (first | (go_at_call 47; refine Calls.mono CM ?_; rintro e w1 ⟨rfl, hb⟩))
    go_ret
    exact ⟨ret_int E.out.symm, hb⟩

theorem has_any (p : Option Addr) (l : List Int) (c : Nat) (x : Int) (w : World) (h : Row w p l c) (hs : SS l) :
    Calls Try.prog 56 #[.slice p l.length c, .int .u64 x] w fun e w' => e = .returned (.bool (decide (x ∈ l))) ∧ Below w.heap.size w w' := by
  have CB := bin_any p l c x w h.i hs.ris (by have := h.n; omega)
  obtain ⟨v, hv⟩ : ∃ v, v = decide (x ∈ l) := ⟨_, rfl⟩
  have HV := hidOg hv
  rw [← hv]
  have HS := hidOg hs
  clear h hs hv
  go_enter Try.func56, Try.ntmps56
  go_wp2_with (first | (go_at_call 49; refine Calls.mono CB ?_; rintro e w1 ⟨i, rfl, hp, hb⟩))
  go_ret
  exact ⟨ret_bool (by rw [HV.out, fnd_iff HS.out hp]), hb⟩

theorem Has_any (p : Option Addr) (l : List Int) (c : Nat) (x : Int) (w : World) (h : Row w p l c) (hU : U64 l) :
    Calls Try.prog 24 #[.slice p l.length c, .int .u64 x] w fun e w' => e = .returned (.bool (hasB l x)) ∧ Below w.heap.size w w' := by
  have CM := mayBe_any p l c w h.i hU (by have := h.n; omega)
  cases hm : mayT l
  · have E : Hid (hasB l x = false) := by unfold Hid hasB; rw [hm]; rfl
    rw [hm] at CM
    clear hm h hU
    go_enter Try.func24, Try.ntmps24
    go_wp2_with (first | (go_at_call 47; refine Calls.mono CM ?_; rintro e w1 ⟨rfl, hb⟩))
    go_ret
    exact ⟨ret_bool E.out.symm, hb⟩
  · have E : Hid (hasB l x = decide (x ∈ l)) := by unfold Hid hasB; rw [hm]; rfl
    have hs := ((mayT_iff l).1 hm).2.2
    have CH := fun (w1 : World) (hb : Below w.heap.size w w1) => has_any p l c x w1 (h.to hb) hs
    rw [hm] at CM
    clear hm h hU hs
    obtain ⟨v, hv⟩ : ∃ v, v = decide (x ∈ l) := ⟨_, rfl⟩
    rw [← hv] at CH E
    clear hv
    go_enter Try.func24, Try.ntmps24
    go_wp2_with (first | (go_at_call 47; refine Calls.mono CM ?_; rintro e w1 ⟨rfl, hb⟩) | (go_at_call 56; refine Calls.mono (CH _ hb) ?_; rintro e w2 ⟨rfl, hb2⟩))
    go_ret
    exact ⟨ret_bool E.out.symm, hb.trans (hb2.mono hb.size)⟩

/-- What Without answers. -/
def wouL (l : List Int) (x : Int) : List Int := if hasB l x then delL l x else []
def wouE (l : List Int) (x : Int) : Int := if mayT l then (if decide (x ∈ l) then 0 else 4) else 130
/-- What With answers. -/
def witOk (l : List Int) (x : Int) : Bool := mayT l && canB x && (decide (x ∈ l) || decide (l.length < 12))
def witL (l : List Int) (x : Int) : List Int := if witOk l x then insL l x else []
def witE (l : List Int) (x : Int) : Int := if mayT l then (if canB x then (if decide (x ∈ l) || decide (l.length < 12) then 0 else 6) else 2) else 130

theorem without_any (p : Option Addr) (l : List Int) (c : Nat) (x : Int) (w : World) (h : Row w p l c) (hU : U64 l) :
    Calls Try.prog 34 #[.slice p l.length c, .int .u64 x] w fun e w' => ∃ p' c', e = .returned (.tuple #[.slice p' (wouL l x).length c', .int .i64 (wouE l x)]) ∧ Res w.heap.size w' p' (wouL l x) c' ∧ Below w.heap.size w w' := by
  have CM := mayBe_any p l c w h.i hU (by have := h.n; omega)
  cases hm : mayT l
  · have e1 : wouL l x = [] := by unfold wouL hasB; rw [hm]; rfl
    have e2 : wouE l x = 130 := by unfold wouE; rw [hm]; rfl
    rw [e1, e2]
    rw [hm] at CM
    clear hm h hU e1 e2
    go_enter Try.func34, Try.ntmps34
    go_wp2_with (first | (go_at_call 47; refine Calls.mono CM ?_; rintro e w1 ⟨rfl, hb⟩))
    go_ret2
    exact ⟨none, 0, rfl, Res.nil _ _, hb⟩
  · obtain ⟨h12, _, hs⟩ := (mayT_iff l).1 hm
    have CB := fun (w1 : World) (hb : Below w.heap.size w w1) => bin_any p l c x w1 (h.to hb).i hs.ris (by omega)
    by_cases hx : x ∈ l
    · have e1 : wouL l x = delL l x := by unfold wouL hasB; rw [hm, decide_eq_true hx]; rfl
      have e2 : wouE l x = 0 := by unfold wouE; rw [hm, decide_eq_true hx]; rfl
      have CD := fun (i : Nat) (hp : Pos l x i) (w1 : World) (hb : Below w.heap.size w w1) => drop_any p l c i w1 (h.to hb) (by
        have := fnd_iff hs hp; rw [decide_eq_true hx] at this; simp only [fndB, Bool.and_eq_true, decide_eq_true_eq] at this; exact this.1)
      have F : Hid (∀ i, Pos l x i → fndB l x i = true ∧ dropL l i = delL l x) := fun i hp => ⟨by rw [fnd_iff hs hp, decide_eq_true hx], drop_old hs hp hx⟩
      have HL : Hid ((delL l x).length ≤ 1099511627776) := by have := delL_len hx hs; unfold Hid; omega
      rw [e1, e2]
      rw [hm] at CM
      clear hm h hU e1 e2 hs hx
      go_enter Try.func34, Try.ntmps34
      go_wp2_with (first | (go_at_call 47; refine Calls.mono CM ?_; rintro e w1 ⟨rfl, hb⟩) | (go_at_call 49; refine Calls.mono (CB _ hb) ?_; rintro e w2 ⟨i, rfl, hp, hb2⟩; obtain ⟨f1, f2⟩ := F.out i hp; have F2 := hidOg f2; clear f2; have CD' := CD i hp w2 (hb.trans (hb2.mono hb.size)); rw [f1]; clear CD) | (go_at_call 68; refine Calls.mono CD' ?_; rintro e w3 ⟨G, rfl, hG, hh, hb3⟩))
      go_ret2
      have hB : Below w.heap.size w w2 := hb.trans (hb2.mono hb.size)
      rw [F2.out] at hh
      exact ⟨some ⟨G, 0, none⟩, (delL l x).length, by rw [F2.out]; rfl, res_own (Nat.le_trans hB.size hG) hh HL.out, hB.trans (hb3.mono hB.size)⟩
    · have e1 : wouL l x = [] := by unfold wouL hasB; rw [hm, decide_eq_false hx]; rfl
      have e2 : wouE l x = 4 := by unfold wouE; rw [hm, decide_eq_false hx]; rfl
      have F : Hid (∀ i, Pos l x i → fndB l x i = false) := fun i hp => by rw [fnd_iff hs hp, decide_eq_false hx]
      rw [e1, e2]
      rw [hm] at CM
      clear hm h hU e1 e2 hs hx
      go_enter Try.func34, Try.ntmps34
      go_wp2_with (first | (go_at_call 47; refine Calls.mono CM ?_; rintro e w1 ⟨rfl, hb⟩) | (go_at_call 49; refine Calls.mono (CB _ hb) ?_; rintro e w2 ⟨i, rfl, hp, hb2⟩; have f1 := F.out i hp; rw [f1]))
      go_ret2
      exact ⟨none, 0, rfl, Res.nil _ _, hb.trans (hb2.mono hb.size)⟩
end Go.Proofs.Ytooaghcjlomcpaa
