/- TypesPairs: the walk where the row is no type, or where the index is none. -/
import Derived.Test.YtooaghcjlomcpaaSoE
import Derived.Test.YtooaghcjlomcpaaSoF
import Derived.Test.YtooaghcjlomcpaaSoG
import Derived.Test.YtooaghcjlomcpaaSoH
import Derived.Test.YtooaghcjlomcpaaTuA
namespace Go.Proofs.Ytooaghcjlomcpaa
open Go.RowKit Go.Sort

/-- A row, and what lies beneath. -/
structure Pr (w W : World) (q : Option Addr) (A : List Int) (d : Nat) : Prop where
  a : Row W q A d
  w : Below w.heap.size w W
theorem Pr.to {w W W' : World} {q : Option Addr} {A : List Int} {d : Nat} (h : Pr w W q A d) (hb : Below W.heap.size W W') : Pr w W' q A d := ⟨h.a.to hb, h.w.trans (hb.mono h.w.size)⟩
/-- Two rows. -/
structure Pq (w W : World) (q : Option Addr) (A : List Int) (d : Nat) (p : Option Addr) (M : List Int) (c : Nat) : Prop where
  a : Row W q A d
  m : Row W p M c
  w : Below w.heap.size w W
theorem Pq.to {w W W' : World} {q : Option Addr} {A : List Int} {d : Nat} {p : Option Addr} {M : List Int} {c : Nat} (h : Pq w W q A d p M c) (hb : Below W.heap.size W W') : Pq w W' q A d p M c := ⟨h.a.to hb, h.m.to hb, h.w.trans (hb.mono h.w.size)⟩
theorem Pr.and {w W W' : World} {q : Option Addr} {A : List Int} {d : Nat} (h : Pr w W q A d) {p : Option Addr} {M : List Int} {c : Nat} (hr : Res W.heap.size W' p M c) (hb : Below W.heap.size W W') : Pq w W' q A d p M c := ⟨h.a.to hb, hr.row, h.w.trans (hb.mono h.w.size)⟩

theorem taken_no (q : Option Addr) (A : List Int) (d : Nat) (F : Int) (W : World) (hr : Row W q A d) (hU : U64 A) (h0 : 0 ≤ F) (h1 : F < 18446744073709551616) (hm : mayT A = false) :
    Calls Try.prog 26 #[.slice q A.length d, .int .u64 F] W fun e w' => ∃ p c, e = .returned (.slice p 0 c) ∧ Below W.heap.size W w' := by
  have := taken_any q A d F W hr hU h0 h1
  rw [tolL_eq, hm] at this
  refine Calls.mono this ?_
  rintro e w' ⟨p, c, rfl, _, hb⟩
  exact ⟨p, c, rfl, hb⟩
theorem men_no (q : Option Addr) (A : List Int) (d : Nat) (i : Int) (W : World) (hr : Row W q A d) (hU : U64 A) (hi : ¬ (1 ≤ i ∧ i ≤ 1048578)) :
    Calls Try.prog 31 #[.slice q A.length d, .int .i64 i] W fun e w' => ∃ p c, e = .returned (.slice p 0 c) ∧ Below W.heap.size W w' := by
  have := mentions_any q A d i W hr hU
  rw [men_none A hi] at this
  refine Calls.mono this ?_
  rintro e w' ⟨p, c, rfl, _, hb⟩
  exact ⟨p, c, rfl, hb⟩
theorem chk_bad {A : List Int} (h : mayT A = false) : chkE A = 130 := by unfold chkE; rw [h]; rfl

set_option maxRecDepth 20000 in
set_option maxHeartbeats 4000000 in
theorem pairs_bad (px : Option Addr) (X : List Int) (cx : Nat) (i : Int) (w : World) (hx : InR w px X cx) (hm : mayT (X.take 20) = false) :
    Calls Try.prog 8 #[.slice px X.length cx, .int .i64 i] w fun e w' => e = .returned (.bool true) ∧ Below w.heap.size w w' := by
  have CK := wakes_any w
  have CF := fun (w1 : World) (hb : Below w.heap.size w w1) => turn_few px X cx w1 (hx.to hb)
  have ux := hx.u.take 20
  obtain ⟨A, hA⟩ : ∃ A, A = X.take 20 := ⟨_, rfl⟩
  rw [← hA] at CF ux hm
  clear hA hx
  have CP0 := fun (W : World) => pair_any 0 0 W
  rw [pair_00.1, pair_00.2] at CP0
  obtain ⟨F, hF⟩ : ∃ F, F = mk 2 0 0 := ⟨_, rfl⟩
  have hFu := mk_u 0 0 (by omega) (by omega) (by omega) (by omega)
  rw [← hF] at CP0 hFu
  have CT := fun (q : Option Addr) (d : Nat) (W : World) (hr : Row W q A d) => taken_no q A d F W hr ux hFu.1 hFu.2 hm
  have CC := fun (q : Option Addr) (d : Nat) (W : World) (hr : Row W q A d) => check_any q A d W hr ux
  rw [chk_bad hm] at CC
  clear hF hFu hm
  obtain ⟨n, hn⟩ : ∃ n, n = A.length := ⟨_, rfl⟩
  rw [← hn] at CF CT CC
  clear hn ux
  go_enter Try.func8, Try.ntmps8
  go_wp2_with (first
    | (go_at_call 9; refine Calls.mono CK ?_; rintro e w1 ⟨rfl, hb⟩; have H1 := hidOg hb; clear hb)
    | (go_at_call 10; refine Calls.mono (CF w1 H1.out) ?_; rintro e w2 ⟨q, d, rfl, hr, hb⟩; have H2 : Hid (Pr w w2 q A d) := ⟨hr, H1.out.trans (hb.mono H1.out.size)⟩; clear hr hb)
    | (go_at_call 37; refine Calls.mono (CP0 _) ?_; rintro e w3 ⟨rfl, hb⟩; have H3 := hidOg (H2.out.to hb); clear hb)
    | (go_at_call 26; refine Calls.mono (CT _ _ _ H3.out.a) ?_; rintro e w4 ⟨p4, c4, rfl, hb⟩; have H4 := hidOg (H3.out.to hb); clear hb)
    | (go_at_call 11; refine Calls.mono (CC _ _ _ H4.out.a) ?_; rintro e w5 ⟨rfl, hb⟩; have H5 := hidOg (H4.out.to hb); clear hb))
  go_ret
  exact ⟨rfl, H5.out.w⟩

end Go.Proofs.Ytooaghcjlomcpaa
