/- LookupOrder: the closure put. -/
import Derived.Test.YtjnhalomkmdcgaaLwO
import Derived.Test.YtjnhalomkmdcgaaLwT
namespace Go.Proofs.Ytjnhalomkmdcgaa
open Go.RowKit

theorem put_no (p : Option Addr) (T A : List En) (c : Nat) (q : Option Addr) (t : List Int) (d : Nat) (n : Int) (w : World) (h : LkW w p T A) (hT : TRow w.heap.size w q t d) (ht : t.length ≤ 1000) (mt : mayT t = false) :
    Calls Try.prog 24 #[.agg #[.slice p T.length c], .slice q t.length d, .int .i64 n] w fun e w' => ∃ p' c', e = .returned (.tuple #[.agg #[.slice p' 0 c'], .int .i64 130]) ∧ Below w.heap.size w w' := by
  refine (put24 p T c q t d n w h.e h.n (lb_of_ri h.r.r) hT ht _ (Nat.le_refl _)).mono ?_
  have hp : puE T t n = 130 := by
    unfold puE
    rw [riB_t h.r.r, if_pos rfl, mt]; rfl
  rw [hp]
  rintro e w' ⟨p', c', T', rfl, _, _, hno, hb⟩
  obtain rfl := hno (by decide)
  exact ⟨p', c', rfl, hb⟩
/-- A lookup in memory of its own, of at most 64 slots, that may be and says A. -/
structure LkO (B : Nat) (w : World) (p : Option Addr) (T : List En) (c : Nat) (A : List En) : Prop where
  e : EFr B w p T c
  r : LkR T A
  n : T.length ≤ 64
theorem LkO.lk {B : Nat} {w : World} {p : Option Addr} {T : List En} {c : Nat} {A : List En} (h : LkO B w p T c A) : LkW w p T A := ⟨h.e.row, h.r, by have := h.n; omega⟩
theorem LkO.below {B : Nat} {w w' : World} {p : Option Addr} {T : List En} {c : Nat} {A : List En} (h : LkO B w p T c A) (hb : Below w.heap.size w w') : LkO B w' p T c A := ⟨h.e.below hb, h.r, h.n⟩
theorem LkO.set {B : Nat} {w : World} {p : Option Addr} {T : List En} {c : Nat} {A : List En} (h : LkO B w p T c A) {D : Nat} {v : Value} (hx : Boxed w D 24 v) (u : Value) : LkO B (w.setCell ⟨D, 0, none⟩ u) p T c A := by
  obtain ⟨X, hX, ho, ht⟩ := h.e.ex
  exact ⟨⟨X, hX, ho.kept (grownBy_setCell' w D u) (.inr (hx.not_row (by decide) ho).symm), fun x hx' => ⟨(ht x hx').o.kept (grownBy_setCell' w D u) (.inr (hx.not_row (by decide) (ht x hx').o).symm), (ht x hx').u⟩⟩, h.r, h.n⟩
theorem LkO.grown {B : Nat} {w w' : World} {p : Option Addr} {T : List En} {c : Nat} {A : List En} (h : LkO B w p T c A) {B' n : Nat} {v : Value} {xs : List Value} (hr : w.ownsRow B' 34 1 v n xs) (hg : w.grownBy w' v.ownBlock) : LkO B w' p T c A := by
  obtain ⟨X, hX, ho, ht⟩ := h.e.ex
  exact ⟨⟨X, hX, ho.kept hg (owns_part ho hr (by decide)), fun x hx' => ⟨(ht x hx').o.kept hg (owns_part (ht x hx').o hr (by decide)), (ht x hx').u⟩⟩, h.r, h.n⟩
/-- A lookup as the closure answers it. -/
def AnsP (B : Nat) (A : List En) (w : World) (e : Ending) (w' : World) : Prop := ∃ p' c' T', e = .returned (.agg #[.slice p' T'.length c']) ∧ LkO B w' p' T' c' A ∧ Below w.heap.size w w'
set_option maxRecDepth 20000 in
set_option maxHeartbeats 1000000 in
theorem put28 (B : Nat) (p : Option Addr) (T A : List En) (R : List (List Int)) (c : Nat) (q : Option Addr) (t : List Int) (d : Nat) (w : World) (h : LkO B w p T c A) (hB : B ≤ w.heap.size) (hAS : AS R A) (hA : A.length + 1 ≤ 30) (hT : TRow w.heap.size w q t d) (ht : t.length ≤ 14) :
    Calls Try.prog 28 #[.agg #[.slice p T.length c], .slice q t.length d] w fun e w' => AnsP B (inA A t) w e w' := by
  have hT4 := h.n
  obtain ⟨wA, hwA⟩ : ∃ wA, wA = (w.alloc (.cells #[.slice p T.length c] 24)).alloc (.cells #[.slice none 0 0] 24) := ⟨_, rfl⟩
  have bA : Below w.heap.size w wA := by rw [hwA]; exact ((Below.refl _ _).alloc (Nat.le_refl _) _).alloc (by simp) _
  have sA : wA.heap.size = w.heap.size + 2 := by rw [hwA]; simp
  have x0 : Boxed wA w.heap.size 24 (.slice p T.length c) := by rw [hwA]; exact (Boxed.new w 24 _).alloc _
  have x1 : Boxed wA (w.heap.size + 1) 24 (.slice none 0 0) := by
    have := Boxed.new (w.alloc (.cells #[.slice p T.length c] 24)) 24 (.slice none 0 0); rw [World.size_alloc] at this; rw [hwA]; exact this
  have hL := h.lk.to bA
  have hTA := hT.to bA
  have HK : Hid (∀ (W : World) (o : Obj), Below wA.heap.size wA W → (W.alloc o).cell? ⟨w.heap.size, 0, none⟩ = some (.slice p T.length c) ∧ (W.alloc o).cell? ⟨w.heap.size + 1, 0, none⟩ = some (.slice none 0 0) ∧ (W.alloc o).frozen? ⟨w.heap.size + 1, 0, none⟩ = false ∧ Below w.heap.size w (W.alloc o)) := fun W o hb => by
    have z1 := (Boxed.stays x1 hb).alloc o
    exact ⟨((Boxed.stays x0 hb).alloc o).cell, z1.cell, z1.frozen, (bA.trans (hb.mono bA.size)).alloc (Nat.le_trans bA.size hb.size) o⟩
  by_cases hy : mayT t = true ∧ fiL A t = -1
  · have E : inA A t = wiL cmpL A (1, t, (t.length : Int)) := if_pos hy
    rw [E]
    have CP := put_yes p T A c q t d (t.length : Int) wA hL hTA hy.1 (by omega) hy.2 64 (en_64 h.r hT4 hA)
    obtain ⟨lt, hlt⟩ : ∃ lt, lt = t.length := ⟨_, rfl⟩
    obtain ⟨m, hm⟩ : ∃ m, m = T.length := ⟨_, rfl⟩
    obtain ⟨A', hA'⟩ : ∃ A', A' = wiL cmpL A (1, t, (t.length : Int)) := ⟨_, rfl⟩
    rw [← hA'] at CP ⊢
    rw [← hlt] at CP ⊢
    rw [← hm] at CP HK hwA ⊢
    clear hy h hAS hA hT4 hT ht hL hTA x0 x1 hlt hm hA' E
    go_enter Try.func28, Try.ntmps28
    go_wp2_with (first | (go_at_call 24; rw [← hwA]; refine Calls.mono CP ?_; clear CP; rintro e w3 ⟨p3, c3, T3, rfl, hE3, hr3, hn3, hb3⟩; obtain ⟨y0, y1, y2, y3⟩ := HK.out _ (.cells #[.slice p3 T3.length c3] 24) hb3; have HE3 := hidOg hE3; have HR3 := hidOg hr3; have HB3 := hidOg y3; have HBB := hidOg hb3; clear hE3 hr3 hb3 y3))
    have hlt3 := HBB.out.size
    refine bodyPost_ret (v := .agg #[.slice p3 T3.length c3]) (by simp [results, Try.results28, go_sem, y1]) rfl ⟨p3, c3, T3, rfl, ⟨?_, HR3.out, hn3⟩, ?_⟩
    · exact (((HE3.out.below ((Below.refl _ _).alloc (Nat.le_refl _) _)).setCell (a := ⟨w.heap.size + 1, 0, none⟩) (by simp; omega) _)).base (by omega)
    · exact HB3.out.setCell (p := ⟨w.heap.size + 1, 0, none⟩) (by simp) _
  · have E : inA A t = A := if_neg hy
    rw [E]
    have CP : ∃ er : Int, (er != 0) = true ∧ Calls Try.prog 24 #[.agg #[.slice p T.length c], .slice q t.length d, .int .i64 (t.length : Int)] wA fun e w' => ∃ p' c', e = .returned (.tuple #[.agg #[.slice p' 0 c'], .int .i64 er]) ∧ Below wA.heap.size wA w' := by
      rcases hAS.no hy with hm | ⟨hm, hf⟩
      · exact ⟨130, rfl, put_no p T A c q t d _ wA hL hTA (by omega) hm⟩
      · exact ⟨5, rfl, put_there p T A c q t d _ wA hL hTA hm (by omega) hf⟩
    obtain ⟨er, her, CP⟩ := CP
    have HL : Hid (∀ W, Below w.heap.size w W → LkO B W p T c A) := fun W hb => h.below hb
    obtain ⟨lt, hlt⟩ : ∃ lt, lt = t.length := ⟨_, rfl⟩
    obtain ⟨m, hm⟩ : ∃ m, m = T.length := ⟨_, rfl⟩
    rw [← hlt] at CP ⊢
    have HM := hidOg hm
    rw [← hm] at CP HK hwA ⊢
    clear hy h hAS hA hT4 hT ht hL hTA x0 x1 hlt hm E
    go_enter Try.func28, Try.ntmps28
    go_wp2_with (first | (go_at_call 24; rw [← hwA]; refine Calls.mono CP ?_; clear CP; rintro e w3 ⟨p3, c3, rfl, hb3⟩; obtain ⟨y0, y1, y2, y3⟩ := HK.out _ (.cells #[.slice p3 0 c3] 24) hb3; have HB3 := hidOg y3; clear hb3 y3))
    have hbe := HB3.out.setCell (p := ⟨w.heap.size + 1, 0, none⟩) (by simp) (.slice p m c)
    exact bodyPost_ret (v := .agg #[.slice p m c]) (by simp [results, Try.results28, go_sem, y1]) rfl ⟨p, c, T, by rw [HM.out], HL.out _ hbe, hbe⟩
end Go.Proofs.Ytjnhalomkmdcgaa
