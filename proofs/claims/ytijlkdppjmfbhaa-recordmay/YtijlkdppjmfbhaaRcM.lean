/- Who stands where: a map of spots. -/
import Derived.Test.YtijlkdppjmfbhaaRcC
import Derived.Maps.OwnSet
import Derived.DeepKeys4
import Derived.MapViews
import Derived.Lib.SmallJoins
namespace Go.Proofs.Ytijlkdppjmfbhaa
open Go.RowKit Go.Maps

theorem tLaidOut : laidOutB Try.prog = true := by kernel_rfl
theorem row34 : (34 : TypeId) < Try.prog.types.size := of_decide_eq_true (by kernel_rfl)
theorem deep34 : Try.prog.keyTypeAt (Try.prog.types.size + 1) 34 = true := by kernel_rfl
theorem wide34 : (match Try.prog.underlying 34 with | some (.array _ _) | some (.struct _) => true | _ => false) = true := by rw [Try.underlying34]
set_option maxRecDepth 100000 in
theorem law34 : WideMaps.KeyLaw Try.prog 34 := deep_law_laid tLaidOut (m := 2) (by omega) row34 (by kernel_rfl) wide34
theorem keyS : Keyed Try.prog 34 := Keyed.of_law law34
theorem formed34 {c0 c1 : Value} : (Value.agg #[c0, c1]).formed Try.prog 34 = true := by simp [Value.formed, Try.underlying34, Try.cells34]
/-- Numbers of the model's. -/
def wfI (x : Int) : Prop := (Lit.int .i64 x).wf = true
def wfS (s : Sp) : Prop := wfI s.1 ∧ wfI s.2
def wfL (l : List Sp) : Prop := ∀ s ∈ l, wfS s
theorem wfI_of {x : Int} (h1 : -9223372036854775808 ≤ x) (h2 : x ≤ 9223372036854775807) : wfI x := by
  have a : IntKind.i64.min = -9223372036854775808 := by decide
  have b : IntKind.i64.max = 9223372036854775807 := by decide
  simp [wfI, Lit.wf, a, b]; omega
theorem wfI_bd {x : Int} (h : wfI x) : -9223372036854775808 ≤ x ∧ x ≤ 9223372036854775807 := by
  have a : IntKind.i64.min = -9223372036854775808 := by decide
  have b : IntKind.i64.max = 9223372036854775807 := by decide
  simp [wfI, Lit.wf, a, b] at h; omega
theorem wfL.at {l : List Sp} (h : wfL l) (k : Nat) : wfS (sG l k) := by
  by_cases hk : k < l.length
  · rw [sG_eq hk]; exact h _ (List.getElem_mem hk)
  · have e : sG l k = (0, 0) := by unfold sG; rw [List.getD_eq_getElem?_getD, List.getElem?_eq_none (by omega)]; rfl
    rw [e]; exact ⟨wfI_of (by decide) (by decide), wfI_of (by decide) (by decide)⟩
/-- What a spot is as a key. -/
def kS (s : Sp) : Lit := (DataW.agg [.lit (.int .i64 s.1), .lit (.int .i64 s.2)] : DataW Unit).asKey
set_option maxRecDepth 100000 in
theorem keyOf_sp {s : Sp} (h : wfS s) : keyOf Try.prog 34 (.agg #[.int .i64 s.1, .int .i64 s.2]) = some (kS s) := by
  obtain ⟨h1, h2⟩ := h
  refine (keyOf_asKey (H := Unit) (enc := fun _ => ()) (w := World.settled Try.prog default) (base := 0) (sp := fun _ => true) (held := true) deep34 wide34 formed34 (d := .agg [.lit (.int .i64 s.1), .lit (.int .i64 s.2)]) (ps := []) ?_).1
  exact Joins.shut_agg2 (y0 := (.lit (.int .i64 s.1), [])) (y1 := (.lit (.int .i64 s.2), [])) Try.underlying34 (by kernel_rfl) Try.cells34 ⟨1, by simp [DataW.trod, Try.underlying3]; exact h1⟩ ⟨1, by simp [DataW.trod, Try.underlying3]; exact h2⟩
theorem kS_inj {s t : Sp} (hs : wfS s) (ht : wfS t) (h : kS s = kS t) : s = t := by
  have e := keyS.inj (keyOf_sp hs) (by rw [h]; exact keyOf_sp ht)
  have e2 : s.1 = t.1 ∧ s.2 = t.2 := by simpa using e
  exact Prod.ext e2.1 e2.2
theorem zeroI (w : World) : (zeroValue 3).run Try.prog w = .ok (.int .i64 0) w := by kernel_rfl
/-- Block b is a map of m spots to numbers, which are u: 0 where there is none. -/
def MapS (W : World) (b n m : Nat) (u : Sp → Int) : Prop :=
  ∃ D : DataW Unit, W.ownsMap Try.prog 34 (plainElem Try.prog 3) b n D ∧ Maps.size D = m ∧ ∀ s, wfS s → D.atKey (kS s) (.lit (.int .i64 0)) = .lit (.int .i64 (u s)) ∧ Maps.has D (kS s) = !decide (u s = 0)
def IsM (W : World) (b : Nat) : Prop := ∃ es clock, W.heap[b]? = some (.map es clock)
theorem MapS.is {W : World} {b n m : Nat} {u : Sp → Int} (h : MapS W b n m u) : IsM W b := by obtain ⟨D, ⟨es, c, hb, _⟩, _⟩ := h; exact ⟨es, c, hb⟩
theorem MapS.at {W W' : World} {b n m : Nat} {u : Sp → Int} (h : MapS W b n m u) (e : W'.heap[b]? = W.heap[b]?) : MapS W' b n m u := by
  obtain ⟨D, ⟨es, c, hb, r⟩, hD⟩ := h; exact ⟨D, ⟨es, c, e.trans hb, r⟩, hD⟩
theorem IsM.lt {W : World} {b : Nat} (h : IsM W b) : b < W.heap.size := by obtain ⟨es, c, hb⟩ := h; exact (Array.getElem?_eq_some_iff.1 hb).1
theorem MapS.to {W W' : World} {b n m : Nat} {u : Sp → Int} (h : MapS W b n m u) (hb : Below W.heap.size W W') : MapS W' b n m u := h.at (hb.block b h.is.lt)
theorem mapS_new (W : World) : MapS (W.alloc (.map #[] 0)) W.heap.size 0 0 (fun _ => 0) := ⟨_, World.ownsMap_made W _ _ _, rfl, fun _ _ => ⟨rfl, rfl⟩⟩
def uP (u : Sp → Int) (s : Sp) (v : Int) : Sp → Int := fun t => if t = s then v else u t
theorem MapS.look {W : World} {b n m : Nat} {u : Sp → Int} (h : MapS W b n m u) {s : Sp} (hs : wfS s) : (Instr.lookup 59 (.map (some b)) (.agg #[.int .i64 s.1, .int .i64 s.2]) false).run Try.prog W = .ok (.int .i64 (u s)) W := by
  obtain ⟨D, ho, _, hD⟩ := h
  obtain ⟨c, hrun, hat, _⟩ := ho.lookup_int keyS Try.underlying59 Try.underlying3 (zeroI _) (keyOf_sp hs)
  rw [(hD s hs).1] at hat
  simp at hat
  rw [hat]; exact hrun
theorem MapS.len {W : World} {b n m : Nat} {u : Sp → Int} (h : MapS W b n m u) (ty : TypeId) : (Builtin.len_ #[59] ty #[.map (some b)]).run Try.prog W = .ok (.int .i64 (m : Int)) W := by
  obtain ⟨D, ho, hm, _⟩ := h
  rw [← hm]; exact ho.len Try.underlying59 ty
theorem kS_lit (s : Sp) (hs : wfS s) : WideAt.IsKeyLit (kS s) := keyS.key (keyOf_sp hs)
theorem MapS.put {W : World} {b n m : Nat} {u : Sp → Int} (h : MapS W b n m u) {s : Sp} {v : Int} (hs : wfS s) (hv : wfI v) (hv0 : v ≠ 0) (hn : n < maxLen) :
    ∃ W', (Instr.mapUpdate 59 (.map (some b)) (.agg #[.int .i64 s.1, .int .i64 s.2]) (.int .i64 v)).run Try.prog W = .ok () W' ∧ MapS W' b (n + 1) (if u s = 0 then m + 1 else m) (uP u s v) ∧ W.grownBy W' (some b) := by
  obtain ⟨D, ho, hm, hD⟩ := h
  obtain ⟨W', hrun, ho', hg⟩ := ho.update keyS Try.underlying59 hn (keyOf_sp hs) (plainElem_int Try.underlying3 hv)
  refine ⟨W', hrun, ⟨_, ho', ?_, fun t ht => ?_⟩, hg⟩
  · rw [size_put (ho.tidy keyS), (hD s hs).2, hm]
    by_cases e : u s = 0
    · rw [if_pos e, decide_eq_true e]; rfl
    · rw [if_neg e, decide_eq_false e]; rfl
  · unfold uP
    by_cases e : t = s
    · subst e
      rw [if_pos rfl]
      exact ⟨atKey_put_same ho.isMap (kS_lit _ hs) _ _, by rw [has_put_same ho.isMap (kS_lit _ hs), decide_eq_false hv0]; rfl⟩
    · have hne : kS t ≠ kS s := fun h => e (kS_inj ht hs h)
      rw [if_neg e, atKey_put_other hne, has_put_other hne]
      exact hD t ht
end Go.Proofs.Ytijlkdppjmfbhaa
