/- isPair, canBeHad, mayBe. -/
/- cmp.Less, isNaN, slices.BinarySearch, has. -/
/- Rows of numbers as cells; 'copy' into a row of the call's own; join. -/
/- put, drop. -/
import Derived.Test.YtjnhalomkmdcgaaMod
import Derived.Laws.CopyOwn
import Derived.Laws.IdiomCopy
import Derived.Deep.RegionHeld3
namespace Go.Proofs.Ytjnhalomkmdcgaa
open Go.RowKit

theorem canBeHad_any (x : Int) (w : World) (h0 : 0 ≤ x) (h1 : x < 18446744073709551616) :
    Calls Try.prog 67 #[.int .u64 x] w fun e w' => e = .returned (.bool (canB x)) ∧ Below w.heap.size w w' := by
  have CK := fun (W : World) => kind_any x W h0 h1
  by_cases k : kindOf x = 2
  · have E : Hid (canB x = true) := by unfold Hid canB; simp [k]
    go_enter Try.func67, Try.ntmps67
    go_wp2_with (first | (go_at_call 79; refine (CK _).mono ?_; rintro e w1 ⟨rfl, hb⟩))
    go_ret
    exact ⟨ret_bool E.out.symm, hb⟩
  · have E : Hid (canB x = (kindOf x == 3)) := by unfold Hid canB paiK; simp [k]; rfl
    have k' : (kindOf x == 2) = false := by simpa using k
    go_enter Try.func67, Try.ntmps67
    go_wp2_with (first | (go_at_call 79; refine (CK _).mono ?_; rintro e w1 ⟨rfl, hb⟩))
    go_ret
    exact ⟨ret_bool E.out.symm, hb⟩

set_option maxRecDepth 20000 in
set_option maxHeartbeats 2000000 in
theorem mayBe_any (p : Option Addr) (l : List Int) (c : Nat) (w : World) (hS : IRow .u64 w.heap.size w p l) (hU : U64 l) (hn : l.length < 1152921504606846976) :
    Calls Try.prog 52 #[.slice p l.length c] w fun e w' => e = .returned (.bool (mayT l)) ∧ Below w.heap.size w w' := by
  obtain ⟨n, hn'⟩ : ∃ n, n = l.length := ⟨_, rfl⟩
  have HN := hidOg hn'
  rw [← hn'] at hn ⊢
  obtain ⟨m, hm⟩ : ∃ m, m = mayT l := ⟨_, rfl⟩
  rw [← hm]
  have HM := hidOg hm
  have HS := hidOg hS
  have HU := hidOg hU
  clear hS hU hm hn'
  go_enter Try.func52, Try.ntmps52
  go_wp2
  go_step3
  go_wp2
  go_step3
  go_wp2
  go_loopw [3, 8] (fun g i wr => ∃ k : Nat, k ≤ n ∧ i = .int .i64 k ∧ g = .int .i64 k ∧ (∀ j, j < k → okAt l j = true) ∧ Below w.heap.size w wr) (fun _ i _ => n - (intOf i).toNat)
  case atStart => exact ⟨0, Nat.zero_le _, rfl, rfl, fun j h => by omega, Below.refl _ _⟩
  case round =>
    obtain ⟨k, hk, rfl, rfl, hok, hB⟩ := hrel
    have HO := hidOg hok
    have HB := hidOg hB
    clear hok hB
    by_cases hlt : k < n
    · obtain ⟨b, off, rfl, hbB, hcs⟩ := (HS.out.below HB.out (Nat.le_refl _)) (by have := HN.out; omega)
      have c0 := hcs k (by have := HN.out; omega)
      have c1 : 0 < k → wr.cell? ⟨b, off + (k - 1), none⟩ = some (.int .u64 (iG l (k - 1))) := fun _ => hcs (k - 1) (by have := HN.out; omega)
      obtain ⟨u0, u1⟩ := HU.out.at (k := k) (by have := HN.out; omega)
      clear hcs
      have HX : Hid (okAt l k = (!decide (k = 12) && canB (iG l k) && (decide (k = 0) || decide (iG l (k - 1) < iG l k)))) := rfl
      have HF : Hid (okAt l k = false → m = false) := fun h => by rw [HM.out]; exact mayT_false k (by have := HN.out; omega) h
      have HT : Hid (okAt l k = true → ∀ j, j < k + 1 → okAt l j = true) := fun h j hj => by
        by_cases e : j = k
        · rw [e]; exact h
        · exact HO.out j (by omega)
      have hkn : ((k : Int) == (n : Int)) = false := by simp; omega
      obtain ⟨x, hx⟩ : ∃ x, x = iG l k := ⟨_, rfl⟩
      rw [← hx] at c0 u0 u1
      rw [← hx] at HX
      clear hx
      have CC := fun (W : World) => canBeHad_any x W u0 u1
      by_cases e12 : k = 12
      · have e : m = false := HF.out (by rw [HX.out, e12]; rfl)
        subst e12 e
        have hkn' : ((12 : Int) == (n : Int)) = false := hkn
        clear hkn c1 HT HM HO CC
        go_wp2
        go_ret
        exact ⟨rfl, HB.out⟩
      · have e12' : ¬ ((k : Int) = 12) := by omega
        cases cb : canB x
        · have e : m = false := HF.out (by rw [HX.out, cb]; simp)
          subst e
          rw [cb] at CC
          clear c1 HT HM HO
          go_wp2_with (first | (go_at_call 67; refine (CC _).mono ?_; rintro e w1 ⟨rfl, hb1⟩))
          rw [Exit.noGoto_ret]
          go_ret
          exact ⟨rfl, HB.out.trans (hb1.mono HB.out.size)⟩
        · rw [cb] at CC
          by_cases e0 : k = 0
          · have HT' := hidOg (HT.out (by rw [HX.out, cb, e0]; rfl))
            clear HT HF HX HM
            subst e0
            have c0 : wr.cell? ⟨b, off, none⟩ = some (.int .u64 x) := by simpa using c0
            clear c1 HO
            go_wp2_with (first | (go_at_call 67; refine (CC _).mono ?_; rintro e w1 ⟨rfl, hb1⟩))
            go_roundw
            case rel => exact ⟨1, by omega, by go_num, by go_num, HT'.out, HB.out.trans (hb1.mono HB.out.size)⟩
            case measure => simp [intOf]; omega
          · obtain ⟨j, rfl⟩ : ∃ j, k = j + 1 := ⟨k - 1, by omega⟩
            have c1 : wr.cell? ⟨b, off + j, none⟩ = some (.int .u64 (iG l j)) := c1 (by omega)
            obtain ⟨y, hy⟩ : ∃ y, y = iG l j := ⟨_, rfl⟩
            rw [← hy] at c1
            have HX : Hid (okAt l (j + 1) = decide (y < x)) := by unfold Hid; rw [HX.out, cb, hy]; simp [e12]
            clear hy HO e0
            have hkn' : ((j : Int) + 1 == (n : Int)) = false := hkn
            clear hkn
            have hbc := fun (w1 : World) (hb : Below wr.heap.size wr w1) => hb.cell (p := ⟨b, off + j, none⟩) (by have := HB.out.size; simp; omega)
            by_cases hxy : y < x
            · have HT' := hidOg (HT.out (by rw [HX.out]; simpa using hxy))
              clear HT HF HX HM
              have hle : ¬ (x ≤ y) := by omega
              go_wp2_with (first | (go_at_call 67; refine (CC _).mono ?_; rintro e w1 ⟨rfl, hb1⟩; have c2 := (hbc w1 hb1).trans c1; clear hbc))
              go_roundw
              case rel => exact ⟨j + 2, by omega, by go_num, by go_num, HT'.out, HB.out.trans (hb1.mono HB.out.size)⟩
              case measure => simp [intOf]; omega
            · have e : m = false := HF.out (by rw [HX.out]; simpa using hxy)
              subst e
              clear HT HF HX HM
              have hle : x ≤ y := by omega
              go_wp2_with (first | (go_at_call 67; refine (CC _).mono ?_; rintro e w1 ⟨rfl, hb1⟩; have c2 := (hbc w1 hb1).trans c1; clear hbc))
              rw [Exit.noGoto_ret]
              go_ret
              exact ⟨rfl, HB.out.trans (hb1.mono HB.out.size)⟩
    · obtain rfl : k = n := by omega
      have e : m = true := by rw [HM.out]; exact mayT_true (by rw [← HN.out]; exact HO.out)
      subst e
      go_wp2
      rw [Exit.noGoto_ret]
      go_ret
      exact ⟨rfl, HB.out⟩
end Go.Proofs.Ytjnhalomkmdcgaa
namespace Go.Proofs.Ytjnhalomkmdcgaa
open Go.RowKit

theorem nan101 (x : Int) (w : World) : Calls Try.prog 84 #[.int .u64 x] w fun e w' => e = .returned (.bool false) ∧ w' = w := by
  go_enter Try.func84, Try.ntmps84
  go_wp2
  go_ret
  exact ⟨rfl, rfl⟩
/-- A row rises (it may stand still). -/
def Ris (l : List Int) : Prop := ∀ i j, i ≤ j → j < l.length → iG l i ≤ iG l j
/-- Where a number stands, or would stand, in a row. -/
def Pos (l : List Int) (x : Int) (i : Nat) : Prop := i ≤ l.length ∧ (∀ j, j < i → iG l j < x) ∧ (∀ j, i ≤ j → j < l.length → x ≤ iG l j)
def fndB (l : List Int) (x : Int) (i : Nat) : Bool := decide (i < l.length) && decide (iG l i = x)
def Found (l : List Int) (x : Int) (w : World) (e : Ending) (w' : World) : Prop := ∃ i : Nat, e = .returned (.tuple #[.int .i64 i, .bool (fndB l x i)]) ∧ Pos l x i ∧ Below w.heap.size w w'
theorem found_of {l : List Int} {x : Int} {w w' : World} {e : Ending} (i : Nat) (hp : Pos l x i) (he : e = .returned (.tuple #[.int .i64 i, .bool (fndB l x i)])) (hb : Below w.heap.size w w') : Found l x w e w' := ⟨i, he, hp, hb⟩

end Go.Proofs.Ytjnhalomkmdcgaa
namespace Go.Proofs.Ytjnhalomkmdcgaa
open Go.RowKit

theorem run_copy_rowK {P : Program} (w : World) (dT sT ty elem : TypeId) (size g o dLen dCap : Nat) (a : Addr) (sLen sCap : Nat) (cur : Array Value) (t : TypeId) (cs : List Value)
    (hu : P.underlying dT = some (.slice elem)) (hs : (P.info? elem).map (·.size) = some size)
    (hg : w.heap[g]? = some (.cells cur t (0, 0))) (hn : cs.length = Nat.min sLen dLen * size)
    (hsrc : ∀ j v, cs[j]? = some v → w.cell? (a.add j) = some v) (hfit : o + cs.length ≤ cur.size) (h1 : ∀ v ∈ cs, v.oneCell' = true) :
    (Builtin.copy_ #[dT, sT] ty #[.slice (some ⟨g, o, none⟩) dLen dCap, .slice (some a) sLen sCap]).run P w =
      .ok (goInt (Nat.min sLen dLen : Nat)) (w.setRow g (cur.toList.take o ++ cs ++ cur.toList.drop (o + cs.length)).toArray) := by
  have hl := run_loadCells_list (P := P) w a cs hsrc
  have hst := run_storeCells_at P g o t cs 0 cur w hg (by simpa using hfit) h1
  cases hq : P.info? elem with
  | none => simp [hq] at hs
  | some i =>
    have hi : i.size = size := by simpa [hq] using hs
    simp [Builtin.copy_, run_underlying hu, Builtin.lenOf, Builtin.firstCells, sizeOf, typeInfo, hq, hi, ← hn, hl, hst]
theorem run_copy_noneK {P : Program} (w : World) (dT sT ty elem : TypeId) (size : Nat) (d a : Option Addr) (dLen dCap sLen sCap : Nat) (hu : P.underlying dT = some (.slice elem)) (hs : (P.info? elem).map (·.size) = some size) (hn : Nat.min sLen dLen = 0) :
    (Builtin.copy_ #[dT, sT] ty #[.slice d dLen dCap, .slice a sLen sCap]).run P w = .ok (goInt 0) w := by
  cases hq : P.info? elem with
  | none => simp [hq] at hs
  | some i =>
    have hl : ∀ (x : Addr), (loadCells x 0).run P w = .ok #[] w := fun x => by simpa using run_loadCells_list (P := P) w x [] (by simp)
    cases d <;> cases a <;> simp [Builtin.copy_, run_underlying hu, Builtin.lenOf, Builtin.firstCells, sizeOf, typeInfo, hq, hn, storeCells, hl]

theorem copyK_ex {P : Program} (w : World) (dT sT ty elem : TypeId) (size : Nat) (hu : P.underlying dT = some (.slice elem)) (hsz : (P.info? elem).map (·.size) = some size)
    (dp sp : Option Addr) (dLen dCap sLen sCap : Nat)
    (g off : Nat) (cur : List Value) (t : TypeId) (hg : w.heap[g]? = some (.cells cur.toArray t (0, 0))) (cs : List Value) (N : Nat) (hN : N = Nat.min sLen dLen) (hn : cs.length = N * size)
    (hpos : 0 < N → dp = some ⟨g, off, none⟩ ∧ ∃ ad, sp = some ad ∧ ∀ j v, cs[j]? = some v → w.cell? (ad.add j) = some v)
    (hfit : off + cs.length ≤ cur.length) (h1 : ∀ v ∈ cs, v.oneCell' = true) (B : Nat) (w0 : World) (hb : Below B w0 w) (hBg : B ≤ g) :
    ∃ w', (Builtin.copy_ #[dT, sT] ty #[.slice dp dLen dCap, .slice sp sLen sCap]).run P w = .ok (goInt (N : Nat)) w' ∧ Hid (w'.heap[g]? = some (.cells (splice cur off cs).toArray t (0, 0))) ∧ Below B w0 w' := by
  by_cases h0 : N = 0
  · have hc : cs.length = 0 := by rw [hn, h0]; simp
    obtain rfl : cs = [] := List.eq_nil_of_length_eq_zero hc
    exact ⟨w, by rw [run_copy_noneK (P := P) w dT sT ty elem size dp sp dLen dCap sLen sCap hu hsz (by omega), h0]; rfl, (show _ = _ by simpa [splice] using hg), hb⟩
  · obtain ⟨rfl, ad, rfl, hsrc⟩ := hpos (by omega)
    have hrun := run_copy_rowK (P := P) w dT sT ty elem size g off dLen dCap ad sLen sCap cur.toArray t cs hu hsz hg (by rw [hn, hN]) hsrc (by simpa using hfit) h1
    exact ⟨_, by rw [hrun, hN], (show _ = _ by simpa [splice] using setRow_heap w g _ _ t _ hg), below_setRow hb hBg _⟩

def cellsI (q : IntKind) (l : List Int) : List Value := l.map (Value.int q)
theorem addr_add (g o i : Nat) : (⟨g, o, none⟩ : Addr).add i = ⟨g, o + i, none⟩ := by unfold Addr.add; split <;> simp_all
theorem cellsI_src {q : IntKind} {w : World} {b off : Nat} {l : List Int} (h : ∀ k, k < l.length → w.cell? ⟨b, off + k, none⟩ = some (.int q (iG l k))) :
    ∀ j v, (cellsI q l)[j]? = some v → w.cell? ((⟨b, off, none⟩ : Addr).add j) = some v := by
  intro j v hj
  have hlt : j < l.length := by have := (List.getElem?_eq_some_iff.1 hj).1; simpa [cellsI] using this
  rw [addr_add, h j hlt, ← hj]
  simp [cellsI, iG, hlt]
theorem cellsI_one (q : IntKind) (l : List Int) : ∀ v ∈ cellsI q l, v.oneCell' = true := by
  intro v h; simp [cellsI] at h; obtain ⟨a, _, rfl⟩ := h; rfl
theorem cellsI_len (q : IntKind) (l : List Int) : (cellsI q l).length = l.length * 1 := by simp [cellsI]
theorem cellsI_append (q : IntKind) (a b : List Int) : cellsI q (a ++ b) = cellsI q a ++ cellsI q b := by simp [cellsI]
theorem srcI {q : IntKind} {N M : Nat} {w w1 : World} {p : Option Addr} {l : List Int} (hS : IRow q N w p l) (hb : Below M w w1) (hm : N ≤ M) (h : 0 < l.length) : ∃ ad, p = some ad ∧ ∀ j v, (cellsI q l)[j]? = some v → w1.cell? (ad.add j) = some v := by
  obtain ⟨b, off, rfl, _, hc⟩ := (hS.below hb hm) h
  exact ⟨_, rfl, cellsI_src hc⟩
theorem made_row {w w1 : World} {t size n : Nat} {zs : List Value} (hown : w1.ownsRow w.heap.size t size (.slice (some ⟨w.heap.size, 0, none⟩) n n) n zs) (hg : w.grownBy w1 none) :
    ∃ Z : List Value, Hid (w1.heap[w.heap.size]? = some (.cells Z.toArray t (0, 0))) ∧ Hid (Z.length = n * size) ∧ Below w.heap.size w w1 := by
  rcases hown.2 with ⟨h', _⟩ | ⟨g', cap', cur, h', _, hc, _, _, hs, _⟩
  · simp at h'
  · simp only [Value.slice.injEq, Option.some.injEq, Addr.mk.injEq, and_true, true_and] at h'
    obtain ⟨rfl, rfl⟩ := h'
    exact ⟨cur.toList, by simpa [Hid] using hc, by simpa [Hid] using hs, (Below.refl _ _).grown hg (Nat.le_refl _) (fun k e => by cases e)⟩
theorem splice_take {α : Type} (Z A B : List α) (h : Z.take A.length = A) : (splice Z A.length B).take (A.length + B.length) = A ++ B := by
  unfold splice
  rw [h, ← List.length_append, ← List.append_assoc, List.take_append_of_le_length (Nat.le_refl _), List.take_length]
theorem irow_heap {w : World} {G t : Nat} {l : List Int} (q : IntKind) (h : w.heap[G]? = some (.cells (cellsI q l).toArray t (0, 0))) : IRow q w.heap.size w (some ⟨G, 0, none⟩) l := by
  intro _
  refine ⟨G, 0, rfl, (Array.getElem?_eq_some_iff.1 h).1, fun k hk => ?_⟩
  simp [World.cell?, h, cellsI, iG, hk]

/-- The k-th of a row of rows: where it lies, what it holds, its room. -/
abbrev RR := Option Addr × List Int × Nat
def rP (R : List RR) (k : Nat) : Option Addr := (R.getD k (none, [], 0)).1
def rL (R : List RR) (k : Nat) : List Int := (R.getD k (none, [], 0)).2.1
def rC (R : List RR) (k : Nat) : Nat := (R.getD k (none, [], 0)).2.2
/-- The first k rows, one behind the other. -/
def catN (R : List RR) : Nat → List Int
  | 0 => []
  | k + 1 => catN R k ++ rL R k
theorem catN_le (R : List RR) {k m : Nat} (h : k ≤ m) : (catN R k).length ≤ (catN R m).length := by
  induction m with
  | zero => obtain rfl : k = 0 := by omega
            exact Nat.le_refl _
  | succ m ih =>
    by_cases e : k = m + 1
    · rw [e]; exact Nat.le_refl _
    · have := ih (by omega); show _ ≤ (catN R m ++ rL R m).length; rw [List.length_append]; omega
/-- A block that holds rows, each of which lies below N. -/
def JRow (N : Nat) (w : World) (B : Nat) (R : List RR) : Prop := ∀ k, k < R.length → w.cell? ⟨B, k, none⟩ = some (.slice (rP R k) (rL R k).length (rC R k)) ∧ IRow .u64 N w (rP R k) (rL R k)
theorem JRow.below {N M : Nat} {w w' : World} {B : Nat} {R : List RR} (h : JRow N w B R) (hb : Below M w w') (hm : N ≤ M) (hB : B < M) : JRow N w' B R :=
  fun k hk => ⟨(hb.cell (p := ⟨B, k, none⟩) hB).trans (h k hk).1, (h k hk).2.below hb hm⟩

theorem Try.info41 : (Try.prog.info? 41).map (fun i => (i.zero, i.size, i.bytes)) = some (some (.int .u64 0), 1, 8) := by kernel_rfl
theorem Try.size41 : (Try.prog.info? 41).map (·.size) = some 1 := by kernel_rfl

end Go.Proofs.Ytjnhalomkmdcgaa
namespace Go.Proofs.Ytjnhalomkmdcgaa
open Go.RowKit

theorem cat3 (p1 p2 p3 : Option Addr) (a b c : List Int) (x y z : Nat) : catN [(p1, a, x), (p2, b, y), (p3, c, z)] 3 = a ++ b ++ c := by simp [catN, rL]
theorem cat2 (p1 p2 : Option Addr) (a b : List Int) (x y : Nat) : catN [(p1, a, x), (p2, b, y)] 2 = a ++ b := by simp [catN, rL]

/-- A row in memory, with room for at least itself. -/
structure Row (w : World) (p : Option Addr) (l : List Int) (c : Nat) : Prop where
  i : IRow .u64 w.heap.size w p l
  r : l.length ≤ c
  n : l.length ≤ 1099511627776
  a : (p = none ∧ l = [] ∧ c = 0) ∨ ∃ b off, p = some ⟨b, off, none⟩
theorem Row.to {w w' : World} {p : Option Addr} {l : List Int} {c : Nat} (h : Row w p l c) (hb : Below w.heap.size w w') : Row w' p l c := ⟨h.i.to hb, h.r, h.n, h.a⟩
theorem Row.nil (w : World) : Row w none [] 0 := ⟨IRow.nil, by simp, by simp, .inl ⟨rfl, rfl, rfl⟩⟩

theorem iG_take {l : List Int} {i k : Nat} (h : k < i) : iG (l.take i) k = iG l k := by
  unfold iG; rw [List.getD_eq_getElem?_getD, List.getD_eq_getElem?_getD, List.getElem?_take_of_lt h]
theorem iG_drop (l : List Int) (i k : Nat) : iG (l.drop i) k = iG l (i + k) := by
  unfold iG; rw [List.getD_eq_getElem?_getD, List.getD_eq_getElem?_getD, List.getElem?_drop]
theorem IRow.take {q : IntKind} {N : Nat} {w : World} {p : Option Addr} {l : List Int} (h : IRow q N w p l) (i : Nat) : IRow q N w p (l.take i) := by
  intro h0
  have hl : (l.take i).length ≤ l.length := by simp; omega
  obtain ⟨b, off, rfl, hN, hc⟩ := h (by omega)
  refine ⟨b, off, rfl, hN, fun k hk => ?_⟩
  rw [iG_take (by simp at hk; omega)]
  exact hc k (by omega)
theorem IRow.drop {q : IntKind} {N : Nat} {w : World} {b off : Nat} {l : List Int} (h : IRow q N w (some ⟨b, off, none⟩) l) (i : Nat) : IRow q N w (some ⟨b, off + i, none⟩) (l.drop i) := by
  intro h0
  have hl : (l.drop i).length = l.length - i := by simp
  obtain ⟨b', off', e, hN, hc⟩ := h (by omega)
  cases e
  refine ⟨b, off + i, rfl, hN, fun k hk => ?_⟩
  rw [iG_drop, ← hc (i + k) (by omega), Nat.add_assoc]

theorem jrow_new {w : World} {R : List RR} {t : TypeId} (o : List Value) (ho : o = R.map fun r => Value.slice r.1 r.2.1.length r.2.2) (h : ∀ k, k < R.length → IRow .u64 w.heap.size w (rP R k) (rL R k)) :
    JRow (w.alloc (.cells o.toArray t)).drew.heap.size (w.alloc (.cells o.toArray t)).drew w.heap.size R := by
  intro k hk
  have hb : Below w.heap.size w (w.alloc (.cells o.toArray t)).drew := ((Below.refl w.heap.size w).alloc (Nat.le_refl _) _).drew
  refine ⟨?_, (h k hk).to hb⟩
  subst ho
  have hh : (w.alloc (.cells (R.map fun r => Value.slice r.1 r.2.1.length r.2.2).toArray t)).drew.heap[w.heap.size]? = some (.cells (R.map fun r => Value.slice r.1 r.2.1.length r.2.2).toArray t) := heap_alloc_new w _
  simp only [World.cell?]
  rw [hh]
  simp [rP, rL, rC, hk]

def putL (l : List Int) (i : Nat) (ids : List Int) : List Int := l.take i ++ ids ++ l.drop i
def dropL (l : List Int) (i : Nat) : List Int := l.take i ++ l.drop (i + 1)

/-- What comes is a row of the call's own. -/
def Own (l : List Int) (w : World) (e : Ending) (w' : World) : Prop := ∃ G, e = .returned (.slice (some ⟨G, 0, none⟩) l.length l.length) ∧ w.heap.size ≤ G ∧ w'.heap[G]? = some (.cells (cellsI .u64 l).toArray 41 (0, 0)) ∧ Below w.heap.size w w'

end Go.Proofs.Ytjnhalomkmdcgaa
