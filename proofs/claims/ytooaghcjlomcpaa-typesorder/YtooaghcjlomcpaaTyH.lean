/- With, Of. -/
import Derived.Test.YtooaghcjlomcpaaTyG
namespace Go.Proofs.Ytooaghcjlomcpaa
open Go.RowKit

def WithOut (l : List Int) (x : Int) (w : World) (e : Ending) (w' : World) : Prop := ∃ p' c', e = .returned (.tuple #[.slice p' (witL l x).length c', .int .i64 (witE l x)]) ∧ Res w.heap.size w' p' (witL l x) c' ∧ Below w.heap.size w w'
theorem one_row {w : World} (x : Int) : Row (w.alloc (.cells #[.int .u64 x] 33)) (some ⟨w.heap.size, 0, none⟩) [x] 1 :=
  ⟨irow_heap (l := [x]) .u64 (heap_alloc_new w _), by simp, by simp, .inr ⟨_, _, rfl⟩⟩

theorem with_bad (p : Option Addr) (l : List Int) (c : Nat) (x : Int) (w : World) (h : Row w p l c) (hU : U64 l) (hm : mayT l = false) :
    Calls Try.prog 32 #[.slice p l.length c, .int .u64 x] w fun e w' => WithOut l x w e w' := by
  have CM := mayBe_any p l c w h.i hU (by have := h.n; omega)
  have e1 : witL l x = [] := by unfold witL witOk; rw [hm]; rfl
  have e2 : witE l x = 130 := by unfold witE; rw [hm]; rfl
  unfold WithOut
  rw [e1, e2]
  rw [hm] at CM
  clear hm h hU e1 e2
  go_enter Try.func32, Try.ntmps32
  go_wp2_with (first | (go_at_call 47; refine Calls.mono CM ?_; rintro e w1 ⟨rfl, hb⟩))
  go_ret2
  exact ⟨none, 0, rfl, Res.nil _ _, hb⟩

theorem with_arg (p : Option Addr) (l : List Int) (c : Nat) (x : Int) (w : World) (h : Row w p l c) (hU : U64 l) (h0 : 0 ≤ x) (h1 : x < 18446744073709551616) (hm : mayT l = true) (hc : canB x = false) :
    Calls Try.prog 32 #[.slice p l.length c, .int .u64 x] w fun e w' => WithOut l x w e w' := by
  have CM := mayBe_any p l c w h.i hU (by have := h.n; omega)
  have CC := fun (W : World) => canBeHad_any x W h0 h1
  have e1 : witL l x = [] := by unfold witL witOk; rw [hm, hc]; rfl
  have e2 : witE l x = 2 := by unfold witE; rw [hm, hc]; rfl
  unfold WithOut
  rw [e1, e2]
  rw [hm] at CM
  rw [hc] at CC
  clear hm h hU e1 e2 hc
  go_enter Try.func32, Try.ntmps32
  go_wp2_with (first | (go_at_call 47; refine Calls.mono CM ?_; rintro e w1 ⟨rfl, hb⟩) | (go_at_call 48; refine Calls.mono (CC _) ?_; rintro e w2 ⟨rfl, hb2⟩))
  go_ret2
  exact ⟨none, 0, rfl, Res.nil _ _, hb.trans (hb2.mono hb.size)⟩

set_option maxHeartbeats 1000000 in
theorem with_old (p : Option Addr) (l : List Int) (c : Nat) (x : Int) (w : World) (h : Row w p l c) (hU : U64 l) (h0 : 0 ≤ x) (h1 : x < 18446744073709551616) (hm : mayT l = true) (hc : canB x = true) (hx : x ∈ l) :
    Calls Try.prog 32 #[.slice p l.length c, .int .u64 x] w fun e w' => WithOut l x w e w' := by
  have CM := mayBe_any p l c w h.i hU (by have := h.n; omega)
  have CC := fun (W : World) => canBeHad_any x W h0 h1
  obtain ⟨h12, _, hs⟩ := (mayT_iff l).1 hm
  have e1 : witL l x = l := by unfold witL witOk; rw [hm, hc, decide_eq_true hx]; exact insL_old hs hx
  have e2 : witE l x = 0 := by unfold witE; rw [hm, hc, decide_eq_true hx]; rfl
  have CB := fun (w1 : World) (hb : Below w.heap.size w w1) => bin_any p l c x w1 (h.to hb).i hs.ris (by omega)
  have CP := fun (i : Nat) (hi : i ≤ l.length) (w1 : World) (hb : Below w.heap.size w w1) => put_any p l c i none [] 0 w1 (h.to hb) hi (Row.nil w1)
  have F : Hid (∀ i, Pos l x i → fndB l x i = true) := fun i hp => by rw [fnd_iff hs hp, decide_eq_true hx]
  have HL : Hid (l.length ≤ 1099511627776) := by unfold Hid; omega
  unfold WithOut
  rw [e1, e2]
  rw [hm] at CM
  rw [hc] at CC
  clear hm h hU e1 e2 hc hs hx h12
  go_enter Try.func32, Try.ntmps32
  go_wp2_with (first | (go_at_call 47; refine Calls.mono CM ?_; rintro e w1 ⟨rfl, hb⟩) | (go_at_call 48; refine Calls.mono (CC _) ?_; rintro e w2 ⟨rfl, hb2⟩; have hB : Below w.heap.size w w2 := hb.trans (hb2.mono hb.size)) | (go_at_call 49; refine Calls.mono (CB _ hB) ?_; rintro e w3 ⟨i, rfl, hp, hb3⟩; have f1 := F.out i hp; have CP' := CP i hp.1 w3 (hB.trans (hb3.mono hB.size)); rw [f1]; clear CP) | (go_at_call 50; refine Calls.mono CP' ?_; rintro e w4 ⟨G, rfl, hG, hh, hb4⟩))
  go_ret2
  have hB3 : Below w.heap.size w w3 := hB.trans (hb3.mono hB.size)
  rw [put_none] at hh
  exact ⟨some ⟨G, 0, none⟩, l.length, by rw [put_none]; rfl, res_own (Nat.le_trans hB3.size hG) hh HL.out, hB3.trans (hb4.mono hB3.size)⟩

set_option maxHeartbeats 1000000 in
theorem with_full (p : Option Addr) (l : List Int) (c : Nat) (x : Int) (w : World) (h : Row w p l c) (hU : U64 l) (h0 : 0 ≤ x) (h1 : x < 18446744073709551616) (hm : mayT l = true) (hc : canB x = true) (hx : x ∉ l) (hl : l.length = 12) :
    Calls Try.prog 32 #[.slice p l.length c, .int .u64 x] w fun e w' => WithOut l x w e w' := by
  have CM := mayBe_any p l c w h.i hU (by have := h.n; omega)
  have CC := fun (W : World) => canBeHad_any x W h0 h1
  obtain ⟨h12, _, hs⟩ := (mayT_iff l).1 hm
  have e1 : witL l x = [] := by unfold witL witOk; rw [hm, hc, decide_eq_false hx, hl]; rfl
  have e2 : witE l x = 6 := by unfold witE; rw [hm, hc, decide_eq_false hx, hl]; rfl
  have CB := fun (w1 : World) (hb : Below w.heap.size w w1) => bin_any p l c x w1 (h.to hb).i hs.ris (by omega)
  have F : Hid (∀ i, Pos l x i → fndB l x i = false) := fun i hp => by rw [fnd_iff hs hp, decide_eq_false hx]
  unfold WithOut
  rw [e1, e2]
  rw [hm] at CM
  rw [hc] at CC
  rw [hl] at CM CB ⊢
  clear hm h hU e1 e2 hc hs hx h12 hl
  go_enter Try.func32, Try.ntmps32
  go_wp2_with (first | (go_at_call 47; refine Calls.mono CM ?_; rintro e w1 ⟨rfl, hb⟩) | (go_at_call 48; refine Calls.mono (CC _) ?_; rintro e w2 ⟨rfl, hb2⟩; have hB : Below w.heap.size w w2 := hb.trans (hb2.mono hb.size)) | (go_at_call 49; refine Calls.mono (CB _ hB) ?_; rintro e w3 ⟨i, rfl, hp, hb3⟩; have f1 := F.out i hp; rw [f1]))
  go_ret2
  exact ⟨none, 0, rfl, Res.nil _ _, hB.trans (hb3.mono hB.size)⟩

set_option maxHeartbeats 1000000 in
theorem with_new (p : Option Addr) (l : List Int) (c : Nat) (x : Int) (w : World) (h : Row w p l c) (hU : U64 l) (h0 : 0 ≤ x) (h1 : x < 18446744073709551616) (hm : mayT l = true) (hc : canB x = true) (hx : x ∉ l) (hl : l.length < 12) :
    Calls Try.prog 32 #[.slice p l.length c, .int .u64 x] w fun e w' => WithOut l x w e w' := by
  have CM := mayBe_any p l c w h.i hU (by have := h.n; omega)
  have CC := fun (W : World) => canBeHad_any x W h0 h1
  obtain ⟨h12, _, hs⟩ := (mayT_iff l).1 hm
  have e1 : witL l x = insL l x := by unfold witL witOk; rw [hm, hc, decide_eq_true hl]; simp
  have e2 : witE l x = 0 := by unfold witE; rw [hm, hc, decide_eq_true hl]; simp
  have CB := fun (w1 : World) (hb : Below w.heap.size w w1) => bin_any p l c x w1 (h.to hb).i hs.ris (by omega)
  have CP := fun (i : Nat) (hi : i ≤ l.length) (w1 : World) (hb : Below w.heap.size w w1) => put_any p l c i (some ⟨w1.heap.size, 0, none⟩) [x] 1 (w1.alloc (.cells #[.int .u64 x] 33)) (h.to (hb.alloc hb.size _)) hi (one_row x)
  have F : Hid (∀ i, Pos l x i → fndB l x i = false ∧ putL l i [x] = insL l x) := fun i hp => ⟨by rw [fnd_iff hs hp, decide_eq_false hx], put_new hp hx⟩
  have HL : Hid ((insL l x).length ≤ 1099511627776) := by unfold Hid; rw [insL_len hx]; omega
  unfold WithOut
  rw [e1, e2]
  rw [hm] at CM
  rw [hc] at CC
  have hl' : ((l.length : Int) == 12) = false := by simp; omega
  clear hm h hU e1 e2 hc hs hx h12
  go_enter Try.func32, Try.ntmps32
  go_wp2_with (first | (go_at_call 47; refine Calls.mono CM ?_; rintro e w1 ⟨rfl, hb⟩) | (go_at_call 48; refine Calls.mono (CC _) ?_; rintro e w2 ⟨rfl, hb2⟩; have hB : Below w.heap.size w w2 := hb.trans (hb2.mono hb.size)) | (go_at_call 49; refine Calls.mono (CB _ hB) ?_; rintro e w3 ⟨i, rfl, hp, hb3⟩; obtain ⟨f1, f2⟩ := F.out i hp; have F2 := hidOg f2; clear f2; have CP' := CP i hp.1 w3 (hB.trans (hb3.mono hB.size)); rw [f1]; clear CP) | (go_at_call 50; refine Calls.mono CP' ?_; rintro e w4 ⟨G, rfl, hG, hh, hb4⟩))
  go_ret2
  have hB3 : Below w.heap.size w w3 := hB.trans (hb3.mono hB.size)
  have hB4 : Below w.heap.size w (w3.alloc (.cells #[.int .u64 x] 33)) := hB3.alloc hB3.size _
  rw [F2.out] at hh
  exact ⟨some ⟨G, 0, none⟩, (insL l x).length, by rw [F2.out]; rfl, res_own (Nat.le_trans hB4.size hG) hh HL.out, hB4.trans (hb4.mono hB4.size)⟩

theorem with_any (p : Option Addr) (l : List Int) (c : Nat) (x : Int) (w : World) (h : Row w p l c) (hU : U64 l) (h0 : 0 ≤ x) (h1 : x < 18446744073709551616) :
    Calls Try.prog 32 #[.slice p l.length c, .int .u64 x] w fun e w' => WithOut l x w e w' := by
  cases hm : mayT l
  · exact with_bad p l c x w h hU hm
  · cases hc : canB x
    · exact with_arg p l c x w h hU h0 h1 hm hc
    · by_cases hx : x ∈ l
      · exact with_old p l c x w h hU h0 h1 hm hc hx
      · have := ((mayT_iff l).1 hm).1
        by_cases hl : l.length = 12
        · exact with_full p l c x w h hU h0 h1 hm hc hx hl
        · exact with_new p l c x w h hU h0 h1 hm hc hx (by omega)

/-- What Of answers. -/
def ofOk (l : List Int) : Bool := l.all canB && decide ((ofL l).length ≤ 12)
def ofR (l : List Int) : List Int := if ofOk l then ofL l else []
def ofE (l : List Int) : Int := if l.all canB then (if decide ((ofL l).length ≤ 12) then 0 else 6) else 2
def OfOut (l : List Int) (w : World) (e : Ending) (w' : World) : Prop := ∃ p' c', e = .returned (.tuple #[.slice p' (ofR l).length c', .int .i64 (ofE l)]) ∧ Res w.heap.size w' p' (ofR l) c' ∧ Below w.heap.size w w'

set_option maxRecDepth 20000 in
set_option maxHeartbeats 4000000 in
theorem of_any (p : Option Addr) (l : List Int) (c : Nat) (w : World) (h : Row w p l c) (hU : U64 l) :
    Calls Try.prog 13 #[.slice p l.length c] w fun e w' => OfOut l w e w' := by
  obtain ⟨n, hn'⟩ : ∃ n, n = l.length := ⟨_, rfl⟩
  have HN := hidOg hn'
  have hn : n ≤ 1099511627776 := by rw [hn']; exact h.n
  rw [← hn']
  have HS := hidOg h.i
  have HU := hidOg hU
  clear h hU hn'
  have OB : Hid (∀ k, k < n → canB (iG l k) = false → ∀ w w', Below w.heap.size w w' → OfOut l w (.returned (.tuple #[.slice none 0 0, .int .i64 2])) w') := by
    intro k hk hc w w' hb
    have e : l.all canB = false := by
      rw [Bool.eq_false_iff]; intro h'; rw [List.all_eq_true] at h'
      have := h' _ (iG_mem (by rw [← HN.out]; exact hk)); rw [hc] at this; cases this
    have e1 : ofR l = [] := by unfold ofR ofOk; rw [e]; rfl
    have e2 : ofE l = 2 := by unfold ofE; rw [e]; rfl
    unfold OfOut; rw [e1, e2]
    exact ⟨none, 0, rfl, Res.nil _ _, hb⟩
  go_enter Try.func13, Try.ntmps13
  go_wp2
  go_loopw [13] (fun i wr => ∃ k : Nat, k ≤ n ∧ i = .int .i64 k ∧ (∀ j, j < k → canB (iG l j) = true) ∧ Below w.heap.size w wr) (fun i _ => n - (intOf i).toNat)
  case atStart => exact ⟨0, Nat.zero_le _, rfl, fun j h => by omega, Below.refl _ _⟩
  case round =>
    obtain ⟨k, hk, rfl, hok, hB⟩ := hrel
    have HO := hidOg hok
    have HB := hidOg hB
    clear hok hB
    by_cases hlt : k < n
    · obtain ⟨b, off, rfl, hbB, hcs⟩ := (HS.out.below HB.out (Nat.le_refl _)) (by have := HN.out; omega)
      have c0 := hcs k (by have := HN.out; omega)
      clear hcs
      obtain ⟨u0, u1⟩ := HU.out.at (k := k) (by have := HN.out; omega)
      have F := hidOg (OB.out k hlt)
      have HT : Hid (canB (iG l k) = true → ∀ j, j < k + 1 → canB (iG l j) = true) := fun h j hj => by
        by_cases e : j = k
        · rw [e]; exact h
        · exact HO.out j (by omega)
      obtain ⟨x, hx⟩ : ∃ x, x = iG l k := ⟨_, rfl⟩
      rw [← hx] at c0 u0 u1 F HT
      clear hx
      have CC := fun (W : World) => canBeHad_any x W u0 u1
      cases hc : canB x
      · have F' := hidOg (F.out hc)
        rw [hc] at CC
        clear F HT hc OB
        go_wp2_with (first | (go_at_call 48; refine Calls.mono (CC _) ?_; rintro e w2 ⟨rfl, hb2⟩))
        go_ret2
        exact F'.out _ _ (HB.out.trans (hb2.mono HB.out.size))
      · have HT' := hidOg (HT.out hc)
        rw [hc] at CC
        clear F HT hc OB
        go_wp2_with (first | (go_at_call 48; refine Calls.mono (CC _) ?_; rintro e w2 ⟨rfl, hb2⟩))
        go_roundw
        case rel => exact ⟨k + 1, by omega, by go_num, HT'.out, HB.out.trans (hb2.mono HB.out.size)⟩
        case measure => simp [intOf]; omega
    · obtain rfl : k = n := by omega
      have AC : Hid (l.all canB = true) := by
        unfold Hid; rw [List.all_eq_true]; intro x hx
        obtain ⟨j, hj, rfl⟩ := List.getElem_of_mem hx
        rw [← iG_eq hj]; exact HO.out j (by rw [HN.out]; exact hj)
      have FU : Hid (∀ j, j < k → 12 < (ofN l (j + 1)).length → ∀ w w', Below w.heap.size w w' → OfOut l w (.returned (.tuple #[.slice none 0 0, .int .i64 6])) w') := by
        intro j hj hl w w' hb
        have g : ¬ (ofL l).length ≤ 12 := by
          have := ofN_mono l (show j + 1 ≤ l.length by rw [← HN.out]; omega)
          unfold ofL; omega
        have e1 : ofR l = [] := by unfold ofR ofOk; rw [AC.out, decide_eq_false g]; rfl
        have e2 : ofE l = 6 := by unfold ofE; rw [AC.out, decide_eq_false g]; rfl
        unfold OfOut; rw [e1, e2]
        exact ⟨none, 0, rfl, Res.nil _ _, hb⟩
      clear OB HO
      go_wp2
      go_loopw [6, 23] (fun t i wr => ∃ (j : Nat) (pt : Option Addr) (ct : Nat), j ≤ k ∧ i = .int .i64 j ∧ t = .slice pt (ofN l j).length ct ∧ (ofN l j).length ≤ 12 ∧ Res w.heap.size wr pt (ofN l j) ct ∧ Below w.heap.size w wr) (fun _ i _ => k - (intOf i).toNat)
      case atStart => exact ⟨0, none, 0, Nat.zero_le _, rfl, rfl, by simp [ofN], Res.nil _ _, HB.out⟩
      case round =>
        obtain ⟨j, pt, ct, hj, rfl, rfl, h12, hres, hB⟩ := hrel
        have HR := hidOg hres
        have HB' := hidOg hB
        clear hres hB
        by_cases hjl : j < k
        · obtain ⟨b, off, rfl, hbB, hcs⟩ := (HS.out.below HB'.out (Nat.le_refl _)) (by have := HN.out; omega)
          have c0 := hcs j (by have := HN.out; omega)
          clear hcs
          have E1 : Hid (ofN l (j + 1) = insL (ofN l j) (iG l j)) := rfl
          have F6 := hidOg (FU.out j hjl)
          have hss := ofN_ss l j
          obtain ⟨x, hx⟩ : ∃ x, x = iG l j := ⟨_, rfl⟩
          rw [← hx] at c0 E1
          clear hx
          obtain ⟨t, ht⟩ : ∃ t, t = ofN l j := ⟨_, rfl⟩
          rw [← ht] at HR h12 E1 hss ⊢
          clear ht FU
          have HSS := hidOg hss
          have CB := bin_any pt t ct x wr HR.out.row.i hss.ris (by omega)
          by_cases hmem : x ∈ t
          · have e : Hid (ofN l (j + 1) = t) := by unfold Hid; rw [E1.out]; exact insL_old hss hmem
            have F : Hid (∀ i, Pos t x i → fndB t x i = true) := fun i hp => by rw [fnd_iff HSS.out hp, decide_eq_true hmem]
            clear hss hmem
            go_wp2_with (first | (go_at_call 49; refine Calls.mono CB ?_; rintro e w3 ⟨i, rfl, hp, hb3⟩; have f1 := F.out i hp; rw [f1]))
            go_roundw
            case rel => exact ⟨j + 1, pt, ct, by omega, by go_num, by rw [e.out], by rw [e.out]; omega, by rw [e.out]; exact ⟨HR.out.row.to hb3, HR.out.fr⟩, HB'.out.trans (hb3.mono HB'.out.size)⟩
            case measure => simp [intOf]; omega
          · have F : Hid (∀ i, Pos t x i → fndB t x i = false ∧ putL t i [x] = insL t x) := fun i hp => ⟨by rw [fnd_iff HSS.out hp, decide_eq_false hmem], put_new hp hmem⟩
            have E2 : Hid ((ofN l (j + 1)).length = t.length + 1) := by unfold Hid; rw [E1.out]; exact insL_len hmem
            by_cases hl : t.length = 12
            · have hl' : ((t.length : Int) == 12) = true := by simp; omega
              have F6' := hidOg (F6.out (by rw [E2.out]; omega))
              clear hss hmem F6 hl
              go_wp2_with (first | (go_at_call 49; refine Calls.mono CB ?_; rintro e w3 ⟨i, rfl, hp, hb3⟩; have f1 := (F.out i hp).1; rw [f1]))
              go_ret2
              exact F6'.out _ _ (HB'.out.trans (hb3.mono HB'.out.size))
            · have hl' : ((t.length : Int) == 12) = false := by simp; omega
              have CP := fun (i : Nat) (hi : i ≤ t.length) (w1 : World) (hb : Below wr.heap.size wr w1) => put_any pt t ct i (some ⟨w1.heap.size, 0, none⟩) [x] 1 (w1.alloc (.cells #[.int .u64 x] 33)) (HR.out.row.to (hb.alloc hb.size _)) hi (one_row x)
              have hl2 : t.length + 1 ≤ 12 := by omega
              clear hss hmem F6 hl
              go_wp2_with (first | (go_at_call 49; refine Calls.mono CB ?_; rintro e w3 ⟨i, rfl, hp, hb3⟩; obtain ⟨f1, f2⟩ := F.out i hp; have F2 := hidOg f2; clear f2; have CP' := CP i hp.1 w3 hb3; rw [f1]; clear CP) | (go_at_call 50; refine Calls.mono CP' ?_; rintro e w4 ⟨G, rfl, hG, hh, hb4⟩))
              have hB3 : Below w.heap.size w w3 := HB'.out.trans (hb3.mono HB'.out.size)
              have hB4 : Below w.heap.size w (w3.alloc (.cells #[.int .u64 x] 33)) := hB3.alloc hB3.size _
              have hh' := hidOg hh
              clear hh
              go_roundw
              case rel => exact ⟨j + 1, some ⟨G, 0, none⟩, (insL t x).length, by omega, by go_num, by rw [E1.out, F2.out], by rw [E2.out]; exact hl2, by rw [E1.out]; have := hh'.out; rw [F2.out] at this; exact res_own (Nat.le_trans hB4.size hG) this (by rw [← E1.out, E2.out]; omega), hB4.trans (hb4.mono hB4.size)⟩
              case measure => simp [intOf]; omega
        · obtain rfl : j = k := by omega
          have e0 : ofL l = ofN l j := by unfold ofL; rw [HN.out]
          have e1 : Hid (ofR l = ofN l j) := by unfold Hid ofR ofOk; rw [AC.out, decide_eq_true (by rw [e0]; exact h12)]; exact e0
          have e2 : Hid (ofE l = 0) := by unfold Hid ofE; rw [AC.out, decide_eq_true (by rw [e0]; exact h12)]; rfl
          clear e0
          go_wp2
          go_ret2
          refine ⟨pt, ct, by rw [e1.out, e2.out]; rfl, by rw [e1.out]; exact HR.out, HB'.out⟩
end Go.Proofs.Ytooaghcjlomcpaa
