/- RealTells: its walk. -/
import Derived.Test.YtglfhgedaknljaaRf
import Derived.Deep.CutRange
import Derived.Deep.CutBlock
namespace Go.Proofs.Ytglfhgedaknljaa
open Go.RowKit

theorem md_parts {x : Int} (h : W64 x) : maOk (exW x) (maW x) = true ∧ mdW (ngW x) (exW x) (maW x) = x := by
  have h1 := exW_bd x
  have h2 := maW_bd x
  refine ⟨by simp [maOk]; omega, ?_⟩
  by_cases q : 9223372036854775808 ≤ x
  · have e : ngW x = true := by simp [ngW, q]
    rw [e]; unfold mdW exW maW W64 at *; simp; omega
  · have e : ngW x = false := by simp [ngW, q]
    rw [e]; unfold mdW exW maW W64 at *; simp; omega
theorem parts_md {b : Bool} {e m : Int} (h0 : 0 ≤ m) (h : maOk e m = true) : W64 (mdW b e m) ∧ ngW (mdW b e m) = b ∧ exW (mdW b e m) = e ∧ maW (mdW b e m) = m := by
  have h1 : 0 ≤ e ∧ e ≤ 2047 ∧ m < 4503599627370496 := by simp [maOk] at h; omega
  cases b
  · have e1 : mdW false e m = e * 4503599627370496 + m := by simp [mdW]
    rw [e1]
    refine ⟨by unfold W64; omega, by simp [ngW]; omega, by unfold exW; omega, by unfold maW; omega⟩
  · have e1 : mdW true e m = 9223372036854775808 + e * 4503599627370496 + m := by simp [mdW]
    rw [e1]
    refine ⟨by unfold W64; omega, by simp [ngW]; omega, by unfold exW; omega, by unfold maW; omega⟩
theorem parts_z (w : World) : Calls Try.prog 11 #[.int .u64 0] w fun e w' => e = .returned (.tuple #[.bool false, .int .i64 0, .int .u64 0]) ∧ w' = w := by
  have := parts11 0 w w64b
  rw [show ngW 0 = false by decide, show exW 0 = 0 by decide, show maW 0 = 0 by decide] at this
  exact this
theorem parts_g {b : Bool} {e m : Int} (h0 : 0 ≤ m) (h : maOk e m = true) (w : World) : Calls Try.prog 11 #[.int .u64 (mdW b e m)] w fun r w' => r = .returned (.tuple #[.bool b, .int .i64 e, .int .u64 m]) ∧ w' = w := by
  obtain ⟨h1, h2, h3, h4⟩ := parts_md (b := b) h0 h
  have := parts11 (mdW b e m) w h1
  rw [h2, h3, h4] at this
  exact this
/-- What Next tells, and what the document's answer is. -/
theorem next_gen (x : Int) (hx : W64 x) : ∃ nv ne : Int, (∀ w, Calls Try.prog 13 #[.int .u64 x] w fun r w' => r = .returned (.tuple #[.int .u64 nv, .int .i64 ne]) ∧ w' = w) ∧
    ((clW x = 4 ∧ nv = 0 ∧ ne = 2) ∨ ((clW x == 4) = false ∧ (x == 9218868437227405312) = true ∧ nv = 0 ∧ ne = 4) ∨ ((clW x == 4) = false ∧ (x == 9218868437227405312) = false ∧ nv = rnW x ∧ ne = 0)) := by
  have e4 : nuW x = decide (clW x ≠ 4) := rfl
  cases hn : nuW x
  · rw [hn] at e4
    exact ⟨0, 2, fun w => next13_arg x w hx hn, .inl ⟨by simpa using e4.symm, rfl, rfl⟩⟩
  · rw [hn] at e4
    have h4 : (clW x == 4) = false := by simpa using e4.symm
    by_cases hi : x = 9218868437227405312
    · exact ⟨0, 4, fun w => by rw [hi]; exact next13_inf w, .inr (.inl ⟨h4, by simp [hi], rfl, rfl⟩)⟩
    · refine ⟨rnW x, 0, fun w => ?_, .inr (.inr ⟨h4, by simp [hi], rfl, rfl⟩)⟩
      rw [rn_ok hx hn]
      exact next13_ok x w hx hn hi

set_option maxHeartbeats 4000000 in
set_option maxRecDepth 20000 in
theorem tells_walk (pp : Option Addr) (l0 : List Int) (c0 : Nat) (pe : Option Addr) (E : List Int) (ce : Nat) (w : World) (hi : InR w pp l0 c0) (hE : IRow .i64 w.heap.size w pe E) : Calls Try.prog 3 #[.slice pp l0.length c0, .slice pe E.length ce] w fun e w' => e = .returned (.bool true) ∧ Below w.heap.size w w' := by
  have UU : Hid (U64 (l0.take 40) ∧ (l0.take 40).length ≤ 40) := ⟨hi.u.take 40, by simp; omega⟩
  have FW := fun (W : World) (hb : Below w.heap.size w W) => few9 pp l0 c0 W (hi.to hb)
  obtain ⟨l, hl⟩ : ∃ l, l = l0.take 40 := ⟨_, rfl⟩
  rw [← hl] at UU FW
  clear hl hi
  go_enter Try.func3, Try.ntmps3
  go_wp2_with (first | (go_at_call 8; refine Calls.mono (wakes8 _) ?_; rintro e w1 ⟨rfl, hb1⟩) | (go_at_call 9; refine Calls.mono (FW _ hb1) ?_; rintro e w2 ⟨p, c, rfl, hr2, hc2, hb2⟩))
  have hF : Fw w2 p l c := ⟨hr2, hc2, UU.out.1, UU.out.2⟩
  have hB := hidOg (bt hb1 hb2)
  have hl : Hid (l.length ≤ 40) := hF.n
  have hE2 : IRow .i64 w2.heap.size w2 pe E := hE.to hB.out
  clear hr2 hc2 hb1 hb2 UU FW hE
  go_loopw [30] (fun i wr => ∃ k : Nat, k ≤ l.length ∧ i = .int .i64 k ∧ wr = w2) (fun i _ => l.length - (intOf i).toNat)
  case atStart => exact ⟨0, by omega, rfl, rfl⟩
  case round =>
    obtain ⟨k, hk, rfl, hw⟩ := hrel
    rw [hw]
    clear hw wr
    by_cases hlt : k < l.length
    · obtain ⟨b0, off, rfl, hN, hc⟩ := hF.i (by omega)
      have hck := hc k hlt
      have hx := hF.u.at hlt
      have NN := kstep (k := k) (l := l) hlt hl.out
      obtain ⟨x, ex⟩ : ∃ x, x = iG l k := ⟨_, rfl⟩
      rw [← ex] at hck hx
      clear ex hc hN hk
      have HL := hidOg hlt
      have PA := fun (W : World) => parts10 x W hx
      have PB := fun (W : World) => parts11 x W hx
      have MD := fun (W : World) => made12 (ngW x) (exW x) (maW x) W (maW_bd x).1 (md_parts hx).1
      rw [(md_parts hx).2] at MD
      have RN := fun (W : World) => next14 x W hx
      have CA := fun (W : World) => class16 x W hx
      have CB := fun (W : World) => class15 x W hx
      obtain ⟨nv, ne, NX, NC⟩ := next_gen x hx
      have GG := fun (b : Bool) (e : Int) (h : maOk e x = true) (W : World) => parts_g (b := b) (e := e) (m := x) hx.1 h W
      have MO := fun (b : Bool) (e : Int) (h : maOk e x = true) (W : World) => made12 b e x W hx.1 h
      have MN := fun (b : Bool) (e : Int) (h : maOk e x = false) (W : World) => made12_no b e x W h
      have KO : Hid (∀ e, maOk e x = (decide (0 ≤ e) && decide (e ≤ 2047) && decide (x < 4503599627370496))) := fun e => rfl
      obtain ⟨B, hBe⟩ : ∃ B, B = ngW x := ⟨_, rfl⟩
      obtain ⟨X, hXe⟩ : ∃ X, X = exW x := ⟨_, rfl⟩
      obtain ⟨M, hMe⟩ : ∃ M, M = maW x := ⟨_, rfl⟩
      obtain ⟨R, hRe⟩ : ∃ R, R = rnW x := ⟨_, rfl⟩
      obtain ⟨C, hCe⟩ : ∃ C, C = clW x := ⟨_, rfl⟩
      rw [← hBe, ← hXe, ← hMe] at PA PB MD
      rw [← hRe] at RN
      rw [← hCe] at CA CB
      rw [← hCe, ← hRe] at NC
      clear hBe hXe hMe hRe hCe
      have NCH := hidOg NC
      clear NC
      go_upto_block 2 with (first | (go_at_call 10; refine Calls.mono (PA _) ?_; rintro r w1 ⟨rfl, hw⟩; rw [hw]; clear hw w1) | (go_at_call 11; refine Calls.mono (PB _) ?_; rintro r w1 ⟨rfl, hw⟩; rw [hw]; clear hw w1) | (go_at_call 12; refine Calls.mono (MD _) ?_; rintro r w1 ⟨rfl, hw⟩; rw [hw]; clear hw w1) | (go_at_call 13; refine Calls.mono (NX _) ?_; rintro r w1 ⟨rfl, hw⟩; rw [hw]; clear hw w1) | (go_at_call 14; refine Calls.mono (RN _) ?_; rintro r w1 ⟨rfl, hw⟩; rw [hw]; clear hw w1))
      go_cut [17, 18, 30] from 30 to 170 (fun v y i wx => v = .int .u64 nv ∧ y = .int .i64 ne ∧ i = .int .i64 k ∧ wx = w2)
      case first =>
        clear hE2 hck MD NX MO MN GG KO PA PB
        rcases NCH.out with ⟨n1, rfl, rfl⟩ | ⟨n1, n2, rfl, rfl⟩ | ⟨n1, n2, rfl, rfl⟩
        · clear NCH
          go_wp2_with (first | (go_at_call 15; refine Calls.mono (CB _) ?_; rintro r w1 ⟨rfl, hw⟩; rw [hw]; clear hw w1))
          go_meet
          case rel => exact ⟨rfl, rfl, rfl, rfl⟩
        · clear NCH
          go_wp2_with (first | (go_at_call 15; refine Calls.mono (CB _) ?_; rintro r w1 ⟨rfl, hw⟩; rw [hw]; clear hw w1))
          go_meet
          case rel => exact ⟨rfl, rfl, rfl, rfl⟩
        · clear NCH
          go_wp2_with (first | (go_at_call 15; refine Calls.mono (CB _) ?_; rintro r w1 ⟨rfl, hw⟩; rw [hw]; clear hw w1))
          go_meet
          case rel => exact ⟨rfl, rfl, rfl, rfl⟩
      case rest =>
        obtain ⟨rfl, rfl, rfl, hw⟩ := hcut
        rw [hw]
        clear hw wc NCH NX PA MD
        go_upto_if 110 with (first | (go_at_call 15; refine Calls.mono (CB _) ?_; rintro r w1 ⟨rfl, hw⟩; rw [hw]; clear hw w1) | (go_at_call 16; refine Calls.mono (CA _) ?_; rintro r w1 ⟨rfl, hw⟩; rw [hw]; clear hw w1))
        clear CA CB hck
        by_cases hke : k < E.length
        · obtain ⟨b1, off1, rfl, hN1, hc1⟩ := hE2 (by omega)
          have hce := hc1 k hke
          obtain ⟨e, ee⟩ : ∃ e, e = iG E k := ⟨_, rfl⟩
          rw [← ee] at hce
          clear ee hc1 hN1
          cases hma : maOk e x
          · have MM := MN B e hma
            have KN : e < 0 ∨ (0 ≤ e ∧ 2047 < e) ∨ (0 ≤ e ∧ e ≤ 2047 ∧ 4503599627370496 ≤ x) := by
              have := KO.out e; rw [hma] at this; have := this.symm; simp at this; omega
            clear MO MN GG KO hma
            rcases KN with k1 | ⟨k1, k2⟩ | ⟨k1, k2, k3⟩
            · go_wp2_with (first  | (go_at_call 12; refine Calls.mono (MM _) ?_; rintro r w1 ⟨rfl, hw⟩; rw [hw]; clear hw w1) | (go_at_call 11; refine Calls.mono (parts_z _) ?_; rintro r w1 ⟨rfl, hw⟩; rw [hw]; clear hw w1))
              go_roundw
              case rel => exact ⟨k + 1, NN.1, by rw [NN.2.1], trivial⟩
              case measure => rw [NN.2.1]; exact NN.2.2.1
            · go_wp2_with (first  | (go_at_call 12; refine Calls.mono (MM _) ?_; rintro r w1 ⟨rfl, hw⟩; rw [hw]; clear hw w1) | (go_at_call 11; refine Calls.mono (parts_z _) ?_; rintro r w1 ⟨rfl, hw⟩; rw [hw]; clear hw w1))
              go_roundw
              case rel => exact ⟨k + 1, NN.1, by rw [NN.2.1], trivial⟩
              case measure => rw [NN.2.1]; exact NN.2.2.1
            · go_wp2_with (first  | (go_at_call 12; refine Calls.mono (MM _) ?_; rintro r w1 ⟨rfl, hw⟩; rw [hw]; clear hw w1) | (go_at_call 11; refine Calls.mono (parts_z _) ?_; rintro r w1 ⟨rfl, hw⟩; rw [hw]; clear hw w1))
              go_roundw
              case rel => exact ⟨k + 1, NN.1, by rw [NN.2.1], trivial⟩
              case measure => rw [NN.2.1]; exact NN.2.2.1
          · have MM := MO B e hma
            have PG := GG B e hma
            have KN : 0 ≤ e ∧ e ≤ 2047 ∧ x < 4503599627370496 := by
              have := KO.out e; rw [hma] at this; have := this.symm; simp at this; omega
            obtain ⟨k1, k2, k3⟩ := KN
            obtain ⟨G, hG⟩ : ∃ G, G = mdW B e x := ⟨_, rfl⟩
            rw [← hG] at MM PG
            clear MO MN GG KO hma hG
            · go_wp2_with (first  | (go_at_call 12; refine Calls.mono (MM _) ?_; rintro r w1 ⟨rfl, hw⟩; rw [hw]; clear hw w1) | (go_at_call 11; refine Calls.mono (PG _) ?_; rintro r w1 ⟨rfl, hw⟩; rw [hw]; clear hw w1))
              go_roundw
              case rel => exact ⟨k + 1, NN.1, by rw [NN.2.1], trivial⟩
              case measure => rw [NN.2.1]; exact NN.2.2.1
        · clear hE2 MO MN GG KO
          · go_wp2
            go_roundw
            case rel => exact ⟨k + 1, NN.1, by rw [NN.2.1], trivial⟩
            case measure => rw [NN.2.1]; exact NN.2.2.1
    · clear hk hE2
      go_wp2
      go_ret
      exact ⟨rfl, hB.out⟩
end Go.Proofs.Ytglfhgedaknljaa
