/-
  The reference of package ring: RingCheck, RingOwner, RingShare.
-/
import Derived.Test.YtjmhemkbfephpaaRgM
import Derived.Test.YtjmhemkbfephpaaRgMem
import Derived.Deep.RegionHeld3
import Derived.StillTailTactics
import Derived.BigQuiet
namespace Go.Proofs.Ytjmhemkbfephpaa.Rng
open Go.RowKit
set_option linter.unusedVariables false
set_option maxRecDepth 100000

set_option maxHeartbeats 4000000 in
theorem refCheck_any (A : Option Addr) (c : Nat) (F : List Pt) (w : World) (hF : Pts w A c F) :
    Calls Try.prog 12 #[.slice A F.length c] w fun e w' => e = .returned (.int .i64 (checkR F)) ∧ Below w.heap.size w w' := by
  have hlen := hF.len
  by_cases h1 : 60 < F.length
  · have p1 : decide ((60 : Int) < (F.length : Int)) = true := by simp; omega
    have HE : Hid (checkR F = 2) := Lib.hid (by unfold checkR; rw [if_pos h1])
    clear h1 hF
    go_enter Try.func12, Try.ntmps12
    go_wp2
    go_ret
    exact ⟨ret_int HE.out.symm, Below.refl _ _⟩
  · have p1 : decide ((60 : Int) < (F.length : Int)) = false := by simp; omega
    have HE : Hid (checkR F = ptE (befAt F 0) (F.drop 0)) := Lib.hid (by unfold checkR; rw [if_neg h1]; rfl)
    clear h1
    have HF := Lib.hid hF
    clear hF
    obtain ⟨ln, hln⟩ : ∃ ln, F.length = ln := ⟨_, rfl⟩
    have HLN := Lib.hid hln
    rw [hln] at p1 hlen
    rw [hln]
    clear hln
    go_enter Try.func12, Try.ntmps12
    go_wp2
    go_loopw [3] (fun i wr => ∃ k : Nat, k ≤ ln ∧ i = .int .i64 (k : Int) ∧ Hid (checkR F = ptE (befAt F k) (F.drop k)) ∧ Hid (Below w.heap.size w wr)) (fun i _ => ln - (intOf i).toNat)
    case atStart => exact ⟨0, by omega, rfl, HE, Lib.hid (Below.refl _ _)⟩
    case round =>
      obtain ⟨k, hk, rfl, HA, HBr⟩ := hrel
      clear p1
      have HFr := Lib.hid (HF.out.below HBr.out)
      by_cases hlt : k < ln
      · have hin : (k : Int) < (ln : Int) := by omega
        have hiB : (0 : Int) ≤ (k : Int) := by omega
        have HKL : Hid (k < F.length) := Lib.hid (by rw [HLN.out]; exact hlt)
        have HSH := Lib.hid (fun h => HA.out.trans (pte_sh (q := befAt F k) HKL.out h))
        have HAT := Lib.hid (fun h => HA.out.trans (pte_at (q := befAt F k) HKL.out h))
        have HLE := Lib.hid (fun h1 h2 h3 => HA.out.trans (pte_le (q := befAt F k) HKL.out h1 h2 h3))
        have HGO := Lib.hid (fun h1 h2 h3 => HA.out.trans (pte_go (q := befAt F k) HKL.out h1 h2 h3))
        have HCs := Lib.hid (fun (x : Int) => between_any x 0 19 wr)
        have HCp := Lib.hid (fun (x : Int) => between_any x 0 65535 wr)
        by_cases hk0 : k = 0
        · obtain ⟨b, o, rfl, e1, e2⟩ := HFr.out.pt HKL.out
          have d0 : decide ((0 : Int) < (k : Int)) = false := by simp [hk0]
          have d0' : decide (0 < k) = false := by simp [hk0]
          have HB0 : Hid (befAt F k = -1) := Lib.hid (by rw [hk0]; rfl)
          clear hk0
          generalize gp F k = f at *
          obtain ⟨at0, sh0⟩ := f
          dsimp only at e1 e2 HSH HAT HLE HGO
          replace HCs := Lib.hid (HCs.out sh0)
          replace HCp := Lib.hid (HCp.out at0)
          obtain ⟨bs, hbs⟩ : ∃ b, decide (0 ≤ sh0 ∧ sh0 ≤ 19) = b := ⟨_, rfl⟩
          obtain ⟨bp, hbp⟩ : ∃ b, decide (0 ≤ at0 ∧ at0 ≤ 65535) = b := ⟨_, rfl⟩
          have HBS := Lib.hid hbs
          have HBP := Lib.hid hbp
          rw [hbs] at HCs
          rw [hbp] at HCp
          clear hbs hbp
          cases bs with
          | false =>
            have HR : Hid (checkR F = 3) := Lib.hid (HSH.out (of_decide_eq_false HBS.out))
            go_wp2_with (go_at_call 33; refine HCs.out.mono ?_; rintro e w5 ⟨rfl, rfl⟩)
            go_ret
            exact ⟨ret_int HR.out.symm, HBr.out⟩
          | true =>
            cases bp with
            | false =>
              have HR : Hid (checkR F = 3) := Lib.hid (HAT.out (of_decide_eq_false HBP.out))
              go_wp2_with (first | (go_at_call 33; with_reducible refine HCs.out.mono ?_; rintro e w5 ⟨rfl, rfl⟩) | (go_at_call 33; with_reducible refine HCp.out.mono ?_; rintro e w5 ⟨rfl, rfl⟩))
              go_ret
              exact ⟨ret_int HR.out.symm, HBr.out⟩
            | true =>
              have HR := Lib.hid (HGO.out (of_decide_eq_true HBS.out) (of_decide_eq_true HBP.out) (by rw [HB0.out]; have := (of_decide_eq_true HBP.out : isP at0); unfold isP at this; omega))
              go_wp2_with (first | (go_at_call 33; with_reducible refine HCs.out.mono ?_; rintro e w5 ⟨rfl, rfl⟩) | (go_at_call 33; with_reducible refine HCp.out.mono ?_; rintro e w5 ⟨rfl, rfl⟩))
              go_quiet (fail)
              have HB5 := Lib.hid (bel_drewN HBr.out nq)
              generalize wr.drewN nq = w5 at *
              go_wp2
              go_roundw
              case rel => exact ⟨k + 1, by omega, by go_num, HR, HB5⟩
              case measure => simp [intOf]; omega
        · obtain ⟨m, hm⟩ : ∃ m, k = m + 1 := ⟨k - 1, by omega⟩
          obtain ⟨b, o, rfl, ⟨e1, e2⟩, e3, e4⟩ := HFr.out.two HKL.out (j := m) (by have := HKL.out; omega)
          have d0 : decide ((0 : Int) < (k : Int)) = true := by simp; omega
          have d0' : decide (0 < k) = true := by simp; omega
          have hk9 : IntKind.i64.wrap ((k : Int) - 1) = (m : Int) := by rw [IntKind.wrap_i64]; omega
          have l1 : (m : Int) < (ln : Int) := by omega
          have l2 : (0 : Int) ≤ (m : Int) := by omega
          have HB0 : Hid (befAt F k = (gp F m).at_) := Lib.hid (by rw [hm]; rfl)
          clear hk0 hm e4
          generalize gp F k = f at *
          generalize (gp F m).at_ = pre at *
          obtain ⟨at0, sh0⟩ := f
          dsimp only at e1 e2 HSH HAT HLE HGO
          replace HCs := Lib.hid (HCs.out sh0)
          replace HCp := Lib.hid (HCp.out at0)
          obtain ⟨bs, hbs⟩ : ∃ b, decide (0 ≤ sh0 ∧ sh0 ≤ 19) = b := ⟨_, rfl⟩
          obtain ⟨bp, hbp⟩ : ∃ b, decide (0 ≤ at0 ∧ at0 ≤ 65535) = b := ⟨_, rfl⟩
          have HBS := Lib.hid hbs
          have HBP := Lib.hid hbp
          rw [hbs] at HCs
          rw [hbp] at HCp
          clear hbs hbp
          cases bs with
          | false =>
            have HR : Hid (checkR F = 3) := Lib.hid (HSH.out (of_decide_eq_false HBS.out))
            go_wp2_with (go_at_call 33; refine HCs.out.mono ?_; rintro e w5 ⟨rfl, rfl⟩)
            go_ret
            exact ⟨ret_int HR.out.symm, HBr.out⟩
          | true =>
            cases bp with
            | false =>
              have HR : Hid (checkR F = 3) := Lib.hid (HAT.out (of_decide_eq_false HBP.out))
              go_wp2_with (first | (go_at_call 33; with_reducible refine HCs.out.mono ?_; rintro e w5 ⟨rfl, rfl⟩) | (go_at_call 33; with_reducible refine HCp.out.mono ?_; rintro e w5 ⟨rfl, rfl⟩))
              go_ret
              exact ⟨ret_int HR.out.symm, HBr.out⟩
            | true =>
              by_cases q3 : at0 ≤ pre
              · have d3 : decide (at0 ≤ pre) = true := by simpa using q3
                have HR : Hid (checkR F = 4) := Lib.hid (HLE.out (of_decide_eq_true HBS.out) (of_decide_eq_true HBP.out) (by rw [HB0.out]; exact q3))
                clear q3
                go_wp2_with (first | (go_at_call 33; with_reducible refine HCs.out.mono ?_; rintro e w5 ⟨rfl, rfl⟩) | (go_at_call 33; with_reducible refine HCp.out.mono ?_; rintro e w5 ⟨rfl, rfl⟩))
                go_quiet (fail)
                have HB5 := Lib.hid (bel_drewN HBr.out nq)
                generalize wr.drewN nq = w5 at *
                go_wp2
                go_ret
                exact ⟨ret_int HR.out.symm, HB5.out⟩
              · have d3 : decide (at0 ≤ pre) = false := by simpa using q3
                have HR := Lib.hid (HGO.out (of_decide_eq_true HBS.out) (of_decide_eq_true HBP.out) (by rw [HB0.out]; exact q3))
                clear q3
                go_wp2_with (first | (go_at_call 33; with_reducible refine HCs.out.mono ?_; rintro e w5 ⟨rfl, rfl⟩) | (go_at_call 33; with_reducible refine HCp.out.mono ?_; rintro e w5 ⟨rfl, rfl⟩))
                go_quiet (fail)
                have HB5 := Lib.hid (bel_drewN HBr.out nq)
                generalize wr.drewN nq = w5 at *
                go_wp2
                go_roundw
                case rel => exact ⟨k + 1, by omega, by go_num, HR, HB5⟩
                case measure => simp [intOf]; omega
      · obtain rfl : k = ln := by omega
        have HR : Hid (checkR F = 0) := Lib.hid (by rw [HA.out, ← HLN.out]; exact pte_end _ F)
        go_wp2
        go_ret
        exact ⟨ret_int HR.out.symm, HBr.out⟩

theorem refOwner_any (A : Option Addr) (c : Nat) (F : List Pt) (x : Int) (w : World) (hF : Pts w A c F) (h0 : 0 < F.length) :
    Calls Try.prog 13 #[.slice A F.length c, .int .i64 x] w fun e w' => e = .returned (.int .i64 (own F x)) ∧ w = w' := by
  have hlen := hF.len
  have HF := Lib.hid hF
  have HR : Hid (own F x = ownF F x 0) := Lib.hid (ownF_zero F x)
  obtain ⟨ln, hln⟩ : ∃ ln, F.length = ln := ⟨_, rfl⟩
  have HLN := Lib.hid hln
  rw [hln] at hlen h0 ⊢
  have hin0 : (0 : Int) < (ln : Int) := by omega
  clear hF hln
  go_enter Try.func13, Try.ntmps13
  go_wp2
  go_loopw [5] (fun i wr => ∃ k : Nat, k ≤ ln ∧ i = .int .i64 (k : Int) ∧ Hid (own F x = ownF F x k) ∧ Hid (w = wr)) (fun i _ => ln - (intOf i).toNat)
  case atStart => exact ⟨0, by omega, rfl, HR, Lib.hid rfl⟩
  case round =>
    obtain ⟨k, hk, rfl, HA, HWr⟩ := hrel
    obtain rfl := HWr.out
    by_cases hlt : k < ln
    · have hin : (k : Int) < (ln : Int) := by omega
      have hiB : (0 : Int) ≤ (k : Int) := by omega
      have HKL : Hid (k < F.length) := Lib.hid (by rw [HLN.out]; exact hlt)
      have HHIT := Lib.hid (fun h => HA.out.trans (ownF_hit (x := x) HKL.out h))
      have HGO := Lib.hid (fun h => HA.out.trans (ownF_go (x := x) HKL.out h))
      obtain ⟨b, o, rfl, e1, e2⟩ := HF.out.pt HKL.out
      generalize gp F k = f at *
      obtain ⟨at0, sh0⟩ := f
      dsimp only at e1 e2 HHIT HGO
      by_cases q : x ≤ at0
      · have d1 : decide (x ≤ at0) = true := by simpa using q
        have HR2 := Lib.hid (HHIT.out q)
        clear q
        go_wp2
        go_ret
        exact ⟨ret_int HR2.out.symm, rfl⟩
      · have d1 : decide (x ≤ at0) = false := by simpa using q
        have HR2 := Lib.hid (HGO.out q)
        clear q
        go_wp2
        go_roundw
        case rel => exact ⟨k + 1, by omega, by go_num, HR2, by first | exact Lib.hid rfl | exact Lib.hid trivial⟩
        case measure => simp [intOf]; omega
    · obtain rfl : k = ln := by omega
      obtain ⟨b, o, rfl, e1, e2⟩ := HF.out.pt (k := 0) (by rw [HLN.out]; omega)
      have HR2 : Hid (own F x = (gp F 0).sh) := Lib.hid (by rw [HA.out, ← HLN.out]; exact ownF_end F x)
      rw [Nat.zero_mul, Nat.add_zero] at e1 e2
      generalize (gp F 0).sh = sh0 at *
      go_wp2
      go_ret
      exact ⟨ret_int HR2.out.symm, rfl⟩

set_option maxHeartbeats 4000000 in
theorem refShare_any (A : Option Addr) (c : Nat) (F : List Pt) (s : Int) (w : World) (hF : Pts w A c F) (hG : Good F) (h0 : F.length ≠ 0) :
    Calls Try.prog 15 #[.slice A F.length c, .int .i64 s] w fun e w' => e = .returned (.int .i64 ((share F s : Nat) : Int)) ∧ Below w.heap.size w w' := by
  have hlen := hF.len
  have HF := Lib.hid hF
  have HE : Hid ((share F s : Int) = strS F s F.length) := Lib.hid (share_strS hG h0 s)
  have hfew : F.length ≤ 60 := hG.few
  have HBD := Lib.hid (fun k hk => strS_bd hG s k hk)
  have HPB := Lib.hid (fun k hk => preAt_bd hG (k := k) hk (by omega))
  have HOK : Hid (∀ k, k < F.length → 0 ≤ (gp F k).at_ ∧ (gp F k).at_ ≤ 65535) := Lib.hid (fun k hk => (hG.ok _ (gp_mem hk)).2)
  obtain ⟨ln, hln⟩ : ∃ ln, F.length = ln := ⟨_, rfl⟩
  have HLN := Lib.hid hln
  rw [hln] at hlen h0 hfew HE HBD HPB HOK ⊢
  have hin0 : (0 : Int) < (ln : Int) := by omega
  clear hF hln hG
  go_enter Try.func15, Try.ntmps15
  go_wp2
  go_loopw [5, 6] (fun n i wr => ∃ k : Nat, k ≤ ln ∧ n = .int .i64 (strS F s k) ∧ i = .int .i64 (k : Int) ∧ Hid (Below w.heap.size w wr)) (fun _ i _ => ln - (intOf i).toNat)
  case atStart => exact ⟨0, by omega, rfl, rfl, Lib.hid (Below.refl _ _)⟩
  case round =>
    obtain ⟨k, hk, rfl, rfl, HBr⟩ := hrel
    have HFr := Lib.hid (HF.out.below HBr.out)
    by_cases hlt : k < ln
    · have hin : (k : Int) < (ln : Int) := by omega
      have hiB : (0 : Int) ≤ (k : Int) := by omega
      have HKL : Hid (k < F.length) := Lib.hid (by rw [HLN.out]; exact hlt)
      obtain ⟨b1, b2⟩ := HBD.out k (by omega)
      obtain ⟨b3, b4⟩ := HBD.out (k + 1) (by omega)
      obtain ⟨b5, b6⟩ := HPB.out k (by omega)
      obtain ⟨b7, b8⟩ := HOK.out k hlt
      have HST : Hid (strS F s (k + 1) = strS F s k + (if (gp F k).sh = s then (gp F k).at_ - preAt F k else 0)) := Lib.hid rfl
      by_cases hk0 : k = 0
      · obtain ⟨b, o, rfl, ⟨e1, e2⟩, e3, e4⟩ := HFr.out.two HKL.out (j := ln - 1) (by rw [HLN.out]; omega)
        have HP : Hid (preAt F k = (gp F (ln - 1)).at_ - 65536) := Lib.hid (by rw [hk0, preAt_zero, HLN.out])
        obtain ⟨b9, b10⟩ := HOK.out (ln - 1) (by omega)
        subst hk0
        rw [Nat.zero_mul, Nat.add_zero] at e1 e2
        have hk9 : IntKind.i64.wrap ((ln : Int) - 1) = ((ln - 1 : Nat) : Int) := by rw [IntKind.wrap_i64]; omega
        have l1 : ((ln - 1 : Nat) : Int) < (ln : Int) := by omega
        have l2 : (0 : Int) ≤ ((ln - 1 : Nat) : Int) := by omega
        generalize ln - 1 = m at *
        generalize gp F 0 = f at *
        generalize (gp F m).at_ = pre at *
        obtain ⟨at0, sh0⟩ := f
        dsimp only at e1 e2 HST b7 b8
        by_cases q : sh0 = s
        · have t1 : decide (sh0 = s) = true := by simpa using q
          have t2 : (sh0 == s) = true := by simpa using q
          have t3 : (sh0 != s) = false := by simpa using q
          have HR : Hid (strS F s (0 + 1) = strS F s 0 + (at0 + 1 + 65535 - pre)) := Lib.hid (by rw [HST.out, if_pos q, HP.out]; omega)
          have w1 : IntKind.i64.wrap (at0 + 1) = at0 + 1 := by rw [IntKind.wrap_i64]; omega
          have w2 : IntKind.i64.wrap (at0 + 1 + 65535) = at0 + 1 + 65535 := by rw [IntKind.wrap_i64]; omega
          have w3 : IntKind.i64.wrap (at0 + 1 + 65535 - pre) = at0 + 1 + 65535 - pre := by rw [IntKind.wrap_i64]; omega
          have w4 : IntKind.i64.wrap (strS F s 0 + (at0 + 1 + 65535 - pre)) = strS F s (0 + 1) := by rw [HR.out, IntKind.wrap_i64]; omega
          clear b1 b2 b3 b4 b5 b6 b7 b8 b9 b10 HR HST HP q
          obtain ⟨y1, hy1⟩ : ∃ y, strS F s (0 + 1) = y := ⟨_, rfl⟩
          have HY := Lib.hid hy1
          rw [hy1] at w4
          clear hy1
          generalize strS F s 0 = y0 at *
          go_wp2_with fail
          go_quiet (fail)
          have HB5 := Lib.hid (bel_drewN HBr.out nq)
          generalize wr.drewN nq = w5 at *
          go_wp2
          go_roundw
          case rel => exact ⟨0 + 1, by omega, by rw [HY.out], by go_num, HB5⟩
          case measure => simp [intOf]; omega
        · have t1 : decide (sh0 = s) = false := by simpa using q
          have t2 : (sh0 == s) = false := by simpa using q
          have t3 : (sh0 != s) = true := by simpa using q
          have HR : Hid (strS F s (0 + 1) = strS F s 0) := Lib.hid (by rw [HST.out, if_neg q]; omega)
          clear b1 b2 b3 b4 b5 b6 b7 b8 b9 b10 HST HP q
          go_wp2
          go_roundw
          case rel => exact ⟨0 + 1, by omega, by rw [HR.out], by go_num, HBr⟩
          case measure => simp [intOf]; omega
      · obtain ⟨m, hm⟩ : ∃ m, k = m + 1 := ⟨k - 1, by omega⟩
        obtain ⟨b, o, rfl, ⟨e1, e2⟩, e3, e4⟩ := HFr.out.two HKL.out (j := m) (by have := HKL.out; omega)
        have HP : Hid (preAt F k = (gp F m).at_) := Lib.hid (by rw [hm, preAt_succ])
        have dz1 : decide ((k : Int) = 0) = false := by simp; omega
        have dz2 : ((k : Int) == 0) = false := by rw [beq_eq_false_iff_ne]; omega
        have dz3 : ((k : Int) != 0) = true := by rw [bne_iff_ne]; omega
        have hk9 : IntKind.i64.wrap ((k : Int) - 1) = (m : Int) := by rw [IntKind.wrap_i64]; omega
        have l1 : (m : Int) < (ln : Int) := by omega
        have l2 : (0 : Int) ≤ (m : Int) := by omega
        rw [HP.out] at b5 b6
        clear hk0 hm e4
        generalize gp F k = f at *
        generalize (gp F m).at_ = pre at *
        obtain ⟨at0, sh0⟩ := f
        dsimp only at e1 e2 HST b7 b8
        by_cases q : sh0 = s
        · have t1 : decide (sh0 = s) = true := by simpa using q
          have t2 : (sh0 == s) = true := by simpa using q
          have t3 : (sh0 != s) = false := by simpa using q
          have HR : Hid (strS F s (k + 1) = strS F s k + (at0 - pre)) := Lib.hid (by rw [HST.out, if_pos q, HP.out])
          have w3 : IntKind.i64.wrap (at0 - pre) = at0 - pre := by rw [IntKind.wrap_i64]; omega
          have w4 : IntKind.i64.wrap (strS F s k + (at0 - pre)) = strS F s (k + 1) := by rw [HR.out, IntKind.wrap_i64]; omega
          clear b1 b2 b3 b4 b5 b6 b7 b8 HR HST HP q
          obtain ⟨y1, hy1⟩ : ∃ y, strS F s (k + 1) = y := ⟨_, rfl⟩
          have HY := Lib.hid hy1
          rw [hy1] at w4
          clear hy1
          generalize strS F s k = y0 at *
          go_wp2_with fail
          go_quiet (fail)
          have HB5 := Lib.hid (bel_drewN HBr.out nq)
          generalize wr.drewN nq = w5 at *
          go_wp2
          go_roundw
          case rel => exact ⟨k + 1, by omega, by rw [HY.out], by go_num, HB5⟩
          case measure => simp [intOf]; omega
        · have t1 : decide (sh0 = s) = false := by simpa using q
          have t2 : (sh0 == s) = false := by simpa using q
          have t3 : (sh0 != s) = true := by simpa using q
          have HR : Hid (strS F s (k + 1) = strS F s k) := Lib.hid (by rw [HST.out, if_neg q]; omega)
          clear b1 b2 b3 b4 b5 b6 b7 b8 HST HP q
          go_wp2
          go_roundw
          case rel => exact ⟨k + 1, by omega, by rw [HR.out], by go_num, HBr⟩
          case measure => simp [intOf]; omega
    · obtain rfl : k = ln := by omega
      have HR := Lib.hid HE.out
      go_wp2
      go_ret
      exact ⟨ret_int HR.out.symm, HBr.out⟩

end Go.Proofs.Ytjmhemkbfephpaa.Rng
