/-
  Package ring: isShard, isPlace, arePlaces, Check, Owner.
-/
import Derived.Test.YtjmhemkbfephpaaRgM
import Derived.Test.YtjmhemkbfephpaaRgMem
import Derived.Deep.RegionHeld3
import Derived.StillTailTactics
import Derived.BigQuiet
namespace Go.Proofs.Ytjmhemkbfephpaa.Rng
open Go.RowKit
set_option linter.unusedVariables false
set_option maxRecDepth 100000

theorem isShard_any (n : Int) (w : World) : Calls Try.prog 26 #[.int .i64 n] w fun e w' => e = .returned (.bool (decide (isS n))) ∧ w = w' := by
  by_cases h : 0 ≤ n
  · have hd : decide (0 ≤ n) = true := by simpa using h
    have HE : Hid (decide (isS n) = decide (n < 20)) := Lib.hid (by unfold isS; refine decide_eq_decide.2 ?_; omega)
    clear h
    go_enter Try.func26, Try.ntmps26
    go_wp2
    go_ret
    exact ⟨ret_bool HE.out.symm, rfl⟩
  · have hd : decide (0 ≤ n) = false := by simpa using h
    have HE : Hid (decide (isS n) = false) := Lib.hid (decide_eq_false (fun hh => h hh.1))
    clear h
    go_enter Try.func26, Try.ntmps26
    go_wp2
    go_ret
    exact ⟨ret_bool HE.out.symm, rfl⟩
theorem isPlace_any (n : Int) (w : World) : Calls Try.prog 25 #[.int .i64 n] w fun e w' => e = .returned (.bool (decide (isP n))) ∧ w = w' := by
  by_cases h : 0 ≤ n
  · have hd : decide (0 ≤ n) = true := by simpa using h
    have HE : Hid (decide (isP n) = decide (n < 65536)) := Lib.hid (by unfold isP; refine decide_eq_decide.2 ?_; omega)
    clear h
    go_enter Try.func25, Try.ntmps25
    go_wp2
    go_ret
    exact ⟨ret_bool HE.out.symm, rfl⟩
  · have hd : decide (0 ≤ n) = false := by simpa using h
    have HE : Hid (decide (isP n) = false) := Lib.hid (decide_eq_false (fun hh => h hh.1))
    clear h
    go_enter Try.func25, Try.ntmps25
    go_wp2
    go_ret
    exact ⟨ret_bool HE.out.symm, rfl⟩

theorem allP_drop {P : List Int} {k : Nat} (h : k < P.length) : allP (P.drop k) = (decide (isP (gi P k)) && allP (P.drop (k + 1))) := by
  rw [List.drop_eq_getElem_cons h, gi_get h]; rfl
theorem arePlaces_any (A : Option Addr) (c : Nat) (P : List Int) (w : World) (h : Ints w A c P) :
    Calls Try.prog 27 #[.slice A P.length c] w fun e w' => e = .returned (.bool (allP P)) ∧ w = w' := by
  have HP := Lib.hid h
  have HZ : Hid (allP P = allP (P.drop 0)) := Lib.hid rfl
  obtain ⟨ln, hln⟩ : ∃ ln, P.length = ln := ⟨_, rfl⟩
  have HLN := Lib.hid hln
  have hlen := h.len
  rw [hln] at hlen ⊢
  clear hln h
  go_enter Try.func27, Try.ntmps27
  go_wp2
  go_loopw [7] (fun i wr => ∃ k : Nat, k ≤ ln ∧ i = .int .i64 (k : Int) ∧ Hid (allP P = allP (P.drop k)) ∧ Hid (w = wr)) (fun i _ => ln - (intOf i).toNat)
  case atStart => exact ⟨0, by omega, rfl, HZ, Lib.hid rfl⟩
  case round =>
    obtain ⟨k, hk, rfl, HA, HWr⟩ := hrel
    obtain rfl := HWr.out
    by_cases hlt : k < ln
    · have hin : (k : Int) < (ln : Int) := by omega
      have hiB : (0 : Int) ≤ (k : Int) := by omega
      have hkl : k < P.length := by rw [HLN.out]; exact hlt
      obtain ⟨b, o, rfl, ht⟩ := HP.out.2.2.2 (by omega)
      have e1 := ht.2 k hkl
      clear ht hkl
      have HD := Lib.hid (allP_drop (P := P) (k := k) (by rw [HLN.out]; exact hlt))
      generalize gi P k = x at *
      by_cases q : isP x
      · have q1 : decide (isP x) = true := by simpa using q
        have HA' : Hid (allP P = allP (P.drop (k + 1))) := Lib.hid (by rw [HA.out, HD.out, q1]; rfl)
        have HC : Hid _ := Lib.hid (isPlace_any x w)
        rw [q1] at HC
        clear q
        go_wp2_with fail
        refine HC.out.mono ?_
        rintro e w5 ⟨rfl, hw5⟩
        have HW5 := Lib.hid hw5
        clear hw5
        go_wp2
        go_roundw
        case rel => exact ⟨k + 1, by omega, by go_num, HA', HW5⟩
        case measure => simp [intOf]; omega
      · have q1 : decide (isP x) = false := by simpa using q
        have HA' : Hid (allP P = false) := Lib.hid (by rw [HA.out, HD.out, q1]; rfl)
        have HC : Hid _ := Lib.hid (isPlace_any x w)
        rw [q1] at HC
        clear q
        go_wp2_with fail
        refine HC.out.mono ?_
        rintro e w5 ⟨rfl, hw5⟩
        have HW5 := Lib.hid hw5
        clear hw5
        go_wp2
        go_ret
        exact ⟨ret_bool HA'.out.symm, HW5.out⟩
    · obtain rfl : k = ln := by omega
      have HA' : Hid (allP P = true) := Lib.hid (by rw [HA.out, ← HLN.out, List.drop_length]; rfl)
      go_wp2
      go_ret
      exact ⟨ret_bool HA'.out.symm, rfl⟩

set_option maxHeartbeats 4000000 in
theorem check_any (A : Option Addr) (c : Nat) (F : List Pt) (w : World) (hF : Pts w A c F) :
    Calls Try.prog 17 #[.slice A F.length c] w fun e w' => e = .returned (.int .i64 (checkR F)) ∧ Below w.heap.size w w' := by
  have hlen := hF.len
  by_cases h1 : 60 < F.length
  · have p1 : decide ((60 : Int) < (F.length : Int)) = true := by simp; omega
    have HE : Hid (checkR F = 2) := Lib.hid (by unfold checkR; rw [if_pos h1])
    clear h1 hF
    go_enter Try.func17, Try.ntmps17
    go_wp2
    go_ret
    exact ⟨ret_int HE.out.symm, Below.refl _ _⟩
  · have p1 : decide ((60 : Int) < (F.length : Int)) = false := by simp; omega
    have HE : Hid (checkR F = ptE (befAt F 0) (F.drop 0)) := Lib.hid (by unfold checkR; rw [if_neg h1]; rfl)
    clear h1
    have HF := Lib.hid hF
    clear hF
    obtain ⟨ln, hln⟩ : ∃ ln, F.length = ln := ⟨_, rfl⟩
    have HLN := Lib.hid hln
    rw [hln] at p1 hlen
    rw [hln]
    clear hln
    go_enter Try.func17, Try.ntmps17
    go_wp2
    go_loopw [10] (fun i wr => ∃ k : Nat, k ≤ ln ∧ i = .int .i64 (k : Int) ∧ Hid (checkR F = ptE (befAt F k) (F.drop k)) ∧ Hid (Below w.heap.size w wr)) (fun i _ => ln - (intOf i).toNat)
    case atStart => exact ⟨0, by omega, rfl, HE, Lib.hid (Below.refl _ _)⟩
    case round =>
      obtain ⟨k, hk, rfl, HA, HBr⟩ := hrel
      clear p1
      have HFr := Lib.hid (HF.out.below HBr.out)
      by_cases hlt : k < ln
      · have hin : (k : Int) < (ln : Int) := by omega
        have hiB : (0 : Int) ≤ (k : Int) := by omega
        have HKL : Hid (k < F.length) := Lib.hid (by rw [HLN.out]; exact hlt)
        have HSH := Lib.hid (fun h => HA.out.trans (pte_sh (q := befAt F k) HKL.out h))
        have HAT := Lib.hid (fun h => HA.out.trans (pte_at (q := befAt F k) HKL.out h))
        have HLE := Lib.hid (fun h1 h2 h3 => HA.out.trans (pte_le (q := befAt F k) HKL.out h1 h2 h3))
        have HGO := Lib.hid (fun h1 h2 h3 => HA.out.trans (pte_go (q := befAt F k) HKL.out h1 h2 h3))
        have HIa : Hid (Sb (wr.alloc (fo (gp F k))) wr.heap.size (gp F k)) := Lib.hid (Sb.new wr _)
        have HBa : Hid (Below w.heap.size w (wr.alloc (fo (gp F k)))) := Lib.hid (bel_al HBr.out HBr.out.size _)
        have HCs := Lib.hid (fun (x : Int) => isShard_any x (wr.alloc (fo (gp F k))))
        have HCp := Lib.hid (fun (x : Int) => isPlace_any x (wr.alloc (fo (gp F k))))
        by_cases hk0 : k = 0
        · obtain ⟨b, o, rfl, e1, e2⟩ := HFr.out.pt HKL.out
          have d0 : decide ((0 : Int) < (k : Int)) = false := by simp [hk0]
          have d0' : decide (0 < k) = false := by simp [hk0]
          have HB0 : Hid (befAt F k = -1) := Lib.hid (by rw [hk0]; rfl)
          clear hk0
          generalize gp F k = f at *
          obtain ⟨at0, sh0⟩ := f
          dsimp only at e1 e2 HSH HAT HLE HGO
          obtain ⟨i0, i1⟩ := HIa.out.cells
          dsimp only at i0 i1
          replace HCs := Lib.hid (HCs.out sh0)
          replace HCp := Lib.hid (HCp.out at0)
          obtain ⟨bs, hbs⟩ : ∃ b, decide (isS sh0) = b := ⟨_, rfl⟩
          obtain ⟨bp, hbp⟩ : ∃ b, decide (isP at0) = b := ⟨_, rfl⟩
          have HBS := Lib.hid hbs
          have HBP := Lib.hid hbp
          rw [hbs] at HCs
          rw [hbp] at HCp
          clear hbs hbp
          cases bs with
          | false =>
            have HR : Hid (checkR F = 3) := Lib.hid (HSH.out (of_decide_eq_false HBS.out))
            go_wp2_with (first | (go_at_call 26; refine HCs.out.mono ?_; rintro e w5 ⟨rfl, rfl⟩))
            go_ret
            exact ⟨ret_int HR.out.symm, HBa.out⟩
          | true =>
            cases bp with
            | false =>
              have HR : Hid (checkR F = 3) := Lib.hid (HAT.out (of_decide_eq_false HBP.out))
              go_wp2_with (first | (go_at_call 26; refine HCs.out.mono ?_; rintro e w5 ⟨rfl, rfl⟩) | (go_at_call 25; refine HCp.out.mono ?_; rintro e w5 ⟨rfl, rfl⟩))
              go_ret
              exact ⟨ret_int HR.out.symm, HBa.out⟩
            | true =>
              have HR := Lib.hid (HGO.out (of_decide_eq_true HBS.out) (of_decide_eq_true HBP.out) (by rw [HB0.out]; have := (of_decide_eq_true HBP.out : isP at0); unfold isP at this; omega))
              go_wp2_with (first | (go_at_call 26; refine HCs.out.mono ?_; rintro e w5 ⟨rfl, rfl⟩) | (go_at_call 25; refine HCp.out.mono ?_; rintro e w5 ⟨rfl, rfl⟩))
              go_quiet (fail)
              have HB5 := Lib.hid (bel_drewN HBa.out nq)
              generalize (wr.alloc (fo ⟨at0, sh0⟩)).drewN nq = w5 at *
              go_wp2
              go_roundw
              case rel => exact ⟨k + 1, by omega, by go_num, HR, HB5⟩
              case measure => simp [intOf]; omega
        · obtain ⟨m, hm⟩ : ∃ m, k = m + 1 := ⟨k - 1, by omega⟩
          obtain ⟨b, o, rfl, ⟨e1, e2⟩, e3, e4⟩ := HFr.out.two HKL.out (j := m) (by have := HKL.out; omega)
          have hb0 : b < wr.heap.size := by
            obtain ⟨b', o', e, ht⟩ := HFr.out.2.2.2 (by have := HKL.out; omega)
            cases e; exact ht.1
          have e5 : (wr.alloc (fo (gp F k))).cell? ⟨b, o + m * 2, none⟩ = some (.int .i64 (gp F m).at_) := ((bel_al (Below.refl wr.heap.size wr) (Nat.le_refl _) (fo (gp F k))).cell (p := ⟨b, _, none⟩) hb0).trans e3
          have d0 : decide ((0 : Int) < (k : Int)) = true := by simp; omega
          have d0' : decide (0 < k) = true := by simp; omega
          have hk9 : IntKind.i64.wrap ((k : Int) - 1) = (m : Int) := by rw [IntKind.wrap_i64]; omega
          have l1 : (m : Int) < (ln : Int) := by omega
          have l2 : (0 : Int) ≤ (m : Int) := by omega
          have HB0 : Hid (befAt F k = (gp F m).at_) := Lib.hid (by rw [hm]; rfl)
          clear hk0 hm e3 e4 hb0
          generalize gp F k = f at *
          generalize (gp F m).at_ = pre at *
          obtain ⟨at0, sh0⟩ := f
          dsimp only at e1 e2 HSH HAT HLE HGO
          obtain ⟨i0, i1⟩ := HIa.out.cells
          dsimp only at i0 i1
          replace HCs := Lib.hid (HCs.out sh0)
          replace HCp := Lib.hid (HCp.out at0)
          obtain ⟨bs, hbs⟩ : ∃ b, decide (isS sh0) = b := ⟨_, rfl⟩
          obtain ⟨bp, hbp⟩ : ∃ b, decide (isP at0) = b := ⟨_, rfl⟩
          have HBS := Lib.hid hbs
          have HBP := Lib.hid hbp
          rw [hbs] at HCs
          rw [hbp] at HCp
          clear hbs hbp
          cases bs with
          | false =>
            have HR : Hid (checkR F = 3) := Lib.hid (HSH.out (of_decide_eq_false HBS.out))
            go_wp2_with (first | (go_at_call 26; refine HCs.out.mono ?_; rintro e w5 ⟨rfl, rfl⟩))
            go_ret
            exact ⟨ret_int HR.out.symm, HBa.out⟩
          | true =>
            cases bp with
            | false =>
              have HR : Hid (checkR F = 3) := Lib.hid (HAT.out (of_decide_eq_false HBP.out))
              go_wp2_with (first | (go_at_call 26; refine HCs.out.mono ?_; rintro e w5 ⟨rfl, rfl⟩) | (go_at_call 25; refine HCp.out.mono ?_; rintro e w5 ⟨rfl, rfl⟩))
              go_ret
              exact ⟨ret_int HR.out.symm, HBa.out⟩
            | true =>
              by_cases q3 : at0 ≤ pre
              · have d3 : decide (at0 ≤ pre) = true := by simpa using q3
                have HR : Hid (checkR F = 4) := Lib.hid (HLE.out (of_decide_eq_true HBS.out) (of_decide_eq_true HBP.out) (by rw [HB0.out]; exact q3))
                clear q3
                go_wp2_with (first | (go_at_call 26; refine HCs.out.mono ?_; rintro e w5 ⟨rfl, rfl⟩) | (go_at_call 25; refine HCp.out.mono ?_; rintro e w5 ⟨rfl, rfl⟩))
                go_quiet (fail)
                have HB5 := Lib.hid (bel_drewN HBa.out nq)
                generalize (wr.alloc (fo ⟨at0, sh0⟩)).drewN nq = w5 at *
                go_wp2
                go_ret
                exact ⟨ret_int HR.out.symm, HB5.out⟩
              · have d3 : decide (at0 ≤ pre) = false := by simpa using q3
                have HR := Lib.hid (HGO.out (of_decide_eq_true HBS.out) (of_decide_eq_true HBP.out) (by rw [HB0.out]; exact q3))
                clear q3
                go_wp2_with (first | (go_at_call 26; refine HCs.out.mono ?_; rintro e w5 ⟨rfl, rfl⟩) | (go_at_call 25; refine HCp.out.mono ?_; rintro e w5 ⟨rfl, rfl⟩))
                go_quiet (fail)
                have HB5 := Lib.hid (bel_drewN HBa.out nq)
                generalize (wr.alloc (fo ⟨at0, sh0⟩)).drewN nq = w5 at *
                go_wp2
                go_roundw
                case rel => exact ⟨k + 1, by omega, by go_num, HR, HB5⟩
                case measure => simp [intOf]; omega
      · obtain rfl : k = ln := by omega
        have HR : Hid (checkR F = 0) := Lib.hid (by rw [HA.out, ← HLN.out]; exact pte_end _ F)
        go_wp2
        go_ret
        exact ⟨ret_int HR.out.symm, HBr.out⟩

set_option maxHeartbeats 4000000 in
theorem owner_any (A : Option Addr) (c : Nat) (F : List Pt) (x : Int) (w : World) (hF : Pts w A c F) :
    Calls Try.prog 8 #[.slice A F.length c, .int .i64 x] w fun e w' => e = .returned (.tuple #[.int .i64 (owR F x), .int .i64 (owE F x)]) ∧ Below w.heap.size w w' := by
  have hlen := hF.len
  have HC := Lib.hid (check_any A c F w hF)
  have HP := Lib.hid (fun W => isPlace_any x W)
  have HF := Lib.hid hF
  by_cases h1 : checkR F = 0
  · by_cases h2 : isP x
    · rw [show decide (isP x) = true by simpa using h2] at HP
      by_cases h3 : F.length = 0
      · have hE := owE_none h1 h2 h3
        have HE := Lib.hid hE
        have HR := Lib.hid (owR_bad (L := F) (x := x) (by rw [hE]; decide))
        rw [HE.out, HR.out]
        rw [h1] at HC
        rw [h3] at HC ⊢
        clear h1 h2 h3 hE hF hlen
        go_enter Try.func8, Try.ntmps8
        go_wp2_with fail
        refine HC.out.mono ?_
        rintro e w5 ⟨rfl, hb5⟩
        have HB5 := Lib.hid hb5
        clear hb5
        go_wp2_with fail
        refine (HP.out w5).mono ?_
        rintro e w6 ⟨rfl, rfl⟩
        go_wp2
        go_ret2
        exact ⟨rfl, HB5.out⟩
      · have hE := owE_ok h1 h2 h3
        have HE := Lib.hid hE
        have HR := Lib.hid ((owR_ok hE).trans (ownF_zero F x))
        obtain ⟨ln, hln⟩ : ∃ ln, F.length = ln := ⟨_, rfl⟩
        have HLN := Lib.hid hln
        rw [h1] at HC
        rw [hln] at HC hlen h3 ⊢
        rw [HE.out]
        have d3 : decide ((ln : Int) = 0) = false := by simp; omega
        have d4 : ((ln : Int) == 0) = false := by simp; omega
        have hin0 : (0 : Int) < (ln : Int) := by omega
        clear h1 h2 hE hF hln
        go_enter Try.func8, Try.ntmps8
        go_wp2_with fail
        refine HC.out.mono ?_
        rintro e w5 ⟨rfl, hb5⟩
        have HB5 := Lib.hid hb5
        clear hb5
        go_wp2_with fail
        refine (HP.out w5).mono ?_
        rintro e w6 ⟨rfl, rfl⟩
        go_wp2
        go_loopw [22] (fun i wr => ∃ k : Nat, k ≤ ln ∧ i = .int .i64 (k : Int) ∧ Hid (owR F x = ownF F x k) ∧ Hid (Below w.heap.size w wr)) (fun i _ => ln - (intOf i).toNat)
        case atStart => exact ⟨0, by omega, rfl, HR, HB5⟩
        case round =>
          obtain ⟨k, hk, rfl, HA, HBr⟩ := hrel
          have HFr := Lib.hid (HF.out.below HBr.out)
          by_cases hlt : k < ln
          · have hin : (k : Int) < (ln : Int) := by omega
            have hiB : (0 : Int) ≤ (k : Int) := by omega
            have HKL : Hid (k < F.length) := Lib.hid (by rw [HLN.out]; exact hlt)
            have HHIT := Lib.hid (fun h => HA.out.trans (ownF_hit (x := x) HKL.out h))
            have HGO := Lib.hid (fun h => HA.out.trans (ownF_go (x := x) HKL.out h))
            have HIa : Hid (Sb (wr.alloc (fo (gp F k))) wr.heap.size (gp F k)) := Lib.hid (Sb.new wr _)
            have HBa : Hid (Below w.heap.size w (wr.alloc (fo (gp F k)))) := Lib.hid (bel_al HBr.out HBr.out.size _)
            obtain ⟨b, o, rfl, e1, e2⟩ := HFr.out.pt HKL.out
            generalize gp F k = f at *
            obtain ⟨at0, sh0⟩ := f
            dsimp only at e1 e2 HHIT HGO
            obtain ⟨i0, i1⟩ := HIa.out.cells
            dsimp only at i0 i1
            by_cases q : x ≤ at0
            · have d1 : decide (x ≤ at0) = true := by simpa using q
              have HR2 := Lib.hid (HHIT.out q)
              clear q
              go_wp2
              go_ret2
              exact ⟨by rw [HR2.out]; rfl, HBa.out⟩
            · have d1 : decide (x ≤ at0) = false := by simpa using q
              have HR2 := Lib.hid (HGO.out q)
              clear q
              go_wp2
              go_roundw
              case rel => exact ⟨k + 1, by omega, by go_num, HR2, HBa⟩
              case measure => simp [intOf]; omega
          · obtain rfl : k = ln := by omega
            obtain ⟨b, o, rfl, e1, e2⟩ := HFr.out.pt (k := 0) (by rw [HLN.out]; omega)
            have HR2 : Hid (owR F x = (gp F 0).sh) := Lib.hid (by rw [HA.out, ← HLN.out]; exact ownF_end F x)
            rw [Nat.zero_mul, Nat.add_zero] at e1 e2
            generalize (gp F 0).sh = sh0 at *
            go_wp2
            go_ret2
            exact ⟨by rw [HR2.out]; rfl, HBr.out⟩
    · rw [show decide (isP x) = false by simpa using h2] at HP
      have hE := owE_range h1 h2
      have HE := Lib.hid hE
      have HR := Lib.hid (owR_bad (L := F) (x := x) (by rw [hE]; decide))
      rw [HE.out, HR.out]
      rw [h1] at HC
      clear h1 h2 hE hF
      generalize F.length = ln at *
      go_enter Try.func8, Try.ntmps8
      go_wp2_with fail
      refine HC.out.mono ?_
      rintro e w5 ⟨rfl, hb5⟩
      have HB5 := Lib.hid hb5
      clear hb5
      go_wp2_with fail
      refine (HP.out w5).mono ?_
      rintro e w6 ⟨rfl, rfl⟩
      go_wp2
      go_ret2
      exact ⟨rfl, HB5.out⟩
  · have hE := owE_check (x := x) h1
    have HE := Lib.hid hE
    have HR := Lib.hid (owR_bad (L := F) (x := x) (by rw [hE]; exact h1))
    rw [HE.out, HR.out]
    have hq : (checkR F == 0) = false := by simpa using h1
    have hq2 : decide (checkR F = 0) = false := by simpa using h1
    clear h1 hE hF
    generalize checkR F = qe at *
    generalize F.length = ln at *
    go_enter Try.func8, Try.ntmps8
    go_wp2_with fail
    refine HC.out.mono ?_
    rintro e w5 ⟨rfl, hb5⟩
    have HB5 := Lib.hid hb5
    clear hb5
    go_wp2
    go_ret2
    exact ⟨rfl, HB5.out⟩

end Go.Proofs.Ytjmhemkbfephpaa.Rng
