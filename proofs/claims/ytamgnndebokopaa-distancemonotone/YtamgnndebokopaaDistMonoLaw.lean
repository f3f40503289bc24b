/-
  The walk of the law on more room and greater percentages.
-/
import Derived.Test.YtamgnndebokopaaDistBegun
namespace Go.Proofs.Ytamgnndebokopaa.Dst
open Go.RowKit
open Lru (isRm isK traceE trace_zero)
open Two
set_option linter.unusedVariables false
set_option maxRecDepth 100000

set_option maxHeartbeats 16000000 in
theorem distanceMonotone_walk (A : Option Addr) (c : Nat) (xs : List Int) (p q : Int) (w : World) (hI : Ints w A c xs) :
    Calls Try.prog 5 #[.slice A xs.length c, .int .i64 p, .int .i64 q] w fun e w' => e = .returned (.bool true) ∧ Below w.heap.size w w' := by
  have HI := Lib.hid hI
  have HH := Lib.hid (fun (W : World) (h : Ints W A c xs) => (Hits_any A c xs W h).mono (fun _ _ k => k.re))
  have HM := Lib.hid (fun (W : World) (h : Ints W A c xs) => (Misses_any A c xs W h).mono (fun _ _ k => k.re))
  have HP := Lib.hid (fun (W : World) (h : Ints W A c xs) => Room_any A c xs p W h)
  have HQ := Lib.hid (fun (W : World) (h : Ints W A c xs) => Room_any A c xs q W h)
  unfold RE at HH HM
  clear hI
  by_cases h0 : traceE xs = 0
  · have HD : Hid (hsL xs = Dst.hI xs ∧ msL xs = Dst.mI xs) := Lib.hid ⟨by unfold hsL; rw [if_pos h0], by unfold msL; rw [if_pos h0]⟩
    have hl200 := (trace_zero.1 h0).1
    have HFp := Lib.hid (fun (h : rmE xs p = 0) => room_ok h)
    have HFm := Lib.hid (fun (h : rmE xs p = 0) (h' : rmE xs q = 0) (k : p ≤ q) => room_mono h h' k)
    rw [h0, HD.out.1, hI_len] at HH
    rw [h0, HD.out.2, mI_len] at HM
    obtain ⟨n, hn⟩ : ∃ n, xs.length = n := ⟨_, rfl⟩
    have HN := Lib.hid hn
    rw [hn] at HH HM HP HQ HFp hl200 ⊢
    clear h0 hn HD
    generalize rmV xs p = vp at *
    generalize rmV xs q = vq at *
    generalize rmE xs p = ep at *
    generalize rmE xs q = eq at *
    go_enter Try.func5, Try.ntmps5
    go_wp2_with fail
    refine (HH.out w HI.out).mono ?_
    rintro e w1 ⟨A1, c1, rfl, hI1, hb1⟩
    have HB1 := Lib.hid hb1
    have HJ1 := Lib.hid hI1
    clear hb1 hI1
    go_wp2_with fail
    refine (HM.out w1 (HI.out.below HB1.out)).mono ?_
    rintro e w2 ⟨A2, c2, rfl, hI2, hb2⟩
    have HB2 : Hid (Below w.heap.size w w2) := Lib.hid (HB1.out.trans (hb2.mono HB1.out.size))
    have HJ2 := Lib.hid (HJ1.out.below hb2)
    have HK2 := Lib.hid hI2
    clear hb2 hI2
    go_wp2_with fail
    refine (HP.out w2 (HI.out.below HB2.out)).mono ?_
    rintro e w3 ⟨rfl, hb3⟩
    have HB3 : Hid (Below w.heap.size w w3) := Lib.hid (HB2.out.trans (hb3.mono HB2.out.size))
    have HJ3 := Lib.hid (HJ2.out.below hb3)
    have HK3 := Lib.hid (HK2.out.below hb3)
    clear hb3
    go_wp2_with fail
    refine (HQ.out w3 (HI.out.below HB3.out)).mono ?_
    rintro e w4 ⟨rfl, hb4⟩
    have HB4 : Hid (Below w.heap.size w w4) := Lib.hid (HB3.out.trans (hb4.mono HB3.out.size))
    have HJ4 := Lib.hid (HJ3.out.below hb4)
    have HK4 := Lib.hid (HK3.out.below hb4)
    clear hb4
    go_wp2_with fail
    refine (begun_any _).mono ?_
    rintro e w5 ⟨rfl, hb5⟩
    have HB5 : Hid (Below w.heap.size w w5) := Lib.hid (HB4.out.trans (hb5.mono HB4.out.size))
    obtain ⟨b1, o1, rfl, ht1⟩ := (HJ4.out.below hb5).2.2.2 (by rw [hI_len]; omega)
    obtain ⟨b2, o2, rfl, ht2⟩ := (HK4.out.below hb5).2.2.2 (by rw [mI_len]; omega)
    have HT1 := Lib.hid ht1
    have HT2 := Lib.hid ht2
    clear hb5 ht1 ht2 HJ1 HJ2 HJ3 HJ4 HK2 HK3 HK4 HB1 HB2 HB3 HB4 HH HM HP HQ
    go_wp2
    go_loopw [15] (fun s15 wr => ∃ k : Nat, 1 ≤ k ∧ k ≤ 40 ∧ s15 = .int .i64 (k : Int) ∧ Below w5.heap.size w5 wr) (fun s15 _ => 40 - (intOf s15).toNat)
    case atStart => exact ⟨1, by omega, by omega, rfl, Below.refl _ _⟩
    case round =>
      obtain ⟨k, hk1, hk, rfl, hb⟩ := hrel
      have HB6 : Hid (Below w.heap.size w wr) := Lib.hid (HB5.out.trans (hb.mono HB5.out.size))
      have HA1 : Hid (IntsAt wr b1 o1 (Dst.hI xs)) := Lib.hid (HT1.out.below HT1.out.1 hb)
      have HA2 : Hid (IntsAt wr b2 o2 (Dst.mI xs)) := Lib.hid (HT2.out.below HT2.out.1 hb)
      have HBn := Lib.hid (fun m => bel_drewN hb m)
      clear hb
      by_cases hlt : k < 40
      · obtain ⟨m, rfl⟩ : ∃ m, k = m + 1 := ⟨k - 1, by omega⟩
        have c1 := HA1.out.2 (m + 1) (by rw [hI_len]; exact hlt)
        have c2 := HA1.out.2 m (by rw [hI_len]; omega)
        have c3 := HA2.out.2 (m + 1) (by rw [mI_len]; exact hlt)
        have c4 := HA2.out.2 m (by rw [mI_len]; omega)
        rw [mI_get hlt, HN.out] at c3
        rw [mI_get (by omega), HN.out] at c4
        have l1 := hI_mono (l := xs) (i := m) (j := m + 1) (by omega) hlt
        have l2 := hI_le (l := xs) hlt
        have l3 := hI_le (l := xs) (j := m) (by omega)
        rw [HN.out] at l2 l3
        generalize gi (Dst.hI xs) (m + 1) = x at *
        generalize gi (Dst.hI xs) m = y at *
        have d1 : decide (x < y) = false := by simp; omega
        have d2 : decide ((n : Int) - y < (n : Int) - x) = false := by simp; omega
        have wr2 : IntKind.i64.wrap (x + ((n : Int) - x)) = (n : Int) := by rw [IntKind.wrap_i64]; omega
        have d3 : ((n : Int) != (n : Int)) = false := by simp
        have wr1 : IntKind.i64.wrap (((m + 1 : Nat) : Int) - 1) = (m : Int) := by rw [IntKind.wrap_i64]; omega
        have i1 : ((m + 1 : Nat) : Int) < 40 := by omega
        have i2 : (0 : Int) ≤ ((m + 1 : Nat) : Int) := by omega
        have i3 : (m : Int) < 40 := by omega
        have i4 : (0 : Int) ≤ (m : Int) := by omega
        obtain ⟨z, hz⟩ : ∃ z, z = (n : Int) - x := ⟨_, rfl⟩
        obtain ⟨u, hu⟩ : ∃ u, u = (n : Int) - y := ⟨_, rfl⟩
        rw [← hz] at c3 d2 wr2
        rw [← hu] at c4 d2
        clear hz hu l1 l2 l3
        generalize hmi : m + 1 = mi at *
        go_wp2
        go_quiet (fail)
        go_wp2
        go_roundw
        case rel => exact ⟨mi + 1, by omega, by omega, by go_num, HBn.out _⟩
        case measure => simp [intOf]; omega
      · obtain rfl : k = 40 := by omega
        clear hlt HBn HT1 HT2 HA2
        by_cases q1 : ep = 0
        · obtain ⟨-, ⟨a1, a2⟩, a3, a4, a5, a6⟩ := HFp.out q1
          have d1 : (ep == 0) = true := by simpa using q1
          have d1n : (ep != 0) = false := by simp [q1]
          have HFm2 := Lib.hid (HFm.out q1)
          obtain ⟨m, rfl⟩ : ∃ m, vp = m + 1 := ⟨vp - 1, by omega⟩
          have k1 : 0 ≤ p * (n : Int) := Int.mul_nonneg a1 (by omega)
          have k2 : p * (n : Int) ≤ 20000 := by
            have := Int.mul_le_mul_of_nonneg_right (c := (n : Int)) a2 (by omega)
            omega
          obtain ⟨pr, hpr⟩ : ∃ pr, p * (n : Int) = pr := ⟨_, rfl⟩
          have wr1 : IntKind.i64.wrap (p * (n : Int)) = pr := by rw [IntKind.wrap_i64]; omega
          rw [hpr] at a5 a6
          have c1 := HA1.out.2 m (by rw [hI_len]; omega)
          have l1 := hI_le (l := xs) (j := m) (by omega)
          rw [HN.out] at l1
          rw [show m + 1 - 1 = m by omega] at a5
          have wr2 : IntKind.i64.wrap (100 * gi (Dst.hI xs) m) = 100 * gi (Dst.hI xs) m := by rw [IntKind.wrap_i64]; omega
          have d2 : decide (100 * gi (Dst.hI xs) m < pr) = false := by simp; omega
          have wr3 : IntKind.i64.wrap (((m + 1 : Nat) : Int) - 1) = (m : Int) := by rw [IntKind.wrap_i64]; omega
          have i1 : (m : Int) < 40 := by omega
          have i2 : (0 : Int) ≤ (m : Int) := by omega
          have d3 : decide (((m + 1 : Nat) : Int) < 1) = false := by simp; omega
          have d4 : decide ((40 : Int) < ((m + 1 : Nat) : Int)) = false := by simp; omega
          have d4' : decide (40 < m + 1) = false := by simp; omega
          have d3' : decide (m + 1 < 1) = false := by simp
          generalize gi (Dst.hI xs) m = x at *
          -- what the last test says
          have HEnd : Hid (eq = 0 → p ≤ q → m + 1 ≤ vq) := Lib.hid (fun h1 h2 => HFm2.out h1 h2)
          by_cases q2 : 1 < m + 1
          · obtain ⟨m', rfl⟩ : ∃ m', m = m' + 1 := ⟨m - 1, by omega⟩
            have a7 := a6 q2
            rw [show m' + 1 + 1 - 2 = m' by omega] at a7
            have c2 := HA1.out.2 m' (by rw [hI_len]; omega)
            have l2 := hI_le (l := xs) (j := m') (by omega)
            rw [HN.out] at l2
            have wr4 : IntKind.i64.wrap (100 * gi (Dst.hI xs) m') = 100 * gi (Dst.hI xs) m' := by rw [IntKind.wrap_i64]; omega
            have d5 : decide (pr ≤ 100 * gi (Dst.hI xs) m') = false := by simp; omega
            have wr5 : IntKind.i64.wrap (((m' + 1 + 1 : Nat) : Int) - 2) = (m' : Int) := by rw [IntKind.wrap_i64]; omega
            have i3 : (m' : Int) < 40 := by omega
            have i4 : (0 : Int) ≤ (m' : Int) := by omega
            have d6 : decide ((1 : Int) < ((m' + 1 + 1 : Nat) : Int)) = true := by simp; omega
            have d6' : decide (1 < m' + 1 + 1) = true := by simp
            generalize gi (Dst.hI xs) m' = y at *
            generalize m' + 1 = m at *
            generalize m + 1 = v at *
            clear a1 a2 a3 a4 a5 a6 a7 k1 k2 l1 l2 hpr q2
            by_cases q3 : eq = 0
            · have d7 : (eq != 0) = false := by simp [q3]
              by_cases q4 : p ≤ q
              · have d8 : decide (q < p) = false := by simp; omega
                have q5 := HEnd.out q3 q4
                have d9 : decide ((v : Int) ≤ (vq : Int)) = true := by simp; omega
                have d9' : decide (v ≤ vq) = true := by simpa using q5
                clear q1 q3 q4 q5
                go_wp2
                go_ret
                exact ⟨rfl, HB6.out⟩
              · have d8 : decide (q < p) = true := by simp; omega
                clear q1 q3 q4
                go_wp2
                go_ret
                exact ⟨rfl, HB6.out⟩
            · have d7 : (eq != 0) = true := by simpa using q3
              clear q1 q3
              go_wp2
              go_ret
              exact ⟨rfl, HB6.out⟩
          · have d6 : decide ((1 : Int) < ((m + 1 : Nat) : Int)) = false := by simp; omega
            have d6' : decide (1 < m + 1) = false := by simpa using q2
            generalize m + 1 = v at *
            clear a1 a2 a3 a4 a5 a6 k1 k2 l1 hpr q2
            by_cases q3 : eq = 0
            · have d7 : (eq != 0) = false := by simp [q3]
              by_cases q4 : p ≤ q
              · have d8 : decide (q < p) = false := by simp; omega
                have q5 := HEnd.out q3 q4
                have d9 : decide ((v : Int) ≤ (vq : Int)) = true := by simp; omega
                have d9' : decide (v ≤ vq) = true := by simpa using q5
                clear q1 q3 q4 q5
                go_wp2
                go_ret
                exact ⟨rfl, HB6.out⟩
              · have d8 : decide (q < p) = true := by simp; omega
                clear q1 q3 q4
                go_wp2
                go_ret
                exact ⟨rfl, HB6.out⟩
            · have d7 : (eq != 0) = true := by simpa using q3
              clear q1 q3
              go_wp2
              go_ret
              exact ⟨rfl, HB6.out⟩
        · have d1 : (ep == 0) = false := by simpa using q1
          have d1n : (ep != 0) = true := by simpa using q1
          clear q1
          go_wp2
          go_ret
          exact ⟨rfl, HB6.out⟩
  · have HD : Hid (hsL xs = [] ∧ msL xs = [] ∧ rmE xs p = traceE xs ∧ rmE xs q = traceE xs) := Lib.hid ⟨by unfold hsL; rw [if_neg h0], by unfold msL; rw [if_neg h0], by unfold rmE; rw [if_neg h0], by unfold rmE; rw [if_neg h0]⟩
    have d0 : (traceE xs != 0) = true := by simpa using h0
    have d1 : (traceE xs == traceE xs) = true := by simp
    rw [HD.out.1] at HH
    rw [HD.out.2.1] at HM
    rw [HD.out.2.2.1] at HP
    rw [HD.out.2.2.2] at HQ
    clear h0 HD
    generalize traceE xs = t at *
    generalize xs.length = n at *
    generalize rmV xs p = vp at *
    generalize rmV xs q = vq at *
    go_enter Try.func5, Try.ntmps5
    go_wp2_with fail
    refine (HH.out w HI.out).mono ?_
    rintro e w1 ⟨A1, c1, rfl, -, hb1⟩
    have HB1 := Lib.hid hb1
    clear hb1
    go_wp2_with fail
    refine (HM.out w1 (HI.out.below HB1.out)).mono ?_
    rintro e w2 ⟨A2, c2, rfl, -, hb2⟩
    have HB2 : Hid (Below w.heap.size w w2) := Lib.hid (HB1.out.trans (hb2.mono HB1.out.size))
    clear hb2
    go_wp2_with fail
    refine (HP.out w2 (HI.out.below HB2.out)).mono ?_
    rintro e w3 ⟨rfl, hb3⟩
    have HB3 : Hid (Below w.heap.size w w3) := Lib.hid (HB2.out.trans (hb3.mono HB2.out.size))
    clear hb3
    go_wp2_with fail
    refine (HQ.out w3 (HI.out.below HB3.out)).mono ?_
    rintro e w4 ⟨rfl, hb4⟩
    have HB4 : Hid (Below w.heap.size w w4) := Lib.hid (HB3.out.trans (hb4.mono HB3.out.size))
    clear hb4
    go_wp2_with fail
    refine (begun_any _).mono ?_
    rintro e w5 ⟨rfl, hb5⟩
    have HB5 : Hid (Below w.heap.size w w5) := Lib.hid (HB4.out.trans (hb5.mono HB4.out.size))
    clear hb5
    go_wp2
    go_ret
    exact ⟨rfl, HB5.out⟩

end Go.Proofs.Ytamgnndebokopaa.Dst
