/-
  The reference of buckets: RateCheck, RateErr, RateGo.
-/
import Derived.Test.YtildmhfpjdmcbaaRateBegun
import Derived.StillTailTactics
namespace Go.Proofs.Ytildmhfpjdmcbaa.Rat
open Go.RowKit
set_option linter.unusedVariables false
set_option maxRecDepth 100000

abbrev BtC (n a b : Int) (r : Bool) : Prop := ∀ W : World, Calls Try.prog 18 #[.int .i64 n, .int .i64 a, .int .i64 b] W fun e w' => e = .returned (.bool r) ∧ W = w'

set_option maxHeartbeats 4000000 in
theorem rateCheck_any (b : Bk) (w : World) :
    Calls Try.prog 11 #[bv b] w fun e w' => e = .returned (.int .i64 (ckE b)) ∧ Below w.heap.size w w' := by
  obtain ⟨m, ev, h, t⟩ := b
  have HB0 : Hid (Below w.heap.size w (w.alloc (bo ⟨m, ev, h, t⟩))) := Lib.hid (bel_al (Below.refl _ _) (Nat.le_refl _) _)
  obtain ⟨x0, x1, x2, x3⟩ := (Kb.new w ⟨m, ev, h, t⟩).cells
  have H1 : Hid (BtC m 1 1048576 (decide (1 ≤ m ∧ m ≤ 1048576))) := Lib.hid (fun W => between_any m 1 1048576 W)
  have H2 : Hid (BtC ev 1 1048576 (decide (1 ≤ ev ∧ ev ≤ 1048576))) := Lib.hid (fun W => between_any ev 1 1048576 W)
  have H3 : Hid (BtC h 0 m (decide (0 ≤ h ∧ h ≤ m))) := Lib.hid (fun W => between_any h 0 m W)
  have H4 : Hid (BtC t 0 1099511627776 (decide (0 ≤ t ∧ t ≤ 1099511627776))) := Lib.hid (fun W => between_any t 0 1099511627776 W)
  by_cases q1 : 1 ≤ m ∧ m ≤ 1048576
  · rw [decide_eq_true q1] at H1
    by_cases q2 : 1 ≤ ev ∧ ev ≤ 1048576
    · rw [decide_eq_true q2] at H2
      by_cases q3 : 0 ≤ h ∧ h ≤ m
      · rw [decide_eq_true q3] at H3
        by_cases q4 : 0 ≤ t ∧ t ≤ 1099511627776
        · rw [decide_eq_true q4] at H4
          have HE : Hid (ckE ⟨m, ev, h, t⟩ = 0) := Lib.hid (if_pos ⟨q1, q2, q3, q4⟩)
          clear q1 q2 q3 q4
          go_enter Try.func11, Try.ntmps11
          go_wp2_with (first | (with_reducible refine (H1.out _).mono ?_; rintro e w2 ⟨rfl, rfl⟩) | (with_reducible refine (H2.out _).mono ?_; rintro e w2 ⟨rfl, rfl⟩) | (with_reducible refine (H3.out _).mono ?_; rintro e w2 ⟨rfl, rfl⟩) | (with_reducible refine (H4.out _).mono ?_; rintro e w2 ⟨rfl, rfl⟩))
          go_ret
          exact ⟨ret_int HE.out.symm, HB0.out⟩
        · rw [decide_eq_false q4] at H4
          have HE : Hid (ckE ⟨m, ev, h, t⟩ = 3) := Lib.hid (check_one (fun k => q4 k.2.2.2))
          clear q1 q2 q3 q4
          go_enter Try.func11, Try.ntmps11
          go_wp2_with (first | (with_reducible refine (H1.out _).mono ?_; rintro e w2 ⟨rfl, rfl⟩) | (with_reducible refine (H2.out _).mono ?_; rintro e w2 ⟨rfl, rfl⟩) | (with_reducible refine (H3.out _).mono ?_; rintro e w2 ⟨rfl, rfl⟩) | (with_reducible refine (H4.out _).mono ?_; rintro e w2 ⟨rfl, rfl⟩))
          go_ret
          exact ⟨ret_int HE.out.symm, HB0.out⟩
      · rw [decide_eq_false q3] at H3
        have HE : Hid (ckE ⟨m, ev, h, t⟩ = 3) := Lib.hid (check_one (fun k => q3 k.2.2.1))
        clear q1 q2 q3
        go_enter Try.func11, Try.ntmps11
        go_wp2_with (first | (with_reducible refine (H1.out _).mono ?_; rintro e w2 ⟨rfl, rfl⟩) | (with_reducible refine (H2.out _).mono ?_; rintro e w2 ⟨rfl, rfl⟩) | (with_reducible refine (H3.out _).mono ?_; rintro e w2 ⟨rfl, rfl⟩) | (with_reducible refine (H4.out _).mono ?_; rintro e w2 ⟨rfl, rfl⟩))
        go_ret
        exact ⟨ret_int HE.out.symm, HB0.out⟩
    · rw [decide_eq_false q2] at H2
      have HE : Hid (ckE ⟨m, ev, h, t⟩ = 3) := Lib.hid (check_one (fun k => q2 k.2.1))
      clear q1 q2
      go_enter Try.func11, Try.ntmps11
      go_wp2_with (first | (with_reducible refine (H1.out _).mono ?_; rintro e w2 ⟨rfl, rfl⟩) | (with_reducible refine (H2.out _).mono ?_; rintro e w2 ⟨rfl, rfl⟩) | (with_reducible refine (H3.out _).mono ?_; rintro e w2 ⟨rfl, rfl⟩) | (with_reducible refine (H4.out _).mono ?_; rintro e w2 ⟨rfl, rfl⟩))
      go_ret
      exact ⟨ret_int HE.out.symm, HB0.out⟩
  · rw [decide_eq_false q1] at H1
    have HE : Hid (ckE ⟨m, ev, h, t⟩ = 3) := Lib.hid (check_one (fun k => q1 k.1))
    clear q1
    go_enter Try.func11, Try.ntmps11
    go_wp2_with (first | (with_reducible refine (H1.out _).mono ?_; rintro e w2 ⟨rfl, rfl⟩) | (with_reducible refine (H2.out _).mono ?_; rintro e w2 ⟨rfl, rfl⟩) | (with_reducible refine (H3.out _).mono ?_; rintro e w2 ⟨rfl, rfl⟩) | (with_reducible refine (H4.out _).mono ?_; rintro e w2 ⟨rfl, rfl⟩))
    go_ret
    exact ⟨ret_int HE.out.symm, HB0.out⟩

set_option maxHeartbeats 4000000 in
theorem rateErr_any (b : Bk) (t : Int) (w : World) :
    Calls Try.prog 12 #[bv b, .int .i64 t] w fun e w' => e = .returned (.int .i64 (avE b t 4)) ∧ Below w.heap.size w w' := by
  have HC : Hid (∀ W : World, Calls Try.prog 11 #[bv b] W fun e w' => e = .returned (.int .i64 (ckE b)) ∧ Below W.heap.size W w') := Lib.hid (fun W => rateCheck_any b W)
  have HK0 : Hid (Kb (w.alloc (bo b)) w.heap.size b) := Lib.hid (Kb.new w b)
  have HB0 : Hid (Below w.heap.size w (w.alloc (bo b))) := Lib.hid (bel_al (Below.refl _ _) (Nat.le_refl _) _)
  have H1 : Hid (BtC t 0 1099511627776 (decide (0 ≤ t ∧ t ≤ 1099511627776))) := Lib.hid (fun W => between_any t 0 1099511627776 W)
  obtain ⟨x0, x1, x2, x3⟩ := HK0.out.cells
  by_cases h0 : ckE b = 0
  · rw [h0] at HC
    by_cases h1 : 0 ≤ t ∧ t ≤ 1099511627776
    · rw [decide_eq_true h1] at H1
      by_cases h2 : t < b.att
      · have p2 : decide (t < b.att) = true := by simpa using h2
        have HE : Hid (avE b t 4 = 4) := Lib.hid (by unfold avE; rw [if_pos h0, if_pos (show isTick t from h1), if_pos h2])
        clear h0 h1 h2
        obtain ⟨m, ev, h, a⟩ := b
        go_enter Try.func12, Try.ntmps12
        go_wp2_with fail
        refine (HC.out _).mono ?_
        rintro en w1 ⟨rfl, hb1⟩
        have HK1 := Lib.hid (HK0.out.below hb1)
        have HB1 : Hid (Below w.heap.size w w1) := Lib.hid (HB0.out.trans (hb1.mono HB0.out.size))
        clear hb1 x0 x1 x2 x3
        obtain ⟨x0, x1, x2, x3⟩ := HK1.out.cells
        go_wp2_with fail
        refine (H1.out _).mono ?_
        rintro en w2 ⟨rfl, rfl⟩
        go_wp2
        go_ret
        exact ⟨ret_int HE.out.symm, HB1.out⟩
      · have p2 : decide (t < b.att) = false := by simpa using h2
        have HE : Hid (avE b t 4 = 0) := Lib.hid (by unfold avE; rw [if_pos h0, if_pos (show isTick t from h1), if_neg h2])
        clear h0 h1 h2
        obtain ⟨m, ev, h, a⟩ := b
        go_enter Try.func12, Try.ntmps12
        go_wp2_with fail
        refine (HC.out _).mono ?_
        rintro en w1 ⟨rfl, hb1⟩
        have HK1 := Lib.hid (HK0.out.below hb1)
        have HB1 : Hid (Below w.heap.size w w1) := Lib.hid (HB0.out.trans (hb1.mono HB0.out.size))
        clear hb1 x0 x1 x2 x3
        obtain ⟨x0, x1, x2, x3⟩ := HK1.out.cells
        go_wp2_with fail
        refine (H1.out _).mono ?_
        rintro en w2 ⟨rfl, rfl⟩
        go_wp2
        go_ret
        exact ⟨ret_int HE.out.symm, HB1.out⟩
    · rw [decide_eq_false h1] at H1
      have HE : Hid (avE b t 4 = 3) := Lib.hid (by unfold avE; rw [if_pos h0, if_neg (show ¬ isTick t from h1)])
      clear h0 h1
      obtain ⟨m, ev, h, a⟩ := b
      go_enter Try.func12, Try.ntmps12
      go_wp2_with fail
      refine (HC.out _).mono ?_
      rintro en w1 ⟨rfl, hb1⟩
      have HB1 : Hid (Below w.heap.size w w1) := Lib.hid (HB0.out.trans (hb1.mono HB0.out.size))
      clear hb1 x0 x1 x2 x3
      go_wp2_with fail
      refine (H1.out _).mono ?_
      rintro en w2 ⟨rfl, rfl⟩
      go_wp2
      go_ret
      exact ⟨ret_int HE.out.symm, HB1.out⟩
  · have HE : Hid (avE b t 4 = ckE b) := Lib.hid (if_neg h0)
    have q : (ckE b == 0) = false := by simpa using h0
    clear h0
    generalize ckE b = c at *
    obtain ⟨m, ev, h, a⟩ := b
    go_enter Try.func12, Try.ntmps12
    go_wp2_with fail
    refine (HC.out _).mono ?_
    rintro en w1 ⟨rfl, hb1⟩
    have HB1 : Hid (Below w.heap.size w w1) := Lib.hid (HB0.out.trans (hb1.mono HB0.out.size))
    clear hb1 x0 x1 x2 x3
    go_wp2
    go_ret
    exact ⟨ret_int HE.out.symm, HB1.out⟩

/-! ### RateGo -/
theorem small_go {b : Bk} {t : Int} (h : Ok b) (ht : b.att ≤ t) (h2 : isTick t) : ∃ R Y : Int,
    IntKind.i64.wrap (t - b.att) = t - b.att ∧ (t - b.att).tmod b.every = R ∧ IntKind.i64.wrap (b.most - b.has) = b.most - b.has ∧ IntKind.i64.wrap ((b.most - b.has) * b.every) = (b.most - b.has) * b.every ∧
    IntKind.i64.wrap (t - b.att - R) = Y ∧ IntKind.i64.wrap (Y.tdiv b.every) = got b t ∧ IntKind.i64.wrap (b.has + got b t) = b.has + got b t ∧ IntKind.i64.wrap (t - R) = b.att + got b t * b.every ∧
    ((b.most - b.has) * b.every ≤ Y ↔ b.most ≤ b.has + got b t) := by
  have hg := got_nonneg h ht
  have hl := got_le (t := t) h
  have he := h.ev
  have hc : got b t * b.every = b.every * got b t := Int.mul_comm _ _
  have hem := Int.mul_ediv_add_emod (t - b.att) b.every
  have hem2 : b.every * got b t + (t - b.att) % b.every = t - b.att := hem
  have hr0 := Int.emod_nonneg (t - b.att) (show b.every ≠ 0 by omega)
  have h0 : 0 ≤ b.every * got b t := Int.mul_nonneg (Int.le_of_lt he) hg
  have hk : got b t ≤ b.every * got b t := by
    have := Int.mul_le_mul_of_nonneg_right (show 1 ≤ b.every by omega) hg
    omega
  have hr : (t - b.att).tmod b.every = (t - b.att) % b.every := Int.tmod_eq_emod_of_nonneg (by omega)
  obtain ⟨h1, h3, h4, h5⟩ := id h
  have a1 := h1.2
  have a2 := h2.2
  have a3 := h5.1
  have a4 := h3.2
  have a5 := h4.1
  have a6 := h4.2
  have a7 := h2.1
  have m1 : (b.most - b.has) * b.every ≤ 1048576 * 1048576 := Int.mul_le_mul (by omega) a4 (by omega) (by omega)
  have m2 : 0 ≤ (b.most - b.has) * b.every := Int.mul_nonneg (by omega) (by omega)
  have hq : (b.every * got b t).tdiv b.every = got b t := by
    rw [Int.tdiv_eq_ediv_of_nonneg h0]
    exact div_uniq he (Int.le_refl _) (by omega)
  refine ⟨(t - b.att) % b.every, b.every * got b t, ?_, ?_, ?_, ?_, ?_, ?_, ?_, ?_, ?_⟩
  · rw [IntKind.wrap_i64]; omega
  · exact hr
  · rw [IntKind.wrap_i64]; omega
  · generalize (b.most - b.has) * b.every = y at *
    rw [IntKind.wrap_i64]; omega
  · rw [IntKind.wrap_i64]; omega
  · rw [hq, IntKind.wrap_i64]; omega
  · rw [IntKind.wrap_i64]; omega
  · rw [IntKind.wrap_i64]; omega
  · constructor
    · intro hh
      rw [Int.mul_comm] at hh
      have := Int.le_of_mul_le_mul_left hh he
      omega
    · intro hh
      rw [Int.mul_comm]
      exact Int.mul_le_mul_of_nonneg_left (by omega) (Int.le_of_lt he)

set_option maxHeartbeats 8000000 in
theorem rateGo_any (b : Bk) (t : Int) (w : World) (hz : avE b t 4 = 0) :
    Calls Try.prog 13 #[bv b, .int .i64 t] w fun e w' => e = .returned (bv (adv b t)) ∧ Below w.heap.size w w' := by
  obtain ⟨k0, k1, k2⟩ := av_zero.1 hz
  obtain ⟨R, Y, f1, f2, f3, f4, f5, f6, f7, f8, f9⟩ := small_go k0 k2 k1
  have p3 : ¬ b.every = 0 := by have := k0.ev; omega
  obtain ⟨hk0, hz0, hb0⟩ := box2 w b
  rw [show nB = ⟨0, 0, 0, 0⟩ from rfl] at hk0 hz0 hb0
  have HK0 := Lib.hid hk0
  have HZ0 := Lib.hid hz0
  have HB0 := Lib.hid hb0
  clear hk0 hz0 hb0
  obtain ⟨x0, x1, x2, x3⟩ := HK0.out.cells
  obtain ⟨z0, z1, z2, z3⟩ := HZ0.out.cells
  obtain ⟨u0, u1, u2, u3⟩ := HZ0.out.free
  by_cases h3 : b.most ≤ b.has + got b t
  · have p4 : decide ((b.most - b.has) * b.every ≤ Y) = true := decide_eq_true (f9.2 h3)
    have HA : Hid (adv b t = ⟨b.most, b.every, b.most, t⟩) := Lib.hid (by unfold adv; rw [if_pos h3])
    clear h3 f6 f7 f8 f9 k0 k1 k2 hz
    obtain ⟨m, ev, h, a⟩ := b
    go_enter Try.func13, Try.ntmps13
    go_wp2
    refine bodyPost_ret (v := bv ⟨m, ev, m, t⟩) (by simp [results, Try.results13, go_sem]) rfl ?_
    exact ⟨by rw [HA.out], bel_al (bel_al (Below.refl _ _) (Nat.le_refl _) _) (by simp) _⟩
  · have p4 : decide ((b.most - b.has) * b.every ≤ Y) = false := decide_eq_false (fun k => h3 (f9.1 k))
    have HA : Hid (adv b t = ⟨b.most, b.every, b.has + got b t, b.att + got b t * b.every⟩) := Lib.hid (by unfold adv; rw [if_neg h3])
    clear h3 f9 k0 k1 k2 hz
    obtain ⟨m, ev, h, a⟩ := b
    generalize got ⟨m, ev, h, a⟩ t = g at *
    go_enter Try.func13, Try.ntmps13
    go_wp2_with fail
    generalize (w.alloc (bo ⟨m, ev, h, a⟩)).alloc (bo ⟨0, 0, 0, 0⟩) = wv at *
    go_still_tail 17, (by kernel_rfl)
    change wpList _ _ _ _ _ wv.drew
    go_wp2
    refine bodyPost_ret (v := bv ⟨m, ev, h + g, a + g * ev⟩) (by simp [results, Try.results13, go_sem, z0, z1, z2, z3]) rfl ?_
    exact ⟨by rw [HA.out], (bel_set4 HB0.out (by omega) _ _ _ _).drew⟩

end Go.Proofs.Ytildmhfpjdmcbaa.Rat
