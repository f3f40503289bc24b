/-
  RateWhen: the tick that When returns.
-/
import Derived.Test.YtildmhfpjdmcbaaRateBegun
namespace Go.Proofs.Ytildmhfpjdmcbaa.Rat
open Go.RowKit
set_option linter.unusedVariables false
set_option maxRecDepth 100000

theorem wh_zero {b : Bk} {t n : Int} (h : whE b t n = 0) : tkE b t n = 0 ∧ n ≤ b.most ∧ isTick (whn b t n) := by
  unfold whE at h
  by_cases h0 : tkE b t n = 0
  · rw [if_pos h0] at h
    by_cases h1 : n ≤ b.most ∧ isTick (whn b t n)
    · exact ⟨h0, h1⟩
    · rw [if_neg h1] at h; exact absurd h (by decide)
  · rw [if_neg h0] at h; exact absurd h h0
theorem wh_take {b : Bk} {t n : Int} (h : whE b t n = 0) : t ≤ whn b t n ∧ tkE b (whn b t n) n = 0 ∧ tkI b (whn b t n) n = true ∧ IntKind.i64.wrap (whn b t n - 1) = whn b t n - 1 ∧ (whn b t n ≠ t → tkE b (whn b t n - 1) n = 0 ∧ tkI b (whn b t n - 1) n = false) := by
  obtain ⟨h1, h2, h3⟩ := wh_zero h
  obtain ⟨⟨k0, k1, k2⟩, k3⟩ := tk_zero.1 h1
  obtain ⟨s1, s2, s3⟩ := whn_spec k0 k2 k3.1 h2
  have hz : tkE b (whn b t n) n = 0 := tk_zero.2 ⟨⟨k0, h3, Int.le_trans k2 s1⟩, k3⟩
  have a1 := h3.1
  have a2 := h3.2
  refine ⟨s1, hz, (tk_yes hz s2).2, by rw [IntKind.wrap_i64]; omega, fun hne => ?_⟩
  obtain ⟨s4, s5⟩ := s3 hne
  have hy : tkE b (whn b t n - 1) n = 0 := tk_zero.2 ⟨⟨k0, ⟨by have := k1.1; omega, by omega⟩, by omega⟩, k3⟩
  exact ⟨hy, (tk_no hy s5).2⟩

set_option maxHeartbeats 8000000 in
theorem rateWhen_walk (b : Bk) (t n : Int) (w : World) :
    Calls Try.prog 5 #[bv b, .int .i64 t, .int .i64 n] w fun e w' => e = .returned (.bool true) ∧ Below w.heap.size w w' := by
  have HK0 : Hid (Kb (w.alloc (bo b)) w.heap.size b) := Lib.hid (Kb.new w b)
  have HB0 : Hid (Below w.heap.size w (w.alloc (bo b))) := Lib.hid (bel_al (Below.refl _ _) (Nat.le_refl _) _)
  have HG : Hid (∀ W : World, Calls Try.prog 14 #[] W fun e w' => e = .returned (.bool true) ∧ Below W.heap.size W w') := Lib.hid (fun W => begun_any W)
  have C1 : Hid (WhC b t n (whV b t n) (whE b t n)) := Lib.hid (fun W => when_any b t n W)
  obtain ⟨x0, x1, x2, x3⟩ := HK0.out.cells
  by_cases h1 : whE b t n = 0
  · obtain ⟨s1, s2, s3, s4, s5⟩ := wh_take h1
    have e1 : whV b t n = whn b t n := if_pos h1
    rw [h1, e1] at C1
    have C2 : Hid (TkC b (whn b t n) n (tkB b (whn b t n) n) (tkI b (whn b t n) n) (tkE b (whn b t n) n)) := Lib.hid (fun W => take_any b (whn b t n) n W)
    rw [s2, s3] at C2
    have p1 : decide (whn b t n < t) = false := by simpa using s1
    by_cases h2 : whn b t n = t
    · have q2 : (whn b t n == t) = true := by simpa using h2
      clear h1 s1 s2 s3 s4 s5 e1 h2
      generalize tkB b (whn b t n) n = x at *
      generalize whn b t n = T at *
      obtain ⟨m, ev, h, a⟩ := b
      obtain ⟨xm, xe, xh, xa⟩ := x
      go_enter Try.func5, Try.ntmps5
      go_wp2_with fail
      refine (C1.out _).mono ?_
      rintro e w1 ⟨rfl, hb1⟩
      have HK1 : Hid (Kb w1 w.heap.size ⟨m, ev, h, a⟩) := Lib.hid (HK0.out.below hb1)
      have HB1 : Hid (Below w.heap.size w w1) := Lib.hid (HB0.out.trans (hb1.mono HB0.out.size))
      clear hb1 x0 x1 x2 x3 HB0 HK0
      go_wp2_with fail
      refine (HG.out _).mono ?_
      rintro e w3 ⟨rfl, hb3⟩
      have HK3 : Hid (Kb w3 w.heap.size ⟨m, ev, h, a⟩) := Lib.hid (HK1.out.below hb3)
      have HB3 : Hid (Below w.heap.size w w3) := Lib.hid (HB1.out.trans (hb3.mono HB1.out.size))
      clear hb3 HK1 HB1
      obtain ⟨x0, x1, x2, x3⟩ := HK3.out.cells
      go_wp2_with fail
      clear x0 x1 x2 x3
      refine (C2.out _).mono ?_
      rintro e w4 ⟨rfl, hb4⟩
      have hb4' : Below w.heap.size w w4 := HB3.out.trans (hb4.mono HB3.out.size)
      have HB4 : Hid (Below w.heap.size w (w4.alloc (bo ⟨xm, xe, xh, xa⟩))) := Lib.hid (bel_al hb4' hb4'.size _)
      clear hb4 hb4' HK3 HB3
      go_wp2
      go_ret
      exact ⟨rfl, HB4.out⟩
    · have q2 : (whn b t n == t) = false := by simpa using h2
      obtain ⟨s6, s7⟩ := s5 h2
      have C3 : Hid (TkC b (whn b t n - 1) n (tkB b (whn b t n - 1) n) (tkI b (whn b t n - 1) n) (tkE b (whn b t n - 1) n)) := Lib.hid (fun W => take_any b (whn b t n - 1) n W)
      rw [s6, s7] at C3
      clear h1 s1 s2 s3 s5 e1 h2 s6 s7
      generalize tkB b (whn b t n) n = x at *
      generalize tkB b (whn b t n - 1) n = y at *
      generalize whn b t n = T at *
      obtain ⟨m, ev, h, a⟩ := b
      obtain ⟨xm, xe, xh, xa⟩ := x
      obtain ⟨ym, ye, yh, ya⟩ := y
      go_enter Try.func5, Try.ntmps5
      go_wp2_with fail
      refine (C1.out _).mono ?_
      rintro e w1 ⟨rfl, hb1⟩
      have HK1 : Hid (Kb w1 w.heap.size ⟨m, ev, h, a⟩) := Lib.hid (HK0.out.below hb1)
      have HB1 : Hid (Below w.heap.size w w1) := Lib.hid (HB0.out.trans (hb1.mono HB0.out.size))
      clear hb1 x0 x1 x2 x3 HB0 HK0
      go_wp2_with fail
      refine (HG.out _).mono ?_
      rintro e w3 ⟨rfl, hb3⟩
      have HK3 : Hid (Kb w3 w.heap.size ⟨m, ev, h, a⟩) := Lib.hid (HK1.out.below hb3)
      have HB3 : Hid (Below w.heap.size w w3) := Lib.hid (HB1.out.trans (hb3.mono HB1.out.size))
      clear hb3 HK1 HB1
      obtain ⟨x0, x1, x2, x3⟩ := HK3.out.cells
      go_wp2_with fail
      clear x0 x1 x2 x3
      refine (C2.out _).mono ?_
      rintro e w4 ⟨rfl, hb4⟩
      have HK4 : Hid (Kb (w4.alloc (bo ⟨xm, xe, xh, xa⟩)) w.heap.size ⟨m, ev, h, a⟩) := Lib.hid ((HK3.out.below hb4).alloc _)
      have hb4' : Below w.heap.size w w4 := HB3.out.trans (hb4.mono HB3.out.size)
      have HB4 : Hid (Below w.heap.size w (w4.alloc (bo ⟨xm, xe, xh, xa⟩))) := Lib.hid (bel_al hb4' hb4'.size _)
      clear hb4 hb4' HK3 HB3
      obtain ⟨x0, x1, x2, x3⟩ := HK4.out.cells
      go_wp2_with fail
      clear x0 x1 x2 x3
      refine (C3.out _).mono ?_
      rintro e w5 ⟨rfl, hb5⟩
      have hb5' : Below w.heap.size w w5 := HB4.out.trans (hb5.mono HB4.out.size)
      have HB5 : Hid (Below w.heap.size w (w5.alloc (bo ⟨ym, ye, yh, ya⟩))) := Lib.hid (bel_al hb5' hb5'.size _)
      clear hb5 hb5' HK4 HB4
      go_wp2
      go_ret
      exact ⟨rfl, HB5.out⟩
  · have e1 : whV b t n = 0 := if_neg h1
    rw [e1] at C1
    have q2 : (whE b t n != 0) = true := by simpa using h1
    clear h1 e1
    generalize whE b t n = er at *
    obtain ⟨m, ev, h, a⟩ := b
    go_enter Try.func5, Try.ntmps5
    go_wp2_with fail
    refine (C1.out _).mono ?_
    rintro e w1 ⟨rfl, hb1⟩
    have HB1 : Hid (Below w.heap.size w w1) := Lib.hid (HB0.out.trans (hb1.mono HB0.out.size))
    clear hb1 x0 x1 x2 x3 HB0 HK0
    go_wp2_with fail
    refine (HG.out _).mono ?_
    rintro e w3 ⟨rfl, hb3⟩
    have HB3 : Hid (Below w.heap.size w w3) := Lib.hid (HB1.out.trans (hb3.mono HB1.out.size))
    clear hb3 HB1
    go_wp2
    go_ret
    exact ⟨rfl, HB3.out⟩

end Go.Proofs.Ytildmhfpjdmcbaa.Rat
