/-
  RateParts: advancing in two steps.
-/
import Derived.Test.YtildmhfpjdmcbaaRateBegun
namespace Go.Proofs.Ytildmhfpjdmcbaa.Rat
open Go.RowKit
set_option linter.unusedVariables false
set_option maxRecDepth 100000

theorem av_two {b : Bk} {t u : Int} (h : avE b t 4 = 0) (h2 : avE (adv b t) u 4 = 0) : avE b u 4 = 0 ∧ adv (adv b t) u = adv b u ∧ (adv b t).has ≤ (adv b u).has := by
  obtain ⟨k0, k1, k2⟩ := av_zero.1 h
  obtain ⟨l0, l1, l2⟩ := av_zero.1 h2
  obtain ⟨a1, a2, a3, a4, a5, a6⟩ := adv_ok k0 k2 k1
  have e := adv_adv k0 k2 l2
  refine ⟨av_zero.2 ⟨k0, l1, Int.le_trans a2 l2⟩, e, ?_⟩
  rw [← e]
  exact (adv_ok l0 l2 l1).2.2.2.2.2

set_option maxHeartbeats 8000000 in
theorem rateParts_walk (b : Bk) (t u : Int) (w : World) :
    Calls Try.prog 4 #[bv b, .int .i64 t, .int .i64 u] w fun e w' => e = .returned (.bool true) ∧ Below w.heap.size w w' := by
  have HK0 : Hid (Kb (w.alloc (bo b)) w.heap.size b) := Lib.hid (Kb.new w b)
  have HB0 : Hid (Below w.heap.size w (w.alloc (bo b))) := Lib.hid (bel_al (Below.refl _ _) (Nat.le_refl _) _)
  have HG : Hid (∀ W : World, Calls Try.prog 14 #[] W fun e w' => e = .returned (.bool true) ∧ Below W.heap.size W w') := Lib.hid (fun W => begun_any W)
  have C1 : Hid (AvC b t (avR b t) (avE b t 4)) := Lib.hid (fun W => advance_any b t W)
  obtain ⟨t1, t2, t3, t4⟩ := eq_facts
  obtain ⟨x0, x1, x2, x3⟩ := HK0.out.cells
  by_cases h1 : avE b t 4 = 0
  · have C2 : Hid (AvC (adv b t) u (avR (adv b t) u) (avE (adv b t) u 4)) := Lib.hid (fun W => advance_any (adv b t) u W)
    rw [h1, av_good h1] at C1
    by_cases h2 : avE (adv b t) u 4 = 0
    · obtain ⟨h3, e1, h4⟩ := av_two h1 h2
      have C3 : Hid (AvC b u (avR b u) (avE b u 4)) := Lib.hid (fun W => advance_any b u W)
      rw [h3, av_good h3] at C3
      rw [h2, av_good h2, e1] at C2
      have p1 : decide ((adv b t).has ≤ (adv b u).has) = true := decide_eq_true h4
      clear h1 h2 h3 h4 e1
      generalize adv b t = x at *
      generalize adv b u = z at *
      obtain ⟨m, ev, h, a⟩ := b
      obtain ⟨xm, xe, xh, xa⟩ := x
      obtain ⟨zm, ze, zh, za⟩ := z
      go_enter Try.func4, Try.ntmps4
      go_wp2_with fail
      refine (C1.out _).mono ?_
      rintro e w1 ⟨rfl, hb1⟩
      have HK1 : Hid (Kb (w1.alloc (bo ⟨xm, xe, xh, xa⟩)) w.heap.size ⟨m, ev, h, a⟩) := Lib.hid ((HK0.out.below hb1).alloc _)
      have HX1 : Hid (Kb (w1.alloc (bo ⟨xm, xe, xh, xa⟩)) w1.heap.size ⟨xm, xe, xh, xa⟩) := Lib.hid (Kb.new w1 _)
      have hb1' : Below w.heap.size w w1 := HB0.out.trans (hb1.mono HB0.out.size)
      have HB1 : Hid (Below w.heap.size w (w1.alloc (bo ⟨xm, xe, xh, xa⟩))) := Lib.hid (bel_al hb1' hb1'.size _)
      clear hb1 hb1' x0 x1 x2 x3 HB0 HK0
      go_wp2_with fail
      obtain ⟨p, hp⟩ : ∃ p, p = w1.heap.size := ⟨_, rfl⟩
      rw [← hp] at HX1 ⊢
      clear hp
      generalize w1.alloc (bo ⟨xm, xe, xh, xa⟩) = w2 at *
      refine (HG.out _).mono ?_
      rintro e w3 ⟨rfl, hb3⟩
      have HK3 : Hid (Kb w3 w.heap.size ⟨m, ev, h, a⟩) := Lib.hid (HK1.out.below hb3)
      have HX3 : Hid (Kb w3 p ⟨xm, xe, xh, xa⟩) := Lib.hid (HX1.out.below hb3)
      have HB3 : Hid (Below w.heap.size w w3) := Lib.hid (HB1.out.trans (hb3.mono HB1.out.size))
      clear hb3 HK1 HX1 HB1
      obtain ⟨x0, x1, x2, x3⟩ := HX3.out.cells
      go_wp2_with fail
      clear x0 x1 x2 x3
      refine (C2.out _).mono ?_
      rintro e w4 ⟨rfl, hb4⟩
      have HK4 : Hid (Kb (w4.alloc (bo ⟨zm, ze, zh, za⟩)) w.heap.size ⟨m, ev, h, a⟩) := Lib.hid ((HK3.out.below hb4).alloc _)
      have HX4 : Hid (Kb (w4.alloc (bo ⟨zm, ze, zh, za⟩)) p ⟨xm, xe, xh, xa⟩) := Lib.hid ((HX3.out.below hb4).alloc _)
      have HY4 : Hid (Kb (w4.alloc (bo ⟨zm, ze, zh, za⟩)) w4.heap.size ⟨zm, ze, zh, za⟩) := Lib.hid (Kb.new w4 _)
      have hb4' : Below w.heap.size w w4 := HB3.out.trans (hb4.mono HB3.out.size)
      have HB4 : Hid (Below w.heap.size w (w4.alloc (bo ⟨zm, ze, zh, za⟩))) := Lib.hid (bel_al hb4' hb4'.size _)
      clear hb4 hb4' HK3 HX3 HB3
      obtain ⟨x0, x1, x2, x3⟩ := HK4.out.cells
      go_wp2_with fail
      clear x0 x1 x2 x3
      obtain ⟨q, hq⟩ : ∃ q, q = w4.heap.size := ⟨_, rfl⟩
      rw [← hq] at HY4 ⊢
      clear hq
      generalize w4.alloc (bo ⟨zm, ze, zh, za⟩) = w5 at *
      refine (C3.out _).mono ?_
      rintro e w6 ⟨rfl, hb6⟩
      have HX6 : Hid (Kb (w6.alloc (bo ⟨zm, ze, zh, za⟩)) p ⟨xm, xe, xh, xa⟩) := Lib.hid ((HX4.out.below hb6).alloc _)
      have HY6 : Hid (Kb (w6.alloc (bo ⟨zm, ze, zh, za⟩)) q ⟨zm, ze, zh, za⟩) := Lib.hid ((HY4.out.below hb6).alloc _)
      have HZ6 : Hid (Kb (w6.alloc (bo ⟨zm, ze, zh, za⟩)) w6.heap.size ⟨zm, ze, zh, za⟩) := Lib.hid (Kb.new w6 _)
      have hb6' : Below w.heap.size w w6 := HB4.out.trans (hb6.mono HB4.out.size)
      have HB6 : Hid (Below w.heap.size w (w6.alloc (bo ⟨zm, ze, zh, za⟩))) := Lib.hid (bel_al hb6' hb6'.size _)
      clear hb6 hb6' HK4 HX4 HY4 HB4
      obtain ⟨x0, x1, x2, x3⟩ := HX6.out.cells
      obtain ⟨y0, y1, y2, y3⟩ := HY6.out.cells
      obtain ⟨z0, z1, z2, z3⟩ := HZ6.out.cells
      go_wp2
      go_ret
      exact ⟨rfl, HB6.out⟩
    · have q2 : (avE (adv b t) u 4 != 0) = true := by simpa using h2
      rw [av_bad h2] at C2
      clear h1 h2
      generalize avE (adv b t) u 4 = er at *
      generalize adv b t = x at *
      obtain ⟨m, ev, h, a⟩ := b
      obtain ⟨xm, xe, xh, xa⟩ := x
      go_enter Try.func4, Try.ntmps4
      go_wp2_with fail
      refine (C1.out _).mono ?_
      rintro e w1 ⟨rfl, hb1⟩
      have HX1 : Hid (Kb (w1.alloc (bo ⟨xm, xe, xh, xa⟩)) w1.heap.size ⟨xm, xe, xh, xa⟩) := Lib.hid (Kb.new w1 _)
      have hb1' : Below w.heap.size w w1 := HB0.out.trans (hb1.mono HB0.out.size)
      have HB1 : Hid (Below w.heap.size w (w1.alloc (bo ⟨xm, xe, xh, xa⟩))) := Lib.hid (bel_al hb1' hb1'.size _)
      clear hb1 hb1' x0 x1 x2 x3 HB0 HK0
      go_wp2_with fail
      obtain ⟨p, hp⟩ : ∃ p, p = w1.heap.size := ⟨_, rfl⟩
      rw [← hp] at HX1 ⊢
      clear hp
      generalize w1.alloc (bo ⟨xm, xe, xh, xa⟩) = w2 at *
      refine (HG.out _).mono ?_
      rintro e w3 ⟨rfl, hb3⟩
      have HX3 : Hid (Kb w3 p ⟨xm, xe, xh, xa⟩) := Lib.hid (HX1.out.below hb3)
      have HB3 : Hid (Below w.heap.size w w3) := Lib.hid (HB1.out.trans (hb3.mono HB1.out.size))
      clear hb3 HX1 HB1
      obtain ⟨x0, x1, x2, x3⟩ := HX3.out.cells
      go_wp2_with fail
      clear x0 x1 x2 x3
      refine (C2.out _).mono ?_
      rintro e w4 ⟨rfl, hb4⟩
      have hb4' : Below w.heap.size w w4 := HB3.out.trans (hb4.mono HB3.out.size)
      have HB4 : Hid (Below w.heap.size w (w4.alloc (bo nB))) := Lib.hid (bel_al hb4' hb4'.size _)
      have HY4 : Hid (Kb (w4.alloc (bo nB)) w4.heap.size nB) := Lib.hid (Kb.new w4 _)
      clear hb4 hb4' HX3 HB3
      obtain ⟨y0, y1, y2, y3⟩ := HY4.out.cells
      simp only [nB] at y0 y1 y2 y3 ⊢
      go_wp2
      go_ret
      exact ⟨rfl, HB4.out⟩
  · have q2 : (avE b t 4 != 0) = true := by simpa using h1
    rw [av_bad h1] at C1
    clear h1
    generalize avE b t 4 = er at *
    obtain ⟨m, ev, h, a⟩ := b
    go_enter Try.func4, Try.ntmps4
    go_wp2_with fail
    refine (C1.out _).mono ?_
    rintro e w1 ⟨rfl, hb1⟩
    have HX1 : Hid (Kb (w1.alloc (bo nB)) w1.heap.size nB) := Lib.hid (Kb.new w1 _)
    have hb1' : Below w.heap.size w w1 := HB0.out.trans (hb1.mono HB0.out.size)
    have HB1 : Hid (Below w.heap.size w (w1.alloc (bo nB))) := Lib.hid (bel_al hb1' hb1'.size _)
    clear hb1 hb1' x0 x1 x2 x3 HB0 HK0
    go_wp2_with fail
    obtain ⟨p, hp⟩ : ∃ p, p = w1.heap.size := ⟨_, rfl⟩
    rw [← hp] at HX1 ⊢
    clear hp
    generalize w1.alloc (bo nB) = w2 at *
    refine (HG.out _).mono ?_
    rintro e w3 ⟨rfl, hb3⟩
    have HX3 : Hid (Kb w3 p nB) := Lib.hid (HX1.out.below hb3)
    have HB3 : Hid (Below w.heap.size w w3) := Lib.hid (HB1.out.trans (hb3.mono HB1.out.size))
    clear hb3 HX1 HB1
    obtain ⟨x0, x1, x2, x3⟩ := HX3.out.cells
    simp only [nB] at x0 x1 x2 x3
    go_wp2
    go_ret
    exact ⟨rfl, HB3.out⟩

end Go.Proofs.Ytildmhfpjdmcbaa.Rat
