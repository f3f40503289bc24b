/-
  What New, Advance, Take and When of package rate return.
-/
import Derived.Test.YtildmhfpjdmcbaaRateMem
namespace Go.Proofs.Ytildmhfpjdmcbaa.Rat
open Go.RowKit
set_option linter.unusedVariables false
set_option maxRecDepth 100000

/-! ### The answers -/
def nwB (m e t : Int) : Bk := if ckE ⟨m, e, m, t⟩ = 0 then ⟨m, e, m, t⟩ else nB
def avR (b : Bk) (t : Int) : Bk := if avE b t 4 = 0 then adv b t else nB
def tkE (b : Bk) (t n : Int) : Int := if avE b t 4 = 0 then (if isTok n then 0 else 3) else avE b t 4
def tkB (b : Bk) (t n : Int) : Bk := if tkE b t n = 0 then (if n ≤ (adv b t).has then ⟨b.most, b.every, (adv b t).has - n, (adv b t).att⟩ else adv b t) else nB
def tkI (b : Bk) (t n : Int) : Bool := if tkE b t n = 0 then decide (n ≤ (adv b t).has) else false
def whE (b : Bk) (t n : Int) : Int := if tkE b t n = 0 then (if n ≤ b.most ∧ isTick (whn b t n) then 0 else 5) else tkE b t n
def whV (b : Bk) (t n : Int) : Int := if whE b t n = 0 then whn b t n else 0

theorem av_zero {b : Bk} {t : Int} : avE b t 4 = 0 ↔ Ok b ∧ isTick t ∧ b.att ≤ t := by
  unfold avE
  by_cases h0 : ckE b = 0
  · rw [if_pos h0]
    have hk := check_zero.1 h0
    by_cases h1 : isTick t
    · rw [if_pos h1]
      by_cases h2 : t < b.att
      · rw [if_pos h2]; exact ⟨fun h => absurd h (by decide), fun h => by omega⟩
      · rw [if_neg h2]; exact ⟨fun _ => ⟨hk, h1, by omega⟩, fun _ => rfl⟩
    · rw [if_neg h1]; exact ⟨fun h => absurd h (by decide), fun h => absurd h.2.1 h1⟩
  · rw [if_neg h0]; exact ⟨fun h => absurd h h0, fun h => absurd (check_zero.2 h.1) h0⟩
theorem av_bad {b : Bk} {t : Int} (h : avE b t 4 ≠ 0) : avR b t = nB := if_neg h
theorem av_good {b : Bk} {t : Int} (h : avE b t 4 = 0) : avR b t = adv b t := if_pos h

set_option maxHeartbeats 4000000 in
theorem new_any (m e t : Int) (w : World) :
    Calls Try.prog 7 #[.int .i64 m, .int .i64 e, .int .i64 t] w fun en w' => en = .returned (.tuple #[bv (nwB m e t), .int .i64 (ckE ⟨m, e, m, t⟩)]) ∧ Below w.heap.size w w' := by
  have HK0 : Hid (Kb ((w.alloc (bo nB)).alloc (bo ⟨m, e, m, t⟩)) (w.heap.size + 1) ⟨m, e, m, t⟩) := Lib.hid (by
    have := Kb.new (w.alloc (bo nB)) ⟨m, e, m, t⟩
    rwa [show (w.alloc (bo nB)).heap.size = w.heap.size + 1 by simp] at this)
  have HZ0 : Hid (Kb ((w.alloc (bo nB)).alloc (bo ⟨m, e, m, t⟩)) w.heap.size nB) := Lib.hid ((Kb.new w nB).alloc _)
  have HB0 : Hid (Below w.heap.size w ((w.alloc (bo nB)).alloc (bo ⟨m, e, m, t⟩))) := Lib.hid (bel_al (bel_al (Below.refl _ _) (Nat.le_refl _) _) (by simp) _)
  have HC : Hid (∀ W : World, Calls Try.prog 15 #[bv ⟨m, e, m, t⟩] W fun en w' => en = .returned (.int .i64 (ckE ⟨m, e, m, t⟩)) ∧ Below W.heap.size W w') := Lib.hid (fun W => check_any ⟨m, e, m, t⟩ W)
  obtain ⟨x0, x1, x2, x3⟩ := HK0.out.cells
  by_cases h0 : ckE ⟨m, e, m, t⟩ = 0
  · have HE : Hid (nwB m e t = ⟨m, e, m, t⟩) := Lib.hid (if_pos h0)
    rw [h0] at HC ⊢
    clear h0
    go_enter Try.func7, Try.ntmps7
    go_wp2_with fail
    refine (HC.out _).mono ?_
    rintro en w1 ⟨rfl, hb1⟩
    have HK1 := Lib.hid (HK0.out.below hb1)
    have HZ1 := Lib.hid (HZ0.out.below hb1)
    have HB1 : Hid (Below w.heap.size w w1) := Lib.hid (HB0.out.trans (hb1.mono HB0.out.size))
    clear hb1 x0 x1 x2 x3
    obtain ⟨x0, x1, x2, x3⟩ := HK1.out.cells
    obtain ⟨z0, z1, z2, z3⟩ := HZ1.out.cells
    obtain ⟨u0, u1, u2, u3⟩ := HZ1.out.free
    go_wp2
    refine bodyPost_ret (v := .tuple #[bv ⟨m, e, m, t⟩, .int .i64 0]) (by simp [results, Try.results7, go_sem, nB, z0, z1, z2, z3]) rfl ?_
    exact ⟨by rw [HE.out], bel_set4 HB1.out (Nat.le_refl _) _ _ _ _⟩
  · have HE : Hid (nwB m e t = nB) := Lib.hid (if_neg h0)
    have q : (ckE ⟨m, e, m, t⟩ != 0) = true := by simpa using h0
    clear h0
    go_enter Try.func7, Try.ntmps7
    go_wp2_with fail
    refine (HC.out _).mono ?_
    rintro en w1 ⟨rfl, hb1⟩
    have HZ1 := Lib.hid (HZ0.out.below hb1)
    have HB1 : Hid (Below w.heap.size w w1) := Lib.hid (HB0.out.trans (hb1.mono HB0.out.size))
    clear hb1 x0 x1 x2 x3
    obtain ⟨z0, z1, z2, z3⟩ := HZ1.out.cells
    obtain ⟨u0, u1, u2, u3⟩ := HZ1.out.free
    go_wp2
    refine bodyPost_ret (v := .tuple #[bv nB, .int .i64 (ckE ⟨m, e, m, t⟩)]) (by simp [results, Try.results7, go_sem, nB, z0, z1, z2, z3]) rfl ?_
    exact ⟨by rw [HE.out], bel_set4 HB1.out (Nat.le_refl _) _ _ _ _⟩

/-! ### Advance -/
/-- Numbers of an advance stay small. -/
theorem small_adv {b : Bk} {t : Int} (h : Ok b) (ht : b.att ≤ t) (h2 : isTick t) : IntKind.i64.wrap (t - b.att) = t - b.att ∧ IntKind.i64.wrap ((t - b.att).tdiv b.every) = got b t ∧ IntKind.i64.wrap (b.has + got b t) = b.has + got b t ∧ IntKind.i64.wrap (got b t * b.every) = got b t * b.every ∧ IntKind.i64.wrap (b.att + got b t * b.every) = b.att + got b t * b.every := by
  have hg := got_nonneg h ht
  have hl := got_le (t := t) h
  have he := h.ev
  have hc : got b t * b.every = b.every * got b t := Int.mul_comm _ _
  have h0 : 0 ≤ b.every * got b t := Int.mul_nonneg (Int.le_of_lt he) hg
  have hk : got b t ≤ b.every * got b t := by
    have := Int.mul_le_mul_of_nonneg_right (show 1 ≤ b.every by omega) hg
    omega
  obtain ⟨h1, h3, h4, h5⟩ := id h
  have a1 := h1.2
  have a2 := h2.2
  have a3 := h5.1
  have hd : (t - b.att).tdiv b.every = got b t := Int.tdiv_eq_ediv_of_nonneg (by omega)
  refine ⟨?_, ?_, ?_, ?_, ?_⟩
  · rw [IntKind.wrap_i64]; omega
  · rw [hd, IntKind.wrap_i64]; omega
  · rw [IntKind.wrap_i64]; omega
  · rw [IntKind.wrap_i64]; omega
  · rw [IntKind.wrap_i64]; omega

/-- What is asked of a call of Check at a bucket that is good. -/
abbrev CkC (b : Bk) (r : Int) : Prop := ∀ W : World, Calls Try.prog 15 #[bv b] W fun en w' => en = .returned (.int .i64 r) ∧ Below W.heap.size W w'

set_option maxHeartbeats 8000000 in
theorem advance_any (b : Bk) (t : Int) (w : World) :
    Calls Try.prog 8 #[bv b, .int .i64 t] w fun en w' => en = .returned (.tuple #[bv (avR b t), .int .i64 (avE b t 4)]) ∧ Below w.heap.size w w' := by
  have HC : Hid (CkC b (ckE b)) := Lib.hid (fun W => check_any b W)
  obtain ⟨hk0, hz0, hb0⟩ := box2 w b
  have HK0 := Lib.hid hk0
  have HZ0 := Lib.hid hz0
  have HB0 := Lib.hid hb0
  clear hk0 hz0 hb0
  have HT : Hid (∀ W : World, Calls Try.prog 16 #[.int .i64 t] W fun e w' => e = .returned (.bool (decide (isTick t))) ∧ W = w') := Lib.hid (fun W => isTick_any t W)
  obtain ⟨x0, x1, x2, x3⟩ := HK0.out.cells
  by_cases h0 : ckE b = 0
  · have HOk := Lib.hid (check_zero.1 h0)
    rw [h0] at HC
    by_cases h1 : isTick t
    · have p1 : decide (isTick t) = true := decide_eq_true h1
      by_cases h2 : t < b.att
      · have p2 : decide (t < b.att) = true := by simpa using h2
        have HE : Hid (avE b t 4 = 4) := Lib.hid (by unfold avE; rw [if_pos h0, if_pos h1, if_pos h2])
        clear h0 h1 h2
        obtain ⟨m, ev, h, a⟩ := b
        go_enter Try.func8, Try.ntmps8
        go_wp2_with fail
        refine (HC.out _).mono ?_
        rintro en w1 ⟨rfl, hb1⟩
        have HK1 := Lib.hid (HK0.out.below hb1)
        have HZ1 := Lib.hid (HZ0.out.below hb1)
        have HB1 : Hid (Below w.heap.size w w1) := Lib.hid (HB0.out.trans (hb1.mono HB0.out.size))
        clear hb1 x0 x1 x2 x3
        go_wp2_with fail
        refine (HT.out _).mono ?_
        rintro en w2 ⟨rfl, rfl⟩
        obtain ⟨x0, x1, x2, x3⟩ := HK1.out.cells
        obtain ⟨z0, z1, z2, z3⟩ := HZ1.out.cells
        obtain ⟨u0, u1, u2, u3⟩ := HZ1.out.free
        go_wp2
        refine bodyPost_ret (v := .tuple #[bv nB, .int .i64 4]) (by simp [results, Try.results8, go_sem, nB, z0, z1, z2, z3]) rfl ?_
        exact ⟨by rw [HE.out, av_bad (by rw [HE.out]; decide)], bel_set4 HB1.out (by omega) _ _ _ _⟩
      · have p2 : decide (t < b.att) = false := by simpa using h2
        have HE : Hid (avE b t 4 = 0) := Lib.hid (by unfold avE; rw [if_pos h0, if_pos h1, if_neg h2])
        obtain ⟨f1, f2, f3, f4, f5⟩ := small_adv HOk.out (by omega) h1
        have hev := HOk.out.ev
        have p3 : ¬ b.every = 0 := by omega
        have hA : avR b t = adv b t := av_good HE.out
        by_cases h3 : b.most ≤ b.has + got b t
        · have p4 : decide (b.most ≤ b.has + got b t) = true := by simpa using h3
          have HA : Hid (avR b t = ⟨b.most, b.every, b.most, t⟩) := Lib.hid (by rw [hA]; unfold adv; rw [if_pos h3])
          clear h0 h1 h2 h3 hA hev f4 f5
          obtain ⟨m, ev, h, a⟩ := b
          generalize got ⟨m, ev, h, a⟩ t = g at *
          go_enter Try.func8, Try.ntmps8
          go_wp2_with fail
          refine (HC.out _).mono ?_
          rintro en w1 ⟨rfl, hb1⟩
          have HK1 := Lib.hid (HK0.out.below hb1)
          have HZ1 := Lib.hid (HZ0.out.below hb1)
          have HB1 : Hid (Below w.heap.size w w1) := Lib.hid (HB0.out.trans (hb1.mono HB0.out.size))
          clear hb1 x0 x1 x2 x3
          go_wp2_with fail
          refine (HT.out _).mono ?_
          rintro en w2 ⟨rfl, rfl⟩
          obtain ⟨x0, x1, x2, x3⟩ := HK1.out.cells
          obtain ⟨y0, y1, y2, y3⟩ := HK1.out.free
          obtain ⟨z0, z1, z2, z3⟩ := HZ1.out.cells
          obtain ⟨u0, u1, u2, u3⟩ := HZ1.out.free
          go_wp2
          refine bodyPost_ret (v := .tuple #[bv ⟨m, ev, m, t⟩, .int .i64 0]) (by simp [results, Try.results8, go_sem, nB, z0, z1, z2, z3]) rfl ?_
          exact ⟨by rw [HE.out, HA.out], bel_set4 (bel_set (bel_set HB1.out (Nat.le_refl _) _) (Nat.le_refl _) _) (by omega) _ _ _ _⟩
        · have p4 : decide (b.most ≤ b.has + got b t) = false := by simpa using h3
          have HA : Hid (avR b t = ⟨b.most, b.every, b.has + got b t, b.att + got b t * b.every⟩) := Lib.hid (by rw [hA]; unfold adv; rw [if_neg h3])
          clear h0 h1 h2 h3 hA hev
          obtain ⟨m, ev, h, a⟩ := b
          generalize got ⟨m, ev, h, a⟩ t = g at *
          go_enter Try.func8, Try.ntmps8
          go_wp2_with fail
          refine (HC.out _).mono ?_
          rintro en w1 ⟨rfl, hb1⟩
          have HK1 := Lib.hid (HK0.out.below hb1)
          have HZ1 := Lib.hid (HZ0.out.below hb1)
          have HB1 : Hid (Below w.heap.size w w1) := Lib.hid (HB0.out.trans (hb1.mono HB0.out.size))
          clear hb1 x0 x1 x2 x3
          go_wp2_with fail
          refine (HT.out _).mono ?_
          rintro en w2 ⟨rfl, rfl⟩
          obtain ⟨x0, x1, x2, x3⟩ := HK1.out.cells
          obtain ⟨y0, y1, y2, y3⟩ := HK1.out.free
          obtain ⟨z0, z1, z2, z3⟩ := HZ1.out.cells
          obtain ⟨u0, u1, u2, u3⟩ := HZ1.out.free
          go_wp2
          refine bodyPost_ret (v := .tuple #[bv ⟨m, ev, h + g, a + g * ev⟩, .int .i64 0]) (by simp [results, Try.results8, go_sem, nB, z0, z1, z2, z3]) rfl ?_
          exact ⟨by rw [HE.out, HA.out], bel_set4 (bel_set (bel_set HB1.out (Nat.le_refl _) _) (Nat.le_refl _) _) (by omega) _ _ _ _⟩
    · have p1 : decide (isTick t) = false := decide_eq_false h1
      have HE : Hid (avE b t 4 = 3) := Lib.hid (by unfold avE; rw [if_pos h0, if_neg h1])
      clear h0 h1
      obtain ⟨m, ev, h, a⟩ := b
      go_enter Try.func8, Try.ntmps8
      go_wp2_with fail
      refine (HC.out _).mono ?_
      rintro en w1 ⟨rfl, hb1⟩
      have HZ1 := Lib.hid (HZ0.out.below hb1)
      have HB1 : Hid (Below w.heap.size w w1) := Lib.hid (HB0.out.trans (hb1.mono HB0.out.size))
      clear hb1 x0 x1 x2 x3
      go_wp2_with fail
      refine (HT.out _).mono ?_
      rintro en w2 ⟨rfl, rfl⟩
      obtain ⟨z0, z1, z2, z3⟩ := HZ1.out.cells
      obtain ⟨u0, u1, u2, u3⟩ := HZ1.out.free
      go_wp2
      refine bodyPost_ret (v := .tuple #[bv nB, .int .i64 3]) (by simp [results, Try.results8, go_sem, nB, z0, z1, z2, z3]) rfl ?_
      exact ⟨by rw [HE.out, av_bad (by rw [HE.out]; decide)], bel_set4 HB1.out (by omega) _ _ _ _⟩
  · have HE : Hid (avE b t 4 = ckE b) := Lib.hid (if_neg h0)
    have H0 := Lib.hid h0
    have q : (ckE b != 0) = true := by simpa using h0
    clear h0
    generalize ckE b = c at *
    obtain ⟨m, ev, h, a⟩ := b
    go_enter Try.func8, Try.ntmps8
    go_wp2_with fail
    refine (HC.out _).mono ?_
    rintro en w1 ⟨rfl, hb1⟩
    have HZ1 := Lib.hid (HZ0.out.below hb1)
    have HB1 : Hid (Below w.heap.size w w1) := Lib.hid (HB0.out.trans (hb1.mono HB0.out.size))
    clear hb1 x0 x1 x2 x3
    obtain ⟨z0, z1, z2, z3⟩ := HZ1.out.cells
    obtain ⟨u0, u1, u2, u3⟩ := HZ1.out.free
    go_wp2
    refine bodyPost_ret (v := .tuple #[bv nB, .int .i64 c]) (by simp [results, Try.results8, go_sem, nB, z0, z1, z2, z3]) rfl ?_
    exact ⟨by rw [HE.out, av_bad (by rw [HE.out]; exact H0.out)], bel_set4 HB1.out (by omega) _ _ _ _⟩

end Go.Proofs.Ytildmhfpjdmcbaa.Rat
