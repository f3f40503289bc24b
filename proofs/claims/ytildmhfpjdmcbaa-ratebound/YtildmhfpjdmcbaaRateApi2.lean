/-
  What Take and When of package rate return.
-/
import Derived.Test.YtildmhfpjdmcbaaRateApi
namespace Go.Proofs.Ytildmhfpjdmcbaa.Rat
open Go.RowKit
set_option linter.unusedVariables false
set_option maxRecDepth 100000

theorem tk_zero {b : Bk} {t n : Int} : tkE b t n = 0 ↔ (Ok b ∧ isTick t ∧ b.att ≤ t) ∧ isTok n := by
  unfold tkE
  by_cases h0 : avE b t 4 = 0
  · rw [if_pos h0]
    have hk := av_zero.1 h0
    by_cases h1 : isTok n
    · rw [if_pos h1]; exact ⟨fun _ => ⟨hk, h1⟩, fun _ => rfl⟩
    · rw [if_neg h1]; exact ⟨fun h => absurd h (by decide), fun h => absurd h.2 h1⟩
  · rw [if_neg h0]; exact ⟨fun h => absurd h h0, fun h => absurd (av_zero.2 h.1) h0⟩
theorem tk_bad {b : Bk} {t n e : Int} (h : tkE b t n = e) (h0 : e ≠ 0) : tkB b t n = nB ∧ tkI b t n = false := by
  have h1 : ¬ tkE b t n = 0 := by rw [h]; exact h0
  exact ⟨if_neg h1, if_neg h1⟩
theorem tk_no {b : Bk} {t n : Int} (h : tkE b t n = 0) (h0 : ¬ n ≤ (adv b t).has) : tkB b t n = adv b t ∧ tkI b t n = false := by
  unfold tkB tkI
  rw [if_pos h, if_pos h, if_neg h0]
  exact ⟨rfl, decide_eq_false h0⟩
theorem tk_yes {b : Bk} {t n : Int} (h : tkE b t n = 0) (h0 : n ≤ (adv b t).has) : tkB b t n = ⟨b.most, b.every, (adv b t).has - n, (adv b t).att⟩ ∧ tkI b t n = true := by
  unfold tkB tkI
  rw [if_pos h, if_pos h, if_pos h0]
  exact ⟨rfl, decide_eq_true h0⟩
theorem tk_ok {b : Bk} {t n : Int} (h : tkE b t n = 0) : Ok (tkB b t n) ∧ (tkB b t n).every = b.every ∧ (tkB b t n).most = b.most ∧ (tkB b t n).att ≤ t := by
  obtain ⟨⟨k0, k1, k2⟩, k3⟩ := tk_zero.1 h
  obtain ⟨a1, a2, a3, a4, a5, a6⟩ := adv_ok k0 k2 k1
  by_cases h0 : n ≤ (adv b t).has
  · rw [(tk_yes h h0).1]
    obtain ⟨o1, o2, o3, o4⟩ := a1
    have k4 := k3.1
    have k5 : (adv b t).has ≤ (adv b t).most := o3.2
    rw [a5] at k5
    exact ⟨⟨k0.1, k0.2.1, ⟨by show 0 ≤ (adv b t).has - n; omega, by show (adv b t).has - n ≤ b.most; omega⟩, o4⟩, rfl, rfl, a3⟩
  · rw [(tk_no h h0).1]
    exact ⟨a1, a4, a5, a3⟩

abbrev AvC (b : Bk) (t : Int) (c : Bk) (r : Int) : Prop := ∀ W : World, Calls Try.prog 8 #[bv b, .int .i64 t] W fun en w' => en = .returned (.tuple #[bv c, .int .i64 r]) ∧ Below W.heap.size W w'
abbrev TkC (b : Bk) (t n : Int) (c : Bk) (i : Bool) (r : Int) : Prop := ∀ W : World, Calls Try.prog 9 #[bv b, .int .i64 t, .int .i64 n] W fun en w' => en = .returned (.tuple #[bv c, .bool i, .int .i64 r]) ∧ Below W.heap.size W w'
abbrev TiC (t : Int) (r : Bool) : Prop := ∀ W : World, Calls Try.prog 16 #[.int .i64 t] W fun e w' => e = .returned (.bool r) ∧ W = w'
abbrev NuC (t : Int) (r : Bool) : Prop := ∀ W : World, Calls Try.prog 17 #[.int .i64 t] W fun e w' => e = .returned (.bool r) ∧ W = w'

set_option maxHeartbeats 8000000 in
theorem take_any (b : Bk) (t n : Int) (w : World) :
    Calls Try.prog 9 #[bv b, .int .i64 t, .int .i64 n] w fun en w' => en = .returned (.tuple #[bv (tkB b t n), .bool (tkI b t n), .int .i64 (tkE b t n)]) ∧ Below w.heap.size w w' := by
  have HC : Hid (AvC b t (avR b t) (avE b t 4)) := Lib.hid (fun W => advance_any b t W)
  have HN : Hid (NuC n (decide (isTok n))) := Lib.hid (fun W => isNumber_any n W)
  obtain ⟨hk0, hz0, hb0⟩ := box2 w b
  have HK0 := Lib.hid hk0
  have HZ0 := Lib.hid hz0
  have HB0 := Lib.hid hb0
  clear hk0 hz0 hb0
  obtain ⟨x0, x1, x2, x3⟩ := HK0.out.cells
  by_cases h0 : avE b t 4 = 0
  · obtain ⟨k0, k1, k2⟩ := av_zero.1 h0
    have hA := adv_ok k0 k2 k1
    have hR : avR b t = adv b t := av_good h0
    rw [h0, hR] at HC
    by_cases h1 : isTok n
    · have hE : tkE b t n = 0 := tk_zero.2 ⟨⟨k0, k1, k2⟩, h1⟩
      have p1 : decide (isTok n) = true := decide_eq_true h1
      by_cases h2 : (adv b t).has < n
      · obtain ⟨e1, e2⟩ := tk_no hE (show ¬ n ≤ (adv b t).has by omega)
        have p2 : decide ((adv b t).has < n) = true := by simpa using h2
        rw [hE, e1, e2]
        clear h0 h1 h2 e1 e2 hE hR hA k0 k1 k2
        generalize adv b t = c at *
        obtain ⟨m, ev, h, a⟩ := b
        obtain ⟨cm, ce, ch, ca⟩ := c
        go_enter Try.func9, Try.ntmps9
        go_wp2_with fail
        refine (HC.out _).mono ?_
        rintro en w1 ⟨rfl, hb1⟩
        have HK1 := Lib.hid (HK0.out.below hb1)
        have HZ1 := Lib.hid (HZ0.out.below hb1)
        have HB1 : Hid (Below w.heap.size w w1) := Lib.hid (HB0.out.trans (hb1.mono HB0.out.size))
        clear hb1 x0 x1 x2 x3
        obtain ⟨x0, x1, x2, x3⟩ := HK1.out.cells
        obtain ⟨y0, y1, y2, y3⟩ := HK1.out.free
        obtain ⟨z0, z1, z2, z3⟩ := HZ1.out.cells
        obtain ⟨u0, u1, u2, u3⟩ := HZ1.out.free
        go_wp2_with fail
        refine (HN.out _).mono ?_
        rintro en w2 ⟨rfl, rfl⟩
        go_wp2
        refine bodyPost_ret (v := .tuple #[bv ⟨cm, ce, ch, ca⟩, .bool false, .int .i64 0]) (by simp [results, Try.results9, go_sem, nB, z0, z1, z2, z3]) rfl ?_
        exact ⟨rfl, bel_set4 (bel_set4 HB1.out (Nat.le_refl _) _ _ _ _) (by omega) _ _ _ _⟩
      · obtain ⟨e1, e2⟩ := tk_yes hE (show n ≤ (adv b t).has by omega)
        have p2 : decide ((adv b t).has < n) = false := by simpa using h2
        have f1 : IntKind.i64.wrap ((adv b t).has - n) = (adv b t).has - n := by
          have a1 := hA.1.1.2
          have a2 := hA.1.2.2.1.2
          have a3 := h1.1
          rw [IntKind.wrap_i64]; omega
        have g1 : (adv b t).most = b.most := hA.2.2.2.2.1
        have g2 : (adv b t).every = b.every := hA.2.2.2.1
        rw [hE, e1, e2]
        clear h0 h1 h2 e1 e2 hE hR hA k0 k1 k2
        generalize adv b t = c at *
        obtain ⟨m, ev, h, a⟩ := b
        obtain ⟨cm, ce, ch, ca⟩ := c
        obtain rfl : cm = m := g1
        obtain rfl : ce = ev := g2
        go_enter Try.func9, Try.ntmps9
        go_wp2_with fail
        refine (HC.out _).mono ?_
        rintro en w1 ⟨rfl, hb1⟩
        have HK1 := Lib.hid (HK0.out.below hb1)
        have HZ1 := Lib.hid (HZ0.out.below hb1)
        have HB1 : Hid (Below w.heap.size w w1) := Lib.hid (HB0.out.trans (hb1.mono HB0.out.size))
        clear hb1 x0 x1 x2 x3
        obtain ⟨x0, x1, x2, x3⟩ := HK1.out.cells
        obtain ⟨y0, y1, y2, y3⟩ := HK1.out.free
        have HK2 : Hid (Kb ((((w1.setCell ⟨w.heap.size, 0, none⟩ (.int .i64 cm)).setCell ⟨w.heap.size, 1, none⟩ (.int .i64 ce)).setCell ⟨w.heap.size, 2, none⟩ (.int .i64 ch)).setCell ⟨w.heap.size, 3, none⟩ (.int .i64 ca)) w.heap.size ⟨cm, ce, ch, ca⟩) := Lib.hid (HK1.out.put ⟨cm, ce, ch, ca⟩)
        have HZ2 : Hid (Kb ((((w1.setCell ⟨w.heap.size, 0, none⟩ (.int .i64 cm)).setCell ⟨w.heap.size, 1, none⟩ (.int .i64 ce)).setCell ⟨w.heap.size, 2, none⟩ (.int .i64 ch)).setCell ⟨w.heap.size, 3, none⟩ (.int .i64 ca)) (w.heap.size + 1) nB) := Lib.hid (HZ1.out.other4 (by omega) _ _ _ _)
        have HB2 : Hid (Below w.heap.size w ((((w1.setCell ⟨w.heap.size, 0, none⟩ (.int .i64 cm)).setCell ⟨w.heap.size, 1, none⟩ (.int .i64 ce)).setCell ⟨w.heap.size, 2, none⟩ (.int .i64 ch)).setCell ⟨w.heap.size, 3, none⟩ (.int .i64 ca))) := Lib.hid (bel_set4 HB1.out (Nat.le_refl _) _ _ _ _)
        go_wp2_with fail
        refine (HN.out _).mono ?_
        rintro en w2 ⟨rfl, rfl⟩
        clear x0 x1 x2 x3 y0 y1 y2 y3
        generalize ((((w1.setCell ⟨w.heap.size, 0, none⟩ (.int .i64 cm)).setCell ⟨w.heap.size, 1, none⟩ (.int .i64 ce)).setCell ⟨w.heap.size, 2, none⟩ (.int .i64 ch)).setCell ⟨w.heap.size, 3, none⟩ (.int .i64 ca)) = w2 at *
        obtain ⟨x0, x1, x2, x3⟩ := HK2.out.cells
        obtain ⟨y0, y1, y2, y3⟩ := HK2.out.free
        obtain ⟨z0, z1, z2, z3⟩ := HZ2.out.cells
        obtain ⟨u0, u1, u2, u3⟩ := HZ2.out.free
        go_wp2
        refine bodyPost_ret (v := .tuple #[bv ⟨cm, ce, ch - n, ca⟩, .bool true, .int .i64 0]) (by simp [results, Try.results9, go_sem, nB, z0, z1, z2, z3]) rfl ?_
        exact ⟨rfl, bel_set4 (bel_set HB2.out (Nat.le_refl _) _) (by omega) _ _ _ _⟩
    · have hE : tkE b t n = 3 := by unfold tkE; rw [if_pos h0, if_neg h1]
      obtain ⟨e1, e2⟩ := tk_bad hE (by decide)
      have p1 : decide (isTok n) = false := decide_eq_false h1
      rw [hE, e1, e2]
      clear h0 h1 e1 e2 hE hR hA k0 k1 k2
      generalize adv b t = c at *
      obtain ⟨m, ev, h, a⟩ := b
      obtain ⟨cm, ce, ch, ca⟩ := c
      go_enter Try.func9, Try.ntmps9
      go_wp2_with fail
      refine (HC.out _).mono ?_
      rintro en w1 ⟨rfl, hb1⟩
      have HK1 := Lib.hid (HK0.out.below hb1)
      have HZ1 := Lib.hid (HZ0.out.below hb1)
      have HB1 : Hid (Below w.heap.size w w1) := Lib.hid (HB0.out.trans (hb1.mono HB0.out.size))
      clear hb1 x0 x1 x2 x3
      obtain ⟨x0, x1, x2, x3⟩ := HK1.out.cells
      obtain ⟨y0, y1, y2, y3⟩ := HK1.out.free
      obtain ⟨z0, z1, z2, z3⟩ := HZ1.out.cells
      obtain ⟨u0, u1, u2, u3⟩ := HZ1.out.free
      go_wp2_with fail
      refine (HN.out _).mono ?_
      rintro en w2 ⟨rfl, rfl⟩
      go_wp2
      refine bodyPost_ret (v := .tuple #[bv nB, .bool false, .int .i64 3]) (by simp [results, Try.results9, go_sem, nB, z0, z1, z2, z3]) rfl ?_
      exact ⟨rfl, bel_set4 (bel_set4 HB1.out (Nat.le_refl _) _ _ _ _) (by omega) _ _ _ _⟩
  · have hE : tkE b t n = avE b t 4 := if_neg h0
    obtain ⟨e1, e2⟩ := tk_bad hE h0
    have q : (avE b t 4 != 0) = true := by simpa using h0
    rw [hE, e1, e2]
    clear h0 e1 e2 hE
    generalize avE b t 4 = er at *
    generalize avR b t = c at *
    obtain ⟨m, ev, h, a⟩ := b
    obtain ⟨cm, ce, ch, ca⟩ := c
    go_enter Try.func9, Try.ntmps9
    go_wp2_with fail
    refine (HC.out _).mono ?_
    rintro en w1 ⟨rfl, hb1⟩
    have HK1 := Lib.hid (HK0.out.below hb1)
    have HZ1 := Lib.hid (HZ0.out.below hb1)
    have HB1 : Hid (Below w.heap.size w w1) := Lib.hid (HB0.out.trans (hb1.mono HB0.out.size))
    clear hb1 x0 x1 x2 x3
    obtain ⟨x0, x1, x2, x3⟩ := HK1.out.cells
    obtain ⟨y0, y1, y2, y3⟩ := HK1.out.free
    obtain ⟨z0, z1, z2, z3⟩ := HZ1.out.cells
    obtain ⟨u0, u1, u2, u3⟩ := HZ1.out.free
    go_wp2
    refine bodyPost_ret (v := .tuple #[bv nB, .bool false, .int .i64 er]) (by simp [results, Try.results9, go_sem, nB, z0, z1, z2, z3]) rfl ?_
    exact ⟨rfl, bel_set4 (bel_set4 HB1.out (Nat.le_refl _) _ _ _ _) (by omega) _ _ _ _⟩

/-! ### When -/
theorem wh_bad {b : Bk} {t n e : Int} (h : tkE b t n = e) (h0 : e ≠ 0) : whE b t n = e ∧ whV b t n = 0 := by
  have h1 : whE b t n = e := by unfold whE; rw [if_neg (by rw [h]; exact h0), h]
  exact ⟨h1, if_neg (by rw [h1]; exact h0)⟩
theorem wh_yes {b : Bk} {t n : Int} (h : tkE b t n = 0) (h0 : n ≤ (adv b t).has) : whE b t n = 0 ∧ whV b t n = t := by
  obtain ⟨⟨k0, k1, k2⟩, k3⟩ := tk_zero.1 h
  obtain ⟨a1, a2, a3, a4, a5, a6⟩ := adv_ok k0 k2 k1
  have hw : whn b t n = t := if_pos h0
  have hm : n ≤ b.most := by have := a1.2.2.1.2; omega
  have h1 : whE b t n = 0 := by unfold whE; rw [if_pos h, if_pos ⟨hm, by rw [hw]; exact k1⟩]
  exact ⟨h1, by unfold whV; rw [if_pos h1, hw]⟩
theorem wh_none {b : Bk} {t n : Int} (h : tkE b t n = 0) (h0 : ¬ (n ≤ b.most ∧ isTick (whn b t n))) : whE b t n = 5 ∧ whV b t n = 0 := by
  have h1 : whE b t n = 5 := by unfold whE; rw [if_pos h, if_neg h0]
  exact ⟨h1, if_neg (by rw [h1]; decide)⟩
theorem wh_then {b : Bk} {t n : Int} (h : tkE b t n = 0) (h0 : n ≤ b.most ∧ isTick (whn b t n)) : whE b t n = 0 ∧ whV b t n = whn b t n := by
  have h1 : whE b t n = 0 := by unfold whE; rw [if_pos h, if_pos h0]
  exact ⟨h1, by unfold whV; rw [if_pos h1]⟩
theorem small_whn {b : Bk} {t n : Int} (h : tkE b t n = 0) (h0 : ¬ n ≤ (adv b t).has) :
    IntKind.i64.wrap (n - (adv b t).has) = n - (adv b t).has ∧ IntKind.i64.wrap ((n - (adv b t).has) * (adv b t).every) = (n - (adv b t).has) * (adv b t).every ∧ IntKind.i64.wrap ((adv b t).att + (n - (adv b t).has) * (adv b t).every) = whn b t n := by
  obtain ⟨⟨k0, k1, k2⟩, k3⟩ := tk_zero.1 h
  obtain ⟨a1, a2, a3, a4, a5, a6⟩ := adv_ok k0 k2 k1
  have hw : whn b t n = (adv b t).att + (n - (adv b t).has) * (adv b t).every := by rw [a4]; exact if_neg h0
  obtain ⟨o1, o2, o3, o4⟩ := a1
  have l1 := o2.1
  have l2 := o2.2
  have l3 := o3.1
  have l4 := o4.1
  have l5 := o4.2
  have l6 := k3.2
  have m1 : (n - (adv b t).has) * (adv b t).every ≤ 1048576 * 1048576 := Int.mul_le_mul (by omega) l2 (by omega) (by omega)
  have m2 : 0 ≤ (n - (adv b t).has) * (adv b t).every := Int.mul_nonneg (by omega) (by omega)
  rw [hw]
  generalize (n - (adv b t).has) * (adv b t).every = y at *
  refine ⟨?_, ?_, ?_⟩
  · rw [IntKind.wrap_i64]; omega
  · rw [IntKind.wrap_i64]; omega
  · rw [IntKind.wrap_i64]; omega

set_option maxHeartbeats 8000000 in
theorem when_any (b : Bk) (t n : Int) (w : World) :
    Calls Try.prog 10 #[bv b, .int .i64 t, .int .i64 n] w fun en w' => en = .returned (.tuple #[.int .i64 (whV b t n), .int .i64 (whE b t n)]) ∧ Below w.heap.size w w' := by
  have HC : Hid (TkC b t n (tkB b t n) (tkI b t n) (tkE b t n)) := Lib.hid (fun W => take_any b t n W)
  have HK0 : Hid (Kb (w.alloc (bo b)) w.heap.size b) := Lib.hid (Kb.new w b)
  have HB0 : Hid (Below w.heap.size w (w.alloc (bo b))) := Lib.hid (bel_al (Below.refl _ _) (Nat.le_refl _) _)
  obtain ⟨x0, x1, x2, x3⟩ := HK0.out.cells
  by_cases h0 : tkE b t n = 0
  · have hM := (tk_ok h0).2.2.1
    by_cases h1 : n ≤ (adv b t).has
    · obtain ⟨e1, e2⟩ := tk_yes h0 h1
      obtain ⟨e3, e4⟩ := wh_yes h0 h1
      rw [h0, e2] at HC
      rw [e3, e4]
      clear h0 h1 e1 e2 e3 e4 hM
      generalize tkB b t n = c at *
      obtain ⟨m, ev, h, a⟩ := b
      obtain ⟨cm, ce, ch, ca⟩ := c
      go_enter Try.func10, Try.ntmps10
      go_wp2_with fail
      refine (HC.out _).mono ?_
      rintro en w1 ⟨rfl, hb1⟩
      have HK1 := Lib.hid (HK0.out.below hb1)
      have HB1 : Hid (Below w.heap.size w w1) := Lib.hid (HB0.out.trans (hb1.mono HB0.out.size))
      clear hb1 x0 x1 x2 x3
      obtain ⟨x0, x1, x2, x3⟩ := HK1.out.cells
      obtain ⟨y0, y1, y2, y3⟩ := HK1.out.free
      go_wp2
      refine bodyPost_ret (v := .tuple #[.int .i64 t, .int .i64 0]) (by simp [results, Try.results10, go_sem]) rfl ?_
      exact ⟨rfl, bel_set4 HB1.out (Nat.le_refl _) _ _ _ _⟩
    · obtain ⟨e1, e2⟩ := tk_no h0 h1
      obtain ⟨f1, f2, f3⟩ := small_whn h0 h1
      rw [h0, e1, e2] at HC
      rw [e1] at hM
      by_cases h2 : b.most < n
      · obtain ⟨e3, e4⟩ := wh_none h0 (fun k => by omega)
        have p2 : decide ((adv b t).most < n) = true := by rw [hM]; simpa using h2
        rw [e3, e4]
        clear h0 h1 h2 e1 e2 e3 e4 hM
        generalize whn b t n = T at *
        generalize adv b t = c at *
        obtain ⟨m, ev, h, a⟩ := b
        obtain ⟨cm, ce, ch, ca⟩ := c
        go_enter Try.func10, Try.ntmps10
        go_wp2_with fail
        refine (HC.out _).mono ?_
        rintro en w1 ⟨rfl, hb1⟩
        have HK1 := Lib.hid (HK0.out.below hb1)
        have HB1 : Hid (Below w.heap.size w w1) := Lib.hid (HB0.out.trans (hb1.mono HB0.out.size))
        clear hb1 x0 x1 x2 x3
        obtain ⟨x0, x1, x2, x3⟩ := HK1.out.cells
        obtain ⟨y0, y1, y2, y3⟩ := HK1.out.free
        go_wp2
        refine bodyPost_ret (v := .tuple #[.int .i64 0, .int .i64 5]) (by simp [results, Try.results10, go_sem]) rfl ?_
        exact ⟨rfl, bel_set4 HB1.out (Nat.le_refl _) _ _ _ _⟩
      · have p2 : decide ((adv b t).most < n) = false := by rw [hM]; simpa using h2
        have HT : Hid (TiC (whn b t n) (decide (isTick (whn b t n)))) := Lib.hid (fun W => isTick_any _ W)
        by_cases h3 : isTick (whn b t n)
        · obtain ⟨e3, e4⟩ := wh_then h0 ⟨by omega, h3⟩
          have p3 : decide (isTick (whn b t n)) = true := decide_eq_true h3
          rw [e3, e4]
          rw [p3] at HT
          clear h0 h1 h2 e1 e2 e3 e4 hM h3 p3
          generalize whn b t n = T at *
          generalize adv b t = c at *
          obtain ⟨m, ev, h, a⟩ := b
          obtain ⟨cm, ce, ch, ca⟩ := c
          go_enter Try.func10, Try.ntmps10
          go_wp2_with fail
          refine (HC.out _).mono ?_
          rintro en w1 ⟨rfl, hb1⟩
          have HK1 := Lib.hid (HK0.out.below hb1)
          have HB1 : Hid (Below w.heap.size w w1) := Lib.hid (HB0.out.trans (hb1.mono HB0.out.size))
          clear hb1 x0 x1 x2 x3
          obtain ⟨x0, x1, x2, x3⟩ := HK1.out.cells
          obtain ⟨y0, y1, y2, y3⟩ := HK1.out.free
          go_wp2_with fail
          refine (HT.out _).mono ?_
          rintro en w2 ⟨rfl, rfl⟩
          go_wp2
          refine bodyPost_ret (v := .tuple #[.int .i64 T, .int .i64 0]) (by simp [results, Try.results10, go_sem]) rfl ?_
          exact ⟨rfl, bel_set4 HB1.out (Nat.le_refl _) _ _ _ _⟩
        · obtain ⟨e3, e4⟩ := wh_none h0 (fun k => h3 k.2)
          have p3 : decide (isTick (whn b t n)) = false := decide_eq_false h3
          rw [e3, e4]
          rw [p3] at HT
          clear h0 h1 h2 e1 e2 e3 e4 hM h3 p3
          generalize whn b t n = T at *
          generalize adv b t = c at *
          obtain ⟨m, ev, h, a⟩ := b
          obtain ⟨cm, ce, ch, ca⟩ := c
          go_enter Try.func10, Try.ntmps10
          go_wp2_with fail
          refine (HC.out _).mono ?_
          rintro en w1 ⟨rfl, hb1⟩
          have HK1 := Lib.hid (HK0.out.below hb1)
          have HB1 : Hid (Below w.heap.size w w1) := Lib.hid (HB0.out.trans (hb1.mono HB0.out.size))
          clear hb1 x0 x1 x2 x3
          obtain ⟨x0, x1, x2, x3⟩ := HK1.out.cells
          obtain ⟨y0, y1, y2, y3⟩ := HK1.out.free
          go_wp2_with fail
          refine (HT.out _).mono ?_
          rintro en w2 ⟨rfl, rfl⟩
          go_wp2
          refine bodyPost_ret (v := .tuple #[.int .i64 0, .int .i64 5]) (by simp [results, Try.results10, go_sem]) rfl ?_
          exact ⟨rfl, bel_set4 HB1.out (Nat.le_refl _) _ _ _ _⟩
  · have h1 := h0
    obtain ⟨er, her⟩ : ∃ er, er = tkE b t n := ⟨_, rfl⟩
    rw [← her] at h1
    obtain ⟨e1, e2⟩ := wh_bad her.symm h1
    have q : (er != 0) = true := by simpa using h1
    rw [e1, e2]
    rw [← her] at HC
    clear h0 h1 e1 e2 her
    generalize tkB b t n = c at *
    generalize tkI b t n = i at *
    obtain ⟨m, ev, h, a⟩ := b
    obtain ⟨cm, ce, ch, ca⟩ := c
    go_enter Try.func10, Try.ntmps10
    go_wp2_with fail
    refine (HC.out _).mono ?_
    rintro en w1 ⟨rfl, hb1⟩
    have HK1 := Lib.hid (HK0.out.below hb1)
    have HB1 : Hid (Below w.heap.size w w1) := Lib.hid (HB0.out.trans (hb1.mono HB0.out.size))
    clear hb1 x0 x1 x2 x3
    obtain ⟨x0, x1, x2, x3⟩ := HK1.out.cells
    obtain ⟨y0, y1, y2, y3⟩ := HK1.out.free
    go_wp2
    refine bodyPost_ret (v := .tuple #[.int .i64 0, .int .i64 er]) (by simp [results, Try.results10, go_sem]) rfl ?_
    exact ⟨rfl, bel_set4 HB1.out (Nat.le_refl _) _ _ _ _⟩

end Go.Proofs.Ytildmhfpjdmcbaa.Rat
