/-
  The walk of the law that compares package rate with its reference.
-/
import Derived.Test.YtildmhfpjdmcbaaRateRef
import Derived.Deep.RegionHeld3
import Derived.Deep.DeepCutAuto
namespace Go.Proofs.Ytildmhfpjdmcbaa.Rat
open Go.RowKit
set_option linter.unusedVariables false
set_option maxRecDepth 100000

/-- How the answers of Advance, Take and When hang together. -/
def SF (b : Bk) (t n : Int) (X Y : Bk) (yi : Bool) (ae ye wv we : Int) : Prop :=
  (ae ≠ 0 ∧ X = nB ∧ Y = nB ∧ yi = false ∧ ye = ae ∧ we = ae ∧ wv = 0) ∨
  (ae = 0 ∧ (n < 1 ∨ 1048576 < n) ∧ Y = nB ∧ yi = false ∧ ye = 3 ∧ we = 3 ∧ wv = 0) ∨
  (ae = 0 ∧ (1 ≤ n ∧ n ≤ 1048576) ∧ n ≤ X.has ∧ Y = ⟨X.most, X.every, X.has - n, X.att⟩ ∧ IntKind.i64.wrap (X.has - n) = X.has - n ∧ yi = true ∧ ye = 0 ∧ we = 0 ∧ wv = t ∧ n ≤ b.most ∧ t ≤ 1099511627776) ∨
  (ae = 0 ∧ (1 ≤ n ∧ n ≤ 1048576) ∧ ¬ n ≤ X.has ∧ Y = X ∧ yi = false ∧ ye = 0 ∧ ∃ T, IntKind.i64.wrap (n - X.has) = n - X.has ∧ IntKind.i64.wrap ((n - X.has) * X.every) = (n - X.has) * X.every ∧ IntKind.i64.wrap (X.att + (n - X.has) * X.every) = T ∧
     ((b.most < n ∧ we = 5 ∧ wv = 0) ∨ (n ≤ b.most ∧ 1099511627776 < T ∧ we = 5 ∧ wv = 0) ∨ (n ≤ b.most ∧ T ≤ 1099511627776 ∧ we = 0 ∧ wv = T)))
theorem sf_any (b : Bk) (t n : Int) : SF b t n (avR b t) (tkB b t n) (tkI b t n) (avE b t 4) (tkE b t n) (whV b t n) (whE b t n) := by
  by_cases h0 : avE b t 4 = 0
  · rw [av_good h0]
    obtain ⟨k0, k1, k2⟩ := av_zero.1 h0
    obtain ⟨a1, a2, a3, a4, a5, a6⟩ := adv_ok k0 k2 k1
    by_cases h1 : isTok n
    · have hz : tkE b t n = 0 := tk_zero.2 ⟨⟨k0, k1, k2⟩, h1⟩
      by_cases h2 : n ≤ (adv b t).has
      · obtain ⟨e1, e2⟩ := tk_yes hz h2
        obtain ⟨e3, e4⟩ := wh_yes hz h2
        have l1 := a1.2.2.1.2
        have l2 := a1.1.2
        have l3 := h1.1
        refine .inr (.inr (.inl ⟨h0, h1, h2, ?_, ?_, e2, hz, e3, e4, by omega, k1.2⟩))
        · rw [e1, a4, a5]
        · rw [IntKind.wrap_i64]; omega
      · obtain ⟨e1, e2⟩ := tk_no hz h2
        obtain ⟨f1, f2, f3⟩ := small_whn hz h2
        refine .inr (.inr (.inr ⟨h0, h1, h2, e1, e2, hz, whn b t n, f1, f2, f3, ?_⟩))
        by_cases h3 : b.most < n
        · obtain ⟨e3, e4⟩ := wh_none hz (fun k => by omega)
          exact .inl ⟨h3, e3, e4⟩
        · have h4 : n ≤ b.most := by omega
          have h5 := (whn_spec k0 k2 h1.1 h4).1
          have h6 := k1.1
          by_cases h7 : 1099511627776 < whn b t n
          · obtain ⟨e3, e4⟩ := wh_none hz (fun k => by have := k.2.2; omega)
            exact .inr (.inl ⟨h4, h7, e3, e4⟩)
          · obtain ⟨e3, e4⟩ := wh_then hz ⟨h4, by omega, by omega⟩
            exact .inr (.inr ⟨h4, by omega, e3, e4⟩)
    · have hz : tkE b t n = 3 := by unfold tkE; rw [if_pos h0, if_neg h1]
      obtain ⟨e1, e2⟩ := tk_bad hz (by decide)
      obtain ⟨e3, e4⟩ := wh_bad hz (by decide)
      refine .inr (.inl ⟨h0, ?_, e1, e2, hz, e3, e4⟩)
      unfold isTok at h1
      omega
  · have hz : tkE b t n = avE b t 4 := if_neg h0
    obtain ⟨e1, e2⟩ := tk_bad hz h0
    obtain ⟨e3, e4⟩ := wh_bad hz h0
    exact .inl ⟨h0, av_bad h0, e1, e2, hz, e3, e4⟩
theorem nw_any (m e t : Int) : (ckE ⟨m, e, m, t⟩ = 0 ∧ nwB m e t = ⟨m, e, m, t⟩) ∨ (ckE ⟨m, e, m, t⟩ ≠ 0 ∧ nwB m e t = nB) := by
  by_cases h : ckE ⟨m, e, m, t⟩ = 0
  · exact .inl ⟨h, if_pos h⟩
  · exact .inr ⟨h, if_neg h⟩

abbrev RcC (b : Bk) (r : Int) : Prop := ∀ W : World, Calls Try.prog 11 #[bv b] W fun en w' => en = .returned (.int .i64 r) ∧ Below W.heap.size W w'
abbrev ReC (b : Bk) (t r : Int) : Prop := ∀ W : World, Calls Try.prog 12 #[bv b, .int .i64 t] W fun en w' => en = .returned (.int .i64 r) ∧ Below W.heap.size W w'
abbrev RgC (b : Bk) (t : Int) (c : Bk) : Prop := ∀ W : World, Calls Try.prog 13 #[bv b, .int .i64 t] W fun en w' => en = .returned (bv c) ∧ Below W.heap.size W w'

set_option maxHeartbeats 32000000 in
theorem rateSpec_walk (b : Bk) (P E t n : Int) (w : World) :
    Calls Try.prog 3 #[bv b, .int .i64 P, .int .i64 E, .int .i64 t, .int .i64 n] w fun e w' => e = .returned (.bool true) ∧ Below w.heap.size w w' := by
  have HG : Hid (∀ W : World, Calls Try.prog 14 #[] W fun e w' => e = .returned (.bool true) ∧ Below W.heap.size W w') := Lib.hid (fun W => begun_any W)
  have C1 : Hid (NwC P E t (nwB P E t) (ckE ⟨P, E, P, t⟩)) := Lib.hid (fun W => new_any P E t W)
  have C2 : Hid (AvC b t (avR b t) (avE b t 4)) := Lib.hid (fun W => advance_any b t W)
  have C3 : Hid (TkC b t n (tkB b t n) (tkI b t n) (tkE b t n)) := Lib.hid (fun W => take_any b t n W)
  have C4 : Hid (WhC b t n (whV b t n) (whE b t n)) := Lib.hid (fun W => when_any b t n W)
  have C5 : Hid (RcC b (ckE b)) := Lib.hid (fun W => rateCheck_any b W)
  have C6 : Hid (ReC b t (avE b t 4)) := Lib.hid (fun W => rateErr_any b t W)
  have C7 : Hid (RcC ⟨P, E, P, t⟩ (ckE ⟨P, E, P, t⟩)) := Lib.hid (fun W => rateCheck_any ⟨P, E, P, t⟩ W)
  have C8 : Hid (avE b t 4 = 0 → RgC b t (avR b t)) := Lib.hid (fun h W => by rw [av_good h]; exact rateGo_any b t W h)
  have C9 : Hid (CkC b (ckE b)) := Lib.hid (fun W => check_any b W)
  have HSF := Lib.hid (sf_any b t n)
  have HNW := Lib.hid (nw_any P E t)
  have HK0 : Hid (Kb (w.alloc (bo b)) w.heap.size b) := Lib.hid (Kb.new w b)
  have HB0 : Hid (Below w.heap.size w (w.alloc (bo b))) := Lib.hid (bel_al (Below.refl _ _) (Nat.le_refl _) _)
  generalize nwB P E t = N0 at *
  generalize ckE ⟨P, E, P, t⟩ = nv at *
  generalize ckE b = ce at *
  generalize avR b t = X at *
  generalize avE b t 4 = ae at *
  generalize tkB b t n = Y at *
  generalize tkI b t n = yi at *
  generalize tkE b t n = ye at *
  generalize whV b t n = wv at *
  generalize whE b t n = we at *
  obtain ⟨m, ev, h, a⟩ := b
  obtain ⟨nm, ne, nh, na⟩ := N0
  obtain ⟨xm, xe, xh, xa⟩ := X
  obtain ⟨ym, yv, yh, ya⟩ := Y
  obtain ⟨x0, x1, x2, x3⟩ := HK0.out.cells
  go_enter Try.func3, Try.ntmps3
  go_wp2_with fail
  refine (C1.out _).mono ?_
  rintro e w1 ⟨rfl, hb1⟩
  have K1 : Hid (Kb (w1.alloc (bo ⟨nm, ne, nh, na⟩)) w.heap.size ⟨m, ev, h, a⟩) := Lib.hid ((HK0.out.below hb1).alloc _)
  have A1 : Hid (Kb (w1.alloc (bo ⟨nm, ne, nh, na⟩)) w1.heap.size ⟨nm, ne, nh, na⟩) := Lib.hid (Kb.new w1 _)
  have hb1' : Below w.heap.size w w1 := HB0.out.trans (hb1.mono HB0.out.size)
  have B1 : Hid (Below w.heap.size w (w1.alloc (bo ⟨nm, ne, nh, na⟩))) := Lib.hid (bel_al hb1' hb1'.size _)
  clear hb1 hb1' x0 x1 x2 x3 HB0 HK0
  obtain ⟨x0, x1, x2, x3⟩ := K1.out.cells
  go_wp2_with fail
  clear x0 x1 x2 x3
  obtain ⟨q1, hq1⟩ : ∃ q, q = w1.heap.size := ⟨_, rfl⟩
  rw [← hq1] at A1 ⊢
  clear hq1
  generalize w1.alloc (bo ⟨nm, ne, nh, na⟩) = w2 at *
  refine (C2.out _).mono ?_
  rintro e w3 ⟨rfl, hb3⟩
  have K3 : Hid (Kb (w3.alloc (bo ⟨xm, xe, xh, xa⟩)) w.heap.size ⟨m, ev, h, a⟩) := Lib.hid ((K1.out.below hb3).alloc _)
  have A3 : Hid (Kb (w3.alloc (bo ⟨xm, xe, xh, xa⟩)) q1 ⟨nm, ne, nh, na⟩) := Lib.hid ((A1.out.below hb3).alloc _)
  have X3 : Hid (Kb (w3.alloc (bo ⟨xm, xe, xh, xa⟩)) w3.heap.size ⟨xm, xe, xh, xa⟩) := Lib.hid (Kb.new w3 _)
  have hb3' : Below w.heap.size w w3 := B1.out.trans (hb3.mono B1.out.size)
  have B3 : Hid (Below w.heap.size w (w3.alloc (bo ⟨xm, xe, xh, xa⟩))) := Lib.hid (bel_al hb3' hb3'.size _)
  clear hb3 hb3' K1 A1 B1
  obtain ⟨x0, x1, x2, x3⟩ := K3.out.cells
  go_wp2_with fail
  clear x0 x1 x2 x3
  obtain ⟨q2, hq2⟩ : ∃ q, q = w3.heap.size := ⟨_, rfl⟩
  rw [← hq2] at X3 ⊢
  clear hq2
  generalize w3.alloc (bo ⟨xm, xe, xh, xa⟩) = w4 at *
  refine (C3.out _).mono ?_
  rintro e w5 ⟨rfl, hb5⟩
  have K5 : Hid (Kb (w5.alloc (bo ⟨ym, yv, yh, ya⟩)) w.heap.size ⟨m, ev, h, a⟩) := Lib.hid ((K3.out.below hb5).alloc _)
  have A5 : Hid (Kb (w5.alloc (bo ⟨ym, yv, yh, ya⟩)) q1 ⟨nm, ne, nh, na⟩) := Lib.hid ((A3.out.below hb5).alloc _)
  have X5 : Hid (Kb (w5.alloc (bo ⟨ym, yv, yh, ya⟩)) q2 ⟨xm, xe, xh, xa⟩) := Lib.hid ((X3.out.below hb5).alloc _)
  have Y5 : Hid (Kb (w5.alloc (bo ⟨ym, yv, yh, ya⟩)) w5.heap.size ⟨ym, yv, yh, ya⟩) := Lib.hid (Kb.new w5 _)
  have hb5' : Below w.heap.size w w5 := B3.out.trans (hb5.mono B3.out.size)
  have B5 : Hid (Below w.heap.size w (w5.alloc (bo ⟨ym, yv, yh, ya⟩))) := Lib.hid (bel_al hb5' hb5'.size _)
  clear hb5 hb5' K3 A3 X3 B3
  obtain ⟨x0, x1, x2, x3⟩ := K5.out.cells
  go_wp2_with fail
  clear x0 x1 x2 x3
  obtain ⟨q3, hq3⟩ : ∃ q, q = w5.heap.size := ⟨_, rfl⟩
  rw [← hq3] at Y5 ⊢
  clear hq3
  generalize w5.alloc (bo ⟨ym, yv, yh, ya⟩) = w6 at *
  refine (C4.out _).mono ?_
  rintro e w7 ⟨rfl, hb7⟩
  have K7 : Hid (Kb w7 w.heap.size ⟨m, ev, h, a⟩) := Lib.hid (K5.out.below hb7)
  have A7 : Hid (Kb w7 q1 ⟨nm, ne, nh, na⟩) := Lib.hid (A5.out.below hb7)
  have X7 : Hid (Kb w7 q2 ⟨xm, xe, xh, xa⟩) := Lib.hid (X5.out.below hb7)
  have Y7 : Hid (Kb w7 q3 ⟨ym, yv, yh, ya⟩) := Lib.hid (Y5.out.below hb7)
  have B7 : Hid (Below w.heap.size w w7) := Lib.hid (B5.out.trans (hb7.mono B5.out.size))
  clear hb7 K5 A5 X5 Y5 B5
  go_upto_region 5 with fail
  go_cut [20, 21] (fun s20 s21 wx => s20 = .int .i64 ce ∧ s21 = .int .i64 ae ∧ Below w7.heap.size w7 wx)
  case first =>
    focus
      have HK7 : Hid (∀ w' : World, Below w7.heap.size w7 w' → w'.cell? ⟨w.heap.size, 0, none⟩ = some (.int .i64 m) ∧ w'.cell? ⟨w.heap.size, 1, none⟩ = some (.int .i64 ev) ∧ w'.cell? ⟨w.heap.size, 2, none⟩ = some (.int .i64 h) ∧ w'.cell? ⟨w.heap.size, 3, none⟩ = some (.int .i64 a)) := Lib.hid (fun w' hb => (K7.out.below hb).cells)
      go_region_held3 (fun w' => w'.cell? ⟨w.heap.size, 0, none⟩ = some (.int .i64 m) ∧ w'.cell? ⟨w.heap.size, 1, none⟩ = some (.int .i64 ev) ∧ w'.cell? ⟨w.heap.size, 2, none⟩ = some (.int .i64 h) ∧ w'.cell? ⟨w.heap.size, 3, none⟩ = some (.int .i64 a))
        (first | exact HK7.out _ hBb | exact HK7.out _ hBa | exact HK7.out _ (Below.refl _ _).drew)
        (first
          | (go_at_call 11; (with_reducible refine (C5.out w7.drew).mono ?_); rintro e wa ⟨rfl, hba⟩; have hBa : Below w7.heap.size w7 wa := (Below.refl _ _).drew.trans hba)
          | (go_at_call 12; (with_reducible refine (C6.out w7.drew).mono ?_); rintro e wa ⟨rfl, hba⟩; have hBa : Below w7.heap.size w7 wa := (Below.refl _ _).drew.trans hba)
          | (go_at_call 11; (with_reducible refine (C5.out wa).mono ?_); rintro e wb ⟨rfl, hbb⟩; have hBb : Below w7.heap.size w7 wb := hBa.trans (hbb.mono hBa.size))
          | (go_at_call 12; (with_reducible refine (C6.out wa).mono ?_); rintro e wb ⟨rfl, hbb⟩; have hBb : Below w7.heap.size w7 wb := hBa.trans (hbb.mono hBa.size)))
      all_goals
        go_wp2
        go_meet
        exact ⟨rfl, rfl, hBb⟩
  case rest =>
    focus
      obtain ⟨rfl, rfl, hb8⟩ := hcut
      have hq8 := hb8.size
      have K8 : Hid (Kb (wc.alloc (bo ⟨P, E, P, t⟩)) w.heap.size ⟨m, ev, h, a⟩) := Lib.hid ((K7.out.below hb8).alloc _)
      have A8 : Hid (Kb (wc.alloc (bo ⟨P, E, P, t⟩)) q1 ⟨nm, ne, nh, na⟩) := Lib.hid ((A7.out.below hb8).alloc _)
      have X8 : Hid (Kb (wc.alloc (bo ⟨P, E, P, t⟩)) q2 ⟨xm, xe, xh, xa⟩) := Lib.hid ((X7.out.below hb8).alloc _)
      have Y8 : Hid (Kb (wc.alloc (bo ⟨P, E, P, t⟩)) q3 ⟨ym, yv, yh, ya⟩) := Lib.hid ((Y7.out.below hb8).alloc _)
      have F8 : Hid (Kb (wc.alloc (bo ⟨P, E, P, t⟩)) wc.heap.size ⟨P, E, P, t⟩) := Lib.hid (Kb.new wc _)
      have hb8' : Below w.heap.size w wc := B7.out.trans (hb8.mono B7.out.size)
      have B8 : Hid (Below w.heap.size w (wc.alloc (bo ⟨P, E, P, t⟩))) := Lib.hid (bel_al hb8' hb8'.size _)
      have L0 : Hid (w.heap.size < wc.heap.size) := Lib.hid (K7.out.below hb8).lt
      have L1 : Hid (q1 < wc.heap.size) := Lib.hid (A7.out.below hb8).lt
      have L2 : Hid (q2 < wc.heap.size) := Lib.hid (X7.out.below hb8).lt
      have L3 : Hid (q3 < wc.heap.size) := Lib.hid (Y7.out.below hb8).lt
      clear hb8 hb8' hq8 K7 A7 X7 Y7 B7
      obtain ⟨x0, x1, x2, x3⟩ := F8.out.cells
      go_wp2_with fail
      clear x0 x1 x2 x3
      obtain ⟨q4, hq4⟩ : ∃ q, q = wc.heap.size := ⟨_, rfl⟩
      rw [← hq4] at F8 L0 L1 L2 L3 ⊢
      clear hq4
      generalize wc.alloc (bo ⟨P, E, P, t⟩) = w8 at *
      refine (C7.out _).mono ?_
      rintro e w9 ⟨rfl, hb9⟩
      have K9 : Hid (Kb w9 w.heap.size ⟨m, ev, h, a⟩) := Lib.hid (K8.out.below hb9)
      have A9 : Hid (Kb w9 q1 ⟨nm, ne, nh, na⟩) := Lib.hid (A8.out.below hb9)
      have X9 : Hid (Kb w9 q2 ⟨xm, xe, xh, xa⟩) := Lib.hid (X8.out.below hb9)
      have Y9 : Hid (Kb w9 q3 ⟨ym, yv, yh, ya⟩) := Lib.hid (Y8.out.below hb9)
      have F9 : Hid (Kb w9 q4 ⟨P, E, P, t⟩) := Lib.hid (F8.out.below hb9)
      have B9 : Hid (Below w.heap.size w w9) := Lib.hid (B8.out.trans (hb9.mono B8.out.size))
      clear hb9 K8 A8 X8 Y8 F8 B8
      go_upto_if 71 with fail
      go_cut [23] (fun s23 wx => s23 = .int .i64 nv ∧ Kb wx q4 ⟨nm, ne, nh, na⟩ ∧ Below q4 w9 wx)
      case first =>
        focus
          obtain ⟨x0, x1, x2, x3⟩ := F9.out.cells
          obtain ⟨y0, y1, y2, y3⟩ := F9.out.free
          rcases HNW.out with ⟨h0, hN⟩ | ⟨h0, hN⟩
          · have p0 : (nv != 0) = false := by simpa using h0
            cases hN
            clear h0
            go_wp2
            go_meet
            exact ⟨rfl, F9.out, Below.refl _ _⟩
          · have p0 : (nv != 0) = true := by simpa using h0
            cases hN
            clear h0
            go_wp2
            go_meet
            exact ⟨rfl, F9.out.put ⟨0, 0, 0, 0⟩, bel_set4 (Below.refl _ _) (Nat.le_refl _) _ _ _ _⟩
      case rest =>
        focus
          obtain ⟨rfl, hF, hb10⟩ := hcut
          have K10 : Hid (Kb ((wc.alloc (bo ⟨0, 0, 0, 0⟩)).alloc (bo ⟨0, 0, 0, 0⟩)) w.heap.size ⟨m, ev, h, a⟩) := Lib.hid (((K9.out.belowB hb10 L0.out).alloc _).alloc _)
          have A10 : Hid (Kb ((wc.alloc (bo ⟨0, 0, 0, 0⟩)).alloc (bo ⟨0, 0, 0, 0⟩)) q1 ⟨nm, ne, nh, na⟩) := Lib.hid (((A9.out.belowB hb10 L1.out).alloc _).alloc _)
          have X10 : Hid (Kb ((wc.alloc (bo ⟨0, 0, 0, 0⟩)).alloc (bo ⟨0, 0, 0, 0⟩)) q2 ⟨xm, xe, xh, xa⟩) := Lib.hid (((X9.out.belowB hb10 L2.out).alloc _).alloc _)
          have Y10 : Hid (Kb ((wc.alloc (bo ⟨0, 0, 0, 0⟩)).alloc (bo ⟨0, 0, 0, 0⟩)) q3 ⟨ym, yv, yh, ya⟩) := Lib.hid (((Y9.out.belowB hb10 L3.out).alloc _).alloc _)
          have F10 : Hid (Kb ((wc.alloc (bo ⟨0, 0, 0, 0⟩)).alloc (bo ⟨0, 0, 0, 0⟩)) q4 ⟨nm, ne, nh, na⟩) := Lib.hid ((hF.alloc _).alloc _)
          have G10 : Hid (Kb ((wc.alloc (bo ⟨0, 0, 0, 0⟩)).alloc (bo ⟨0, 0, 0, 0⟩)) wc.heap.size ⟨0, 0, 0, 0⟩) := Lib.hid ((Kb.new wc _).alloc _)
          have T10 : Hid (Kb ((wc.alloc (bo ⟨0, 0, 0, 0⟩)).alloc (bo ⟨0, 0, 0, 0⟩)) (wc.heap.size + 1) ⟨0, 0, 0, 0⟩) := Lib.hid (by
            have := Kb.new (wc.alloc (bo ⟨0, 0, 0, 0⟩)) ⟨0, 0, 0, 0⟩
            rwa [show (wc.alloc (bo ⟨0, 0, 0, 0⟩)).heap.size = wc.heap.size + 1 by simp] at this)
          have l9 : q4 < w9.heap.size := F9.out.lt
          have hb10' : Below w.heap.size w wc := B9.out.trans (hb10.mono (by have := L0.out; omega))
          have B10 : Hid (Below w.heap.size w ((wc.alloc (bo ⟨0, 0, 0, 0⟩)).alloc (bo ⟨0, 0, 0, 0⟩))) := Lib.hid (bel_al (bel_al hb10' hb10'.size _) (by have := hb10'.size; simp; omega) _)
          have s10 := hb10.size
          have M0 : Hid (w.heap.size < wc.heap.size) := Lib.hid (by have := L0.out; omega)
          have M1 : Hid (q1 < wc.heap.size) := Lib.hid (by have := L1.out; omega)
          have M2 : Hid (q2 < wc.heap.size) := Lib.hid (by have := L2.out; omega)
          have M3 : Hid (q3 < wc.heap.size) := Lib.hid (by have := L3.out; omega)
          have M4 : Hid (q4 < wc.heap.size) := Lib.hid (by omega)
          clear hF hb10 hb10' l9 s10 K9 A9 X9 Y9 F9 B9 L0 L1 L2 L3
          go_upto_if 76 with fail
          obtain ⟨q5, hq5⟩ : ∃ q, q = wc.heap.size := ⟨_, rfl⟩
          rw [← hq5] at G10 T10 M0 M1 M2 M3 M4 ⊢
          clear hq5
          generalize (wc.alloc (bo ⟨0, 0, 0, 0⟩)).alloc (bo ⟨0, 0, 0, 0⟩) = w10 at *
          obtain ⟨q6, hq6⟩ : ∃ q, q = q5 + 1 := ⟨_, rfl⟩
          rw [← hq6] at T10 ⊢
          have L6 : Hid (q5 < q6) := Lib.hid (by omega)
          clear hq6
          go_cut [24, 25, 28, 29] (fun s24 s25 s28 s29 wx => s24 = .int .i64 ye ∧ s25 = .int .i64 we ∧ s28 = .bool yi ∧ s29 = .int .i64 wv ∧ Kb wx q5 ⟨xm, xe, xh, xa⟩ ∧ Kb wx q6 ⟨ym, yv, yh, ya⟩ ∧ Below q5 w10 wx)
          case first =>
            focus
              have Q5 : Hid (q5 ≤ w10.heap.size) := Lib.hid (Nat.le_of_lt G10.out.lt)
              rcases HSF.out with ⟨h0, hX, hY, hi, he, hw, hv⟩ | ⟨h0, hd, hY, hi, he, hw, hv⟩ | ⟨h0, ⟨h1, h2⟩, h3, hY, f1, hi, he, hw, hv, h4, h5⟩ | ⟨h0, ⟨h1, h2⟩, h3, hY, hi, he, T, f1, f2, f3, h4⟩
              · have p0 : (ae == 0) = false := by simpa using h0
                cases hX
                cases hY
                subst hi he hw hv
                clear h0
                go_wp2
                go_meet
                exact ⟨rfl, rfl, rfl, rfl, G10.out, T10.out, Below.refl _ _⟩
              · have HGo := Lib.hid (C8.out h0)
                have p0 : (ae == 0) = true := by simpa using h0
                have HZ := Lib.hid h0
                clear h0
                cases hY
                subst hi he hw hv
                rcases hd with h1 | h1
                · have p1 : decide (n < 1) = true := by simpa using h1
                  clear h1
                  obtain ⟨x0, x1, x2, x3⟩ := K10.out.cells
                  go_wp2_with fail
                  refine (HGo.out _).mono ?_
                  rintro e w11 ⟨rfl, hb11⟩
                  have K11 : Hid (Kb w11 w.heap.size ⟨m, ev, h, a⟩) := Lib.hid (K10.out.below hb11)
                  have G11 : Hid (Kb w11 q5 ⟨0, 0, 0, 0⟩) := Lib.hid (G10.out.below hb11)
                  have T11 : Hid (Kb w11 q6 ⟨0, 0, 0, 0⟩) := Lib.hid (T10.out.below hb11)
                  have B11 : Hid (Below q5 w10 w11) := Lib.hid (hb11.mono Q5.out)
                  clear hb11 x0 x1 x2 x3
                  obtain ⟨y0, y1, y2, y3⟩ := G11.out.cells
                  obtain ⟨z0, z1, z2, z3⟩ := G11.out.free
                  go_wp2
                  go_meet
                  exact ⟨rfl, rfl, rfl, rfl, G11.out.put ⟨xm, xe, xh, xa⟩, T11.out.other4 (Nat.ne_of_gt L6.out) _ _ _ _, bel_set4 B11.out (Nat.le_refl _) _ _ _ _⟩
                · have p1 : decide (n < 1) = false := by simp; omega
                  have p2 : decide (1048576 < n) = true := by simpa using h1
                  clear h1
                  obtain ⟨x0, x1, x2, x3⟩ := K10.out.cells
                  go_wp2_with fail
                  refine (HGo.out _).mono ?_
                  rintro e w11 ⟨rfl, hb11⟩
                  have K11 : Hid (Kb w11 w.heap.size ⟨m, ev, h, a⟩) := Lib.hid (K10.out.below hb11)
                  have G11 : Hid (Kb w11 q5 ⟨0, 0, 0, 0⟩) := Lib.hid (G10.out.below hb11)
                  have T11 : Hid (Kb w11 q6 ⟨0, 0, 0, 0⟩) := Lib.hid (T10.out.below hb11)
                  have B11 : Hid (Below q5 w10 w11) := Lib.hid (hb11.mono Q5.out)
                  clear hb11 x0 x1 x2 x3
                  obtain ⟨y0, y1, y2, y3⟩ := G11.out.cells
                  obtain ⟨z0, z1, z2, z3⟩ := G11.out.free
                  go_wp2
                  go_meet
                  exact ⟨rfl, rfl, rfl, rfl, G11.out.put ⟨xm, xe, xh, xa⟩, T11.out.other4 (Nat.ne_of_gt L6.out) _ _ _ _, bel_set4 B11.out (Nat.le_refl _) _ _ _ _⟩
              · have HGo := Lib.hid (C8.out h0)
                have p0 : (ae == 0) = true := by simpa using h0
                have HZ := Lib.hid h0
                clear h0
                replace hY : (⟨ym, yv, yh, ya⟩ : Bk) = ⟨xm, xe, xh - n, xa⟩ := hY
                replace f1 : IntKind.i64.wrap (xh - n) = xh - n := f1
                replace h3 : n ≤ xh := h3
                replace h4 : n ≤ m := h4
                have HY := Lib.hid hY
                clear hY
                replace hv := hv.symm
                subst hi he hw hv
                have p1 : decide (n < 1) = false := by simpa using h1
                have p2 : decide (1048576 < n) = false := by simpa using h2
                have p3 : decide (n ≤ xh) = true := by simpa using h3
                have p4 : decide (m < n) = false := by simpa using h4
                have p5 : decide (1099511627776 < t) = false := by simpa using h5
                clear h1 h2 h3 h4 h5
                obtain ⟨x0, x1, x2, x3⟩ := K10.out.cells
                go_wp2_with fail
                refine (HGo.out _).mono ?_
                rintro e w11 ⟨rfl, hb11⟩
                have K11 : Hid (Kb w11 w.heap.size ⟨m, ev, h, a⟩) := Lib.hid (K10.out.below hb11)
                have G11 : Hid (Kb w11 q5 ⟨0, 0, 0, 0⟩) := Lib.hid (G10.out.below hb11)
                have T11 : Hid (Kb w11 q6 ⟨0, 0, 0, 0⟩) := Lib.hid (T10.out.below hb11)
                have B11 : Hid (Below q5 w10 w11) := Lib.hid (hb11.mono Q5.out)
                clear hb11 x0 x1 x2 x3
                obtain ⟨y0, y1, y2, y3⟩ := G11.out.cells
                obtain ⟨z0, z1, z2, z3⟩ := G11.out.free
                go_upto_if 85 with fail
                have K12 : Hid (Kb ((((w11.setCell ⟨q5, 0, none⟩ (.int .i64 xm)).setCell ⟨q5, 1, none⟩ (.int .i64 xe)).setCell ⟨q5, 2, none⟩ (.int .i64 xh)).setCell ⟨q5, 3, none⟩ (.int .i64 xa)) w.heap.size ⟨m, ev, h, a⟩) := Lib.hid (K11.out.other4 (Nat.ne_of_lt M0.out) _ _ _ _)
                have G12 : Hid (Kb ((((w11.setCell ⟨q5, 0, none⟩ (.int .i64 xm)).setCell ⟨q5, 1, none⟩ (.int .i64 xe)).setCell ⟨q5, 2, none⟩ (.int .i64 xh)).setCell ⟨q5, 3, none⟩ (.int .i64 xa)) q5 ⟨xm, xe, xh, xa⟩) := Lib.hid (G11.out.put ⟨xm, xe, xh, xa⟩)
                have T12 : Hid (Kb ((((w11.setCell ⟨q5, 0, none⟩ (.int .i64 xm)).setCell ⟨q5, 1, none⟩ (.int .i64 xe)).setCell ⟨q5, 2, none⟩ (.int .i64 xh)).setCell ⟨q5, 3, none⟩ (.int .i64 xa)) q6 ⟨0, 0, 0, 0⟩) := Lib.hid (T11.out.other4 (Nat.ne_of_gt L6.out) _ _ _ _)
                have B12 : Hid (Below q5 w10 ((((w11.setCell ⟨q5, 0, none⟩ (.int .i64 xm)).setCell ⟨q5, 1, none⟩ (.int .i64 xe)).setCell ⟨q5, 2, none⟩ (.int .i64 xh)).setCell ⟨q5, 3, none⟩ (.int .i64 xa))) := Lib.hid (bel_set4 B11.out (Nat.le_refl _) _ _ _ _)
                clear y0 y1 y2 y3 z0 z1 z2 z3 K11 G11 T11 B11
                generalize ((((w11.setCell ⟨q5, 0, none⟩ (.int .i64 xm)).setCell ⟨q5, 1, none⟩ (.int .i64 xe)).setCell ⟨q5, 2, none⟩ (.int .i64 xh)).setCell ⟨q5, 3, none⟩ (.int .i64 xa)) = w12 at *
                obtain ⟨y0, y1, y2, y3⟩ := G12.out.cells
                obtain ⟨z0, z1, z2, z3⟩ := T12.out.cells
                obtain ⟨u0, u1, u2, u3⟩ := T12.out.free
                go_upto_region 18 with fail
                have K13 : Hid (Kb ((((w12.setCell ⟨q6, 0, none⟩ (.int .i64 xm)).setCell ⟨q6, 1, none⟩ (.int .i64 xe)).setCell ⟨q6, 2, none⟩ (.int .i64 xh)).setCell ⟨q6, 3, none⟩ (.int .i64 xa)) w.heap.size ⟨m, ev, h, a⟩) := Lib.hid (K12.out.other4 (Nat.ne_of_lt (Nat.lt_trans M0.out L6.out)) _ _ _ _)
                have G13 : Hid (Kb ((((w12.setCell ⟨q6, 0, none⟩ (.int .i64 xm)).setCell ⟨q6, 1, none⟩ (.int .i64 xe)).setCell ⟨q6, 2, none⟩ (.int .i64 xh)).setCell ⟨q6, 3, none⟩ (.int .i64 xa)) q5 ⟨xm, xe, xh, xa⟩) := Lib.hid (G12.out.other4 (Nat.ne_of_lt L6.out) _ _ _ _)
                have T13 : Hid (Kb ((((w12.setCell ⟨q6, 0, none⟩ (.int .i64 xm)).setCell ⟨q6, 1, none⟩ (.int .i64 xe)).setCell ⟨q6, 2, none⟩ (.int .i64 xh)).setCell ⟨q6, 3, none⟩ (.int .i64 xa)) q6 ⟨xm, xe, xh, xa⟩) := Lib.hid (T12.out.put ⟨xm, xe, xh, xa⟩)
                have B13 : Hid (Below q5 w10 ((((w12.setCell ⟨q6, 0, none⟩ (.int .i64 xm)).setCell ⟨q6, 1, none⟩ (.int .i64 xe)).setCell ⟨q6, 2, none⟩ (.int .i64 xh)).setCell ⟨q6, 3, none⟩ (.int .i64 xa))) := Lib.hid (bel_set4 B12.out (Nat.le_of_lt L6.out) _ _ _ _)
                clear y0 y1 y2 y3 z0 z1 z2 z3 u0 u1 u2 u3 K12 G12 T12 B12
                generalize ((((w12.setCell ⟨q6, 0, none⟩ (.int .i64 xm)).setCell ⟨q6, 1, none⟩ (.int .i64 xe)).setCell ⟨q6, 2, none⟩ (.int .i64 xh)).setCell ⟨q6, 3, none⟩ (.int .i64 xa)) = w13 at *
                obtain ⟨x0, x1, x2, x3⟩ := K13.out.cells
                obtain ⟨y0, y1, y2, y3⟩ := G13.out.cells
                obtain ⟨z0, z1, z2, z3⟩ := T13.out.cells
                obtain ⟨u0, u1, u2, u3⟩ := T13.out.free
                go_wp2
                go_meet
                exact ⟨by rw [HZ.out], by rw [HZ.out], rfl, rfl, G13.out.other (a := ⟨q6, 2, none⟩) (Nat.ne_of_lt L6.out) _, by rw [HY.out]; exact T13.out.setH _, bel_set B13.out (Nat.le_of_lt L6.out) _⟩
              · have HGo := Lib.hid (C8.out h0)
                have p0 : (ae == 0) = true := by simpa using h0
                have HZ := Lib.hid h0
                clear h0
                replace hY : (⟨ym, yv, yh, ya⟩ : Bk) = ⟨xm, xe, xh, xa⟩ := hY
                replace f1 : IntKind.i64.wrap (n - xh) = n - xh := f1
                replace f2 : IntKind.i64.wrap ((n - xh) * xe) = (n - xh) * xe := f2
                replace f3 : IntKind.i64.wrap (xa + (n - xh) * xe) = T := f3
                replace h3 : ¬ n ≤ xh := h3
                cases hY
                subst hi he
                have p1 : decide (n < 1) = false := by simpa using h1
                have p2 : decide (1048576 < n) = false := by simpa using h2
                have p3 : decide (n ≤ xh) = false := by simpa using h3
                rcases h4 with ⟨h4, hw, hv⟩ | ⟨h4, h5, hw, hv⟩ | ⟨h4, h5, hw, hv⟩
                · have p4 : decide (m < n) = true := by simpa using h4
                  subst hw hv
                  clear h1 h2 h3 h4
                  obtain ⟨x0, x1, x2, x3⟩ := K10.out.cells
                  go_wp2_with fail
                  refine (HGo.out _).mono ?_
                  rintro e w11 ⟨rfl, hb11⟩
                  have K11 : Hid (Kb w11 w.heap.size ⟨m, ev, h, a⟩) := Lib.hid (K10.out.below hb11)
                  have G11 : Hid (Kb w11 q5 ⟨0, 0, 0, 0⟩) := Lib.hid (G10.out.below hb11)
                  have T11 : Hid (Kb w11 q6 ⟨0, 0, 0, 0⟩) := Lib.hid (T10.out.below hb11)
                  have B11 : Hid (Below q5 w10 w11) := Lib.hid (hb11.mono Q5.out)
                  clear hb11 x0 x1 x2 x3
                  obtain ⟨y0, y1, y2, y3⟩ := G11.out.cells
                  obtain ⟨z0, z1, z2, z3⟩ := G11.out.free
                  go_upto_if 85 with fail
                  have K12 : Hid (Kb ((((w11.setCell ⟨q5, 0, none⟩ (.int .i64 xm)).setCell ⟨q5, 1, none⟩ (.int .i64 xe)).setCell ⟨q5, 2, none⟩ (.int .i64 xh)).setCell ⟨q5, 3, none⟩ (.int .i64 xa)) w.heap.size ⟨m, ev, h, a⟩) := Lib.hid (K11.out.other4 (Nat.ne_of_lt M0.out) _ _ _ _)
                  have G12 : Hid (Kb ((((w11.setCell ⟨q5, 0, none⟩ (.int .i64 xm)).setCell ⟨q5, 1, none⟩ (.int .i64 xe)).setCell ⟨q5, 2, none⟩ (.int .i64 xh)).setCell ⟨q5, 3, none⟩ (.int .i64 xa)) q5 ⟨xm, xe, xh, xa⟩) := Lib.hid (G11.out.put ⟨xm, xe, xh, xa⟩)
                  have T12 : Hid (Kb ((((w11.setCell ⟨q5, 0, none⟩ (.int .i64 xm)).setCell ⟨q5, 1, none⟩ (.int .i64 xe)).setCell ⟨q5, 2, none⟩ (.int .i64 xh)).setCell ⟨q5, 3, none⟩ (.int .i64 xa)) q6 ⟨0, 0, 0, 0⟩) := Lib.hid (T11.out.other4 (Nat.ne_of_gt L6.out) _ _ _ _)
                  have B12 : Hid (Below q5 w10 ((((w11.setCell ⟨q5, 0, none⟩ (.int .i64 xm)).setCell ⟨q5, 1, none⟩ (.int .i64 xe)).setCell ⟨q5, 2, none⟩ (.int .i64 xh)).setCell ⟨q5, 3, none⟩ (.int .i64 xa))) := Lib.hid (bel_set4 B11.out (Nat.le_refl _) _ _ _ _)
                  clear y0 y1 y2 y3 z0 z1 z2 z3 K11 G11 T11 B11
                  generalize ((((w11.setCell ⟨q5, 0, none⟩ (.int .i64 xm)).setCell ⟨q5, 1, none⟩ (.int .i64 xe)).setCell ⟨q5, 2, none⟩ (.int .i64 xh)).setCell ⟨q5, 3, none⟩ (.int .i64 xa)) = w12 at *
                  obtain ⟨y0, y1, y2, y3⟩ := G12.out.cells
                  obtain ⟨z0, z1, z2, z3⟩ := T12.out.cells
                  obtain ⟨u0, u1, u2, u3⟩ := T12.out.free
                  go_upto_region 18 with fail
                  have K13 : Hid (Kb ((((w12.setCell ⟨q6, 0, none⟩ (.int .i64 xm)).setCell ⟨q6, 1, none⟩ (.int .i64 xe)).setCell ⟨q6, 2, none⟩ (.int .i64 xh)).setCell ⟨q6, 3, none⟩ (.int .i64 xa)) w.heap.size ⟨m, ev, h, a⟩) := Lib.hid (K12.out.other4 (Nat.ne_of_lt (Nat.lt_trans M0.out L6.out)) _ _ _ _)
                  have G13 : Hid (Kb ((((w12.setCell ⟨q6, 0, none⟩ (.int .i64 xm)).setCell ⟨q6, 1, none⟩ (.int .i64 xe)).setCell ⟨q6, 2, none⟩ (.int .i64 xh)).setCell ⟨q6, 3, none⟩ (.int .i64 xa)) q5 ⟨xm, xe, xh, xa⟩) := Lib.hid (G12.out.other4 (Nat.ne_of_lt L6.out) _ _ _ _)
                  have T13 : Hid (Kb ((((w12.setCell ⟨q6, 0, none⟩ (.int .i64 xm)).setCell ⟨q6, 1, none⟩ (.int .i64 xe)).setCell ⟨q6, 2, none⟩ (.int .i64 xh)).setCell ⟨q6, 3, none⟩ (.int .i64 xa)) q6 ⟨xm, xe, xh, xa⟩) := Lib.hid (T12.out.put ⟨xm, xe, xh, xa⟩)
                  have B13 : Hid (Below q5 w10 ((((w12.setCell ⟨q6, 0, none⟩ (.int .i64 xm)).setCell ⟨q6, 1, none⟩ (.int .i64 xe)).setCell ⟨q6, 2, none⟩ (.int .i64 xh)).setCell ⟨q6, 3, none⟩ (.int .i64 xa))) := Lib.hid (bel_set4 B12.out (Nat.le_of_lt L6.out) _ _ _ _)
                  clear y0 y1 y2 y3 z0 z1 z2 z3 u0 u1 u2 u3 K12 G12 T12 B12
                  generalize ((((w12.setCell ⟨q6, 0, none⟩ (.int .i64 xm)).setCell ⟨q6, 1, none⟩ (.int .i64 xe)).setCell ⟨q6, 2, none⟩ (.int .i64 xh)).setCell ⟨q6, 3, none⟩ (.int .i64 xa)) = w13 at *
                  obtain ⟨x0, x1, x2, x3⟩ := K13.out.cells
                  obtain ⟨y0, y1, y2, y3⟩ := G13.out.cells
                  obtain ⟨z0, z1, z2, z3⟩ := T13.out.cells
                  obtain ⟨u0, u1, u2, u3⟩ := T13.out.free
                  go_wp2
                  go_meet
                  exact ⟨by rw [HZ.out], by first | rfl | rw [HZ.out], rfl, rfl, G13.out, T13.out, B13.out⟩
                · have p4 : decide (m < n) = false := by simpa using h4
                  have p5 : decide (1099511627776 < T) = true := by simpa using h5
                  subst hw hv
                  clear h1 h2 h3 h4
                  obtain ⟨x0, x1, x2, x3⟩ := K10.out.cells
                  go_wp2_with fail
                  refine (HGo.out _).mono ?_
                  rintro e w11 ⟨rfl, hb11⟩
                  have K11 : Hid (Kb w11 w.heap.size ⟨m, ev, h, a⟩) := Lib.hid (K10.out.below hb11)
                  have G11 : Hid (Kb w11 q5 ⟨0, 0, 0, 0⟩) := Lib.hid (G10.out.below hb11)
                  have T11 : Hid (Kb w11 q6 ⟨0, 0, 0, 0⟩) := Lib.hid (T10.out.below hb11)
                  have B11 : Hid (Below q5 w10 w11) := Lib.hid (hb11.mono Q5.out)
                  clear hb11 x0 x1 x2 x3
                  obtain ⟨y0, y1, y2, y3⟩ := G11.out.cells
                  obtain ⟨z0, z1, z2, z3⟩ := G11.out.free
                  go_upto_if 85 with fail
                  have K12 : Hid (Kb ((((w11.setCell ⟨q5, 0, none⟩ (.int .i64 xm)).setCell ⟨q5, 1, none⟩ (.int .i64 xe)).setCell ⟨q5, 2, none⟩ (.int .i64 xh)).setCell ⟨q5, 3, none⟩ (.int .i64 xa)) w.heap.size ⟨m, ev, h, a⟩) := Lib.hid (K11.out.other4 (Nat.ne_of_lt M0.out) _ _ _ _)
                  have G12 : Hid (Kb ((((w11.setCell ⟨q5, 0, none⟩ (.int .i64 xm)).setCell ⟨q5, 1, none⟩ (.int .i64 xe)).setCell ⟨q5, 2, none⟩ (.int .i64 xh)).setCell ⟨q5, 3, none⟩ (.int .i64 xa)) q5 ⟨xm, xe, xh, xa⟩) := Lib.hid (G11.out.put ⟨xm, xe, xh, xa⟩)
                  have T12 : Hid (Kb ((((w11.setCell ⟨q5, 0, none⟩ (.int .i64 xm)).setCell ⟨q5, 1, none⟩ (.int .i64 xe)).setCell ⟨q5, 2, none⟩ (.int .i64 xh)).setCell ⟨q5, 3, none⟩ (.int .i64 xa)) q6 ⟨0, 0, 0, 0⟩) := Lib.hid (T11.out.other4 (Nat.ne_of_gt L6.out) _ _ _ _)
                  have B12 : Hid (Below q5 w10 ((((w11.setCell ⟨q5, 0, none⟩ (.int .i64 xm)).setCell ⟨q5, 1, none⟩ (.int .i64 xe)).setCell ⟨q5, 2, none⟩ (.int .i64 xh)).setCell ⟨q5, 3, none⟩ (.int .i64 xa))) := Lib.hid (bel_set4 B11.out (Nat.le_refl _) _ _ _ _)
                  clear y0 y1 y2 y3 z0 z1 z2 z3 K11 G11 T11 B11
                  generalize ((((w11.setCell ⟨q5, 0, none⟩ (.int .i64 xm)).setCell ⟨q5, 1, none⟩ (.int .i64 xe)).setCell ⟨q5, 2, none⟩ (.int .i64 xh)).setCell ⟨q5, 3, none⟩ (.int .i64 xa)) = w12 at *
                  obtain ⟨y0, y1, y2, y3⟩ := G12.out.cells
                  obtain ⟨z0, z1, z2, z3⟩ := T12.out.cells
                  obtain ⟨u0, u1, u2, u3⟩ := T12.out.free
                  go_upto_region 18 with fail
                  have K13 : Hid (Kb ((((w12.setCell ⟨q6, 0, none⟩ (.int .i64 xm)).setCell ⟨q6, 1, none⟩ (.int .i64 xe)).setCell ⟨q6, 2, none⟩ (.int .i64 xh)).setCell ⟨q6, 3, none⟩ (.int .i64 xa)) w.heap.size ⟨m, ev, h, a⟩) := Lib.hid (K12.out.other4 (Nat.ne_of_lt (Nat.lt_trans M0.out L6.out)) _ _ _ _)
                  have G13 : Hid (Kb ((((w12.setCell ⟨q6, 0, none⟩ (.int .i64 xm)).setCell ⟨q6, 1, none⟩ (.int .i64 xe)).setCell ⟨q6, 2, none⟩ (.int .i64 xh)).setCell ⟨q6, 3, none⟩ (.int .i64 xa)) q5 ⟨xm, xe, xh, xa⟩) := Lib.hid (G12.out.other4 (Nat.ne_of_lt L6.out) _ _ _ _)
                  have T13 : Hid (Kb ((((w12.setCell ⟨q6, 0, none⟩ (.int .i64 xm)).setCell ⟨q6, 1, none⟩ (.int .i64 xe)).setCell ⟨q6, 2, none⟩ (.int .i64 xh)).setCell ⟨q6, 3, none⟩ (.int .i64 xa)) q6 ⟨xm, xe, xh, xa⟩) := Lib.hid (T12.out.put ⟨xm, xe, xh, xa⟩)
                  have B13 : Hid (Below q5 w10 ((((w12.setCell ⟨q6, 0, none⟩ (.int .i64 xm)).setCell ⟨q6, 1, none⟩ (.int .i64 xe)).setCell ⟨q6, 2, none⟩ (.int .i64 xh)).setCell ⟨q6, 3, none⟩ (.int .i64 xa))) := Lib.hid (bel_set4 B12.out (Nat.le_of_lt L6.out) _ _ _ _)
                  clear y0 y1 y2 y3 z0 z1 z2 z3 u0 u1 u2 u3 K12 G12 T12 B12
                  generalize ((((w12.setCell ⟨q6, 0, none⟩ (.int .i64 xm)).setCell ⟨q6, 1, none⟩ (.int .i64 xe)).setCell ⟨q6, 2, none⟩ (.int .i64 xh)).setCell ⟨q6, 3, none⟩ (.int .i64 xa)) = w13 at *
                  obtain ⟨x0, x1, x2, x3⟩ := K13.out.cells
                  obtain ⟨y0, y1, y2, y3⟩ := G13.out.cells
                  obtain ⟨z0, z1, z2, z3⟩ := T13.out.cells
                  obtain ⟨u0, u1, u2, u3⟩ := T13.out.free
                  go_wp2
                  go_meet
                  exact ⟨by rw [HZ.out], by first | rfl | rw [HZ.out], rfl, rfl, G13.out, T13.out, B13.out⟩
                · have p4 : decide (m < n) = false := by simpa using h4
                  have p5 : decide (1099511627776 < T) = false := by simpa using h5
                  subst hw hv
                  clear h1 h2 h3 h4
                  obtain ⟨x0, x1, x2, x3⟩ := K10.out.cells
                  go_wp2_with fail
                  refine (HGo.out _).mono ?_
                  rintro e w11 ⟨rfl, hb11⟩
                  have K11 : Hid (Kb w11 w.heap.size ⟨m, ev, h, a⟩) := Lib.hid (K10.out.below hb11)
                  have G11 : Hid (Kb w11 q5 ⟨0, 0, 0, 0⟩) := Lib.hid (G10.out.below hb11)
                  have T11 : Hid (Kb w11 q6 ⟨0, 0, 0, 0⟩) := Lib.hid (T10.out.below hb11)
                  have B11 : Hid (Below q5 w10 w11) := Lib.hid (hb11.mono Q5.out)
                  clear hb11 x0 x1 x2 x3
                  obtain ⟨y0, y1, y2, y3⟩ := G11.out.cells
                  obtain ⟨z0, z1, z2, z3⟩ := G11.out.free
                  go_upto_if 85 with fail
                  have K12 : Hid (Kb ((((w11.setCell ⟨q5, 0, none⟩ (.int .i64 xm)).setCell ⟨q5, 1, none⟩ (.int .i64 xe)).setCell ⟨q5, 2, none⟩ (.int .i64 xh)).setCell ⟨q5, 3, none⟩ (.int .i64 xa)) w.heap.size ⟨m, ev, h, a⟩) := Lib.hid (K11.out.other4 (Nat.ne_of_lt M0.out) _ _ _ _)
                  have G12 : Hid (Kb ((((w11.setCell ⟨q5, 0, none⟩ (.int .i64 xm)).setCell ⟨q5, 1, none⟩ (.int .i64 xe)).setCell ⟨q5, 2, none⟩ (.int .i64 xh)).setCell ⟨q5, 3, none⟩ (.int .i64 xa)) q5 ⟨xm, xe, xh, xa⟩) := Lib.hid (G11.out.put ⟨xm, xe, xh, xa⟩)
                  have T12 : Hid (Kb ((((w11.setCell ⟨q5, 0, none⟩ (.int .i64 xm)).setCell ⟨q5, 1, none⟩ (.int .i64 xe)).setCell ⟨q5, 2, none⟩ (.int .i64 xh)).setCell ⟨q5, 3, none⟩ (.int .i64 xa)) q6 ⟨0, 0, 0, 0⟩) := Lib.hid (T11.out.other4 (Nat.ne_of_gt L6.out) _ _ _ _)
                  have B12 : Hid (Below q5 w10 ((((w11.setCell ⟨q5, 0, none⟩ (.int .i64 xm)).setCell ⟨q5, 1, none⟩ (.int .i64 xe)).setCell ⟨q5, 2, none⟩ (.int .i64 xh)).setCell ⟨q5, 3, none⟩ (.int .i64 xa))) := Lib.hid (bel_set4 B11.out (Nat.le_refl _) _ _ _ _)
                  clear y0 y1 y2 y3 z0 z1 z2 z3 K11 G11 T11 B11
                  generalize ((((w11.setCell ⟨q5, 0, none⟩ (.int .i64 xm)).setCell ⟨q5, 1, none⟩ (.int .i64 xe)).setCell ⟨q5, 2, none⟩ (.int .i64 xh)).setCell ⟨q5, 3, none⟩ (.int .i64 xa)) = w12 at *
                  obtain ⟨y0, y1, y2, y3⟩ := G12.out.cells
                  obtain ⟨z0, z1, z2, z3⟩ := T12.out.cells
                  obtain ⟨u0, u1, u2, u3⟩ := T12.out.free
                  go_upto_region 18 with fail
                  have K13 : Hid (Kb ((((w12.setCell ⟨q6, 0, none⟩ (.int .i64 xm)).setCell ⟨q6, 1, none⟩ (.int .i64 xe)).setCell ⟨q6, 2, none⟩ (.int .i64 xh)).setCell ⟨q6, 3, none⟩ (.int .i64 xa)) w.heap.size ⟨m, ev, h, a⟩) := Lib.hid (K12.out.other4 (Nat.ne_of_lt (Nat.lt_trans M0.out L6.out)) _ _ _ _)
                  have G13 : Hid (Kb ((((w12.setCell ⟨q6, 0, none⟩ (.int .i64 xm)).setCell ⟨q6, 1, none⟩ (.int .i64 xe)).setCell ⟨q6, 2, none⟩ (.int .i64 xh)).setCell ⟨q6, 3, none⟩ (.int .i64 xa)) q5 ⟨xm, xe, xh, xa⟩) := Lib.hid (G12.out.other4 (Nat.ne_of_lt L6.out) _ _ _ _)
                  have T13 : Hid (Kb ((((w12.setCell ⟨q6, 0, none⟩ (.int .i64 xm)).setCell ⟨q6, 1, none⟩ (.int .i64 xe)).setCell ⟨q6, 2, none⟩ (.int .i64 xh)).setCell ⟨q6, 3, none⟩ (.int .i64 xa)) q6 ⟨xm, xe, xh, xa⟩) := Lib.hid (T12.out.put ⟨xm, xe, xh, xa⟩)
                  have B13 : Hid (Below q5 w10 ((((w12.setCell ⟨q6, 0, none⟩ (.int .i64 xm)).setCell ⟨q6, 1, none⟩ (.int .i64 xe)).setCell ⟨q6, 2, none⟩ (.int .i64 xh)).setCell ⟨q6, 3, none⟩ (.int .i64 xa))) := Lib.hid (bel_set4 B12.out (Nat.le_of_lt L6.out) _ _ _ _)
                  clear y0 y1 y2 y3 z0 z1 z2 z3 u0 u1 u2 u3 K12 G12 T12 B12
                  generalize ((((w12.setCell ⟨q6, 0, none⟩ (.int .i64 xm)).setCell ⟨q6, 1, none⟩ (.int .i64 xe)).setCell ⟨q6, 2, none⟩ (.int .i64 xh)).setCell ⟨q6, 3, none⟩ (.int .i64 xa)) = w13 at *
                  obtain ⟨x0, x1, x2, x3⟩ := K13.out.cells
                  obtain ⟨y0, y1, y2, y3⟩ := G13.out.cells
                  obtain ⟨z0, z1, z2, z3⟩ := T13.out.cells
                  obtain ⟨u0, u1, u2, u3⟩ := T13.out.free
                  go_wp2
                  go_meet
                  exact ⟨by rw [HZ.out], by first | rfl | rw [HZ.out], rfl, rfl, G13.out, T13.out, B13.out⟩
          case rest =>
            focus
              obtain ⟨rfl, rfl, rfl, rfl, hG, hT, hb⟩ := hcut
              have K11 : Hid (Kb wc w.heap.size ⟨m, ev, h, a⟩) := Lib.hid (K10.out.belowB hb M0.out)
              have A11 : Hid (Kb wc q1 ⟨nm, ne, nh, na⟩) := Lib.hid (A10.out.belowB hb M1.out)
              have X11 : Hid (Kb wc q2 ⟨xm, xe, xh, xa⟩) := Lib.hid (X10.out.belowB hb M2.out)
              have Y11 : Hid (Kb wc q3 ⟨ym, yv, yh, ya⟩) := Lib.hid (Y10.out.belowB hb M3.out)
              have F11 : Hid (Kb wc q4 ⟨nm, ne, nh, na⟩) := Lib.hid (F10.out.belowB hb M4.out)
              have G11 := Lib.hid hG
              have T11 := Lib.hid hT
              have B11 : Hid (Below w.heap.size w wc) := Lib.hid (B10.out.trans (hb.mono (by have := M0.out; omega)))
              clear hG hT hb K10 A10 X10 Y10 F10 G10 T10 B10
              go_wp2_with fail
              refine (HG.out _).mono ?_
              rintro e w12 ⟨rfl, hb⟩
              have K12 : Hid (Kb w12 w.heap.size ⟨m, ev, h, a⟩) := Lib.hid (K11.out.below hb)
              have A12 : Hid (Kb w12 q1 ⟨nm, ne, nh, na⟩) := Lib.hid (A11.out.below hb)
              have X12 : Hid (Kb w12 q2 ⟨xm, xe, xh, xa⟩) := Lib.hid (X11.out.below hb)
              have Y12 : Hid (Kb w12 q3 ⟨ym, yv, yh, ya⟩) := Lib.hid (Y11.out.below hb)
              have F12 : Hid (Kb w12 q4 ⟨nm, ne, nh, na⟩) := Lib.hid (F11.out.below hb)
              have G12 : Hid (Kb w12 q5 ⟨xm, xe, xh, xa⟩) := Lib.hid (G11.out.below hb)
              have T12 : Hid (Kb w12 q6 ⟨ym, yv, yh, ya⟩) := Lib.hid (T11.out.below hb)
              have B12 : Hid (Below w.heap.size w w12) := Lib.hid (B11.out.trans (hb.mono B11.out.size))
              clear hb K11 A11 X11 Y11 F11 G11 T11 B11
              obtain ⟨x0, x1, x2, x3⟩ := K12.out.cells
              go_wp2_with fail
              clear x0 x1 x2 x3
              refine (C9.out _).mono ?_
              rintro e w13 ⟨rfl, hb⟩
              obtain ⟨a0, a1, a2, a3⟩ := (A12.out.below hb).cells
              obtain ⟨b0, b1, b2, b3⟩ := (X12.out.below hb).cells
              obtain ⟨c0, c1, c2, c3⟩ := (Y12.out.below hb).cells
              obtain ⟨d0, d1, d2, d3⟩ := (F12.out.below hb).cells
              obtain ⟨e0, e1, e2, e3⟩ := (G12.out.below hb).cells
              obtain ⟨g0, g1, g2, g3⟩ := (T12.out.below hb).cells
              obtain ⟨t1, t2, t3, t4⟩ := eq_facts
              have B13 : Hid (Below w.heap.size w w13) := Lib.hid (B12.out.trans (hb.mono B12.out.size))
              clear hb
              go_wp2
              go_ret
              exact ⟨rfl, B13.out⟩

end Go.Proofs.Ytildmhfpjdmcbaa.Rat
