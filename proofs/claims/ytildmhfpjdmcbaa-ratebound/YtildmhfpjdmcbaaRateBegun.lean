/-
  What must be in any case: the laws' first test (rateBegun) is true.
-/
import Derived.Test.YtildmhfpjdmcbaaRateApi2
namespace Go.Proofs.Ytildmhfpjdmcbaa.Rat
open Go.RowKit
set_option linter.unusedVariables false
set_option maxRecDepth 100000

abbrev NwC (m e t : Int) (c : Bk) (r : Int) : Prop := ∀ W : World, Calls Try.prog 7 #[.int .i64 m, .int .i64 e, .int .i64 t] W fun en w' => en = .returned (.tuple #[bv c, .int .i64 r]) ∧ Below W.heap.size W w'
abbrev WhC (b : Bk) (t n v r : Int) : Prop := ∀ W : World, Calls Try.prog 10 #[bv b, .int .i64 t, .int .i64 n] W fun en w' => en = .returned (.tuple #[.int .i64 v, .int .i64 r]) ∧ Below W.heap.size W w'
/-- What '==' of two buckets wants to know of their type. -/
theorem eq_facts : Try.prog.underlying 23 = some (.struct #[⟨"Most", 3, 0, false, "", "", 0⟩, ⟨"Every", 3, 1, false, "", "", 8⟩, ⟨"Has", 3, 2, false, "", "", 16⟩, ⟨"At", 3, 3, false, "", "", 24⟩]) ∧ Try.prog.stoodInHeld 23 = false ∧ Try.prog.eqGuardType Try.prog.depth 23 = false ∧ Try.prog.underlying 3 = some (.int .i64) :=
  ⟨by kernel_rfl, by kernel_rfl, by kernel_rfl, by kernel_rfl⟩

theorem bg1 : nwB 3 10 100 = ⟨3, 10, 3, 100⟩ ∧ ckE ⟨3, 10, 3, 100⟩ = 0 := by decide
theorem bg2 : tkB ⟨3, 10, 3, 100⟩ 100 2 = ⟨3, 10, 1, 100⟩ ∧ tkI ⟨3, 10, 3, 100⟩ 100 2 = true ∧ tkE ⟨3, 10, 3, 100⟩ 100 2 = 0 := by decide
theorem bg3 : avR ⟨3, 10, 1, 100⟩ 119 = ⟨3, 10, 2, 110⟩ ∧ avE ⟨3, 10, 1, 100⟩ 119 4 = 0 := by decide
theorem bg4 : whV ⟨3, 10, 1, 100⟩ 105 3 = 120 ∧ whE ⟨3, 10, 1, 100⟩ 105 3 = 0 := by decide
theorem bg5 : tkB ⟨3, 10, 1, 100⟩ 109 2 = ⟨3, 10, 1, 100⟩ ∧ tkI ⟨3, 10, 1, 100⟩ 109 2 = false ∧ tkE ⟨3, 10, 1, 100⟩ 109 2 = 0 := by decide
theorem bg6 : whV ⟨3, 10, 1, 100⟩ 105 4 = 0 ∧ whE ⟨3, 10, 1, 100⟩ 105 4 = 5 := by decide
theorem bg7 : avR ⟨3, 10, 1, 100⟩ 99 = nB ∧ avE ⟨3, 10, 1, 100⟩ 99 4 = 4 := by decide
theorem bg8 : ckE nB = 3 := by decide

set_option maxHeartbeats 8000000 in
theorem begun_any (w : World) : Calls Try.prog 14 #[] w fun e w' => e = .returned (.bool true) ∧ Below w.heap.size w w' := by
  have C1 : Hid (NwC 3 10 100 ⟨3, 10, 3, 100⟩ 0) := Lib.hid (fun W => by have h := new_any 3 10 100 W; rwa [bg1.1, bg1.2] at h)
  have C2 : Hid (TkC ⟨3, 10, 3, 100⟩ 100 2 ⟨3, 10, 1, 100⟩ true 0) := Lib.hid (fun W => by have h := take_any ⟨3, 10, 3, 100⟩ 100 2 W; rwa [bg2.1, bg2.2.1, bg2.2.2] at h)
  have C3 : Hid (AvC ⟨3, 10, 1, 100⟩ 119 ⟨3, 10, 2, 110⟩ 0) := Lib.hid (fun W => by have h := advance_any ⟨3, 10, 1, 100⟩ 119 W; rwa [bg3.1, bg3.2] at h)
  have C4 : Hid (WhC ⟨3, 10, 1, 100⟩ 105 3 120 0) := Lib.hid (fun W => by have h := when_any ⟨3, 10, 1, 100⟩ 105 3 W; rwa [bg4.1, bg4.2] at h)
  have C5 : Hid (TkC ⟨3, 10, 1, 100⟩ 109 2 ⟨3, 10, 1, 100⟩ false 0) := Lib.hid (fun W => by have h := take_any ⟨3, 10, 1, 100⟩ 109 2 W; rwa [bg5.1, bg5.2.1, bg5.2.2] at h)
  have C6 : Hid (WhC ⟨3, 10, 1, 100⟩ 105 4 0 5) := Lib.hid (fun W => by have h := when_any ⟨3, 10, 1, 100⟩ 105 4 W; rwa [bg6.1, bg6.2] at h)
  have C7 : Hid (AvC ⟨3, 10, 1, 100⟩ 99 nB 4) := Lib.hid (fun W => by have h := advance_any ⟨3, 10, 1, 100⟩ 99 W; rwa [bg7.1, bg7.2] at h)
  have C8 : Hid (CkC nB 3) := Lib.hid (fun W => by have h := check_any nB W; rwa [bg8] at h)
  go_enter Try.func14, Try.ntmps14
  go_wp2_with fail
  refine (C1.out _).mono ?_
  rintro e w1 ⟨rfl, hb1⟩
  have HK1 : Hid (Kb (w1.alloc (bo ⟨3, 10, 3, 100⟩)) w1.heap.size ⟨3, 10, 3, 100⟩) := Lib.hid (Kb.new w1 _)
  have HB1 : Hid (Below w.heap.size w (w1.alloc (bo ⟨3, 10, 3, 100⟩))) := Lib.hid (bel_al hb1 hb1.size _)
  have HP : Hid (w.heap.size ≤ w1.heap.size) := Lib.hid hb1.size
  clear hb1
  obtain ⟨x0, x1, x2, x3⟩ := HK1.out.cells
  obtain ⟨y0, y1, y2, y3⟩ := HK1.out.free
  go_wp2_with fail
  refine (C2.out _).mono ?_
  rintro e w2 ⟨rfl, hb2⟩
  clear x0 x1 x2 x3 y0 y1 y2 y3
  obtain ⟨p, hp⟩ : ∃ p, p = w1.heap.size := ⟨_, rfl⟩
  have HK2 : Hid (Kb w2 p ⟨3, 10, 3, 100⟩) := Lib.hid (by rw [hp]; exact HK1.out.below hb2)
  have HB2 : Hid (Below w.heap.size w w2) := Lib.hid (HB1.out.trans (hb2.mono HB1.out.size))
  have HPp : Hid (w.heap.size ≤ p) := Lib.hid (by rw [hp]; exact HP.out)
  rw [← hp]
  clear HP hp hb2 HK1 HB1
  have HK3 : Hid (Kb ((((w2.setCell ⟨p, 0, none⟩ (.int .i64 3)).setCell ⟨p, 1, none⟩ (.int .i64 10)).setCell ⟨p, 2, none⟩ (.int .i64 1)).setCell ⟨p, 3, none⟩ (.int .i64 100)) p ⟨3, 10, 1, 100⟩) := Lib.hid (HK2.out.put ⟨3, 10, 1, 100⟩)
  have HB3 : Hid (Below w.heap.size w ((((w2.setCell ⟨p, 0, none⟩ (.int .i64 3)).setCell ⟨p, 1, none⟩ (.int .i64 10)).setCell ⟨p, 2, none⟩ (.int .i64 1)).setCell ⟨p, 3, none⟩ (.int .i64 100))) := Lib.hid (bel_set4 HB2.out HPp.out _ _ _ _)
  obtain ⟨x0, x1, x2, x3⟩ := HK2.out.cells
  obtain ⟨y0, y1, y2, y3⟩ := HK2.out.free
  go_wp2_with fail
  clear x0 x1 x2 x3 y0 y1 y2 y3
  generalize ((((w2.setCell ⟨p, 0, none⟩ (.int .i64 3)).setCell ⟨p, 1, none⟩ (.int .i64 10)).setCell ⟨p, 2, none⟩ (.int .i64 1)).setCell ⟨p, 3, none⟩ (.int .i64 100)) = w3 at *
  refine (C3.out _).mono ?_
  rintro e w4 ⟨rfl, hb4⟩
  have HK4 : Hid (Kb (w4.alloc (bo ⟨3, 10, 2, 110⟩)) p ⟨3, 10, 1, 100⟩) := Lib.hid ((HK3.out.below hb4).alloc _)
  have HC4 : Hid (Kb (w4.alloc (bo ⟨3, 10, 2, 110⟩)) w4.heap.size ⟨3, 10, 2, 110⟩) := Lib.hid (Kb.new w4 _)
  have hb4' : Below w.heap.size w w4 := HB3.out.trans (hb4.mono HB3.out.size)
  have HB4 : Hid (Below w.heap.size w (w4.alloc (bo ⟨3, 10, 2, 110⟩))) := Lib.hid (bel_al hb4' hb4'.size _)
  clear hb4 hb4' HK2 HB2 HK3 HB3
  obtain ⟨x0, x1, x2, x3⟩ := HK4.out.cells
  go_wp2_with fail
  clear x0 x1 x2 x3
  obtain ⟨q, hq⟩ : ∃ q, q = w4.heap.size := ⟨_, rfl⟩
  rw [← hq] at HC4 ⊢
  clear hq
  generalize w4.alloc (bo ⟨3, 10, 2, 110⟩) = w5 at *
  refine (C4.out _).mono ?_
  rintro e w6 ⟨rfl, hb6⟩
  have HK6 : Hid (Kb w6 p ⟨3, 10, 1, 100⟩) := Lib.hid (HK4.out.below hb6)
  have HC6 : Hid (Kb w6 q ⟨3, 10, 2, 110⟩) := Lib.hid (HC4.out.below hb6)
  have HB6 : Hid (Below w.heap.size w w6) := Lib.hid (HB4.out.trans (hb6.mono HB4.out.size))
  clear hb6 HK4 HC4 HB4
  obtain ⟨x0, x1, x2, x3⟩ := HK6.out.cells
  go_wp2_with fail
  clear x0 x1 x2 x3
  refine (C5.out _).mono ?_
  rintro e w7 ⟨rfl, hb7⟩
  have HK7 : Hid (Kb (w7.alloc (bo ⟨3, 10, 1, 100⟩)) p ⟨3, 10, 1, 100⟩) := Lib.hid ((HK6.out.below hb7).alloc _)
  have HC7 : Hid (Kb (w7.alloc (bo ⟨3, 10, 1, 100⟩)) q ⟨3, 10, 2, 110⟩) := Lib.hid ((HC6.out.below hb7).alloc _)
  have HD7 : Hid (Kb (w7.alloc (bo ⟨3, 10, 1, 100⟩)) w7.heap.size ⟨3, 10, 1, 100⟩) := Lib.hid (Kb.new w7 _)
  have hb7' : Below w.heap.size w w7 := HB6.out.trans (hb7.mono HB6.out.size)
  have HB7 : Hid (Below w.heap.size w (w7.alloc (bo ⟨3, 10, 1, 100⟩))) := Lib.hid (bel_al hb7' hb7'.size _)
  clear hb7 hb7' HK6 HC6 HB6
  obtain ⟨x0, x1, x2, x3⟩ := HK7.out.cells
  go_wp2_with fail
  clear x0 x1 x2 x3
  obtain ⟨d, hd⟩ : ∃ d, d = w7.heap.size := ⟨_, rfl⟩
  rw [← hd] at HD7 ⊢
  clear hd
  generalize w7.alloc (bo ⟨3, 10, 1, 100⟩) = w8 at *
  refine (C6.out _).mono ?_
  rintro e w9 ⟨rfl, hb9⟩
  have HK9 : Hid (Kb w9 p ⟨3, 10, 1, 100⟩) := Lib.hid (HK7.out.below hb9)
  have HC9 : Hid (Kb w9 q ⟨3, 10, 2, 110⟩) := Lib.hid (HC7.out.below hb9)
  have HD9 : Hid (Kb w9 d ⟨3, 10, 1, 100⟩) := Lib.hid (HD7.out.below hb9)
  have HB9 : Hid (Below w.heap.size w w9) := Lib.hid (HB7.out.trans (hb9.mono HB7.out.size))
  clear hb9 HK7 HC7 HD7 HB7
  obtain ⟨x0, x1, x2, x3⟩ := HK9.out.cells
  go_wp2_with fail
  clear x0 x1 x2 x3
  refine (C7.out _).mono ?_
  rintro e w10 ⟨rfl, hb10⟩
  have HK10 : Hid (Kb (w10.alloc (bo nB)) p ⟨3, 10, 1, 100⟩) := Lib.hid ((HK9.out.below hb10).alloc _)
  have HC10 : Hid (Kb (w10.alloc (bo nB)) q ⟨3, 10, 2, 110⟩) := Lib.hid ((HC9.out.below hb10).alloc _)
  have HD10 : Hid (Kb (w10.alloc (bo nB)) d ⟨3, 10, 1, 100⟩) := Lib.hid ((HD9.out.below hb10).alloc _)
  have hb10' : Below w.heap.size w w10 := HB9.out.trans (hb10.mono HB9.out.size)
  have HB10 : Hid (Below w.heap.size w (w10.alloc (bo nB))) := Lib.hid (bel_al hb10' hb10'.size _)
  clear hb10 hb10' HK9 HC9 HD9 HB9
  obtain ⟨x0, x1, x2, x3⟩ := HK10.out.cells
  obtain ⟨y0, y1, y2, y3⟩ := HC10.out.cells
  obtain ⟨z0, z1, z2, z3⟩ := HD10.out.cells
  obtain ⟨t1, t2, t3, t4⟩ := eq_facts
  go_wp2_with fail
  refine (C8.out _).mono ?_
  rintro e w11 ⟨rfl, hb11⟩
  go_wp2
  go_ret
  exact ⟨rfl, HB10.out.trans (hb11.mono HB10.out.size)⟩

end Go.Proofs.Ytildmhfpjdmcbaa.Rat
