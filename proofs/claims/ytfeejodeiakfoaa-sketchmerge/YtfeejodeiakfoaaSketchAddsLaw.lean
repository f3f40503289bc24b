/-
  Adding in two steps is adding the sum at once.
-/
import Derived.Test.YtfeejodeiakfoaaSketchBegun
import Derived.Deep.DeepCutAuto
namespace Go.Proofs.Ytfeejodeiakfoaa.Skt
open Go.RowKit
set_option linter.unusedVariables false

theorem addL_twice {S : Sk} (g : Fine S) (s : ByteArray) (a b : Int) : addL (addL S s a) s b = addL S s (a + b) := by
  have h : (addL (addL S s a) s b).rows = (addL S s (a + b)).rows := by
    refine grid_ext (by rw [rows_add, rows_add, rows_add]) (fun r hr => row_ext (by rw [len_add, len_add, len_add]) (fun j hj => ?_))
    rw [len_add] at hj
    rw [gi_add hj]
    rw [len_add] at hj
    rw [gi_add hj, gi_add hj, plc_same (S := addL S s a) (T := S) rfl]
    split <;> omega
  show Sk.mk _ _ = Sk.mk _ _
  rw [show chg (addF (addL S s a) s b) (addL S s a).rows = chg (addF S s (a + b)) S.rows from h]
  rfl
theorem addM_ok {S : Sk} {s : ByteArray} {n : Int} (h : errA S s n = 0) : addM S s n = addL S s n := by unfold addM; rw [if_pos h]
theorem addM_no {S : Sk} {s : ByteArray} {n : Int} (h : errA S s n ≠ 0) : addM S s n = Sk.no := by unfold addM; rw [if_neg h]
theorem good_addA {S : Sk} {s : ByteArray} {n : Int} (h : errA S s n = 0) : Good (addL S s n) := by
  obtain ⟨g, _, h1, _, hf⟩ := errA_ok h; exact good_add g s h1 hf
theorem tot_ok {S : Sk} (g : Good S) : totM S = sm (gl S.rows 0) := by unfold totM; rw [if_pos g.check]
theorem tot_add {S : Sk} {s : ByteArray} {n : Int} (h : errA S s n = 0) : totM (addL S s n) = totM S + n := by
  obtain ⟨g, _, _, _, _⟩ := errA_ok h
  rw [tot_ok (good_addA h), tot_ok g, sm_add g.toFine s n (by have := g.l1; omega)]
theorem adds_far {S : Sk} {s : ByteArray} {a b : Int} (h1 : errA S s a = 0) (hn : 1099511627776 < a + b) : errA S s (a + b) = 3 := by
  obtain ⟨g, hs, _, _, _⟩ := errA_ok h1
  exact (errA_range (errS_of g hs) (.inr hn)).1
theorem adds_near {S : Sk} {s : ByteArray} {a b : Int} (h1 : errA S s a = 0) (h2 : errA (addL S s a) s b = 0) (hn : a + b ≤ 1099511627776) :
    errA S s (a + b) = 0 ∧ addM S s (a + b) = addL (addL S s a) s b := by
  obtain ⟨g, hs, a1, a2, hf⟩ := errA_ok h1
  obtain ⟨g', _, b1, b2, hf'⟩ := errA_ok h2
  rw [addL_twice g.toFine] at hf' ⊢
  have e := errA_of g hs (show 1 ≤ a + b by omega) hn hf'
  exact ⟨e, addM_ok e⟩

theorem same_bg (A : Option Addr) (c : Nat) (w : World) (h : Grid 0 w A c Sk.no.rows) : Calls Try.prog 21 #[sv Sk.no A c, .agg #[.int .i64 0, .slice none 0 0]] w fun e w' => e = .returned (.bool true) ∧ Below w.heap.size w w' := by
  have h := sameS_any 0 0 Sk.no Sk.no A none c 0 w h (Grid.none_ _ _)
  rwa [sameS_refl] at h

set_option maxHeartbeats 8000000 in
theorem sketchAdds_walk (S : Sk) (A : Option Addr) (c : Nat) (s : ByteArray) (a b : Int) (w : World) (hg : Grid 0 w A c S.rows) (hs : s.size ≤ maxLen) :
    Calls Try.prog 6 #[sv S A c, .string s, .int .i64 a, .int .i64 b] w fun e w' => e = .returned (.bool true) ∧ Below w.heap.size w w' := by
  have X0 := Bx.new (S := S) hg
  have HB0 : Below w.heap.size w (w.alloc (so S A c)) := (Below.refl _ _).alloc (Nat.le_refl _) _
  have HX := Lib.hid X0
  clear X0 hg
  by_cases e1 : errA S s a = 0
  · have HE1 := Lib.hid e1
    have HM1 := Lib.hid (addM_ok e1)
    obtain ⟨_, _, a1, a2, _⟩ := errA_ok e1
    clear e1
    go_enter Try.func6, Try.ntmps6
    go_wp2_with fail
    refine (add_any 0 S A c s a _ HX.out.grid hs).mono ?_
    rintro e w1 ⟨A1, c1, rfl, hg1, hb1⟩
    rw [HE1.out]
    rw [HM1.out] at hg1 ⊢
    have X1 := (HX.out.below hb1).alloc (so (addL S s a) A1 c1)
    have Y1 := Bx.new (hg1.mono (Nat.zero_le _))
    have HB1 := bel_al (HB0.trans (hb1.mono HB0.size)) (Nat.le_refl _) (so (addL S s a) A1 c1)
    clear hb1 hg1 HB0 HX
    have HX := Lib.hid X1
    have HY := Lib.hid Y1
    obtain ⟨_, x1, x2, _⟩ := X1
    obtain ⟨_, y1, y2, _⟩ := Y1
    go_wp2_with fail
    refine (begun_any _).mono ?_
    rintro e w2 ⟨rfl, hb2⟩
    have X2 := HX.out.below hb2
    have Y2 := HY.out.below hb2
    have HB2 := HB1.trans (hb2.mono HB1.size)
    clear hb2 x1 x2 y1 y2 HB1 HX HY
    have HX := Lib.hid X2
    have HY := Lib.hid Y2
    obtain ⟨_, x1, x2, _⟩ := X2
    obtain ⟨_, y1, y2, _⟩ := Y2
    by_cases e2 : errA (addL S s a) s b = 0
    · have HE2 := Lib.hid e2
      have HM2 := Lib.hid (addM_ok e2)
      obtain ⟨_, _, b1, b2, _⟩ := errA_ok e2
      have HT2 := Lib.hid (tot_add e2)
      have HT1 := Lib.hid (tot_add HE1.out)
      have HC : Hid (checkS S = 0) := Lib.hid (errA_ok HE1.out).1.check
      have HC2 : Hid (checkS (addL (addL S s a) s b) = 0) := Lib.hid (good_addA e2).check
      have HTb : Hid (0 ≤ totM S ∧ totM S ≤ 70368744177664) := Lib.hid (by
        have g := (errA_ok HE1.out).1
        rw [tot_ok g]
        have l1 := g.l1
        have := g.toFine.summed 0 (by omega)
        exact this.1.take this.2 (Nat.le_refl _))
      clear e2
      go_wp2_with fail
      refine (add_any 0 (addL S s a) A1 c1 s b _ HY.out.grid hs).mono ?_
      rintro e w3 ⟨A3, c3, rfl, hg3, hb3⟩
      rw [HE2.out]
      rw [HM2.out] at hg3 ⊢
      generalize hY : addL (addL S s a) s b = Y at *
      have HYY := Lib.hid hY
      clear hY
      have X3 := (HX.out.below hb3).alloc (so Y A3 c3)
      have Z3 := Bx.new (hg3.mono (Nat.zero_le _))
      have HB3 := bel_al (HB2.trans (hb3.mono HB2.size)) (Nat.le_refl _) (so Y A3 c3)
      clear hb3 hg3 HB2 HX HY x1 x2 y1 y2
      have HX := Lib.hid X3
      have HZ := Lib.hid Z3
      obtain ⟨_, x1, x2, _⟩ := X3
      obtain ⟨_, z1, z2, _⟩ := Z3
      have hab : IntKind.i64.wrap (a + b) = a + b := by rw [IntKind.wrap_i64]; omega
      go_wp2_with fail
      refine (add_any 0 S A c s (a + b) _ HX.out.grid hs).mono ?_
      rintro e w4 ⟨A4, c4, rfl, hg4, hb4⟩
      have X4 := (HX.out.below hb4).alloc (so (addM S s (a + b)) A4 c4)
      have Z4 := (HZ.out.below hb4).alloc (so (addM S s (a + b)) A4 c4)
      have V4 := Bx.new (hg4.mono (Nat.zero_le _))
      have HB4 := bel_al (HB3.trans (hb4.mono HB3.size)) (Nat.le_refl _) (so (addM S s (a + b)) A4 c4)
      clear hb4 hg4 HB3 HX HZ x1 x2 z1 z2
      have HX := Lib.hid X4
      have HZ := Lib.hid Z4
      have HV := Lib.hid V4
      obtain ⟨_, x1, x2, _⟩ := X4
      obtain ⟨_, z1, z2, _⟩ := Z4
      obtain ⟨_, v1, v2, _⟩ := V4
      go_wp2_with fail
      refine (total_any 0 S A c _ HX.out.grid).mono ?_
      rintro e w5 ⟨rfl, hb5⟩
      rw [HC.out]
      have Z5 := HZ.out.below hb5
      have V5 := HV.out.below hb5
      have HB5 := HB4.trans (hb5.mono HB4.size)
      clear hb5 HB4 HX HZ HV x1 x2 z1 z2 v1 v2
      have HZ := Lib.hid Z5
      have HV := Lib.hid V5
      obtain ⟨_, z1, z2, _⟩ := Z5
      obtain ⟨_, v1, v2, _⟩ := V5
      go_wp2_with fail
      refine (total_any 0 Y A3 c3 _ HZ.out.grid).mono ?_
      rintro e w6 ⟨rfl, hb6⟩
      rw [HC2.out, HT2.out, HT1.out]
      have Z6 := HZ.out.below hb6
      have V6 := HV.out.below hb6
      have HB6 := HB5.trans (hb6.mono HB5.size)
      clear hb6 HB5 HZ HV z1 z2 v1 v2
      have HZ := Lib.hid Z6
      have HV := Lib.hid V6
      obtain ⟨_, z1, z2, _⟩ := Z6
      obtain ⟨_, v1, v2, _⟩ := V6
      obtain ⟨t1, t2⟩ := HTb.out
      generalize totM S = t at *
      by_cases hn : 1099511627776 < a + b
      · have q : decide (1099511627776 < a + b) = true := by simpa using hn
        have HF := Lib.hid (adds_far HE1.out hn)
        clear hn
        rw [HF.out]
        go_wp2
        go_ret
        exact ⟨rfl, HB6⟩
      · have hF := adds_near HE1.out HE2.out (by omega)
        rw [HYY.out] at hF
        have q : decide (1099511627776 < a + b) = false := by simpa using hn
        have HF := Lib.hid hF
        clear hn hF
        rw [HF.out.1]
        rw [HF.out.2] at HV v1 v2
        have hta : IntKind.i64.wrap (t + a) = t + a := by rw [IntKind.wrap_i64]; omega
        have htb : IntKind.i64.wrap (t + a + b) = t + a + b := by rw [IntKind.wrap_i64]; omega
        have qt : (t + a + b == t + a + b) = true := by simp
        go_wp2_with fail
        refine (sameS_any 0 0 Y Y A4 A3 c4 c3 _ HV.out.grid HZ.out.grid).mono ?_
        rintro e w7 ⟨rfl, hb7⟩
        rw [sameS_refl]
        go_wp2
        go_ret
        exact ⟨rfl, HB6.trans (hb7.mono HB6.size)⟩
    · have hq := bd_ne e2
      clear e2
      go_wp2_with fail
      refine (add_any 0 (addL S s a) A1 c1 s b _ HY.out.grid hs).mono ?_
      rintro e w3 ⟨A3, c3, rfl, hg3, hb3⟩
      have HB3 := bel_al (HB2.trans (hb3.mono HB2.size)) (Nat.le_refl _) (so (addM (addL S s a) s b) A3 c3)
      clear hb3 hg3 HB2
      go_wp2
      go_ret
      exact ⟨rfl, HB3⟩
  · have hq := bd_ne e1
    have HM1 := Lib.hid (addM_no e1)
    clear e1
    go_enter Try.func6, Try.ntmps6
    go_wp2_with fail
    refine (add_any 0 S A c s a _ HX.out.grid hs).mono ?_
    rintro e w1 ⟨A1, c1, rfl, hg1, hb1⟩
    rw [HM1.out] at hg1 ⊢
    have Y1 := Bx.new (hg1.mono (Nat.zero_le _))
    have HB1 := bel_al (HB0.trans (hb1.mono HB0.size)) (Nat.le_refl _) (so Sk.no A1 c1)
    clear hb1 hg1 HB0 HX
    have HY := Lib.hid Y1
    obtain ⟨_, y1, y2, _⟩ := Y1
    go_wp2_with fail
    refine (begun_any _).mono ?_
    rintro e w2 ⟨rfl, hb2⟩
    have Y2 := HY.out.below hb2
    have HB2 := HB1.trans (hb2.mono HB1.size)
    clear hb2 y1 y2 HB1 HY
    have HY := Lib.hid Y2
    obtain ⟨_, y1, y2, _⟩ := Y2
    go_wp2_with fail
    refine (same_bg A1 c1 _ HY.out.grid).mono ?_
    rintro e w3 ⟨rfl, hb3⟩
    go_wp2
    go_ret
    exact ⟨rfl, HB2.trans (hb3.mono HB2.size)⟩

end Go.Proofs.Ytfeejodeiakfoaa.Skt
