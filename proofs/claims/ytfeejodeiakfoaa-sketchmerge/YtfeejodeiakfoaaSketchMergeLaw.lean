/-
  Adding to one of two sketches or to their sum gives the same sum; merging is commutative.
-/
import Derived.Test.YtfeejodeiakfoaaSketchAddsLaw
namespace Go.Proofs.Ytfeejodeiakfoaa.Skt
open Go.RowKit
set_option linter.unusedVariables false

theorem sk_eq {S T : Sk} (h1 : S.wide = T.wide) (h2 : S.rows = T.rows) : S = T := by cases S; cases T; simp_all
theorem merM_ok {S T : Sk} (h : errM S T = 0) : merM S T = merL S T := by unfold merM; rw [if_pos h]
theorem merM_no {S T : Sk} (h : errM S T ≠ 0) : merM S T = Sk.no := by unfold merM; rw [if_neg h]
theorem row_lens {S T : Sk} (g : Good S) (g' : Good T) (h1 : S.rows.length = T.rows.length) (h2 : S.wide = T.wide) {r : Nat} (hr : r < S.rows.length) : (gl S.rows r).length = (gl T.rows r).length := by
  have := g.len r hr; have := g'.len r (by omega); omega
theorem mer_comm {S T : Sk} (g : Good S) (g' : Good T) (h1 : S.rows.length = T.rows.length) (h2 : S.wide = T.wide) : merL T S = merL S T := by
  refine sk_eq h2.symm (grid_ext (by rw [rows_mer, rows_mer, h1]) (fun r hr => ?_))
  rw [rows_mer, ← h1] at hr
  have hl := row_lens g g' h1 h2 hr
  refine row_ext (by rw [len_mer, len_mer, hl]) (fun j hj => ?_)
  rw [len_mer] at hj
  rw [gi_mer hj, gi_mer (by rw [hl]; exact hj)]
  omega
theorem errM_comm {S T : Sk} (h : errM S T = 0) : errM T S = 0 ∧ merM T S = merL S T := by
  obtain ⟨g, g', h1, h2, hf⟩ := errM_ok h
  have e := errM_of g' g h1.symm h2.symm (by rw [mer_comm g g' h1 h2]; exact hf)
  exact ⟨e, (merM_ok e).trans (mer_comm g g' h1 h2)⟩
theorem mer_add {S T : Sk} (s : ByteArray) (n : Int) : merL (addL S s n) T = addL (merL S T) s n := by
  refine sk_eq rfl (grid_ext (by rw [rows_mer, rows_add, rows_add, rows_mer]) (fun r hr => row_ext (by rw [len_mer, len_add, len_add, len_mer]) (fun j hj => ?_)))
  rw [len_mer, len_add] at hj
  rw [gi_mer (by rw [len_add]; exact hj), gi_add hj, gi_add (by rw [len_mer]; exact hj), gi_mer hj, plc_same (S := merL S T) (T := S) rfl]
  split <;> omega
theorem add_mer {S T : Sk} {s : ByteArray} {n : Int} (h : errM S T = 0) (ha : errA (merL S T) s n = 0) : errA S s n = 0 := by
  obtain ⟨g, g', h1, h2, hf⟩ := errM_ok h
  obtain ⟨_, hs, n1, n2, hfa⟩ := errA_ok ha
  refine errA_of g hs n1 n2 (fun r hr j hj => ?_)
  rw [rows_add] at hr
  rw [len_add] at hj
  have := hfa r (by rw [rows_add, rows_mer]; exact hr) j (by rw [len_add, len_mer]; exact hj)
  rw [gi_add (by rw [len_mer]; exact hj), gi_mer hj, plc_same (S := merL S T) (T := S) rfl] at this
  rw [gi_add hj]
  have b := (g'.bd r (by omega) j (by rw [← row_lens g g' h1 h2 hr]; exact hj)).1
  split at this <;> split <;> first | omega | contradiction
theorem mer_add_ok {S T : Sk} {s : ByteArray} {n : Int} (h : errM S T = 0) (hx : errA S s n = 0) (ha : errA (merL S T) s n = 0) : errM (addL S s n) T = 0 ∧ merM (addL S s n) T = addL (merL S T) s n := by
  obtain ⟨g, g', h1, h2, hf⟩ := errM_ok h
  obtain ⟨_, hs, n1, n2, hfa⟩ := errA_ok ha
  have e := errM_of (good_addA hx) g' (by rw [rows_add]; exact h1) h2 (by rw [mer_add]; exact hfa)
  exact ⟨e, (merM_ok e).trans (mer_add s n)⟩
theorem est_mer {S T : Sk} {s : ByteArray} {n : Int} (h : errM S T = 0) (hx : errA S s n = 0) : errS S s = 0 ∧ errS (merL S T) s = 0 ∧ estM S s ≤ estM (merL S T) s := by
  obtain ⟨g, g', h1, h2, hf⟩ := errM_ok h
  obtain ⟨_, hs, _, _, _⟩ := errA_ok hx
  have e1 := errS_of g hs
  have e2 := errS_of (good_mer g g' h1 h2 hf) hs
  refine ⟨e1, e2, ?_⟩
  unfold estM estL
  rw [if_pos e1, if_pos e2, rows_mer]
  refine est_mono (fun r hr => ?_)
  unfold cnt
  have hp := plc_lt' g.toFine s hr
  rw [plc_same (S := merL S T) (T := S) rfl, gi_mer hp]
  have b := (g'.bd r (by omega) (plc S s r) (by rw [← row_lens g g' h1 h2 hr]; exact hp)).1
  omega

set_option maxHeartbeats 8000000 in
theorem sketchMerge_walk (S : Sk) (A : Option Addr) (c : Nat) (T : Sk) (B : Option Addr) (d : Nat) (s : ByteArray) (n : Int) (w : World) (hg : Grid 0 w A c S.rows) (hg' : Grid 0 w B d T.rows) (hs : s.size ≤ maxLen) :
    Calls Try.prog 5 #[sv S A c, sv T B d, .string s, .int .i64 n] w fun e w' => e = .returned (.bool true) ∧ Below w.heap.size w w' := by
  have X0 := (Bx.new (S := S) hg).alloc (so T B d)
  have Y0 : Bx ((w.alloc (so S A c)).alloc (so T B d)) (w.heap.size + 1) T B d := by
    have h := Bx.new (S := T) (hg'.alloc (so S A c))
    rwa [show (w.alloc (so S A c)).heap.size = w.heap.size + 1 by simp] at h
  have HB0 : Below w.heap.size w ((w.alloc (so S A c)).alloc (so T B d)) := ((Below.refl _ _).alloc (Nat.le_refl _) _).alloc (by simp) _
  have HX := Lib.hid X0
  have HY := Lib.hid Y0
  clear X0 Y0 hg hg'
  by_cases e1 : errM S T = 0
  · have HE1 := Lib.hid e1
    have HM1 := Lib.hid (merM_ok e1)
    have HC := Lib.hid (errM_comm e1)
    clear e1
    go_enter Try.func5, Try.ntmps5
    go_wp2_with fail
    refine (merge_any 0 0 S T A B c d _ HX.out.grid HY.out.grid).mono ?_
    rintro e w1 ⟨A1, c1, rfl, hg1, hb1⟩
    rw [HE1.out]
    rw [HM1.out] at hg1 ⊢
    have X1 := (HX.out.below hb1).alloc (so (merL S T) A1 c1)
    have Y1 := (HY.out.below hb1).alloc (so (merL S T) A1 c1)
    have M1 := Bx.new (hg1.mono (Nat.zero_le _))
    have HB1 := bel_al (HB0.trans (hb1.mono HB0.size)) (Nat.le_refl _) (so (merL S T) A1 c1)
    clear hb1 HB0 hg1 HX HY
    have HX := Lib.hid X1
    have HY := Lib.hid Y1
    have HM := Lib.hid M1
    obtain ⟨_, x1, x2, _⟩ := X1
    obtain ⟨_, y1, y2, _⟩ := Y1
    obtain ⟨_, m1, m2, _⟩ := M1
    go_wp2_with fail
    refine (merge_any 0 0 T S B A d c _ HY.out.grid HX.out.grid).mono ?_
    rintro e w2 ⟨A2, c2, rfl, hg2, hb2⟩
    rw [HC.out.1]
    rw [HC.out.2] at hg2 ⊢
    have X2 := (HX.out.below hb2).alloc (so (merL S T) A2 c2)
    have Y2 := (HY.out.below hb2).alloc (so (merL S T) A2 c2)
    have M2 := (HM.out.below hb2).alloc (so (merL S T) A2 c2)
    have N2 := Bx.new (hg2.mono (Nat.zero_le _))
    have HB2 := bel_al (HB1.trans (hb2.mono HB1.size)) (Nat.le_refl _) (so (merL S T) A2 c2)
    clear hb2 HB1 hg2 HX x1 x2 HY y1 y2 HM m1 m2
    have HX := Lib.hid X2
    have HY := Lib.hid Y2
    have HM := Lib.hid M2
    have HN := Lib.hid N2
    obtain ⟨_, x1, x2, _⟩ := X2
    obtain ⟨_, y1, y2, _⟩ := Y2
    obtain ⟨_, m1, m2, _⟩ := M2
    obtain ⟨_, n1, n2, _⟩ := N2
    go_wp2_with fail
    refine (begun_any _).mono ?_
    rintro e w3 ⟨rfl, hb3⟩
    have X3 := (HX.out.below hb3)
    have Y3 := (HY.out.below hb3)
    have M3 := (HM.out.below hb3)
    have N3 := (HN.out.below hb3)
    have HB3 := HB2.trans (hb3.mono HB2.size)
    clear hb3 HB2 HX x1 x2 HY y1 y2 HM m1 m2 HN n1 n2
    have HX := Lib.hid X3
    have HY := Lib.hid Y3
    have HM := Lib.hid M3
    have HN := Lib.hid N3
    obtain ⟨_, x1, x2, _⟩ := X3
    obtain ⟨_, y1, y2, _⟩ := Y3
    obtain ⟨_, m1, m2, _⟩ := M3
    obtain ⟨_, n1, n2, _⟩ := N3
    generalize hP : merL S T = P at *
    have HP := Lib.hid hP
    clear hP
    go_wp2_with fail
    refine (sameS_any 0 0 P P A1 A2 c1 c2 _ HM.out.grid HN.out.grid).mono ?_
    rintro e w4 ⟨rfl, hb4⟩
    rw [sameS_refl]
    have X4 := (HX.out.below hb4)
    have Y4 := (HY.out.below hb4)
    have M4 := (HM.out.below hb4)
    have N4 := (HN.out.below hb4)
    have HB4 := HB3.trans (hb4.mono HB3.size)
    clear hb4 HB3 HX x1 x2 HY y1 y2 HM m1 m2 HN n1 n2
    clear N4
    have HX := Lib.hid X4
    have HY := Lib.hid Y4
    have HM := Lib.hid M4
    obtain ⟨_, x1, x2, _⟩ := X4
    obtain ⟨_, y1, y2, _⟩ := Y4
    obtain ⟨_, m1, m2, _⟩ := M4
    by_cases e2 : errA P s n = 0
    · have e3 : errA S s n = 0 := add_mer HE1.out (by rw [HP.out]; exact e2)
      have hF := mer_add_ok HE1.out e3 (by rw [HP.out]; exact e2)
      rw [HP.out] at hF
      have HF := Lib.hid hF
      have hE := est_mer HE1.out e3
      rw [HP.out] at hE
      have HES := Lib.hid hE
      have hle := hE.2.2
      have HMU := Lib.hid (addM_ok e3)
      have HMV := Lib.hid (addM_ok e2)
      have HE2 := Lib.hid e2
      have HE3 := Lib.hid e3
      clear e2 e3 hF hE
      go_wp2_with fail
      refine (add_any 0 S A c s n _ HX.out.grid hs).mono ?_
      rintro e w5 ⟨A5, c5, rfl, hg5, hb5⟩
      rw [HE3.out]
      rw [HMU.out] at hg5 ⊢
      have X5 := (HX.out.below hb5).alloc (so (addL S s n) A5 c5)
      have Y5 := (HY.out.below hb5).alloc (so (addL S s n) A5 c5)
      have M5 := (HM.out.below hb5).alloc (so (addL S s n) A5 c5)
      have U5 := Bx.new (hg5.mono (Nat.zero_le _))
      have HB5 := bel_al (HB4.trans (hb5.mono HB4.size)) (Nat.le_refl _) (so (addL S s n) A5 c5)
      clear hb5 HB4 hg5 HX x1 x2 HY y1 y2 HM m1 m2
      have HX := Lib.hid X5
      have HY := Lib.hid Y5
      have HM := Lib.hid M5
      have HU := Lib.hid U5
      obtain ⟨_, x1, x2, _⟩ := X5
      obtain ⟨_, y1, y2, _⟩ := Y5
      obtain ⟨_, m1, m2, _⟩ := M5
      obtain ⟨_, u1, u2, _⟩ := U5
      go_wp2_with fail
      refine (add_any 0 P A1 c1 s n _ HM.out.grid hs).mono ?_
      rintro e w6 ⟨A6, c6, rfl, hg6, hb6⟩
      rw [HE2.out]
      rw [HMV.out] at hg6 ⊢
      have X6 := (HX.out.below hb6).alloc (so (addL P s n) A6 c6)
      have Y6 := (HY.out.below hb6).alloc (so (addL P s n) A6 c6)
      have M6 := (HM.out.below hb6).alloc (so (addL P s n) A6 c6)
      have U6 := (HU.out.below hb6).alloc (so (addL P s n) A6 c6)
      have V6 := Bx.new (hg6.mono (Nat.zero_le _))
      have HB6 := bel_al (HB5.trans (hb6.mono HB5.size)) (Nat.le_refl _) (so (addL P s n) A6 c6)
      clear hb6 HB5 hg6 HX x1 x2 HY y1 y2 HM m1 m2 HU u1 u2
      have HX := Lib.hid X6
      have HY := Lib.hid Y6
      have HM := Lib.hid M6
      have HU := Lib.hid U6
      have HV := Lib.hid V6
      obtain ⟨_, x1, x2, _⟩ := X6
      obtain ⟨_, y1, y2, _⟩ := Y6
      obtain ⟨_, m1, m2, _⟩ := M6
      obtain ⟨_, u1, u2, _⟩ := U6
      obtain ⟨_, v1, v2, _⟩ := V6
      go_wp2_with fail
      refine (merge_any 0 0 (addL S s n) T A5 B c5 d _ HU.out.grid HY.out.grid).mono ?_
      rintro e w7 ⟨A7, c7, rfl, hg7, hb7⟩
      rw [HF.out.1]
      rw [HF.out.2] at hg7 ⊢
      have X7 := (HX.out.below hb7).alloc (so (addL P s n) A7 c7)
      have Y7 := (HY.out.below hb7).alloc (so (addL P s n) A7 c7)
      have M7 := (HM.out.below hb7).alloc (so (addL P s n) A7 c7)
      have U7 := (HU.out.below hb7).alloc (so (addL P s n) A7 c7)
      have V7 := (HV.out.below hb7).alloc (so (addL P s n) A7 c7)
      have Q7 := Bx.new (hg7.mono (Nat.zero_le _))
      have HB7 := bel_al (HB6.trans (hb7.mono HB6.size)) (Nat.le_refl _) (so (addL P s n) A7 c7)
      clear hb7 HB6 hg7 HX x1 x2 HY y1 y2 HM m1 m2 HU u1 u2 HV v1 v2
      clear Y7
      clear U7
      have HX := Lib.hid X7
      have HM := Lib.hid M7
      have HV := Lib.hid V7
      have HQ := Lib.hid Q7
      obtain ⟨_, x1, x2, _⟩ := X7
      obtain ⟨_, m1, m2, _⟩ := M7
      obtain ⟨_, v1, v2, _⟩ := V7
      obtain ⟨_, q1, q2, _⟩ := Q7
      go_wp2_with fail
      refine (estimate_any 0 S A c s _ HX.out.grid hs).mono ?_
      rintro e w8 ⟨rfl, hb8⟩
      rw [HES.out.1]
      have X8 := (HX.out.below hb8)
      have M8 := (HM.out.below hb8)
      have V8 := (HV.out.below hb8)
      have Q8 := (HQ.out.below hb8)
      have HB8 := HB7.trans (hb8.mono HB7.size)
      clear hb8 HB7 HX x1 x2 HM m1 m2 HV v1 v2 HQ q1 q2
      clear X8
      have HM := Lib.hid M8
      have HV := Lib.hid V8
      have HQ := Lib.hid Q8
      obtain ⟨_, m1, m2, _⟩ := M8
      obtain ⟨_, v1, v2, _⟩ := V8
      obtain ⟨_, q1, q2, _⟩ := Q8
      go_wp2_with fail
      refine (estimate_any 0 P A1 c1 s _ HM.out.grid hs).mono ?_
      rintro e w9 ⟨rfl, hb9⟩
      rw [HES.out.2.1]
      have M9 := (HM.out.below hb9)
      have V9 := (HV.out.below hb9)
      have Q9 := (HQ.out.below hb9)
      have HB9 := HB8.trans (hb9.mono HB8.size)
      clear hb9 HB8 HM m1 m2 HV v1 v2 HQ q1 q2
      clear M9
      have HV := Lib.hid V9
      have HQ := Lib.hid Q9
      obtain ⟨_, v1, v2, _⟩ := V9
      obtain ⟨_, q1, q2, _⟩ := Q9
      have hq : decide (estM S s ≤ estM P s) = true := by simpa using hle
      clear hle
      go_wp2_with fail
      refine (sameS_any 0 0 (addL P s n) (addL P s n) A7 A6 c7 c6 _ HQ.out.grid HV.out.grid).mono ?_
      rintro e w10 ⟨rfl, hb10⟩
      rw [sameS_refl]
      have V10 := (HV.out.below hb10)
      have Q10 := (HQ.out.below hb10)
      have HB10 := HB9.trans (hb10.mono HB9.size)
      clear hb10 HB9 HV v1 v2 HQ q1 q2
      clear V10
      clear Q10
      go_wp2
      go_ret
      exact ⟨rfl, HB10⟩
    · have hq := bd_ne e2
      clear e2
      go_wp2_with fail
      refine (add_any 0 S A c s n _ HX.out.grid hs).mono ?_
      rintro e w5 ⟨A5, c5, rfl, hg5, hb5⟩
      have X5 := (HX.out.below hb5).alloc (so (addM S s n) A5 c5)
      have Y5 := (HY.out.below hb5).alloc (so (addM S s n) A5 c5)
      have M5 := (HM.out.below hb5).alloc (so (addM S s n) A5 c5)
      have HB5 := bel_al (HB4.trans (hb5.mono HB4.size)) (Nat.le_refl _) (so (addM S s n) A5 c5)
      clear hb5 HB4 hg5 HX x1 x2 HY y1 y2 HM m1 m2
      clear X5
      clear Y5
      have HM := Lib.hid M5
      obtain ⟨_, m1, m2, _⟩ := M5
      go_wp2_with fail
      refine (add_any 0 P A1 c1 s n _ HM.out.grid hs).mono ?_
      rintro e w6 ⟨A6, c6, rfl, hg6, hb6⟩
      have M6 := (HM.out.below hb6).alloc (so (addM P s n) A6 c6)
      have HB6 := bel_al (HB5.trans (hb6.mono HB5.size)) (Nat.le_refl _) (so (addM P s n) A6 c6)
      clear hb6 HB5 hg6 HM m1 m2
      clear M6
      by_cases e3 : errA S s n = 0
      · rw [e3]
        clear e3
        go_wp2
        go_ret
        exact ⟨rfl, HB6⟩
      · have hq3 := bd_ne e3
        clear e3
        go_wp2
        go_ret
        exact ⟨rfl, HB6⟩
  · have hq := bd_ne e1
    have HM1 := Lib.hid (merM_no e1)
    clear e1
    go_enter Try.func5, Try.ntmps5
    go_wp2_with fail
    refine (merge_any 0 0 S T A B c d _ HX.out.grid HY.out.grid).mono ?_
    rintro e w1 ⟨A1, c1, rfl, hg1, hb1⟩
    rw [HM1.out] at hg1 ⊢
    have X1 := (HX.out.below hb1).alloc (so Sk.no A1 c1)
    have Y1 := (HY.out.below hb1).alloc (so Sk.no A1 c1)
    have M1 := Bx.new (hg1.mono (Nat.zero_le _))
    have HB1 := bel_al (HB0.trans (hb1.mono HB0.size)) (Nat.le_refl _) (so Sk.no A1 c1)
    clear hb1 HB0 hg1 HX HY
    have HX := Lib.hid X1
    have HY := Lib.hid Y1
    have HM := Lib.hid M1
    obtain ⟨_, x1, x2, _⟩ := X1
    obtain ⟨_, y1, y2, _⟩ := Y1
    obtain ⟨_, m1, m2, _⟩ := M1
    go_wp2_with fail
    refine (merge_any 0 0 T S B A d c _ HY.out.grid HX.out.grid).mono ?_
    rintro e w2 ⟨A2, c2, rfl, hg2, hb2⟩
    have X2 := (HX.out.below hb2).alloc (so (merM T S) A2 c2)
    have Y2 := (HY.out.below hb2).alloc (so (merM T S) A2 c2)
    have M2 := (HM.out.below hb2).alloc (so (merM T S) A2 c2)
    have N2 := Bx.new (hg2.mono (Nat.zero_le _))
    have HB2 := bel_al (HB1.trans (hb2.mono HB1.size)) (Nat.le_refl _) (so (merM T S) A2 c2)
    clear hb2 HB1 hg2 HX x1 x2 HY y1 y2 HM m1 m2
    clear X2
    clear Y2
    clear N2
    have HM := Lib.hid M2
    obtain ⟨_, m1, m2, _⟩ := M2
    go_wp2_with fail
    refine (begun_any _).mono ?_
    rintro e w3 ⟨rfl, hb3⟩
    have M3 := (HM.out.below hb3)
    have HB3 := HB2.trans (hb3.mono HB2.size)
    clear hb3 HB2 HM m1 m2
    have HM := Lib.hid M3
    obtain ⟨_, m1, m2, _⟩ := M3
    go_wp2_with fail
    refine (same_bg A1 c1 _ HM.out.grid).mono ?_
    rintro e w4 ⟨rfl, hb4⟩
    have M4 := (HM.out.below hb4)
    have HB4 := HB3.trans (hb4.mono HB3.size)
    clear hb4 HB3 HM m1 m2
    clear M4
    go_wp2
    go_ret
    exact ⟨rfl, HB4⟩

end Go.Proofs.Ytfeejodeiakfoaa.Skt
