/-
  RingMoves: points added or removed move only the places that they must.
-/
import Derived.Test.YtjmhemkbfephpaaRgBegun
import Derived.Test.YtjmhemkbfephpaaLruWalks
namespace Go.Proofs.Ytjmhemkbfephpaa.Rng
open Go.RowKit
set_option linter.unusedVariables false
set_option maxRecDepth 100000

theorem own_after {L : List Pt} {s x : Int} {P : List Int} (h1 : adE L s P = 0) (h2 : owE L x = 0) : owE (adL L s P) x = 0 ∧ (owR L x = owR (adL L s P) x ∨ owR (adL L s P) x = s) := by
  obtain ⟨hG, hs, hp, hF, hl⟩ := adE_zero h1
  have hx : isP x := Classical.byContradiction fun h => by rw [owE_range (check_zero.2 hG) h] at h2; cases h2
  have hn : ¬ L.length = 0 := fun h => by rw [owE_none (check_zero.2 hG) hx h] at h2; cases h2
  have hM : adL L s P = addP L s P := adL_ok h1
  have hE : owE (addP L s P) x = 0 := owE_ok (check_zero.2 (add_good h1)) hx (by rw [addP_len]; omega)
  rw [hM]
  refine ⟨hE, ?_⟩
  rw [owR_ok h2, owR_ok hE]
  rcases own_add (s := s) (fun e => hn (by rw [e]; rfl)) hG.asc hF.1 hF.2 x with e | e
  · exact .inl e.symm
  · exact .inr e
theorem own_gone {L : List Pt} {s x : Int} (h1 : reE L s = 0) (h2 : owE L x = 0) (h3 : 0 < (reL L s).length) : owE (reL L s) x = 0 ∧ (owR L x = owR (reL L s) x ∨ owR L x = s) ∧ owR (reL L s) x ≠ s := by
  obtain ⟨hG, -⟩ := reE_zero h1
  have hx : isP x := Classical.byContradiction fun h => by rw [owE_range (check_zero.2 hG) h] at h2; cases h2
  have hM : reL L s = remP L s := reL_ok h1
  rw [hM] at h3 ⊢
  have hE : owE (remP L s) x = 0 := owE_ok (check_zero.2 (rem_good hG)) hx (by omega)
  rw [owR_ok h2, owR_ok hE]
  exact ⟨hE, own_rem (fun e => by rw [e] at h3; simp at h3) x⟩

set_option maxHeartbeats 8000000 in
theorem ringMoves_walk (A : Option Addr) (c : Nat) (L : List Pt) (s : Int) (B : Option Addr) (d : Nat) (P : List Int) (x : Int) (w : World) (hL : Pts w A c L) (hP : Ints w B d P) :
    Calls Try.prog 4 #[.slice A L.length c, .int .i64 s, .slice B P.length d, .int .i64 x] w fun e w' => e = .returned (.bool true) ∧ Below w.heap.size w w' := by
  obtain ⟨m, hm⟩ : ∃ m, m = min P.length 20 := ⟨_, rfl⟩
  have hmk : m ≤ P.length := by omega
  have hmin : min (P.length : Int) (20 : Int) = (m : Int) := by omega
  obtain ⟨B', hsl, hP', -⟩ := Lru.slice_upto hP hmk
  have hl1 := hL.len
  have hl2 := hP.len
  have HAd := Lib.hid (add_any A B' c d L s (P.take m) w hL hP')
  have HOw := Lib.hid (fun (W : World) (hW : Below w.heap.size w W) => owner_any A c L x W (hL.below hW))
  have HRm := Lib.hid (fun (W : World) (hW : Below w.heap.size w W) => remove_any A c L s W (hL.below hW))
  have HBG := Lib.hid begun_any
  have HA1 := Lib.hid (fun h1 h2 => own_after (L := L) (s := s) (x := x) (P := P.take m) h1 h2)
  have HG1 := Lib.hid (fun h1 h2 h3 => own_gone (L := L) (s := s) (x := x) h1 h2 h3)
  clear hP' hL hP hm hmk
  generalize L.length = ln at *
  generalize P.length = lp at *
  generalize (P.take m).length = lm at *
  generalize adL L s (P.take m) = M at *
  generalize adE L s (P.take m) = e1 at *
  generalize reL L s = D at *
  generalize reE L s = e3 at *
  generalize owR L x = a0 at *
  generalize owE L x = e2 at *
  have HOM := Lib.hid (fun (W : World) (A' : Option Addr) (c' : Nat) (h : Pts W A' c' M) => owner_any A' c' M x W h)
  have HOD := Lib.hid (fun (W : World) (A' : Option Addr) (c' : Nat) (h : Pts W A' c' D) => owner_any A' c' D x W h)
  generalize owR M x = b1 at *
  generalize owE M x = f1 at *
  generalize owR D x = b2 at *
  generalize owE D x = f2 at *
  obtain ⟨lM, hlM⟩ : ∃ lM, M.length = lM := ⟨_, rfl⟩
  rw [hlM] at HOM
  have HLM := Lib.hid hlM
  clear hlM
  obtain ⟨lD, hlD⟩ : ∃ lD, D.length = lD := ⟨_, rfl⟩
  rw [hlD] at HG1 HOD
  have HLD := Lib.hid hlD
  clear hlD
  by_cases qe2 : e2 = 0
  · have ze2 : decide (e2 = 0) = true := by simpa using qe2
    have ye2 : (e2 == 0) = true := by simpa using qe2
    have xe2 : (e2 != 0) = false := by simpa using qe2
    by_cases qe1 : e1 = 0
    · have ze1 : decide (e1 = 0) = true := by simpa using qe1
      have ye1 : (e1 == 0) = true := by simpa using qe1
      have xe1 : (e1 != 0) = false := by simpa using qe1
      obtain ⟨f1e, f2e⟩ := HA1.out qe1 qe2
      subst f1e
      by_cases q3 : a0 = b1
      · have z3 : decide (a0 = b1) = true := by simpa using q3
        have y3 : (a0 == b1) = true := by simpa using q3
        have x3 : (a0 != b1) = false := by simpa using q3
        clear f2e q3
        by_cases qe3 : e3 = 0
        · have ze3 : decide (e3 = 0) = true := by simpa using qe3
          have ye3 : (e3 == 0) = true := by simpa using qe3
          have xe3 : (e3 != 0) = false := by simpa using qe3
          by_cases ql : 0 < lD
          · have zl : decide ((0 : Int) < (lD : Int)) = true := by simp; omega
            have zl' : decide (0 < lD) = true := by simpa using ql
            obtain ⟨g1, g2, g3⟩ := HG1.out qe3 qe2 ql
            have zb : decide (b2 = s) = false := by simpa using g3
            have yb : (b2 == s) = false := by simpa using g3
            have xb : (b2 != s) = true := by simpa using g3
            subst g1
            clear g3
            by_cases q5 : a0 = b2
            · have z5 : decide (a0 = b2) = true := by simpa using q5
              have y5 : (a0 == b2) = true := by simpa using q5
              have x5 : (a0 != b2) = false := by simpa using q5
              clear g2 q5
              clear HA1 HG1
              go_enter Try.func4, Try.ntmps4
              go_wp2_with fail
              refine HAd.out.mono ?_
              rintro e w1 ⟨v1, rfl, ho1, hb1⟩
              obtain ⟨A1, c1, rfl, hI1, -⟩ := pts_of_own ho1
              rw [HLM.out]
              have HI1 := Lib.hid hI1
              have HB1 := Lib.hid hb1
              clear ho1 hI1 hb1
              go_wp2_with fail
              refine (HOw.out w1 HB1.out).mono ?_
              rintro e w2 ⟨rfl, hb2⟩
              have HI2 := Lib.hid (HI1.out.below hb2)
              have HB2 := Lib.hid (HB1.out.trans (hb2.mono HB1.out.size))
              clear hb2
              go_wp2_with fail
              refine (HBG.out w2).mono ?_
              rintro e w3 ⟨rfl, hb3⟩
              have HI3 := Lib.hid (HI2.out.below hb3)
              have HB3 := Lib.hid (HB2.out.trans (hb3.mono HB2.out.size))
              clear hb3
              go_wp2_with fail
              refine (HOM.out w3 _ _ HI3.out).mono ?_
              rintro e w4 ⟨rfl, hb4⟩
              have HB4 := Lib.hid (HB3.out.trans (hb4.mono HB3.out.size))
              clear hb4
              go_wp2_with fail
              refine (HRm.out w4 HB4.out).mono ?_
              rintro e w5 ⟨v5, rfl, ho5, hb5⟩
              obtain ⟨A5, c5, rfl, hI5, -⟩ := pts_of_own ho5
              rw [HLD.out]
              have HI5 := Lib.hid hI5
              have HB5 := Lib.hid (HB4.out.trans (hb5.mono HB4.out.size))
              clear ho5 hI5 hb5
              go_wp2_with fail
              refine (HOD.out w5 _ _ HI5.out).mono ?_
              rintro e w6 ⟨rfl, hb6⟩
              have HB6 := Lib.hid (HB5.out.trans (hb6.mono HB5.out.size))
              clear hb6
              go_wp2
              go_ret
              exact ⟨rfl, HB6.out⟩
            · have z5 : decide (a0 = b2) = false := by simpa using q5
              have y5 : (a0 == b2) = false := by simpa using q5
              have x5 : (a0 != b2) = true := by simpa using q5
              have g4 : a0 = s := g2.resolve_left q5
              have z6 : decide (a0 = s) = true := by simpa using g4
              have y6 : (a0 == s) = true := by simpa using g4
              have x6 : (a0 != s) = false := by simpa using g4
              clear g2 g4 q5
              clear HA1 HG1
              go_enter Try.func4, Try.ntmps4
              go_wp2_with fail
              refine HAd.out.mono ?_
              rintro e w1 ⟨v1, rfl, ho1, hb1⟩
              obtain ⟨A1, c1, rfl, hI1, -⟩ := pts_of_own ho1
              rw [HLM.out]
              have HI1 := Lib.hid hI1
              have HB1 := Lib.hid hb1
              clear ho1 hI1 hb1
              go_wp2_with fail
              refine (HOw.out w1 HB1.out).mono ?_
              rintro e w2 ⟨rfl, hb2⟩
              have HI2 := Lib.hid (HI1.out.below hb2)
              have HB2 := Lib.hid (HB1.out.trans (hb2.mono HB1.out.size))
              clear hb2
              go_wp2_with fail
              refine (HBG.out w2).mono ?_
              rintro e w3 ⟨rfl, hb3⟩
              have HI3 := Lib.hid (HI2.out.below hb3)
              have HB3 := Lib.hid (HB2.out.trans (hb3.mono HB2.out.size))
              clear hb3
              go_wp2_with fail
              refine (HOM.out w3 _ _ HI3.out).mono ?_
              rintro e w4 ⟨rfl, hb4⟩
              have HB4 := Lib.hid (HB3.out.trans (hb4.mono HB3.out.size))
              clear hb4
              go_wp2_with fail
              refine (HRm.out w4 HB4.out).mono ?_
              rintro e w5 ⟨v5, rfl, ho5, hb5⟩
              obtain ⟨A5, c5, rfl, hI5, -⟩ := pts_of_own ho5
              rw [HLD.out]
              have HI5 := Lib.hid hI5
              have HB5 := Lib.hid (HB4.out.trans (hb5.mono HB4.out.size))
              clear ho5 hI5 hb5
              go_wp2_with fail
              refine (HOD.out w5 _ _ HI5.out).mono ?_
              rintro e w6 ⟨rfl, hb6⟩
              have HB6 := Lib.hid (HB5.out.trans (hb6.mono HB5.out.size))
              clear hb6
              go_wp2
              go_ret
              exact ⟨rfl, HB6.out⟩
          · have zl : decide ((0 : Int) < (lD : Int)) = false := by simp; omega
            have zl' : decide (0 < lD) = false := by simpa using ql
            clear HA1 HG1
            go_enter Try.func4, Try.ntmps4
            go_wp2_with fail
            refine HAd.out.mono ?_
            rintro e w1 ⟨v1, rfl, ho1, hb1⟩
            obtain ⟨A1, c1, rfl, hI1, -⟩ := pts_of_own ho1
            rw [HLM.out]
            have HI1 := Lib.hid hI1
            have HB1 := Lib.hid hb1
            clear ho1 hI1 hb1
            go_wp2_with fail
            refine (HOw.out w1 HB1.out).mono ?_
            rintro e w2 ⟨rfl, hb2⟩
            have HI2 := Lib.hid (HI1.out.below hb2)
            have HB2 := Lib.hid (HB1.out.trans (hb2.mono HB1.out.size))
            clear hb2
            go_wp2_with fail
            refine (HBG.out w2).mono ?_
            rintro e w3 ⟨rfl, hb3⟩
            have HI3 := Lib.hid (HI2.out.below hb3)
            have HB3 := Lib.hid (HB2.out.trans (hb3.mono HB2.out.size))
            clear hb3
            go_wp2_with fail
            refine (HOM.out w3 _ _ HI3.out).mono ?_
            rintro e w4 ⟨rfl, hb4⟩
            have HB4 := Lib.hid (HB3.out.trans (hb4.mono HB3.out.size))
            clear hb4
            go_wp2_with fail
            refine (HRm.out w4 HB4.out).mono ?_
            rintro e w5 ⟨v5, rfl, ho5, hb5⟩
            obtain ⟨A5, c5, rfl, hI5, -⟩ := pts_of_own ho5
            rw [HLD.out]
            have HI5 := Lib.hid hI5
            have HB5 := Lib.hid (HB4.out.trans (hb5.mono HB4.out.size))
            clear ho5 hI5 hb5
            go_wp2
            go_ret
            exact ⟨rfl, HB5.out⟩
        · have ze3 : decide (e3 = 0) = false := by simpa using qe3
          have ye3 : (e3 == 0) = false := by simpa using qe3
          have xe3 : (e3 != 0) = true := by simpa using qe3
          clear HA1 HG1
          go_enter Try.func4, Try.ntmps4
          go_wp2_with fail
          refine HAd.out.mono ?_
          rintro e w1 ⟨v1, rfl, ho1, hb1⟩
          obtain ⟨A1, c1, rfl, hI1, -⟩ := pts_of_own ho1
          rw [HLM.out]
          have HI1 := Lib.hid hI1
          have HB1 := Lib.hid hb1
          clear ho1 hI1 hb1
          go_wp2_with fail
          refine (HOw.out w1 HB1.out).mono ?_
          rintro e w2 ⟨rfl, hb2⟩
          have HI2 := Lib.hid (HI1.out.below hb2)
          have HB2 := Lib.hid (HB1.out.trans (hb2.mono HB1.out.size))
          clear hb2
          go_wp2_with fail
          refine (HBG.out w2).mono ?_
          rintro e w3 ⟨rfl, hb3⟩
          have HI3 := Lib.hid (HI2.out.below hb3)
          have HB3 := Lib.hid (HB2.out.trans (hb3.mono HB2.out.size))
          clear hb3
          go_wp2_with fail
          refine (HOM.out w3 _ _ HI3.out).mono ?_
          rintro e w4 ⟨rfl, hb4⟩
          have HB4 := Lib.hid (HB3.out.trans (hb4.mono HB3.out.size))
          clear hb4
          go_wp2_with fail
          refine (HRm.out w4 HB4.out).mono ?_
          rintro e w5 ⟨v5, rfl, ho5, hb5⟩
          obtain ⟨A5, c5, rfl, hI5, -⟩ := pts_of_own ho5
          rw [HLD.out]
          have HI5 := Lib.hid hI5
          have HB5 := Lib.hid (HB4.out.trans (hb5.mono HB4.out.size))
          clear ho5 hI5 hb5
          go_wp2
          go_ret
          exact ⟨rfl, HB5.out⟩
      · have z3 : decide (a0 = b1) = false := by simpa using q3
        have y3 : (a0 == b1) = false := by simpa using q3
        have x3 : (a0 != b1) = true := by simpa using q3
        have f3e : b1 = s := f2e.resolve_left q3
        have z4 : decide (b1 = s) = true := by simpa using f3e
        have y4 : (b1 == s) = true := by simpa using f3e
        have x4 : (b1 != s) = false := by simpa using f3e
        clear f2e f3e q3
        by_cases qe3 : e3 = 0
        · have ze3 : decide (e3 = 0) = true := by simpa using qe3
          have ye3 : (e3 == 0) = true := by simpa using qe3
          have xe3 : (e3 != 0) = false := by simpa using qe3
          by_cases ql : 0 < lD
          · have zl : decide ((0 : Int) < (lD : Int)) = true := by simp; omega
            have zl' : decide (0 < lD) = true := by simpa using ql
            obtain ⟨g1, g2, g3⟩ := HG1.out qe3 qe2 ql
            have zb : decide (b2 = s) = false := by simpa using g3
            have yb : (b2 == s) = false := by simpa using g3
            have xb : (b2 != s) = true := by simpa using g3
            subst g1
            clear g3
            by_cases q5 : a0 = b2
            · have z5 : decide (a0 = b2) = true := by simpa using q5
              have y5 : (a0 == b2) = true := by simpa using q5
              have x5 : (a0 != b2) = false := by simpa using q5
              clear g2 q5
              clear HA1 HG1
              go_enter Try.func4, Try.ntmps4
              go_wp2_with fail
              refine HAd.out.mono ?_
              rintro e w1 ⟨v1, rfl, ho1, hb1⟩
              obtain ⟨A1, c1, rfl, hI1, -⟩ := pts_of_own ho1
              rw [HLM.out]
              have HI1 := Lib.hid hI1
              have HB1 := Lib.hid hb1
              clear ho1 hI1 hb1
              go_wp2_with fail
              refine (HOw.out w1 HB1.out).mono ?_
              rintro e w2 ⟨rfl, hb2⟩
              have HI2 := Lib.hid (HI1.out.below hb2)
              have HB2 := Lib.hid (HB1.out.trans (hb2.mono HB1.out.size))
              clear hb2
              go_wp2_with fail
              refine (HBG.out w2).mono ?_
              rintro e w3 ⟨rfl, hb3⟩
              have HI3 := Lib.hid (HI2.out.below hb3)
              have HB3 := Lib.hid (HB2.out.trans (hb3.mono HB2.out.size))
              clear hb3
              go_wp2_with fail
              refine (HOM.out w3 _ _ HI3.out).mono ?_
              rintro e w4 ⟨rfl, hb4⟩
              have HB4 := Lib.hid (HB3.out.trans (hb4.mono HB3.out.size))
              clear hb4
              go_wp2_with fail
              refine (HRm.out w4 HB4.out).mono ?_
              rintro e w5 ⟨v5, rfl, ho5, hb5⟩
              obtain ⟨A5, c5, rfl, hI5, -⟩ := pts_of_own ho5
              rw [HLD.out]
              have HI5 := Lib.hid hI5
              have HB5 := Lib.hid (HB4.out.trans (hb5.mono HB4.out.size))
              clear ho5 hI5 hb5
              go_wp2_with fail
              refine (HOD.out w5 _ _ HI5.out).mono ?_
              rintro e w6 ⟨rfl, hb6⟩
              have HB6 := Lib.hid (HB5.out.trans (hb6.mono HB5.out.size))
              clear hb6
              go_wp2
              go_ret
              exact ⟨rfl, HB6.out⟩
            · have z5 : decide (a0 = b2) = false := by simpa using q5
              have y5 : (a0 == b2) = false := by simpa using q5
              have x5 : (a0 != b2) = true := by simpa using q5
              have g4 : a0 = s := g2.resolve_left q5
              have z6 : decide (a0 = s) = true := by simpa using g4
              have y6 : (a0 == s) = true := by simpa using g4
              have x6 : (a0 != s) = false := by simpa using g4
              clear g2 g4 q5
              clear HA1 HG1
              go_enter Try.func4, Try.ntmps4
              go_wp2_with fail
              refine HAd.out.mono ?_
              rintro e w1 ⟨v1, rfl, ho1, hb1⟩
              obtain ⟨A1, c1, rfl, hI1, -⟩ := pts_of_own ho1
              rw [HLM.out]
              have HI1 := Lib.hid hI1
              have HB1 := Lib.hid hb1
              clear ho1 hI1 hb1
              go_wp2_with fail
              refine (HOw.out w1 HB1.out).mono ?_
              rintro e w2 ⟨rfl, hb2⟩
              have HI2 := Lib.hid (HI1.out.below hb2)
              have HB2 := Lib.hid (HB1.out.trans (hb2.mono HB1.out.size))
              clear hb2
              go_wp2_with fail
              refine (HBG.out w2).mono ?_
              rintro e w3 ⟨rfl, hb3⟩
              have HI3 := Lib.hid (HI2.out.below hb3)
              have HB3 := Lib.hid (HB2.out.trans (hb3.mono HB2.out.size))
              clear hb3
              go_wp2_with fail
              refine (HOM.out w3 _ _ HI3.out).mono ?_
              rintro e w4 ⟨rfl, hb4⟩
              have HB4 := Lib.hid (HB3.out.trans (hb4.mono HB3.out.size))
              clear hb4
              go_wp2_with fail
              refine (HRm.out w4 HB4.out).mono ?_
              rintro e w5 ⟨v5, rfl, ho5, hb5⟩
              obtain ⟨A5, c5, rfl, hI5, -⟩ := pts_of_own ho5
              rw [HLD.out]
              have HI5 := Lib.hid hI5
              have HB5 := Lib.hid (HB4.out.trans (hb5.mono HB4.out.size))
              clear ho5 hI5 hb5
              go_wp2_with fail
              refine (HOD.out w5 _ _ HI5.out).mono ?_
              rintro e w6 ⟨rfl, hb6⟩
              have HB6 := Lib.hid (HB5.out.trans (hb6.mono HB5.out.size))
              clear hb6
              go_wp2
              go_ret
              exact ⟨rfl, HB6.out⟩
          · have zl : decide ((0 : Int) < (lD : Int)) = false := by simp; omega
            have zl' : decide (0 < lD) = false := by simpa using ql
            clear HA1 HG1
            go_enter Try.func4, Try.ntmps4
            go_wp2_with fail
            refine HAd.out.mono ?_
            rintro e w1 ⟨v1, rfl, ho1, hb1⟩
            obtain ⟨A1, c1, rfl, hI1, -⟩ := pts_of_own ho1
            rw [HLM.out]
            have HI1 := Lib.hid hI1
            have HB1 := Lib.hid hb1
            clear ho1 hI1 hb1
            go_wp2_with fail
            refine (HOw.out w1 HB1.out).mono ?_
            rintro e w2 ⟨rfl, hb2⟩
            have HI2 := Lib.hid (HI1.out.below hb2)
            have HB2 := Lib.hid (HB1.out.trans (hb2.mono HB1.out.size))
            clear hb2
            go_wp2_with fail
            refine (HBG.out w2).mono ?_
            rintro e w3 ⟨rfl, hb3⟩
            have HI3 := Lib.hid (HI2.out.below hb3)
            have HB3 := Lib.hid (HB2.out.trans (hb3.mono HB2.out.size))
            clear hb3
            go_wp2_with fail
            refine (HOM.out w3 _ _ HI3.out).mono ?_
            rintro e w4 ⟨rfl, hb4⟩
            have HB4 := Lib.hid (HB3.out.trans (hb4.mono HB3.out.size))
            clear hb4
            go_wp2_with fail
            refine (HRm.out w4 HB4.out).mono ?_
            rintro e w5 ⟨v5, rfl, ho5, hb5⟩
            obtain ⟨A5, c5, rfl, hI5, -⟩ := pts_of_own ho5
            rw [HLD.out]
            have HI5 := Lib.hid hI5
            have HB5 := Lib.hid (HB4.out.trans (hb5.mono HB4.out.size))
            clear ho5 hI5 hb5
            go_wp2
            go_ret
            exact ⟨rfl, HB5.out⟩
        · have ze3 : decide (e3 = 0) = false := by simpa using qe3
          have ye3 : (e3 == 0) = false := by simpa using qe3
          have xe3 : (e3 != 0) = true := by simpa using qe3
          clear HA1 HG1
          go_enter Try.func4, Try.ntmps4
          go_wp2_with fail
          refine HAd.out.mono ?_
          rintro e w1 ⟨v1, rfl, ho1, hb1⟩
          obtain ⟨A1, c1, rfl, hI1, -⟩ := pts_of_own ho1
          rw [HLM.out]
          have HI1 := Lib.hid hI1
          have HB1 := Lib.hid hb1
          clear ho1 hI1 hb1
          go_wp2_with fail
          refine (HOw.out w1 HB1.out).mono ?_
          rintro e w2 ⟨rfl, hb2⟩
          have HI2 := Lib.hid (HI1.out.below hb2)
          have HB2 := Lib.hid (HB1.out.trans (hb2.mono HB1.out.size))
          clear hb2
          go_wp2_with fail
          refine (HBG.out w2).mono ?_
          rintro e w3 ⟨rfl, hb3⟩
          have HI3 := Lib.hid (HI2.out.below hb3)
          have HB3 := Lib.hid (HB2.out.trans (hb3.mono HB2.out.size))
          clear hb3
          go_wp2_with fail
          refine (HOM.out w3 _ _ HI3.out).mono ?_
          rintro e w4 ⟨rfl, hb4⟩
          have HB4 := Lib.hid (HB3.out.trans (hb4.mono HB3.out.size))
          clear hb4
          go_wp2_with fail
          refine (HRm.out w4 HB4.out).mono ?_
          rintro e w5 ⟨v5, rfl, ho5, hb5⟩
          obtain ⟨A5, c5, rfl, hI5, -⟩ := pts_of_own ho5
          rw [HLD.out]
          have HI5 := Lib.hid hI5
          have HB5 := Lib.hid (HB4.out.trans (hb5.mono HB4.out.size))
          clear ho5 hI5 hb5
          go_wp2
          go_ret
          exact ⟨rfl, HB5.out⟩
    · have ze1 : decide (e1 = 0) = false := by simpa using qe1
      have ye1 : (e1 == 0) = false := by simpa using qe1
      have xe1 : (e1 != 0) = true := by simpa using qe1
      by_cases qe3 : e3 = 0
      · have ze3 : decide (e3 = 0) = true := by simpa using qe3
        have ye3 : (e3 == 0) = true := by simpa using qe3
        have xe3 : (e3 != 0) = false := by simpa using qe3
        by_cases ql : 0 < lD
        · have zl : decide ((0 : Int) < (lD : Int)) = true := by simp; omega
          have zl' : decide (0 < lD) = true := by simpa using ql
          obtain ⟨g1, g2, g3⟩ := HG1.out qe3 qe2 ql
          have zb : decide (b2 = s) = false := by simpa using g3
          have yb : (b2 == s) = false := by simpa using g3
          have xb : (b2 != s) = true := by simpa using g3
          subst g1
          clear g3
          by_cases q5 : a0 = b2
          · have z5 : decide (a0 = b2) = true := by simpa using q5
            have y5 : (a0 == b2) = true := by simpa using q5
            have x5 : (a0 != b2) = false := by simpa using q5
            clear g2 q5
            clear HA1 HG1
            go_enter Try.func4, Try.ntmps4
            go_wp2_with fail
            refine HAd.out.mono ?_
            rintro e w1 ⟨v1, rfl, ho1, hb1⟩
            obtain ⟨A1, c1, rfl, hI1, -⟩ := pts_of_own ho1
            rw [HLM.out]
            have HI1 := Lib.hid hI1
            have HB1 := Lib.hid hb1
            clear ho1 hI1 hb1
            go_wp2_with fail
            refine (HOw.out w1 HB1.out).mono ?_
            rintro e w2 ⟨rfl, hb2⟩
            have HI2 := Lib.hid (HI1.out.below hb2)
            have HB2 := Lib.hid (HB1.out.trans (hb2.mono HB1.out.size))
            clear hb2
            go_wp2_with fail
            refine (HBG.out w2).mono ?_
            rintro e w3 ⟨rfl, hb3⟩
            have HI3 := Lib.hid (HI2.out.below hb3)
            have HB3 := Lib.hid (HB2.out.trans (hb3.mono HB2.out.size))
            clear hb3
            go_wp2_with fail
            refine (HRm.out w3 HB3.out).mono ?_
            rintro e w5 ⟨v5, rfl, ho5, hb5⟩
            obtain ⟨A5, c5, rfl, hI5, -⟩ := pts_of_own ho5
            rw [HLD.out]
            have HI5 := Lib.hid hI5
            have HB5 := Lib.hid (HB3.out.trans (hb5.mono HB3.out.size))
            clear ho5 hI5 hb5
            go_wp2_with fail
            refine (HOD.out w5 _ _ HI5.out).mono ?_
            rintro e w6 ⟨rfl, hb6⟩
            have HB6 := Lib.hid (HB5.out.trans (hb6.mono HB5.out.size))
            clear hb6
            go_wp2
            go_ret
            exact ⟨rfl, HB6.out⟩
          · have z5 : decide (a0 = b2) = false := by simpa using q5
            have y5 : (a0 == b2) = false := by simpa using q5
            have x5 : (a0 != b2) = true := by simpa using q5
            have g4 : a0 = s := g2.resolve_left q5
            have z6 : decide (a0 = s) = true := by simpa using g4
            have y6 : (a0 == s) = true := by simpa using g4
            have x6 : (a0 != s) = false := by simpa using g4
            clear g2 g4 q5
            clear HA1 HG1
            go_enter Try.func4, Try.ntmps4
            go_wp2_with fail
            refine HAd.out.mono ?_
            rintro e w1 ⟨v1, rfl, ho1, hb1⟩
            obtain ⟨A1, c1, rfl, hI1, -⟩ := pts_of_own ho1
            rw [HLM.out]
            have HI1 := Lib.hid hI1
            have HB1 := Lib.hid hb1
            clear ho1 hI1 hb1
            go_wp2_with fail
            refine (HOw.out w1 HB1.out).mono ?_
            rintro e w2 ⟨rfl, hb2⟩
            have HI2 := Lib.hid (HI1.out.below hb2)
            have HB2 := Lib.hid (HB1.out.trans (hb2.mono HB1.out.size))
            clear hb2
            go_wp2_with fail
            refine (HBG.out w2).mono ?_
            rintro e w3 ⟨rfl, hb3⟩
            have HI3 := Lib.hid (HI2.out.below hb3)
            have HB3 := Lib.hid (HB2.out.trans (hb3.mono HB2.out.size))
            clear hb3
            go_wp2_with fail
            refine (HRm.out w3 HB3.out).mono ?_
            rintro e w5 ⟨v5, rfl, ho5, hb5⟩
            obtain ⟨A5, c5, rfl, hI5, -⟩ := pts_of_own ho5
            rw [HLD.out]
            have HI5 := Lib.hid hI5
            have HB5 := Lib.hid (HB3.out.trans (hb5.mono HB3.out.size))
            clear ho5 hI5 hb5
            go_wp2_with fail
            refine (HOD.out w5 _ _ HI5.out).mono ?_
            rintro e w6 ⟨rfl, hb6⟩
            have HB6 := Lib.hid (HB5.out.trans (hb6.mono HB5.out.size))
            clear hb6
            go_wp2
            go_ret
            exact ⟨rfl, HB6.out⟩
        · have zl : decide ((0 : Int) < (lD : Int)) = false := by simp; omega
          have zl' : decide (0 < lD) = false := by simpa using ql
          clear HA1 HG1
          go_enter Try.func4, Try.ntmps4
          go_wp2_with fail
          refine HAd.out.mono ?_
          rintro e w1 ⟨v1, rfl, ho1, hb1⟩
          obtain ⟨A1, c1, rfl, hI1, -⟩ := pts_of_own ho1
          rw [HLM.out]
          have HI1 := Lib.hid hI1
          have HB1 := Lib.hid hb1
          clear ho1 hI1 hb1
          go_wp2_with fail
          refine (HOw.out w1 HB1.out).mono ?_
          rintro e w2 ⟨rfl, hb2⟩
          have HI2 := Lib.hid (HI1.out.below hb2)
          have HB2 := Lib.hid (HB1.out.trans (hb2.mono HB1.out.size))
          clear hb2
          go_wp2_with fail
          refine (HBG.out w2).mono ?_
          rintro e w3 ⟨rfl, hb3⟩
          have HI3 := Lib.hid (HI2.out.below hb3)
          have HB3 := Lib.hid (HB2.out.trans (hb3.mono HB2.out.size))
          clear hb3
          go_wp2_with fail
          refine (HRm.out w3 HB3.out).mono ?_
          rintro e w5 ⟨v5, rfl, ho5, hb5⟩
          obtain ⟨A5, c5, rfl, hI5, -⟩ := pts_of_own ho5
          rw [HLD.out]
          have HI5 := Lib.hid hI5
          have HB5 := Lib.hid (HB3.out.trans (hb5.mono HB3.out.size))
          clear ho5 hI5 hb5
          go_wp2
          go_ret
          exact ⟨rfl, HB5.out⟩
      · have ze3 : decide (e3 = 0) = false := by simpa using qe3
        have ye3 : (e3 == 0) = false := by simpa using qe3
        have xe3 : (e3 != 0) = true := by simpa using qe3
        clear HA1 HG1
        go_enter Try.func4, Try.ntmps4
        go_wp2_with fail
        refine HAd.out.mono ?_
        rintro e w1 ⟨v1, rfl, ho1, hb1⟩
        obtain ⟨A1, c1, rfl, hI1, -⟩ := pts_of_own ho1
        rw [HLM.out]
        have HI1 := Lib.hid hI1
        have HB1 := Lib.hid hb1
        clear ho1 hI1 hb1
        go_wp2_with fail
        refine (HOw.out w1 HB1.out).mono ?_
        rintro e w2 ⟨rfl, hb2⟩
        have HI2 := Lib.hid (HI1.out.below hb2)
        have HB2 := Lib.hid (HB1.out.trans (hb2.mono HB1.out.size))
        clear hb2
        go_wp2_with fail
        refine (HBG.out w2).mono ?_
        rintro e w3 ⟨rfl, hb3⟩
        have HI3 := Lib.hid (HI2.out.below hb3)
        have HB3 := Lib.hid (HB2.out.trans (hb3.mono HB2.out.size))
        clear hb3
        go_wp2_with fail
        refine (HRm.out w3 HB3.out).mono ?_
        rintro e w5 ⟨v5, rfl, ho5, hb5⟩
        obtain ⟨A5, c5, rfl, hI5, -⟩ := pts_of_own ho5
        rw [HLD.out]
        have HI5 := Lib.hid hI5
        have HB5 := Lib.hid (HB3.out.trans (hb5.mono HB3.out.size))
        clear ho5 hI5 hb5
        go_wp2
        go_ret
        exact ⟨rfl, HB5.out⟩
  · have ze2 : decide (e2 = 0) = false := by simpa using qe2
    have ye2 : (e2 == 0) = false := by simpa using qe2
    have xe2 : (e2 != 0) = true := by simpa using qe2
    by_cases qe1 : e1 = 0
    · have ze1 : decide (e1 = 0) = true := by simpa using qe1
      have ye1 : (e1 == 0) = true := by simpa using qe1
      have xe1 : (e1 != 0) = false := by simpa using qe1
      by_cases qe3 : e3 = 0
      · have ze3 : decide (e3 = 0) = true := by simpa using qe3
        have ye3 : (e3 == 0) = true := by simpa using qe3
        have xe3 : (e3 != 0) = false := by simpa using qe3
        clear HA1 HG1
        go_enter Try.func4, Try.ntmps4
        go_wp2_with fail
        refine HAd.out.mono ?_
        rintro e w1 ⟨v1, rfl, ho1, hb1⟩
        obtain ⟨A1, c1, rfl, hI1, -⟩ := pts_of_own ho1
        rw [HLM.out]
        have HI1 := Lib.hid hI1
        have HB1 := Lib.hid hb1
        clear ho1 hI1 hb1
        go_wp2_with fail
        refine (HOw.out w1 HB1.out).mono ?_
        rintro e w2 ⟨rfl, hb2⟩
        have HI2 := Lib.hid (HI1.out.below hb2)
        have HB2 := Lib.hid (HB1.out.trans (hb2.mono HB1.out.size))
        clear hb2
        go_wp2_with fail
        refine (HBG.out w2).mono ?_
        rintro e w3 ⟨rfl, hb3⟩
        have HI3 := Lib.hid (HI2.out.below hb3)
        have HB3 := Lib.hid (HB2.out.trans (hb3.mono HB2.out.size))
        clear hb3
        go_wp2_with fail
        refine (HRm.out w3 HB3.out).mono ?_
        rintro e w5 ⟨v5, rfl, ho5, hb5⟩
        obtain ⟨A5, c5, rfl, hI5, -⟩ := pts_of_own ho5
        rw [HLD.out]
        have HI5 := Lib.hid hI5
        have HB5 := Lib.hid (HB3.out.trans (hb5.mono HB3.out.size))
        clear ho5 hI5 hb5
        go_wp2
        go_ret
        exact ⟨rfl, HB5.out⟩
      · have ze3 : decide (e3 = 0) = false := by simpa using qe3
        have ye3 : (e3 == 0) = false := by simpa using qe3
        have xe3 : (e3 != 0) = true := by simpa using qe3
        clear HA1 HG1
        go_enter Try.func4, Try.ntmps4
        go_wp2_with fail
        refine HAd.out.mono ?_
        rintro e w1 ⟨v1, rfl, ho1, hb1⟩
        obtain ⟨A1, c1, rfl, hI1, -⟩ := pts_of_own ho1
        rw [HLM.out]
        have HI1 := Lib.hid hI1
        have HB1 := Lib.hid hb1
        clear ho1 hI1 hb1
        go_wp2_with fail
        refine (HOw.out w1 HB1.out).mono ?_
        rintro e w2 ⟨rfl, hb2⟩
        have HI2 := Lib.hid (HI1.out.below hb2)
        have HB2 := Lib.hid (HB1.out.trans (hb2.mono HB1.out.size))
        clear hb2
        go_wp2_with fail
        refine (HBG.out w2).mono ?_
        rintro e w3 ⟨rfl, hb3⟩
        have HI3 := Lib.hid (HI2.out.below hb3)
        have HB3 := Lib.hid (HB2.out.trans (hb3.mono HB2.out.size))
        clear hb3
        go_wp2_with fail
        refine (HRm.out w3 HB3.out).mono ?_
        rintro e w5 ⟨v5, rfl, ho5, hb5⟩
        obtain ⟨A5, c5, rfl, hI5, -⟩ := pts_of_own ho5
        rw [HLD.out]
        have HI5 := Lib.hid hI5
        have HB5 := Lib.hid (HB3.out.trans (hb5.mono HB3.out.size))
        clear ho5 hI5 hb5
        go_wp2
        go_ret
        exact ⟨rfl, HB5.out⟩
    · have ze1 : decide (e1 = 0) = false := by simpa using qe1
      have ye1 : (e1 == 0) = false := by simpa using qe1
      have xe1 : (e1 != 0) = true := by simpa using qe1
      by_cases qe3 : e3 = 0
      · have ze3 : decide (e3 = 0) = true := by simpa using qe3
        have ye3 : (e3 == 0) = true := by simpa using qe3
        have xe3 : (e3 != 0) = false := by simpa using qe3
        clear HA1 HG1
        go_enter Try.func4, Try.ntmps4
        go_wp2_with fail
        refine HAd.out.mono ?_
        rintro e w1 ⟨v1, rfl, ho1, hb1⟩
        obtain ⟨A1, c1, rfl, hI1, -⟩ := pts_of_own ho1
        rw [HLM.out]
        have HI1 := Lib.hid hI1
        have HB1 := Lib.hid hb1
        clear ho1 hI1 hb1
        go_wp2_with fail
        refine (HOw.out w1 HB1.out).mono ?_
        rintro e w2 ⟨rfl, hb2⟩
        have HI2 := Lib.hid (HI1.out.below hb2)
        have HB2 := Lib.hid (HB1.out.trans (hb2.mono HB1.out.size))
        clear hb2
        go_wp2_with fail
        refine (HBG.out w2).mono ?_
        rintro e w3 ⟨rfl, hb3⟩
        have HI3 := Lib.hid (HI2.out.below hb3)
        have HB3 := Lib.hid (HB2.out.trans (hb3.mono HB2.out.size))
        clear hb3
        go_wp2_with fail
        refine (HRm.out w3 HB3.out).mono ?_
        rintro e w5 ⟨v5, rfl, ho5, hb5⟩
        obtain ⟨A5, c5, rfl, hI5, -⟩ := pts_of_own ho5
        rw [HLD.out]
        have HI5 := Lib.hid hI5
        have HB5 := Lib.hid (HB3.out.trans (hb5.mono HB3.out.size))
        clear ho5 hI5 hb5
        go_wp2
        go_ret
        exact ⟨rfl, HB5.out⟩
      · have ze3 : decide (e3 = 0) = false := by simpa using qe3
        have ye3 : (e3 == 0) = false := by simpa using qe3
        have xe3 : (e3 != 0) = true := by simpa using qe3
        clear HA1 HG1
        go_enter Try.func4, Try.ntmps4
        go_wp2_with fail
        refine HAd.out.mono ?_
        rintro e w1 ⟨v1, rfl, ho1, hb1⟩
        obtain ⟨A1, c1, rfl, hI1, -⟩ := pts_of_own ho1
        rw [HLM.out]
        have HI1 := Lib.hid hI1
        have HB1 := Lib.hid hb1
        clear ho1 hI1 hb1
        go_wp2_with fail
        refine (HOw.out w1 HB1.out).mono ?_
        rintro e w2 ⟨rfl, hb2⟩
        have HI2 := Lib.hid (HI1.out.below hb2)
        have HB2 := Lib.hid (HB1.out.trans (hb2.mono HB1.out.size))
        clear hb2
        go_wp2_with fail
        refine (HBG.out w2).mono ?_
        rintro e w3 ⟨rfl, hb3⟩
        have HI3 := Lib.hid (HI2.out.below hb3)
        have HB3 := Lib.hid (HB2.out.trans (hb3.mono HB2.out.size))
        clear hb3
        go_wp2_with fail
        refine (HRm.out w3 HB3.out).mono ?_
        rintro e w5 ⟨v5, rfl, ho5, hb5⟩
        obtain ⟨A5, c5, rfl, hI5, -⟩ := pts_of_own ho5
        rw [HLD.out]
        have HI5 := Lib.hid hI5
        have HB5 := Lib.hid (HB3.out.trans (hb5.mono HB3.out.size))
        clear ho5 hI5 hb5
        go_wp2
        go_ret
        exact ⟨rfl, HB5.out⟩

end Go.Proofs.Ytjmhemkbfephpaa.Rng
