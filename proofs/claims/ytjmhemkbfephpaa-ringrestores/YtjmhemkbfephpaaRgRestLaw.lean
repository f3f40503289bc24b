/-
  RingRestores: a shard that had no points, added and removed, leaves the ring as it was.
-/
import Derived.Test.YtjmhemkbfephpaaRgBegun
namespace Go.Proofs.Ytjmhemkbfephpaa.Rng
open Go.RowKit
set_option linter.unusedVariables false
set_option maxRecDepth 100000

theorem rest_back {L : List Pt} {s : Int} {P : List Int} (h1 : adE L s P = 0) (h2 : reE L s = 5) (h3 : P.length ≠ 0) : reE (adL L s P) s = 0 ∧ reL (adL L s P) s = L := by
  obtain ⟨hG, hs, hp, hF, hl⟩ := adE_zero h1
  have hr : remP L s = L := by
    rcases reE_five h2 with ⟨-, h⟩ | h
    · exact h
    · rw [check_zero.2 hG] at h; cases h
  have hn : ∀ q ∈ L, q.sh ≠ s := fun q hq => by
    rw [← hr] at hq
    simpa using (List.mem_filter.1 hq).2
  have hb := rem_add (s := s) hG.asc hF.1 hF.2 hn
  have hM : adL L s P = addP L s P := adL_ok h1
  rw [hM]
  have hE : reE (addP L s P) s = 0 := reE_ok (check_zero.2 (add_good h1)) (by rw [hb, addP_len]; omega)
  exact ⟨hE, by rw [reL_ok hE, hb]⟩

set_option maxHeartbeats 8000000 in
theorem ringRestores_walk (A : Option Addr) (c : Nat) (L : List Pt) (s : Int) (B : Option Addr) (d : Nat) (P : List Int) (w : World) (hL : Pts w A c L) (hP : Ints w B d P) :
    Calls Try.prog 6 #[.slice A L.length c, .int .i64 s, .slice B P.length d] w fun e w' => e = .returned (.bool true) ∧ Below w.heap.size w w' := by
  have hl1 := hL.len
  have hl2 := hP.len
  have HAd := Lib.hid (add_any A B c d L s P w hL hP)
  have HRm := Lib.hid (fun (W : World) (hW : Below w.heap.size w W) => remove_any A c L s W (hL.below hW))
  have HBG := Lib.hid begun_any
  have HBK := Lib.hid (fun h1 h2 h3 => rest_back (L := L) (s := s) (P := P) h1 h2 h3)
  have HM0 : Hid (adE L s P ≠ 0 → (adL L s P).length = 0) := Lib.hid (fun h => by rw [adL_bad h]; rfl)
  have HSm := Lib.hid (fun (W : World) (A' : Option Addr) (c' : Nat) (hW : Below w.heap.size w W) (h : Pts W A' c' L) => samePts_eq A' A c' c L.length L W rfl h (hL.below hW))
  clear hL hP
  generalize hlp : P.length = lp at *
  clear hlp
  generalize adL L s P = M at *
  generalize adE L s P = e1 at *
  generalize reL L s = D at *
  generalize reE L s = e3 at *
  have HRM := Lib.hid (fun (W : World) (A' : Option Addr) (c' : Nat) (h : Pts W A' c' M) => remove_any A' c' M s W h)
  generalize reL M s = D2 at *
  generalize reE M s = e4 at *
  obtain ⟨lM, hlM⟩ : ∃ lM, M.length = lM := ⟨_, rfl⟩
  rw [hlM] at HRM HM0
  have HLM := Lib.hid hlM
  obtain ⟨ln, hln⟩ : ∃ ln, L.length = ln := ⟨_, rfl⟩
  have HLN := Lib.hid hln
  rw [hln] at HAd HRm HSm hl1 ⊢
  clear hlM hln
  obtain ⟨n1, n2⟩ : decide (e1 = 0) = decide (e1 = 0) ∧ True := ⟨rfl, trivial⟩
  clear n1 n2
  by_cases q1 : e1 = 0
  · by_cases q3 : e3 = 5
    · by_cases q2 : lp = 0
      · have d2 : decide ((lp : Int) = 0) = true := by simp; omega
        have d2' : ((lp : Int) == 0) = true := by rw [beq_iff_eq]; omega
        have d2'' : (lp == 0) = true := by rw [beq_iff_eq]; omega
        have d1 : decide (e1 = 0) = true := by simpa using q1
        have d1' : (e1 == 0) = true := by simpa using q1
        have d1'' : (e1 != 0) = false := by simpa using q1
        have d3 : decide (e3 = 5) = true := by simpa using q3
        have d3' : (e3 == 5) = true := by simpa using q3
        have d3'' : (e3 != 5) = false := by simpa using q3
        clear HBK HM0 HRM HSm q1 q2 q3
        go_enter Try.func6, Try.ntmps6
        go_wp2_with fail
        refine HAd.out.mono ?_
        rintro e w1 ⟨v1, rfl, ho1, hb1⟩
        obtain ⟨A1, c1, rfl, hI1, -⟩ := pts_of_own ho1
        have HB1 := Lib.hid hb1
        clear ho1 hI1 hb1
        go_wp2_with fail
        refine (HRm.out w1 HB1.out).mono ?_
        rintro e w2 ⟨v2, rfl, ho2, hb2⟩
        obtain ⟨A2, c2, rfl, hI2, -⟩ := pts_of_own ho2
        have HB2 := Lib.hid (HB1.out.trans (hb2.mono HB1.out.size))
        clear ho2 hI2 hb2
        go_wp2_with fail
        refine (HBG.out w2).mono ?_
        rintro e w3 ⟨rfl, hb3⟩
        have HB3 := Lib.hid (HB2.out.trans (hb3.mono HB2.out.size))
        clear hb3
        go_wp2
        go_ret
        exact ⟨rfl, HB3.out⟩
      · have d2 : decide ((lp : Int) = 0) = false := by simp; omega
        have d2' : ((lp : Int) == 0) = false := by rw [beq_eq_false_iff_ne]; omega
        have d2'' : (lp == 0) = false := by rw [beq_eq_false_iff_ne]; omega
        obtain ⟨f4, fD⟩ := HBK.out q1 q3 q2
        subst f4 fD
        have d1 : decide (e1 = 0) = true := by simpa using q1
        have d1' : (e1 == 0) = true := by simpa using q1
        have d1'' : (e1 != 0) = false := by simpa using q1
        have d3 : decide (e3 = 5) = true := by simpa using q3
        have d3' : (e3 == 5) = true := by simpa using q3
        have d3'' : (e3 != 5) = false := by simpa using q3
        clear HBK HM0 q1 q2 q3
        go_enter Try.func6, Try.ntmps6
        go_wp2_with fail
        refine HAd.out.mono ?_
        rintro e w1 ⟨v1, rfl, ho1, hb1⟩
        obtain ⟨A1, c1, rfl, hI1, -⟩ := pts_of_own ho1
        rw [HLM.out]
        have HI1 := Lib.hid hI1
        have HB1 := Lib.hid hb1
        clear ho1 hI1 hb1
        go_wp2_with fail
        refine (HRm.out w1 HB1.out).mono ?_
        rintro e w2 ⟨v2, rfl, ho2, hb2⟩
        obtain ⟨A2, c2, rfl, hI2, -⟩ := pts_of_own ho2
        have HI2 := Lib.hid (HI1.out.below hb2)
        have HB2 := Lib.hid (HB1.out.trans (hb2.mono HB1.out.size))
        clear ho2 hI2 hb2
        go_wp2_with fail
        refine (HBG.out w2).mono ?_
        rintro e w3 ⟨rfl, hb3⟩
        have HI3 := Lib.hid (HI2.out.below hb3)
        have HB3 := Lib.hid (HB2.out.trans (hb3.mono HB2.out.size))
        clear hb3
        go_wp2_with fail
        refine (HRM.out w3 _ _ HI3.out).mono ?_
        rintro e w4 ⟨v4, rfl, ho4, hb4⟩
        obtain ⟨A4, c4, rfl, hI4, -⟩ := pts_of_own ho4
        rw [HLN.out]
        have HI4 := Lib.hid hI4
        have HB4 := Lib.hid (HB3.out.trans (hb4.mono HB3.out.size))
        clear ho4 hI4 hb4
        go_wp2_with fail
        refine (HSm.out w4 _ _ HB4.out HI4.out).mono ?_
        rintro e w5 ⟨rfl, hb5⟩
        have HB5 := Lib.hid (HB4.out.trans (hb5.mono HB4.out.size))
        clear hb5
        go_wp2
        go_ret
        exact ⟨rfl, HB5.out⟩
    · have d1 : decide (e1 = 0) = true := by simpa using q1
      have d1' : (e1 == 0) = true := by simpa using q1
      have d1'' : (e1 != 0) = false := by simpa using q1
      have d3 : decide (e3 = 5) = false := by simpa using q3
      have d3' : (e3 == 5) = false := by simpa using q3
      have d3'' : (e3 != 5) = true := by simpa using q3
      clear HBK HM0 HRM HSm q1 q3
      go_enter Try.func6, Try.ntmps6
      go_wp2_with fail
      refine HAd.out.mono ?_
      rintro e w1 ⟨v1, rfl, ho1, hb1⟩
      obtain ⟨A1, c1, rfl, hI1, -⟩ := pts_of_own ho1
      have HB1 := Lib.hid hb1
      clear ho1 hI1 hb1
      go_wp2_with fail
      refine (HRm.out w1 HB1.out).mono ?_
      rintro e w2 ⟨v2, rfl, ho2, hb2⟩
      obtain ⟨A2, c2, rfl, hI2, -⟩ := pts_of_own ho2
      have HB2 := Lib.hid (HB1.out.trans (hb2.mono HB1.out.size))
      clear ho2 hI2 hb2
      go_wp2_with fail
      refine (HBG.out w2).mono ?_
      rintro e w3 ⟨rfl, hb3⟩
      have HB3 := Lib.hid (HB2.out.trans (hb3.mono HB2.out.size))
      clear hb3
      go_wp2
      go_ret
      exact ⟨rfl, HB3.out⟩
  · have hM0 := HM0.out q1
    have d1 : decide (e1 = 0) = false := by simpa using q1
    have d1' : (e1 == 0) = false := by simpa using q1
    have d1'' : (e1 != 0) = true := by simpa using q1
    subst hM0
    clear HBK HM0 HRM HSm q1
    go_enter Try.func6, Try.ntmps6
    go_wp2_with fail
    refine HAd.out.mono ?_
    rintro e w1 ⟨v1, rfl, ho1, hb1⟩
    obtain ⟨A1, c1, rfl, hI1, -⟩ := pts_of_own ho1
    rw [HLM.out]
    have HB1 := Lib.hid hb1
    clear ho1 hI1 hb1
    go_wp2_with fail
    refine (HRm.out w1 HB1.out).mono ?_
    rintro e w2 ⟨v2, rfl, ho2, hb2⟩
    obtain ⟨A2, c2, rfl, hI2, -⟩ := pts_of_own ho2
    have HB2 := Lib.hid (HB1.out.trans (hb2.mono HB1.out.size))
    clear ho2 hI2 hb2
    go_wp2_with fail
    refine (HBG.out w2).mono ?_
    rintro e w3 ⟨rfl, hb3⟩
    have HB3 := Lib.hid (HB2.out.trans (hb3.mono HB2.out.size))
    clear hb3
    go_wp2
    go_ret
    exact ⟨rfl, HB3.out⟩

end Go.Proofs.Ytjmhemkbfephpaa.Rng
