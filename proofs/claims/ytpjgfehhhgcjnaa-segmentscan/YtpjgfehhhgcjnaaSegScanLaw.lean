/-
  The walk of the law on a scan of new keys.
-/
import Derived.Test.YtpjgfehhhgcjnaaSegFacts
namespace Go.Proofs.Ytpjgfehhhgcjnaa.Seg
open Go.RowKit Go.Maps
open Lru (isRm isK keysE keysE_zero traceE trace_zero touch)
set_option linter.unusedVariables false
set_option maxRecDepth 100000

theorem checkI (f s : Int) (A B : Option Addr) (c d n m : Nat) (N O : List Int) (w : World) (hn : N.length = n) (hm : O.length = m) (hN : Ints w A c N) (hO : Ints w B d O) :
    Calls Try.prog 15 #[kv f s (.slice A n c) (.slice B m d)] w fun e w' => e = .returned (.int .i64 (checkS f s N O)) ∧ Below w.heap.size w w' := by
  subst hn hm
  exact check_any f s A B c d N O w hN hO

set_option maxHeartbeats 8000000 in
theorem segmentScan_walk (f s : Int) (A : Option Addr) (c : Nat) (N : List Int) (B : Option Addr) (d : Nat) (O : List Int) (A1 : Option Addr) (c1 : Nat) (xs : List Int) (w : World) (hN : Ints w A c N) (hO : Ints w B d O) (hJ : Ints w A1 c1 xs) :
    Calls Try.prog 4 #[kv f s (.slice A N.length c) (.slice B O.length d), .slice A1 xs.length c1] w fun e w' => e = .returned (.bool true) ∧ Below w.heap.size w w' := by
  have X0 := Lib.hid (Kb.new w f s (.slice A N.length c) (.slice B O.length d))
  have HB0 : Hid (Below w.heap.size w (w.alloc (ko f s (.slice A N.length c) (.slice B O.length d)))) := Lib.hid (bel_al (Below.refl _ _) (Nat.le_refl _) _)
  have HN0 := Lib.hid (hN.below HB0.out)
  have HO0 := Lib.hid (hO.below HB0.out)
  have HR := Lib.hid (run_any f s A B c d N O A1 c1 xs _ HN0.out HO0.out (hJ.below HB0.out))
  unfold NR at HR
  clear hN hO hJ
  have HS := Lib.hid (fun e h => scan_facts (f := f) (s := s) (t := (N, O)) (xs := xs) e h)
  obtain ⟨n, hn⟩ : ∃ n, N.length = n := ⟨_, rfl⟩
  obtain ⟨m, hm⟩ : ∃ m, O.length = m := ⟨_, rfl⟩
  obtain ⟨lx, hlx⟩ : ∃ lx, xs.length = lx := ⟨_, rfl⟩
  generalize rnR f s (N, O) xs f = R1 at *
  generalize rnR f s (N, O) xs s = R2 at *
  generalize rnT f s (N, O) xs = T at *
  generalize rnH f s (N, O) xs = h at *
  generalize rnE f s (N, O) xs = er at *
  obtain ⟨T1, T2⟩ := T
  dsimp only at HR HS
  obtain ⟨n1, hn1⟩ : ∃ n, T1.length = n := ⟨_, rfl⟩
  obtain ⟨m1, hm1⟩ : ∃ m, T2.length = m := ⟨_, rfl⟩
  have HnO := Lib.hid hm
  have Hn1 := Lib.hid hn1
  have Hm1 := Lib.hid hm1
  simp only [hn, hm, hlx, hn1, hm1] at X0 HB0 HN0 HO0 HR HS ⊢
  clear hn hm hlx hn1 hm1
  obtain ⟨x1, x2, x3, x4⟩ := X0.out.cells
  by_cases q1 : er = 0
  · have d1 : (er != 0) = false := by simp [q1]
    by_cases q2 : 0 < h
    · have d2 : decide (0 < h) = true := by simpa using q2
      clear q1 q2 HS
      go_enter Try.func4, Try.ntmps4
      go_wp2_with fail
      refine HR.out.mono ?_
      rintro e w1 ⟨B1, k1, C1, l1, rfl, -, -, hb1⟩
      have HB1 : Hid (Below w.heap.size w (w1.alloc (ko R1 R2 (.slice B1 n1 k1) (.slice C1 m1 l1)))) := Lib.hid (bel_al (HB0.out.trans (hb1.mono HB0.out.size)) (Nat.le_trans HB0.out.size hb1.size) _)
      clear hb1 x1 x2 x3 x4
      go_wp2_with fail
      refine (begun_any _).mono ?_
      rintro e w3 ⟨rfl, hb3⟩
      have HB3 : Hid (Below w.heap.size w w3) := Lib.hid (HB1.out.trans (hb3.mono HB1.out.size))
      clear hb3
      go_wp2
      go_ret
      exact ⟨rfl, HB3.out⟩
    · have d2 : decide (0 < h) = false := by simpa using q2
      obtain ⟨h1, h2, h3, h4, h5⟩ := HS.out q1 q2
      subst h1 h2 h3
      have d4 : decide ((n1 : Int) ≤ R1) = true := by simpa using h4
      have HC := Lib.hid h5
      clear q1 q2 h4 h5 HS
      go_enter Try.func4, Try.ntmps4
      go_wp2_with fail
      refine HR.out.mono ?_
      rintro e w1 ⟨B1, k1, C1, l1, rfl, hi1, hj1, hb1⟩
      have X1 := Lib.hid ((X0.out.below hb1).alloc (ko R1 R2 (.slice B1 n1 k1) (.slice C1 m1 l1)))
      have O1 := Lib.hid ((HO0.out.below hb1).alloc (ko R1 R2 (.slice B1 n1 k1) (.slice C1 m1 l1)))
      have Y1 := Lib.hid (Kb.new w1 R1 R2 (.slice B1 n1 k1) (.slice C1 m1 l1))
      have I1 := Lib.hid ((ints_own hi1).2.alloc (ko R1 R2 (.slice B1 n1 k1) (.slice C1 m1 l1)))
      have J1 := Lib.hid ((ints_own hj1).2.alloc (ko R1 R2 (.slice B1 n1 k1) (.slice C1 m1 l1)))
      have HB1 : Hid (Below w.heap.size w (w1.alloc (ko R1 R2 (.slice B1 n1 k1) (.slice C1 m1 l1)))) := Lib.hid (bel_al (HB0.out.trans (hb1.mono HB0.out.size)) (Nat.le_trans HB0.out.size hb1.size) _)
      clear hi1 hj1 hb1 x1 x2 x3 x4
      go_wp2_with fail
      refine (begun_any _).mono ?_
      rintro e w3 ⟨rfl, hb3⟩
      have X3 := Lib.hid (X1.out.below hb3)
      have Y3 := Lib.hid (Y1.out.below hb3)
      have I3 := Lib.hid (I1.out.below hb3)
      have J3 := Lib.hid (J1.out.below hb3)
      have O3 := Lib.hid (O1.out.below hb3)
      have HB3 : Hid (Below w.heap.size w w3) := Lib.hid (HB1.out.trans (hb3.mono HB1.out.size))
      clear hb3
      obtain ⟨x1, x2, x3, x4⟩ := X3.out.cells
      obtain ⟨y1, y2, y3, y4⟩ := Y3.out.cells
      go_wp2_with fail
      refine (sameI C1 B l1 d m1 m _ _ _ Hm1.out HnO.out J3.out O3.out).mono ?_
      rintro e w4 ⟨rfl, hb4⟩
      rw [decide_eq_true rfl]
      have X4 := Lib.hid (X3.out.below hb4)
      have Y4 := Lib.hid (Y3.out.below hb4)
      have I4 := Lib.hid (I3.out.below hb4)
      have J4 := Lib.hid (J3.out.below hb4)
      have HB4 : Hid (Below w.heap.size w w4) := Lib.hid (HB3.out.trans (hb4.mono HB3.out.size))
      clear hb4 x1 x2 x3 x4 y1 y2 y3 y4
      obtain ⟨x1, x2, x3, x4⟩ := X4.out.cells
      obtain ⟨y1, y2, y3, y4⟩ := Y4.out.cells
      go_wp2_with fail
      refine (checkI R1 R2 B1 C1 k1 l1 n1 m1 _ _ _ Hn1.out Hm1.out I4.out J4.out).mono ?_
      rintro e w5 ⟨rfl, hb5⟩
      rw [HC.out]
      have HB5 : Hid (Below w.heap.size w w5) := Lib.hid (HB4.out.trans (hb5.mono HB4.out.size))
      clear hb5 x1 x2 x3 x4 y1 y2 y3 y4
      go_wp2
      go_ret
      exact ⟨rfl, HB5.out⟩
  · have d1 : (er != 0) = true := by simpa using q1
    clear q1 HS
    go_enter Try.func4, Try.ntmps4
    go_wp2_with fail
    refine HR.out.mono ?_
    rintro e w1 ⟨B1, k1, C1, l1, rfl, -, -, hb1⟩
    have HB1 : Hid (Below w.heap.size w (w1.alloc (ko R1 R2 (.slice B1 n1 k1) (.slice C1 m1 l1)))) := Lib.hid (bel_al (HB0.out.trans (hb1.mono HB0.out.size)) (Nat.le_trans HB0.out.size hb1.size) _)
    clear hb1 x1 x2 x3 x4
    go_wp2_with fail
    refine (begun_any _).mono ?_
    rintro e w3 ⟨rfl, hb3⟩
    have HB3 : Hid (Below w.heap.size w w3) := Lib.hid (HB1.out.trans (hb3.mono HB1.out.size))
    clear hb3
    go_wp2
    go_ret
    exact ⟨rfl, HB3.out⟩

end Go.Proofs.Ytpjgfehhhgcjnaa.Seg
