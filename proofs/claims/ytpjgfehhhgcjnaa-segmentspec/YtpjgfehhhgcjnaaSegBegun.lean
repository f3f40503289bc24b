/-
  SameHalls of the reference; what must be in any case.
-/
import Derived.Test.YtpjgfehhhgcjnaaSegApi2
import Derived.Test.YtpjgfehhhgcjnaaLruBegun
namespace Go.Proofs.Ytpjgfehhhgcjnaa.Seg
open Go.RowKit Go.Maps
open Lru (isRm isK keysE keysE_zero traceE trace_zero touch ints_lit same_lit)
set_option linter.unusedVariables false
set_option maxRecDepth 100000

theorem fst2 {f s f2 s2 : Int} (h : f = f2 ∧ s = s2) {N O M P : List Int} {b c : Bool} (hb : decide (N = M) = b) (hc : decide (O = P) = c) : decide ((f, s, N, O) = (f2, s2, M, P)) = (b && c) := by
  subst hb hc
  obtain ⟨rfl, rfl⟩ := h
  simp [Bool.decide_and]
theorem sameI (A B : Option Addr) (c d n m : Nat) (L M : List Int) (w : World) (hn : L.length = n) (hm : M.length = m) (hA : Ints w A c L) (hB : Ints w B d M) :
    Calls Try.prog 17 #[.slice A n c, .slice B m d] w fun e w' => e = .returned (.bool (decide (L = M))) ∧ Below w.heap.size w w' := by
  subst hn hm
  exact sameInts_any A B c d L M w hA hB

set_option maxHeartbeats 4000000 in
theorem sameHalls_any (f s f2 s2 : Int) (A B A2 B2 : Option Addr) (c d c2 d2 n m n2 m2 : Nat) (N O M P : List Int) (w : World) (hn : N.length = n) (hm : O.length = m) (hn2 : M.length = n2) (hm2 : P.length = m2) (hN : Ints w A c N) (hO : Ints w B d O) (hM : Ints w A2 c2 M) (hP : Ints w B2 d2 P) :
    Calls Try.prog 16 #[kv f s (.slice A n c) (.slice B m d), kv f2 s2 (.slice A2 n2 c2) (.slice B2 m2 d2)] w fun e w' => e = .returned (.bool (decide ((f, s, N, O) = (f2, s2, M, P)))) ∧ Below w.heap.size w w' := by
  have hb0 : Below w.heap.size w ((w.alloc (ko f s (.slice A n c) (.slice B m d))).alloc (ko f2 s2 (.slice A2 n2 c2) (.slice B2 m2 d2))) := bel_al (bel_al (Below.refl _ _) (Nat.le_refl _) _) (by simp) _
  have HK : Hid (Kb ((w.alloc (ko f s (.slice A n c) (.slice B m d))).alloc (ko f2 s2 (.slice A2 n2 c2) (.slice B2 m2 d2))) w.heap.size f s (.slice A n c) (.slice B m d)) := Lib.hid ((Kb.new w f s _ _).alloc _)
  have HL : Hid (Kb ((w.alloc (ko f s (.slice A n c) (.slice B m d))).alloc (ko f2 s2 (.slice A2 n2 c2) (.slice B2 m2 d2))) (w.heap.size + 1) f2 s2 (.slice A2 n2 c2) (.slice B2 m2 d2)) := Lib.hid (by
    have := Kb.new (w.alloc (ko f s (.slice A n c) (.slice B m d))) f2 s2 (.slice A2 n2 c2) (.slice B2 m2 d2)
    rwa [show (w.alloc (ko f s (.slice A n c) (.slice B m d))).heap.size = w.heap.size + 1 by simp] at this)
  have HB0 := Lib.hid hb0
  have HN := Lib.hid (hN.below hb0)
  have HO := Lib.hid (hO.below hb0)
  have HM := Lib.hid (hM.below hb0)
  have HP := Lib.hid (hP.below hb0)
  have HnN := Lib.hid hn
  have HnO := Lib.hid hm
  have HnM := Lib.hid hn2
  have HnP := Lib.hid hm2
  clear hb0 hN hO hM hP hn hm hn2 hm2
  obtain ⟨x1, x2, x3, x4⟩ := HK.out.cells
  obtain ⟨y1, y2, y3, y4⟩ := HL.out.cells
  by_cases h1 : f = f2
  · have q1 : (f == f2) = true := by simpa using h1
    by_cases h2 : s = s2
    · have q2 : (s == s2) = true := by simpa using h2
      have HF := Lib.hid (fst2 (f := f) (s := s) (f2 := f2) (s2 := s2) ⟨h1, h2⟩ (N := N) (O := O) (M := M) (P := P) rfl rfl)
      clear h1 h2
      by_cases h3 : N = M
      · have d3 : decide (N = M) = true := by simpa using h3
        rw [d3, Bool.true_and] at HF
        clear h3
        go_enter Try.func16, Try.ntmps16
        go_wp2_with fail
        refine (sameI A A2 c c2 n n2 N M _ HnN.out HnM.out HN.out HM.out).mono ?_
        rintro e w1 ⟨rfl, hb1⟩
        rw [d3]
        have HO1 := Lib.hid (HO.out.below hb1)
        have HP1 := Lib.hid (HP.out.below hb1)
        have HK1 := Lib.hid (HK.out.below hb1)
        have HL1 := Lib.hid (HL.out.below hb1)
        have HB1 : Hid (Below w.heap.size w w1) := Lib.hid (HB0.out.trans (hb1.mono HB0.out.size))
        clear x1 x2 x3 x4 y1 y2 y3 y4 hb1
        obtain ⟨x1, x2, x3, x4⟩ := HK1.out.cells
        obtain ⟨y1, y2, y3, y4⟩ := HL1.out.cells
        go_wp2_with fail
        refine (sameI B B2 d d2 m m2 O P _ HnO.out HnP.out HO1.out HP1.out).mono ?_
        rintro e w2 ⟨rfl, hb2⟩
        have HB2 : Hid (Below w.heap.size w w2) := Lib.hid (HB1.out.trans (hb2.mono HB1.out.size))
        clear x1 x2 x3 x4 y1 y2 y3 y4 hb2
        generalize decide (O = P) = b at *
        go_wp2
        go_ret
        exact ⟨ret_bool HF.out.symm, HB2.out⟩
      · have d3 : decide (N = M) = false := by simpa using h3
        rw [d3, Bool.false_and] at HF
        clear h3
        go_enter Try.func16, Try.ntmps16
        go_wp2_with fail
        refine (sameI A A2 c c2 n n2 N M _ HnN.out HnM.out HN.out HM.out).mono ?_
        rintro e w1 ⟨rfl, hb1⟩
        rw [d3]
        have HB1 : Hid (Below w.heap.size w w1) := Lib.hid (HB0.out.trans (hb1.mono HB0.out.size))
        clear x1 x2 x3 x4 y1 y2 y3 y4 hb1
        go_wp2
        go_ret
        exact ⟨ret_bool HF.out.symm, HB1.out⟩
    · have q2 : (s == s2) = false := by simpa using h2
      have HF : Hid (decide ((f, s, N, O) = (f2, s2, M, P)) = false) := Lib.hid (by simp [h2])
      clear h1 h2
      go_enter Try.func16, Try.ntmps16
      go_wp2
      go_ret
      exact ⟨ret_bool HF.out.symm, HB0.out⟩
  · have q1 : (f == f2) = false := by simpa using h1
    have HF : Hid (decide ((f, s, N, O) = (f2, s2, M, P)) = false) := Lib.hid (by simp [h1])
    clear h1
    go_enter Try.func16, Try.ntmps16
    go_wp2
    go_ret
    exact ⟨ret_bool HF.out.symm, HB0.out⟩

/-- What the calls of hallsBegun give. -/
theorem bg_facts : ∃ M1 M2 M3 M4 M5 M6 M7 M8 M9 : List Int,
    (∀ (q : Nat) (w : World), q = w.heap.size → Calls Try.prog 8 #[kv 2 1 (.slice none 0 0) (.slice none 0 0), .slice (some ⟨q, 0, none⟩) 5 5] (w.alloc (.cells #[.int .i64 1, .int .i64 2, .int .i64 1, .int .i64 3, .int .i64 4] 3)) fun e w' => ∃ A c B d, e = .returned (.tuple #[kv 2 1 (.slice A 2 c) (.slice B 1 d), .int .i64 1, .int .i64 0]) ∧ Ints w' A c M1 ∧ Ints w' B d M2 ∧ Below w.heap.size w w') ∧
    (∀ (A : Option Addr) (c : Nat) (B : Option Addr) (d : Nat) (w : World), Ints w A c M1 → Ints w B d M2 → Calls Try.prog 7 #[kv 2 1 (.slice A 2 c) (.slice B 1 d), .int .i64 3] w fun e w' => ∃ A c B d E k, e = .returned (.tuple #[kv 2 1 (.slice A 1 c) (.slice B 1 d), .bool true, .slice E 1 k, .int .i64 0]) ∧ Ints w' A c M3 ∧ Ints w' B d M4 ∧ Ints w' E k M5 ∧ Below w.heap.size w w') ∧
    (∀ (A : Option Addr) (c : Nat) (B : Option Addr) (d : Nat) (w : World), Ints w A c M1 → Ints w B d M2 → Calls Try.prog 9 #[kv 2 1 (.slice A 2 c) (.slice B 1 d)] w fun e w' => ∃ E k, e = .returned (.tuple #[.slice E 3 k, .int .i64 0]) ∧ Ints w' E k M6 ∧ Below w.heap.size w w') ∧
    (∀ (A : Option Addr) (c : Nat) (B : Option Addr) (d : Nat) (w : World), Ints w A c M1 → Ints w B d M2 → Calls Try.prog 7 #[kv 2 1 (.slice A 2 c) (.slice B 1 d), .int .i64 (-1)] w fun e w' => ∃ A c B d E k, e = .returned (.tuple #[kv 0 0 (.slice A 0 c) (.slice B 0 d), .bool false, .slice E 0 k, .int .i64 3]) ∧ Ints w' A c M7 ∧ Ints w' B d M8 ∧ Ints w' E k M9 ∧ Below w.heap.size w w') ∧
    (∀ (A : Option Addr) (c : Nat) (B : Option Addr) (d p q : Nat) (w : World), p = w.heap.size → q = w.heap.size + 1 → Ints w A c M1 → Ints w B d M2 → Calls Try.prog 16 #[kv 2 1 (.slice A 2 c) (.slice B 1 d), kv 2 1 (.slice (some ⟨p, 0, none⟩) 2 2) (.slice (some ⟨q, 0, none⟩) 1 1)] ((w.alloc (.cells #[.int .i64 4, .int .i64 3] 3)).alloc (.cells #[.int .i64 1] 3)) fun e w' => e = .returned (.bool true) ∧ Below w.heap.size w w') ∧
    (∀ (A : Option Addr) (c q : Nat) (w : World), q = w.heap.size → Ints w A c M5 → Calls Try.prog 17 #[.slice A 1 c, .slice (some ⟨q, 0, none⟩) 1 1] (w.alloc (.cells #[.int .i64 1] 3)) fun e w' => e = .returned (.bool true) ∧ Below w.heap.size w w') ∧
    (∀ (A : Option Addr) (c q : Nat) (w : World), q = w.heap.size → Ints w A c M4 → Calls Try.prog 17 #[.slice A 1 c, .slice (some ⟨q, 0, none⟩) 1 1] (w.alloc (.cells #[.int .i64 3] 3)) fun e w' => e = .returned (.bool true) ∧ Below w.heap.size w w') ∧
    (∀ (A : Option Addr) (c q : Nat) (w : World), q = w.heap.size → Ints w A c M6 → Calls Try.prog 17 #[.slice A 3 c, .slice (some ⟨q, 0, none⟩) 3 3] (w.alloc (.cells #[.int .i64 4, .int .i64 3, .int .i64 1] 3)) fun e w' => e = .returned (.bool true) ∧ Below w.heap.size w w') := by
  refine ⟨[4, 3], [1], [4], [3], [1], [4, 3, 1], [], [], [], fun q w hq => ?_, fun A c B d w h k => ?_, fun A c B d w h k => ?_, fun A c B d w h k => ?_, fun A c B d p q w hp hq h k => ?_, fun A c q w hq h => ?_, fun A c q w hq h => ?_, fun A c q w hq h => ?_⟩
  · subst hq
    have := run_any 2 1 none none 0 0 [] [] (some ⟨w.heap.size, 0, none⟩) 5 [1, 2, 1, 3, 4] _ (Ints.none_ _) (Ints.none_ _) (ints_lit w [1, 2, 1, 3, 4] (by unfold maxLen; decide))
    unfold NR at this
    rw [show rnR 2 1 ([], []) [1, 2, 1, 3, 4] 2 = 2 by decide, show rnR 2 1 ([], []) [1, 2, 1, 3, 4] 1 = 1 by decide, show rnT 2 1 ([], []) [1, 2, 1, 3, 4] = ([4, 3], [1]) by decide, show rnH 2 1 ([], []) [1, 2, 1, 3, 4] = 1 by decide, show rnE 2 1 ([], []) [1, 2, 1, 3, 4] = 0 by decide] at this
    exact this.mono (by rintro e w' ⟨A, c, B, d, he, hI, hJ, hb⟩; exact ⟨A, c, B, d, he, (ints_own hI).2, (ints_own hJ).2, (bel_al (Below.refl _ _) (Nat.le_refl _) _).trans (hb.mono (by simp))⟩)
  · have := access_any 2 1 A B c d [4, 3] [1] 3 w h k
    unfold AR at this
    rw [show acR 2 1 ([4, 3], [1]) 3 2 = 2 by decide, show acR 2 1 ([4, 3], [1]) 3 1 = 1 by decide, show acT 2 1 ([4, 3], [1]) 3 = ([4], [3]) by decide, show acH 2 1 ([4, 3], [1]) 3 = true by decide, show acG 2 1 ([4, 3], [1]) 3 = [1] by decide, show acE 2 1 ([4, 3], [1]) 3 = 0 by decide] at this
    exact this.mono (by rintro e w' ⟨A, c, B, d, E, k, he, hI, hJ, hE, hb⟩; exact ⟨A, c, B, d, E, k, he, (ints_own hI).2, (ints_own hJ).2, (ints_own hE).2, hb⟩)
  · have := keys_any 2 1 A B c d [4, 3] [1] w h k
    unfold KR at this
    rw [show kyL 2 1 ([4, 3], [1]) = [4, 3, 1] by decide, show checkS 2 1 ([4, 3], [1]).1 ([4, 3], [1]).2 = 0 by decide] at this
    exact this.mono (by rintro e w' ⟨E, k, he, hE, hb⟩; exact ⟨E, k, he, (ints_own hE).2, hb⟩)
  · have := access_any 2 1 A B c d [4, 3] [1] (-1) w h k
    unfold AR at this
    rw [show acR 2 1 ([4, 3], [1]) (-1) 2 = 0 by decide, show acR 2 1 ([4, 3], [1]) (-1) 1 = 0 by decide, show acT 2 1 ([4, 3], [1]) (-1) = ([], []) by decide, show acH 2 1 ([4, 3], [1]) (-1) = false by decide, show acG 2 1 ([4, 3], [1]) (-1) = [] by decide, show acE 2 1 ([4, 3], [1]) (-1) = 3 by decide] at this
    exact this.mono (by rintro e w' ⟨A, c, B, d, E, k, he, hI, hJ, hE, hb⟩; exact ⟨A, c, B, d, E, k, he, (ints_own hI).2, (ints_own hJ).2, (ints_own hE).2, hb⟩)
  · subst hp hq
    have hw : (w.alloc (.cells #[.int .i64 4, .int .i64 3] 3)).heap.size = w.heap.size + 1 := by simp
    have i2 := ints_lit (w.alloc (.cells #[.int .i64 4, .int .i64 3] 3)) [1] (by unfold maxLen; decide)
    rw [hw] at i2
    have := sameHalls_any 2 1 2 1 A B (some ⟨w.heap.size, 0, none⟩) (some ⟨w.heap.size + 1, 0, none⟩) c d 2 1 2 1 2 1 [4, 3] [1] [4, 3] [1] _ rfl rfl rfl rfl ((h.alloc _).alloc _) ((k.alloc _).alloc _) ((ints_lit w [4, 3] (by unfold maxLen; decide)).alloc _) i2
    rw [show decide (((2 : Int), (1 : Int), ([4, 3] : List Int), ([1] : List Int)) = (2, 1, [4, 3], [1])) = true by decide] at this
    exact this.mono (by rintro e w' ⟨he, hb⟩; exact ⟨he, (bel_al (bel_al (Below.refl _ _) (Nat.le_refl _) _) (by simp) _).trans (hb.mono (by simp; omega))⟩)
  · exact same_lit A c 1 q [1] [1] true w hq h rfl (by unfold maxLen; decide) (by simp)
  · exact same_lit A c 1 q [3] [3] true w hq h rfl (by unfold maxLen; decide) (by simp)
  · exact same_lit A c 3 q [4, 3, 1] [4, 3, 1] true w hq h rfl (by unfold maxLen; decide) (by simp)
theorem check_bg (w : World) : Calls Try.prog 15 #[nk] w fun e w' => e = .returned (.int .i64 3) ∧ Below w.heap.size w w' := by
  have := check_any 0 0 none none 0 0 [] [] w (Ints.none_ _) (Ints.none_ _)
  rwa [show checkS 0 0 [] [] = 3 by decide] at this

set_option maxHeartbeats 8000000 in
theorem begun_any (w : World) :
    Calls Try.prog 14 #[] w fun e w' => e = .returned (.bool true) ∧ Below w.heap.size w w' := by
  obtain ⟨M1, M2, M3, M4, M5, M6, M7, M8, M9, h1, h2, h3, h4, h5, h6, h7, h8⟩ := bg_facts
  have H1 := Lib.hid h1
  have H2 := Lib.hid h2
  have H3 := Lib.hid h3
  have H4 := Lib.hid h4
  have H5 := Lib.hid h5
  have H6 := Lib.hid h6
  have H7 := Lib.hid h7
  have H8 := Lib.hid h8
  clear h1 h2 h3 h4 h5 h6 h7 h8
  go_enter Try.func14, Try.ntmps14
  go_wp2_with fail
  refine (H1.out _ w rfl).mono ?_
  rintro e w1 ⟨A1, c1, B1, d1, rfl, hI1, hJ1, hb1⟩
  have K1 := Lib.hid (Kb.new w1 2 1 (.slice A1 2 c1) (.slice B1 1 d1))
  have I1 := Lib.hid (hI1.alloc (ko 2 1 (.slice A1 2 c1) (.slice B1 1 d1)))
  have J1 := Lib.hid (hJ1.alloc (ko 2 1 (.slice A1 2 c1) (.slice B1 1 d1)))
  have HB1 : Hid (Below w.heap.size w (w1.alloc (ko 2 1 (.slice A1 2 c1) (.slice B1 1 d1)))) := Lib.hid (bel_al hb1 hb1.size _)
  clear hI1 hJ1 hb1
  obtain ⟨x1, x2, x3, x4⟩ := K1.out.cells
  go_wp2_with fail
  refine (H2.out A1 c1 B1 d1 _ I1.out J1.out).mono ?_
  rintro e w2 ⟨A2, c2, B2, d2, E2, k2, rfl, -, hJ2, hE2, hb2⟩
  have K2 := Lib.hid ((K1.out.below hb2).alloc (ko 2 1 (.slice A2 1 c2) (.slice B2 1 d2)))
  have I2 := Lib.hid ((I1.out.below hb2).alloc (ko 2 1 (.slice A2 1 c2) (.slice B2 1 d2)))
  have J2 := Lib.hid ((J1.out.below hb2).alloc (ko 2 1 (.slice A2 1 c2) (.slice B2 1 d2)))
  have L2 := Lib.hid (Kb.new w2 2 1 (.slice A2 1 c2) (.slice B2 1 d2))
  have P2 := Lib.hid (hJ2.alloc (ko 2 1 (.slice A2 1 c2) (.slice B2 1 d2)))
  have E2' := Lib.hid (hE2.alloc (ko 2 1 (.slice A2 1 c2) (.slice B2 1 d2)))
  have HB2 : Hid (Below w.heap.size w (w2.alloc (ko 2 1 (.slice A2 1 c2) (.slice B2 1 d2)))) := Lib.hid (bel_al (HB1.out.trans (hb2.mono HB1.out.size)) (Nat.le_trans HB1.out.size hb2.size) _)
  clear x1 x2 x3 x4 hJ2 hE2 hb2
  obtain ⟨x1, x2, x3, x4⟩ := K2.out.cells
  go_wp2_with fail
  refine (H3.out A1 c1 B1 d1 _ I2.out J2.out).mono ?_
  rintro e w3 ⟨E3, k3, rfl, hE3, hb3⟩
  have K3 := Lib.hid (K2.out.below hb3)
  have I3 := Lib.hid (I2.out.below hb3)
  have J3 := Lib.hid (J2.out.below hb3)
  have L3 := Lib.hid (L2.out.below hb3)
  have P3 := Lib.hid (P2.out.below hb3)
  have E2'3 := Lib.hid (E2'.out.below hb3)
  have E3' := Lib.hid hE3
  have HB3 : Hid (Below w.heap.size w w3) := Lib.hid (HB2.out.trans (hb3.mono HB2.out.size))
  clear x1 x2 x3 x4 hE3 hb3
  obtain ⟨x1, x2, x3, x4⟩ := K3.out.cells
  go_wp2_with fail
  refine (H4.out A1 c1 B1 d1 _ I3.out J3.out).mono ?_
  rintro e w4 ⟨A4, c4, B4, d4, E4, k4, rfl, -, -, -, hb4⟩
  have K4 := Lib.hid ((K3.out.below hb4).alloc (ko 0 0 (.slice A4 0 c4) (.slice B4 0 d4)))
  have I4 := Lib.hid ((I3.out.below hb4).alloc (ko 0 0 (.slice A4 0 c4) (.slice B4 0 d4)))
  have J4 := Lib.hid ((J3.out.below hb4).alloc (ko 0 0 (.slice A4 0 c4) (.slice B4 0 d4)))
  have L4 := Lib.hid ((L3.out.below hb4).alloc (ko 0 0 (.slice A4 0 c4) (.slice B4 0 d4)))
  have P4 := Lib.hid ((P3.out.below hb4).alloc (ko 0 0 (.slice A4 0 c4) (.slice B4 0 d4)))
  have E24 := Lib.hid ((E2'3.out.below hb4).alloc (ko 0 0 (.slice A4 0 c4) (.slice B4 0 d4)))
  have E34 := Lib.hid ((E3'.out.below hb4).alloc (ko 0 0 (.slice A4 0 c4) (.slice B4 0 d4)))
  have HB4 : Hid (Below w.heap.size w (w4.alloc (ko 0 0 (.slice A4 0 c4) (.slice B4 0 d4)))) := Lib.hid (bel_al (HB3.out.trans (hb4.mono HB3.out.size)) (Nat.le_trans HB3.out.size hb4.size) _)
  clear x1 x2 x3 x4 hb4
  obtain ⟨x1, x2, x3, x4⟩ := K4.out.cells
  go_wp2_with fail
  refine (H5.out A1 c1 B1 d1 _ _ (w4.alloc (ko 0 0 (.slice A4 0 c4) (.slice B4 0 d4))) (by simp) (by simp) I4.out J4.out).mono ?_
  rintro e w5 ⟨rfl, hb5⟩
  have L5 := Lib.hid (L4.out.below hb5)
  have P5 := Lib.hid (P4.out.below hb5)
  have E25 := Lib.hid (E24.out.below hb5)
  have E35 := Lib.hid (E34.out.below hb5)
  have HB5 : Hid (Below w.heap.size w w5) := Lib.hid (HB4.out.trans (hb5.mono HB4.out.size))
  clear x1 x2 x3 x4 hb5
  go_wp2_with fail
  refine (H6.out E2 k2 _ w5 rfl E25.out).mono ?_
  rintro e w6 ⟨rfl, hb6⟩
  have L6 := Lib.hid (L5.out.below hb6)
  have P6 := Lib.hid (P5.out.below hb6)
  have E36 := Lib.hid (E35.out.below hb6)
  have HB6 : Hid (Below w.heap.size w w6) := Lib.hid (HB5.out.trans (hb6.mono HB5.out.size))
  clear hb6
  obtain ⟨x1, x2, x3, x4⟩ := L6.out.cells
  go_wp2_with fail
  refine (H7.out B2 d2 _ w6 rfl P6.out).mono ?_
  rintro e w7 ⟨rfl, hb7⟩
  have E37 := Lib.hid (E36.out.below hb7)
  have HB7 : Hid (Below w.heap.size w w7) := Lib.hid (HB6.out.trans (hb7.mono HB6.out.size))
  clear x1 x2 x3 x4 hb7
  go_wp2_with fail
  refine (H8.out E3 k3 _ w7 rfl E37.out).mono ?_
  rintro e w8 ⟨rfl, hb8⟩
  have HB8 : Hid (Below w.heap.size w w8) := Lib.hid (HB7.out.trans (hb8.mono HB7.out.size))
  clear hb8
  go_wp2_with fail
  refine (check_bg _).mono ?_
  rintro e w9 ⟨rfl, hb9⟩
  have HB9 : Hid (Below w.heap.size w w9) := Lib.hid (HB8.out.trans (hb9.mono HB8.out.size))
  clear hb9
  go_wp2
  go_ret
  exact ⟨rfl, HB9.out⟩

end Go.Proofs.Ytpjgfehhhgcjnaa.Seg
