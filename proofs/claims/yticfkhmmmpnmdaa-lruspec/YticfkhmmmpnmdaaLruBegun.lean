/-
  SameCache of the reference; what must be in any case.
-/
import Derived.Test.YticfkhmmmpnmdaaLruApi2
namespace Go.Proofs.Yticfkhmmmpnmdaa.Lru
open Go.RowKit Go.Maps
set_option linter.unusedVariables false

/-! ### Literal slices -/
theorem ints_lit (w : World) (L : List Int) (h : L.length ≤ maxLen) : Ints (w.alloc (.cells (L.map encI).toArray 3)) (some ⟨w.heap.size, 0, none⟩) L.length L := by
  refine ⟨Nat.le_refl _, h, fun e => (by cases e), fun _ => ⟨w.heap.size, 0, rfl, by simp, fun i hi => ?_⟩⟩
  rw [cell_of_row _ _ _ _ _ (0, 0) (show (w.alloc (.cells (L.map encI).toArray 3)).heap[w.heap.size]? = some (.cells (L.map encI).toArray 3 (0, 0)) from Array.getElem?_push_size)]
  simp [List.getElem?_eq_getElem hi, gi_get hi]
theorem same_lit (A : Option Addr) (c n q : Nat) (L M : List Int) (b : Bool) (w : World) (hq : q = w.heap.size) (h : Ints w A c L) (hn : M.length = n) (hm : n ≤ maxLen) (hb : decide (L = M) = b) :
    Calls Try.prog 21 #[.slice A L.length c, .slice (some ⟨q, 0, none⟩) n n] (w.alloc (.cells (M.map encI).toArray 3)) fun e w' => e = .returned (.bool b) ∧ Below w.heap.size w w' := by
  subst hq hn hb
  refine (sameInts_any A _ c M.length L M _ (h.alloc _) (ints_lit w M hm)).mono ?_
  rintro e w' ⟨h1, h2⟩
  exact ⟨h1, (bel_al (Below.refl _ _) (Nat.le_refl _) _).trans (h2.mono (by simp))⟩

set_option maxHeartbeats 1000000 in
theorem sameCache_any (r q : Int) (A B : Option Addr) (c d : Nat) (L M : List Int) (w : World) (hA : Ints w A c L) (hB : Ints w B d M) :
    Calls Try.prog 20 #[cv r A c L, cv q B d M] w fun e w' => e = .returned (.bool (decide (r = q ∧ L = M))) ∧ Below w.heap.size w w' := by
  have X0 := (Bx.new (r := r) hA).alloc (co q B d M)
  have hs1 : (w.alloc (co r A c L)).heap.size = w.heap.size + 1 := by simp
  have Y0 := Bx.new (w := w.alloc (co r A c L)) (r := q) (hB.alloc _)
  rw [hs1] at Y0
  have HX := Lib.hid X0
  have HY := Lib.hid Y0
  have HB0 : Hid (Below w.heap.size w ((w.alloc (co r A c L)).alloc (co q B d M))) := Lib.hid (bel_al (bel_al (Below.refl _ _) (Nat.le_refl _) _) (by simp) _)
  obtain ⟨-, x1, x2, -⟩ := X0
  obtain ⟨-, y1, y2, -⟩ := Y0
  clear hA hB hs1
  by_cases h : r = q
  · have hq : (r == q) = true := by simpa using h
    have HE : Hid (decide (r = q ∧ L = M) = decide (L = M)) := Lib.hid (by simp [h])
    clear h
    go_enter Try.func20, Try.ntmps20
    go_wp2_with fail
    refine (sameInts_any A B c d L M _ HX.out.ints HY.out.ints).mono ?_
    rintro e w1 ⟨rfl, hb1⟩
    have HB1 := Lib.hid (HB0.out.trans (hb1.mono HB0.out.size))
    clear hb1 x1 x2 y1 y2
    go_wp2
    go_ret
    exact ⟨ret_bool HE.out.symm, HB1.out⟩
  · have hq : (r == q) = false := by simpa using h
    have HE : Hid (decide (r = q ∧ L = M) = false) := Lib.hid (by simp [h])
    clear h
    go_enter Try.func20, Try.ntmps20
    go_wp2
    go_ret
    exact ⟨ret_bool HE.out.symm, HB0.out⟩

def bel : List Int := [1, 2, 3, 4, 1, 2, 5, 1, 2, 3, 4, 5]
theorem belady_any (w : World) : Calls Try.prog 44 #[] w fun e w' => ∃ A c, e = .returned (.slice A 12 c) ∧ Ints w' A c bel ∧ Below w.heap.size w w' := by
  have HL := Lib.hid (ints_lit w bel (by unfold maxLen; decide))
  have HB : Hid (∀ o, Below w.heap.size w (w.alloc o)) := Lib.hid (fun o => bel_al (Below.refl _ _) (Nat.le_refl _) o)
  go_enter Try.func44, Try.ntmps44
  go_wp2
  go_ret
  exact ⟨_, _, rfl, HL.out, HB.out _⟩

/-- What the calls of lruBegun give, by letters. -/
theorem bg_facts : ∃ M1 M2 M3 M4 M5 : List Int,
    (∀ (B : Option Addr) (d : Nat) (w : World), Ints w B d bel → Calls Try.prog 11 #[.agg #[.int .i64 3, .slice none 0 0], .slice B 12 d] w fun e w' => ∃ A c, e = .returned (.tuple #[cv 3 A c M1, .int .i64 2, .int .i64 0]) ∧ Ints w' A c M1 ∧ Below w.heap.size w w') ∧
    (∀ (A : Option Addr) (c : Nat) (w : World), Ints w A c M1 → Calls Try.prog 10 #[cv 3 A c M1, .int .i64 9] w fun e w' => ∃ A c, e = .returned (.tuple #[cv 3 A c M2, .bool false, .int .i64 3, .int .i64 0]) ∧ Ints w' A c M2 ∧ Below w.heap.size w w') ∧
    (∀ (A : Option Addr) (c : Nat) (w : World), Ints w A c M2 → Calls Try.prog 12 #[cv 3 A c M2, .int .i64 1] w fun e w' => ∃ A c B d, e = .returned (.tuple #[cv 1 A c M3, .slice B M4.length d, .int .i64 0]) ∧ Ints w' A c M3 ∧ Ints w' B d M4 ∧ Below w.heap.size w w') ∧
    (∀ (A : Option Addr) (c : Nat) (w : World), Ints w A c M1 → Calls Try.prog 10 #[cv 3 A c M1, .int .i64 (-1)] w fun e w' => ∃ A c, e = .returned (.tuple #[cv 0 A c M5, .bool false, .int .i64 0, .int .i64 3]) ∧ Ints w' A c M5 ∧ Below w.heap.size w w') ∧
    (∀ (A : Option Addr) (c q : Nat) (w : World), q = w.heap.size → Ints w A c M1 → Calls Try.prog 21 #[.slice A M1.length c, .slice (some ⟨q, 0, none⟩) 3 3] (w.alloc (.cells #[.int .i64 5, .int .i64 4, .int .i64 3] 3)) fun e w' => e = .returned (.bool true) ∧ Below w.heap.size w w') ∧
    (∀ (A : Option Addr) (c q : Nat) (w : World), q = w.heap.size → Ints w A c M2 → Calls Try.prog 21 #[.slice A M2.length c, .slice (some ⟨q, 0, none⟩) 3 3] (w.alloc (.cells #[.int .i64 9, .int .i64 5, .int .i64 4] 3)) fun e w' => e = .returned (.bool true) ∧ Below w.heap.size w w') ∧
    (∀ (A : Option Addr) (c q : Nat) (w : World), q = w.heap.size → Ints w A c M3 → Calls Try.prog 21 #[.slice A M3.length c, .slice (some ⟨q, 0, none⟩) 1 1] (w.alloc (.cells #[.int .i64 9] 3)) fun e w' => e = .returned (.bool true) ∧ Below w.heap.size w w') ∧
    (∀ (A : Option Addr) (c q : Nat) (w : World), q = w.heap.size → Ints w A c M4 → Calls Try.prog 21 #[.slice A M4.length c, .slice (some ⟨q, 0, none⟩) 2 2] (w.alloc (.cells #[.int .i64 4, .int .i64 5] 3)) fun e w' => e = .returned (.bool true) ∧ Below w.heap.size w w') := by
  refine ⟨[5, 4, 3], [9, 5, 4], [9], [4, 5], [], fun B d w h => ?_, fun A c w h => ?_, fun A c w h => ?_, fun A c w h => ?_, fun A c q w hq h => ?_, fun A c q w hq h => ?_, fun A c q w hq h => ?_, fun A c q w hq h => ?_⟩
  · have := run_any 3 none B 0 d [] bel w (Ints.none_ _) h
    unfold NR at this
    rw [show rnR 3 [] bel = 3 by decide, show rnL 3 [] bel = [5, 4, 3] by decide, show rnH 3 [] bel = 2 by decide, show rnE 3 [] bel = 0 by decide] at this
    exact this.mono (by rintro e w' ⟨A, c, he, hI, -, hb⟩; exact ⟨A, c, he, hI, hb⟩)
  · have := access_any 3 A c [5, 4, 3] 9 w h
    unfold AR at this
    rw [show acR 3 [5, 4, 3] 9 = 3 by decide, show acL 3 [5, 4, 3] 9 = [9, 5, 4] by decide, show acH 3 [5, 4, 3] 9 = false by decide, show acG 3 [5, 4, 3] 9 = 3 by decide, show acE 3 [5, 4, 3] 9 = 0 by decide] at this
    exact this.mono (by rintro e w' ⟨A, c, he, hI, -, hb⟩; exact ⟨A, c, he, hI, hb⟩)
  · have := resize_any 3 A c [9, 5, 4] 1 w h
    unfold ZR at this
    rw [show rzR 3 [9, 5, 4] 1 = 1 by decide, show rzL 3 [9, 5, 4] 1 = [9] by decide, show rzO 3 [9, 5, 4] 1 = [4, 5] by decide, show rzE 3 [9, 5, 4] 1 = 0 by decide] at this
    exact this.mono (by rintro e w' ⟨A, c, B, d, he, hI, hJ, -, -, hb⟩; exact ⟨A, c, B, d, he, hI, hJ, hb⟩)
  · have := access_any 3 A c [5, 4, 3] (-1) w h
    unfold AR at this
    rw [show acR 3 [5, 4, 3] (-1) = 0 by decide, show acL 3 [5, 4, 3] (-1) = [] by decide, show acH 3 [5, 4, 3] (-1) = false by decide, show acG 3 [5, 4, 3] (-1) = 0 by decide, show acE 3 [5, 4, 3] (-1) = 3 by decide] at this
    exact this.mono (by rintro e w' ⟨A, c, he, hI, -, hb⟩; exact ⟨A, c, he, hI, hb⟩)
  · exact same_lit A c 3 q [5, 4, 3] [5, 4, 3] true w hq h rfl (by unfold maxLen; decide) (by simp)
  · exact same_lit A c 3 q [9, 5, 4] [9, 5, 4] true w hq h rfl (by unfold maxLen; decide) (by simp)
  · exact same_lit A c 1 q [9] [9] true w hq h rfl (by unfold maxLen; decide) (by simp)
  · exact same_lit A c 2 q [4, 5] [4, 5] true w hq h rfl (by unfold maxLen; decide) (by simp)
theorem check_bg (w : World) : Calls Try.prog 18 #[.agg #[.int .i64 0, .slice none 0 0]] w fun e w' => e = .returned (.int .i64 3) ∧ Below w.heap.size w w' := by
  have := check_any 0 none 0 [] w (Ints.none_ _)
  rwa [show checkC 0 [] = 3 by decide] at this
theorem trace_bg (w : World) : Calls Try.prog 19 #[.slice none 0 0] w fun e w' => e = .returned (.int .i64 0) ∧ w = w' := by
  have := checkTrace_any none 0 [] w (Ints.none_ _)
  rwa [show traceE [] = 0 by decide] at this

set_option maxHeartbeats 8000000 in
theorem begun_any (w : World) :
    Calls Try.prog 17 #[] w fun e w' => e = .returned (.bool true) ∧ Below w.heap.size w w' := by
  obtain ⟨M1, M2, M3, M4, M5, h1, h2, h3, h4, h5, h6, h7, h8⟩ := bg_facts
  have H1 := Lib.hid h1
  have H2 := Lib.hid h2
  have H3 := Lib.hid h3
  have H4 := Lib.hid h4
  have H5 := Lib.hid h5
  have H6 := Lib.hid h6
  have H7 := Lib.hid h7
  have H8 := Lib.hid h8
  clear h1 h2 h3 h4 h5 h6 h7 h8
  go_enter Try.func17, Try.ntmps17
  go_wp2_with fail
  refine (belady_any w).mono ?_
  rintro e w0 ⟨B0, d0, rfl, hI0, hb0⟩
  have HI0 := Lib.hid hI0
  have HB0 := Lib.hid hb0
  clear hI0 hb0
  go_wp2_with fail
  refine (H1.out B0 d0 w0 HI0.out).mono ?_
  rintro e w1 ⟨A1, c1, rfl, hI1, hb1⟩
  have X1 := Lib.hid (Bx.new (r := 3) hI1)
  have HB1 : Hid (Below w.heap.size w (w1.alloc (co 3 A1 c1 M1))) := Lib.hid (bel_al (HB0.out.trans (hb1.mono HB0.out.size)) (Nat.le_trans HB0.out.size hb1.size) _)
  obtain ⟨p1, hp1⟩ : ∃ p1, p1 = w1.heap.size := ⟨_, rfl⟩
  rw [← hp1] at X1
  have HP1 := Lib.hid hp1
  clear hI1 hb1 hp1
  obtain ⟨-, x1, x2, -⟩ := X1.out
  rw [HP1.out] at x1 x2
  go_wp2_with fail
  refine (H2.out A1 c1 _ X1.out.ints).mono ?_
  rintro e w2 ⟨A2, c2, rfl, hI2, hb2⟩
  have X2 := Lib.hid ((X1.out.below hb2).alloc (co 3 A2 c2 M2))
  have Y2 := Lib.hid (Bx.new (r := 3) hI2)
  have HB2 : Hid (Below w.heap.size w (w2.alloc (co 3 A2 c2 M2))) := Lib.hid (bel_al (HB1.out.trans (hb2.mono HB1.out.size)) (Nat.le_trans HB1.out.size hb2.size) _)
  clear x1 x2 hI2 hb2
  obtain ⟨-, x1, x2, -⟩ := X2.out
  obtain ⟨-, y1, y2, -⟩ := Y2.out
  rw [HP1.out] at x1 x2
  go_wp2_with fail
  refine (H3.out A2 c2 _ Y2.out.ints).mono ?_
  rintro e w3 ⟨A3, c3, B3, d3, rfl, hI3, hJ3, hb3⟩
  have X3 := Lib.hid ((X2.out.below hb3).alloc (co 1 A3 c3 M3))
  have Y3 := Lib.hid ((Y2.out.below hb3).alloc (co 1 A3 c3 M3))
  have Z3 := Lib.hid (Bx.new (r := 1) hI3)
  have J3 := Lib.hid (hJ3.alloc (co 1 A3 c3 M3))
  have HB3 : Hid (Below w.heap.size w (w3.alloc (co 1 A3 c3 M3))) := Lib.hid (bel_al (HB2.out.trans (hb3.mono HB2.out.size)) (Nat.le_trans HB2.out.size hb3.size) _)
  clear x1 x2 y1 y2 hI3 hJ3 hb3
  obtain ⟨-, x1, x2, -⟩ := X3.out
  obtain ⟨-, y1, y2, -⟩ := Y3.out
  obtain ⟨-, z1, z2, -⟩ := Z3.out
  rw [HP1.out] at x1 x2
  go_wp2_with fail
  refine (H4.out A1 c1 _ X3.out.ints).mono ?_
  rintro e w4 ⟨A4, c4, rfl, hI4, hb4⟩
  have X4 := Lib.hid ((X3.out.below hb4).alloc (co 0 A4 c4 M5))
  have Y4 := Lib.hid ((Y3.out.below hb4).alloc (co 0 A4 c4 M5))
  have Z4 := Lib.hid ((Z3.out.below hb4).alloc (co 0 A4 c4 M5))
  have J4 := Lib.hid ((J3.out.below hb4).alloc (co 0 A4 c4 M5))
  have HB4 : Hid (Below w.heap.size w (w4.alloc (co 0 A4 c4 M5))) := Lib.hid (bel_al (HB3.out.trans (hb4.mono HB3.out.size)) (Nat.le_trans HB3.out.size hb4.size) _)
  clear x1 x2 y1 y2 z1 z2 hI4 hb4
  obtain ⟨-, x1, x2, -⟩ := X4.out
  rw [HP1.out] at x1 x2
  go_wp2_with fail
  refine (H5.out A1 c1 _ (w4.alloc (co 0 A4 c4 M5)) (by simp) X4.out.ints).mono ?_
  rintro e w6 ⟨rfl, hb6⟩
  have Y6 := Lib.hid (Y4.out.below hb6)
  have Z6 := Lib.hid (Z4.out.below hb6)
  have J6 := Lib.hid (J4.out.below hb6)
  have HB6 : Hid (Below w.heap.size w w6) := Lib.hid (HB4.out.trans (hb6.mono HB4.out.size))
  clear x1 x2 hb6
  obtain ⟨-, y1, y2, -⟩ := Y6.out
  go_wp2_with fail
  refine (H6.out A2 c2 _ w6 rfl Y6.out.ints).mono ?_
  rintro e w7 ⟨rfl, hb7⟩
  have Z7 := Lib.hid (Z6.out.below hb7)
  have J7 := Lib.hid (J6.out.below hb7)
  have HB7 : Hid (Below w.heap.size w w7) := Lib.hid (HB6.out.trans (hb7.mono HB6.out.size))
  clear y1 y2 hb7
  obtain ⟨-, z1, z2, -⟩ := Z7.out
  go_wp2_with fail
  refine (H7.out A3 c3 _ w7 rfl Z7.out.ints).mono ?_
  rintro e w8 ⟨rfl, hb8⟩
  have J8 := Lib.hid (J7.out.below hb8)
  have HB8 : Hid (Below w.heap.size w w8) := Lib.hid (HB7.out.trans (hb8.mono HB7.out.size))
  clear z1 z2 hb8
  go_wp2_with fail
  refine (H8.out B3 d3 _ w8 rfl J8.out).mono ?_
  rintro e w9 ⟨rfl, hb9⟩
  have HB9 : Hid (Below w.heap.size w w9) := Lib.hid (HB8.out.trans (hb9.mono HB8.out.size))
  clear hb9
  go_wp2_with fail
  refine (check_bg _).mono ?_
  rintro e w10 ⟨rfl, hb10⟩
  have HB10 : Hid (Below w.heap.size w w10) := Lib.hid (HB9.out.trans (hb10.mono HB9.out.size))
  clear hb10
  go_wp2_with fail
  refine (trace_bg _).mono ?_
  rintro e w11 ⟨rfl, rfl⟩
  go_wp2
  go_ret
  exact ⟨rfl, HB10.out⟩

end Go.Proofs.Yticfkhmmmpnmdaa.Lru
