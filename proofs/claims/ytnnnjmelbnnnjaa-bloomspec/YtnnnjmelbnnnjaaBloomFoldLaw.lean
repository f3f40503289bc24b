/-
  The walk of the law on folding.
-/
import Derived.Test.YtnnnjmelbnnnjaaBloomBegun
namespace Go.Proofs.Ytnnnjmelbnnnjaa
open Go.RowKit Go.Shelf
set_option linter.unusedVariables false

/-- The error of a string that a good filter is asked for. -/
def eS (s : ByteArray) : Int := if 40 < s.size then 2 else 0
theorem errS_good {F : Fl} (g : Good F) (s : ByteArray) : errS F s = eS s := by unfold errS; rw [if_pos g.check]; rfl
theorem sameF_no : sameF Fl.no Fl.no = true := sameF_yes rfl rfl rfl
theorem empty_fl (w : World) : Ints w none 0 Fl.no.set := Ints.none_ w
theorem sameNo_any (A : Option Addr) (c : Nat) (w : World) (ha : Ints w A c Fl.no.set) :
    Calls Try.prog 19 #[fv Fl.no A c, .agg #[.int .i64 0, .int .i64 0, .slice none 0 0]] w fun e w' => e = .returned (.bool true) ∧ Below w.heap.size w w' := by
  have h := sameF_any Fl.no Fl.no A none c 0 w ha (Ints.none_ w)
  rwa [sameF_no] at h

set_option maxHeartbeats 8000000 in
theorem bloomFold_walk (F : Fl) (A : Option Addr) (c : Nat) (s t : ByteArray) (w : World) (ha : Ints w A c F.set) (hs : s.size ≤ maxLen) (ht : t.size ≤ maxLen) :
    Calls Try.prog 6 #[fv F A c, .string s, .string t] w fun e w' => e = .returned (.bool true) ∧ Below w.heap.size w w' := by
  have X0 := Bx.new ha
  have HB0 : Below w.heap.size w (w.alloc (fo F A c)) := (Below.refl _ _).alloc (Nat.le_refl _) _
  clear ha
  by_cases he : errF F = 0
  · obtain ⟨g, hev⟩ := errF_ok he
    have gf := good_fold g hev
    have ga := good_add g t
    have HE : Hid (errF F = 0 ∧ foldM F = foldL F) := Lib.hid ⟨he, by unfold foldM; rw [if_pos he]⟩
    have HS1 := Lib.hid (errS_good g s)
    have HS2 := Lib.hid (errS_good gf s)
    have HT1 := Lib.hid (errS_good g t)
    have HT2 := Lib.hid (errS_good gf t)
    have hev2 : (addL F t).size % 2 = 0 := hev
    have HE2 : Hid (errF (addL F t) = 0 ∧ foldM (addL F t) = foldL (addL F t)) := Lib.hid (by
      have e := errF_of ga hev2
      exact ⟨e, by unfold foldM; rw [if_pos e]⟩)
    have HSm : Hid (sameF (foldL (addL F t)) (addL (foldL F) t) = true) := Lib.hid (sameF_yes rfl rfl (fold_add hev t))
    have key : mayM F s = false ∨ (mayM F s = true ∧ mayM (foldL F) s = true) := by
      cases hm : mayM F s with
      | false => exact .inl rfl
      | true =>
        refine .inr ⟨rfl, ?_⟩
        unfold mayM at hm ⊢
        rw [errS_good g] at hm
        rw [errS_good gf]
        by_cases e : eS s = 0
        · rw [if_pos e] at hm ⊢; exact fold_may hev hm
        · rw [if_neg e] at hm; cases hm
    have HTA : Hid (eS t = 0 → addM F t = addL F t ∧ addM (foldL F) t = addL (foldL F) t) := Lib.hid (fun h => ⟨by unfold addM; rw [errS_good g, if_pos h], by unfold addM; rw [errS_good gf, if_pos h]⟩)
    clear he g gf ga hev hev2
    generalize hbm : mayM F s = b1 at key
    generalize hcm : mayM (foldL F) s = b2 at key
    have HBM := Lib.hid hbm
    have HCM := Lib.hid hcm
    clear hbm hcm
    rcases key with rfl | ⟨rfl, rfl⟩
    all_goals
      by_cases het : eS t = 0
      · obtain ⟨hta, htb⟩ := HTA.out het
        have HTC := Lib.hid hta
        have HTD := Lib.hid htb
        have HET := Lib.hid het
        clear hta htb het HTA
        obtain ⟨_, x1, x2, x3, _⟩ := id X0
        go_enter Try.func6, Try.ntmps6
        go_wp2_with fail
        refine (fold_any F A c _ X0.ints).mono ?_
        rintro e w1 ⟨A1, c1, rfl, hi1, hf1, hb1⟩
        rw [HE.out.1]
        rw [HE.out.2] at hi1 ⊢
        have Y1 := Bx.new hi1
        have X1 := (X0.below hb1).alloc (fo (foldL F) A1 c1)
        have HB1 := bel_al (HB0.trans (hb1.mono HB0.size)) (Nat.le_refl _) (fo (foldL F) A1 c1)
        clear hb1 x1 x2 x3 X0 HB0 hi1 hf1
        obtain ⟨_, x1, x2, x3, _⟩ := id X1
        obtain ⟨_, y1, y2, y3, _⟩ := id Y1
        go_wp2_with fail
        refine (begun_any _).mono ?_
        rintro e w2 ⟨rfl, hb2⟩
        have Y2 := Y1.below hb2
        have X2 := X1.below hb2
        have HB2 := HB1.trans (hb2.mono HB1.size)
        clear hb2 x1 x2 x3 y1 y2 y3 X1 Y1 HB1
        obtain ⟨_, x1, x2, x3, _⟩ := id X2
        obtain ⟨_, y1, y2, y3, _⟩ := id Y2
        go_wp2_with fail
        refine (may_any F A c s _ X2.ints hs).mono ?_
        rintro e w3 ⟨rfl, hb3⟩
        rw [HS1.out, HBM.out]
        have Y3 := Y2.below hb3
        have X3 := X2.below hb3
        have HB3 := HB2.trans (hb3.mono HB2.size)
        clear hb3 x1 x2 x3 y1 y2 y3 X2 Y2 HB2
        obtain ⟨_, x1, x2, x3, _⟩ := id X3
        obtain ⟨_, y1, y2, y3, _⟩ := id Y3
        go_wp2_with fail
        refine (may_any (foldL F) A1 c1 s _ Y3.ints hs).mono ?_
        rintro e w4 ⟨rfl, hb4⟩
        rw [HS2.out, HCM.out]
        have Y4 := Y3.below hb4
        have X4 := X3.below hb4
        have HB4 := HB3.trans (hb4.mono HB3.size)
        clear hb4 x1 x2 x3 y1 y2 y3 X3 Y3 HB3
        obtain ⟨_, x1, x2, x3, _⟩ := id X4
        obtain ⟨_, y1, y2, y3, _⟩ := id Y4
        go_wp2_with fail
        refine (add_any F A c t _ X4.ints ht).mono ?_
        rintro e w5 ⟨A5, c5, rfl, hi5, hf5, hb5⟩
        rw [HT1.out, HET.out]
        rw [HTC.out] at hi5 ⊢
        have Z5 := Bx.new hi5
        have Y5 := (Y4.below hb5).alloc (fo (addL F t) A5 c5)
        have HB5 := bel_al (HB4.trans (hb5.mono HB4.size)) (Nat.le_refl _) (fo (addL F t) A5 c5)
        clear hb5 x1 x2 x3 y1 y2 y3 X4 Y4 HB4 hi5 hf5
        obtain ⟨_, y1, y2, y3, _⟩ := id Y5
        obtain ⟨_, z1, z2, z3, _⟩ := id Z5
        go_wp2_with fail
        refine (add_any (foldL F) A1 c1 t _ Y5.ints ht).mono ?_
        rintro e w6 ⟨A6, c6, rfl, hi6, hf6, hb6⟩
        rw [HT2.out, HET.out]
        rw [HTD.out] at hi6 ⊢
        have Y6 := Bx.new hi6
        have Z6 := (Z5.below hb6).alloc (fo (addL (foldL F) t) A6 c6)
        have HB6 := bel_al (HB5.trans (hb6.mono HB5.size)) (Nat.le_refl _) (fo (addL (foldL F) t) A6 c6)
        clear hb6 y1 y2 y3 z1 z2 z3 Y5 Z5 HB5 hi6 hf6
        obtain ⟨_, y1, y2, y3, _⟩ := id Y6
        obtain ⟨_, z1, z2, z3, _⟩ := id Z6
        go_wp2_with fail
        refine (fold_any (addL F t) A5 c5 _ Z6.ints).mono ?_
        rintro e w7 ⟨A7, c7, rfl, hi7, hf7, hb7⟩
        rw [HE2.out.1]
        rw [HE2.out.2] at hi7 ⊢
        have Z7 := Bx.new hi7
        have Y7 := (Y6.below hb7).alloc (fo (foldL (addL F t)) A7 c7)
        have HB7 := bel_al (HB6.trans (hb7.mono HB6.size)) (Nat.le_refl _) (fo (foldL (addL F t)) A7 c7)
        clear hb7 y1 y2 y3 z1 z2 z3 Y6 Z6 HB6 hi7 hf7
        obtain ⟨_, y1, y2, y3, _⟩ := id Y7
        obtain ⟨_, z1, z2, z3, _⟩ := id Z7
        go_wp2_with fail
        refine (sameF_any (foldL (addL F t)) (addL (foldL F) t) A7 A6 c7 c6 _ Z7.ints Y7.ints).mono ?_
        rintro e w8 ⟨rfl, hb8⟩
        rw [HSm.out]
        go_wp2
        go_ret
        exact ⟨rfl, HB7.trans (hb8.mono HB7.size)⟩
      · have hq := bd_ne het
        clear het HTA
        obtain ⟨_, x1, x2, x3, _⟩ := id X0
        go_enter Try.func6, Try.ntmps6
        go_wp2_with fail
        refine (fold_any F A c _ X0.ints).mono ?_
        rintro e w1 ⟨A1, c1, rfl, hi1, hf1, hb1⟩
        rw [HE.out.1]
        rw [HE.out.2] at hi1 ⊢
        have Y1 := Bx.new hi1
        have X1 := (X0.below hb1).alloc (fo (foldL F) A1 c1)
        have HB1 := bel_al (HB0.trans (hb1.mono HB0.size)) (Nat.le_refl _) (fo (foldL F) A1 c1)
        clear hb1 x1 x2 x3 X0 HB0 hi1 hf1
        obtain ⟨_, x1, x2, x3, _⟩ := id X1
        obtain ⟨_, y1, y2, y3, _⟩ := id Y1
        go_wp2_with fail
        refine (begun_any _).mono ?_
        rintro e w2 ⟨rfl, hb2⟩
        have Y2 := Y1.below hb2
        have X2 := X1.below hb2
        have HB2 := HB1.trans (hb2.mono HB1.size)
        clear hb2 x1 x2 x3 y1 y2 y3 X1 Y1 HB1
        obtain ⟨_, x1, x2, x3, _⟩ := id X2
        obtain ⟨_, y1, y2, y3, _⟩ := id Y2
        go_wp2_with fail
        refine (may_any F A c s _ X2.ints hs).mono ?_
        rintro e w3 ⟨rfl, hb3⟩
        rw [HS1.out, HBM.out]
        have Y3 := Y2.below hb3
        have X3 := X2.below hb3
        have HB3 := HB2.trans (hb3.mono HB2.size)
        clear hb3 x1 x2 x3 y1 y2 y3 X2 Y2 HB2
        obtain ⟨_, x1, x2, x3, _⟩ := id X3
        obtain ⟨_, y1, y2, y3, _⟩ := id Y3
        go_wp2_with fail
        refine (may_any (foldL F) A1 c1 s _ Y3.ints hs).mono ?_
        rintro e w4 ⟨rfl, hb4⟩
        rw [HS2.out, HCM.out]
        have Y4 := Y3.below hb4
        have X4 := X3.below hb4
        have HB4 := HB3.trans (hb4.mono HB3.size)
        clear hb4 x1 x2 x3 y1 y2 y3 X3 Y3 HB3
        obtain ⟨_, x1, x2, x3, _⟩ := id X4
        obtain ⟨_, y1, y2, y3, _⟩ := id Y4
        go_wp2_with fail
        refine (add_any F A c t _ X4.ints ht).mono ?_
        rintro e w5 ⟨A5, c5, rfl, hi5, hf5, hb5⟩
        rw [HT1.out]
        have Y5 := (Y4.below hb5).alloc (fo (addM F t) A5 c5)
        have HB5 := bel_al (HB4.trans (hb5.mono HB4.size)) (Nat.le_refl _) (fo (addM F t) A5 c5)
        clear hb5 x1 x2 x3 y1 y2 y3 X4 Y4 HB4 hi5 hf5
        obtain ⟨_, y1, y2, y3, _⟩ := id Y5
        go_wp2_with fail
        refine (add_any (foldL F) A1 c1 t _ Y5.ints ht).mono ?_
        rintro e w6 ⟨A6, c6, rfl, hi6, hf6, hb6⟩
        rw [HT2.out]
        have HB6 := bel_al (HB5.trans (hb6.mono HB5.size)) (Nat.le_refl _) (fo (addM (foldL F) t) A6 c6)
        clear hb6 y1 y2 y3 Y5 HB5 hi6 hf6
        go_wp2
        go_ret
        exact ⟨rfl, HB6⟩
  · have HE : Hid (foldM F = Fl.no) := Lib.hid (by unfold foldM; rw [if_neg he])
    have hq := bd_ne he
    clear he
    obtain ⟨_, x1, x2, x3, _⟩ := id X0
    go_enter Try.func6, Try.ntmps6
    go_wp2_with fail
    refine (fold_any F A c _ X0.ints).mono ?_
    rintro e w1 ⟨A1, c1, rfl, hi1, hf1, hb1⟩
    rw [HE.out] at hi1 ⊢
    have Y1 := Bx.new hi1
    have HB1 := bel_al (HB0.trans (hb1.mono HB0.size)) (Nat.le_refl _) (fo Fl.no A1 c1)
    clear hb1 x1 x2 x3 X0 HB0 hi1 hf1
    obtain ⟨_, y1, y2, y3, _⟩ := id Y1
    go_wp2_with fail
    refine (begun_any _).mono ?_
    rintro e w2 ⟨rfl, hb2⟩
    have Y2 := Y1.below hb2
    have HB2 := HB1.trans (hb2.mono HB1.size)
    clear hb2 y1 y2 y3 Y1 HB1
    obtain ⟨_, y1, y2, y3, _⟩ := id Y2
    go_wp2_with fail
    refine (sameNo_any A1 c1 _ Y2.ints).mono ?_
    rintro e w3 ⟨rfl, hb3⟩
    go_wp2
    go_ret
    exact ⟨rfl, HB2.trans (hb3.mono HB2.size)⟩

end Go.Proofs.Ytnnnjmelbnnnjaa
