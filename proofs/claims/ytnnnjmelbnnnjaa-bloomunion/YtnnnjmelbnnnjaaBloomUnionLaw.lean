/-
  The walk of the law on unions.
-/
import Derived.Test.YtnnnjmelbnnnjaaBloomFoldLaw
namespace Go.Proofs.Ytnnnjmelbnnnjaa
open Go.RowKit Go.Shelf
set_option linter.unusedVariables false

set_option maxHeartbeats 8000000 in
theorem bloomUnion_walk (F : Fl) (A : Option Addr) (c : Nat) (G : Fl) (B : Option Addr) (d : Nat) (s t : ByteArray) (w : World) (ha : Ints w A c F.set) (hb : Ints w B d G.set) (hs : s.size ≤ maxLen) (ht : t.size ≤ maxLen) :
    Calls Try.prog 5 #[fv F A c, fv G B d, .string s, .string t] w fun e w' => e = .returned (.bool true) ∧ Below w.heap.size w w' := by
  have hW1 : Below w.heap.size w (w.alloc (fo F A c)) := (Below.refl _ _).alloc (Nat.le_refl _) _
  have X0 := (Bx.new ha).alloc (fo G B d)
  have Y0 := Bx.new (F := G) (hb.below hW1)
  have hsz : (w.alloc (fo F A c)).heap.size = w.heap.size + 1 := by simp
  rw [hsz] at Y0
  have HB0 : Below w.heap.size w ((w.alloc (fo F A c)).alloc (fo G B d)) := hW1.alloc (by simp) _
  clear ha hb hW1 hsz
  by_cases he : errU F G = 0
  · obtain ⟨g, k, hz1, hz2⟩ := errU_ok he
    have gu := good_uni g k hz1
    have ga := good_add g s
    have HE : Hid (errU F G = 0 ∧ uniM F G = uniL F G) := Lib.hid ⟨he, by unfold uniM; rw [if_pos he]⟩
    have HS1 := Lib.hid (errS_good g s)
    have HS2 := Lib.hid (errS_good gu s)
    have HT1 := Lib.hid (errS_good k t)
    have HT2 := Lib.hid (errS_good gu t)
    have HEX : Hid (errU (addL F s) G = 0 ∧ uniM (addL F s) G = uniL (addL F s) G) := Lib.hid (by
      have e : errU (addL F s) G = 0 := errU_of ga k hz1 hz2
      exact ⟨e, by unfold uniM; rw [if_pos e]⟩)
    have HEY : Hid (errU G (addL F s) = 0 ∧ uniM G (addL F s) = uniL G (addL F s)) := Lib.hid (by
      have e : errU G (addL F s) = 0 := errU_of k ga hz1.symm hz2.symm
      exact ⟨e, by unfold uniM; rw [if_pos e]⟩)
    have HSm : Hid (sameF (uniL (addL F s) G) (addL (uniL F G) s) = true) := Lib.hid (sameF_yes rfl rfl (uni_add s))
    have HSn : Hid (sameF (uniL G (addL F s)) (addL (uniL F G) s) = true) := Lib.hid (sameF_yes hz1.symm hz2.symm ((uni_comm _ _).trans (uni_add s)))
    have key : mayM G t = false ∨ (mayM G t = true ∧ mayM (uniL F G) t = true) := by
      cases hm : mayM G t with
      | false => exact .inl rfl
      | true =>
        refine .inr ⟨rfl, ?_⟩
        unfold mayM at hm ⊢
        rw [errS_good k] at hm
        rw [errS_good gu]
        by_cases e : eS t = 0
        · rw [if_pos e] at hm ⊢
          exact may_mono (F := G) (G := uniL F G) hz1.symm hz2.symm (fun x hx => mem_ord.2 (List.mem_append.2 (.inr hx))) hm
        · rw [if_neg e] at hm; cases hm
    have HSA : Hid (eS s = 0 → addM F s = addL F s ∧ addM (uniL F G) s = addL (uniL F G) s) := Lib.hid (fun h => ⟨by unfold addM; rw [errS_good g, if_pos h], by unfold addM; rw [errS_good gu, if_pos h]⟩)
    clear he g k gu ga hz1 hz2
    generalize hbm : mayM G t = b1 at key
    generalize hcm : mayM (uniL F G) t = b2 at key
    have HBM := Lib.hid hbm
    have HCM := Lib.hid hcm
    clear hbm hcm
    rcases key with rfl | ⟨rfl, rfl⟩
    all_goals
      by_cases hes : eS s = 0
      · obtain ⟨hta, htb⟩ := HSA.out hes
        have HTC := Lib.hid hta
        have HTD := Lib.hid htb
        have HES := Lib.hid hes
        clear hta htb hes HSA
        obtain ⟨_, x1, x2, x3, _⟩ := id X0
        obtain ⟨_, y1, y2, y3, _⟩ := id Y0
        go_enter Try.func5, Try.ntmps5
        go_wp2_with fail
        refine (union_any F G A B c d _ X0.ints Y0.ints).mono ?_
        rintro e w1 ⟨A1, c1, rfl, hi1, hf1, hb1⟩
        rw [HE.out.1]
        rw [HE.out.2] at hi1 ⊢
        have U1 := Bx.new hi1
        have X1 := (X0.below hb1).alloc (fo (uniL F G) A1 c1)
        have Y1 := (Y0.below hb1).alloc (fo (uniL F G) A1 c1)
        have HB1 := bel_al (HB0.trans (hb1.mono HB0.size)) (Nat.le_refl _) (fo (uniL F G) A1 c1)
        clear hb1 x1 x2 x3 y1 y2 y3 X0 Y0 HB0 hi1 hf1
        go_wp2_with fail
        refine (begun_any _).mono ?_
        rintro e w2 ⟨rfl, hb2⟩
        have U2 := U1.below hb2
        have X2 := X1.below hb2
        have Y2 := Y1.below hb2
        have HB2 := HB1.trans (hb2.mono HB1.size)
        clear hb2 X1 Y1 U1 HB1
        obtain ⟨_, x1, x2, x3, _⟩ := id X2
        go_wp2_with fail
        refine (add_any F A c s _ X2.ints hs).mono ?_
        rintro e w3 ⟨A3, c3, rfl, hi3, hf3, hb3⟩
        rw [HS1.out, HES.out]
        rw [HTC.out] at hi3 ⊢
        have Z3 := Bx.new hi3
        have U3 := (U2.below hb3).alloc (fo (addL F s) A3 c3)
        have Y3 := (Y2.below hb3).alloc (fo (addL F s) A3 c3)
        have HB3 := bel_al (HB2.trans (hb3.mono HB2.size)) (Nat.le_refl _) (fo (addL F s) A3 c3)
        clear hb3 x1 x2 x3 X2 Y2 U2 HB2 hi3 hf3
        obtain ⟨_, u1, u2, u3, _⟩ := id U3
        go_wp2_with fail
        refine (add_any (uniL F G) A1 c1 s _ U3.ints hs).mono ?_
        rintro e w4 ⟨A4, c4, rfl, hi4, hf4, hb4⟩
        rw [HS2.out, HES.out]
        rw [HTD.out] at hi4 ⊢
        have V4 := Bx.new hi4
        have U4 := (U3.below hb4).alloc (fo (addL (uniL F G) s) A4 c4)
        have Y4 := (Y3.below hb4).alloc (fo (addL (uniL F G) s) A4 c4)
        have Z4 := (Z3.below hb4).alloc (fo (addL (uniL F G) s) A4 c4)
        have HB4 := bel_al (HB3.trans (hb4.mono HB3.size)) (Nat.le_refl _) (fo (addL (uniL F G) s) A4 c4)
        clear hb4 u1 u2 u3 U3 Y3 Z3 HB3 hi4 hf4
        obtain ⟨_, y1, y2, y3, _⟩ := id Y4
        go_wp2_with fail
        refine (may_any G B d t _ Y4.ints ht).mono ?_
        rintro e w5 ⟨rfl, hb5⟩
        rw [HT1.out, HBM.out]
        have V5 := V4.below hb5
        have U5 := U4.below hb5
        have Y5 := Y4.below hb5
        have Z5 := Z4.below hb5
        have HB5 := HB4.trans (hb5.mono HB4.size)
        clear hb5 y1 y2 y3 V4 U4 Y4 Z4 HB4
        obtain ⟨_, u1, u2, u3, _⟩ := id U5
        go_wp2_with fail
        refine (may_any (uniL F G) A1 c1 t _ U5.ints ht).mono ?_
        rintro e w6 ⟨rfl, hb6⟩
        rw [HT2.out, HCM.out]
        have V6 := V5.below hb6
        have Y6 := Y5.below hb6
        have Z6 := Z5.below hb6
        have HB6 := HB5.trans (hb6.mono HB5.size)
        clear hb6 u1 u2 u3 V5 U5 Y5 Z5 HB5
        obtain ⟨_, y1, y2, y3, _⟩ := id Y6
        obtain ⟨_, z1, z2, z3, _⟩ := id Z6
        go_wp2_with fail
        refine (union_any (addL F s) G A3 B c3 d _ Z6.ints Y6.ints).mono ?_
        rintro e w7 ⟨A7, c7, rfl, hi7, hf7, hb7⟩
        rw [HEX.out.1]
        rw [HEX.out.2] at hi7 ⊢
        have S7 := Bx.new hi7
        have V7 := (V6.below hb7).alloc (fo (uniL (addL F s) G) A7 c7)
        have Y7 := (Y6.below hb7).alloc (fo (uniL (addL F s) G) A7 c7)
        have Z7 := (Z6.below hb7).alloc (fo (uniL (addL F s) G) A7 c7)
        have HB7 := bel_al (HB6.trans (hb7.mono HB6.size)) (Nat.le_refl _) (fo (uniL (addL F s) G) A7 c7)
        clear hb7 y1 y2 y3 z1 z2 z3 V6 Y6 Z6 HB6 hi7 hf7
        obtain ⟨_, y1, y2, y3, _⟩ := id Y7
        obtain ⟨_, z1, z2, z3, _⟩ := id Z7
        go_wp2_with fail
        refine (union_any G (addL F s) B A3 d c3 _ Y7.ints Z7.ints).mono ?_
        rintro e w8 ⟨A8, c8, rfl, hi8, hf8, hb8⟩
        rw [HEY.out.1]
        rw [HEY.out.2] at hi8 ⊢
        have R8 := Bx.new hi8
        have S8 := (S7.below hb8).alloc (fo (uniL G (addL F s)) A8 c8)
        have V8 := (V7.below hb8).alloc (fo (uniL G (addL F s)) A8 c8)
        have HB8 := bel_al (HB7.trans (hb8.mono HB7.size)) (Nat.le_refl _) (fo (uniL G (addL F s)) A8 c8)
        clear hb8 y1 y2 y3 z1 z2 z3 V7 Y7 Z7 S7 HB7 hi8 hf8
        obtain ⟨_, y1, y2, y3, _⟩ := id S8
        obtain ⟨_, z1, z2, z3, _⟩ := id V8
        go_wp2_with fail
        refine (sameF_any (uniL (addL F s) G) (addL (uniL F G) s) A7 A4 c7 c4 _ S8.ints V8.ints).mono ?_
        rintro e w9 ⟨rfl, hb9⟩
        rw [HSm.out]
        have R9 := R8.below hb9
        have V9 := V8.below hb9
        have HB9 := HB8.trans (hb9.mono HB8.size)
        clear hb9 y1 y2 y3 z1 z2 z3 V8 S8 R8 HB8
        obtain ⟨_, y1, y2, y3, _⟩ := id R9
        obtain ⟨_, z1, z2, z3, _⟩ := id V9
        go_wp2_with fail
        refine (sameF_any (uniL G (addL F s)) (addL (uniL F G) s) A8 A4 c8 c4 _ R9.ints V9.ints).mono ?_
        rintro e w10 ⟨rfl, hb10⟩
        rw [HSn.out]
        go_wp2
        go_ret
        exact ⟨rfl, HB9.trans (hb10.mono HB9.size)⟩
      · have hq := bd_ne hes
        clear hes HSA
        obtain ⟨_, x1, x2, x3, _⟩ := id X0
        obtain ⟨_, y1, y2, y3, _⟩ := id Y0
        go_enter Try.func5, Try.ntmps5
        go_wp2_with fail
        refine (union_any F G A B c d _ X0.ints Y0.ints).mono ?_
        rintro e w1 ⟨A1, c1, rfl, hi1, hf1, hb1⟩
        rw [HE.out.1]
        rw [HE.out.2] at hi1 ⊢
        have U1 := Bx.new hi1
        have X1 := (X0.below hb1).alloc (fo (uniL F G) A1 c1)
        have Y1 := (Y0.below hb1).alloc (fo (uniL F G) A1 c1)
        have HB1 := bel_al (HB0.trans (hb1.mono HB0.size)) (Nat.le_refl _) (fo (uniL F G) A1 c1)
        clear hb1 x1 x2 x3 y1 y2 y3 X0 Y0 HB0 hi1 hf1
        go_wp2_with fail
        refine (begun_any _).mono ?_
        rintro e w2 ⟨rfl, hb2⟩
        have U2 := U1.below hb2
        have X2 := X1.below hb2
        have Y2 := Y1.below hb2
        have HB2 := HB1.trans (hb2.mono HB1.size)
        clear hb2 X1 Y1 U1 HB1
        obtain ⟨_, x1, x2, x3, _⟩ := id X2
        go_wp2_with fail
        refine (add_any F A c s _ X2.ints hs).mono ?_
        rintro e w3 ⟨A3, c3, rfl, hi3, hf3, hb3⟩
        rw [HS1.out]
        have U3 := (U2.below hb3).alloc (fo (addM F s) A3 c3)
        have Y3 := (Y2.below hb3).alloc (fo (addM F s) A3 c3)
        have HB3 := bel_al (HB2.trans (hb3.mono HB2.size)) (Nat.le_refl _) (fo (addM F s) A3 c3)
        clear hb3 x1 x2 x3 X2 Y2 U2 HB2 hi3 hf3
        obtain ⟨_, u1, u2, u3, _⟩ := id U3
        go_wp2_with fail
        refine (add_any (uniL F G) A1 c1 s _ U3.ints hs).mono ?_
        rintro e w4 ⟨A4, c4, rfl, hi4, hf4, hb4⟩
        rw [HS2.out]
        have U4 := (U3.below hb4).alloc (fo (addM (uniL F G) s) A4 c4)
        have Y4 := (Y3.below hb4).alloc (fo (addM (uniL F G) s) A4 c4)
        have HB4 := bel_al (HB3.trans (hb4.mono HB3.size)) (Nat.le_refl _) (fo (addM (uniL F G) s) A4 c4)
        clear hb4 u1 u2 u3 U3 Y3 HB3 hi4 hf4
        obtain ⟨_, y1, y2, y3, _⟩ := id Y4
        go_wp2_with fail
        refine (may_any G B d t _ Y4.ints ht).mono ?_
        rintro e w5 ⟨rfl, hb5⟩
        rw [HT1.out, HBM.out]
        have U5 := U4.below hb5
        have HB5 := HB4.trans (hb5.mono HB4.size)
        clear hb5 y1 y2 y3 U4 Y4 HB4
        obtain ⟨_, u1, u2, u3, _⟩ := id U5
        go_wp2_with fail
        refine (may_any (uniL F G) A1 c1 t _ U5.ints ht).mono ?_
        rintro e w6 ⟨rfl, hb6⟩
        rw [HT2.out, HCM.out]
        have HB6 := HB5.trans (hb6.mono HB5.size)
        clear hb6 u1 u2 u3 U5 HB5
        go_wp2
        go_ret
        exact ⟨rfl, HB6⟩
  · have HE : Hid (uniM F G = Fl.no) := Lib.hid (by unfold uniM; rw [if_neg he])
    have hq := bd_ne he
    clear he
    obtain ⟨_, x1, x2, x3, _⟩ := id X0
    obtain ⟨_, y1, y2, y3, _⟩ := id Y0
    go_enter Try.func5, Try.ntmps5
    go_wp2_with fail
    refine (union_any F G A B c d _ X0.ints Y0.ints).mono ?_
    rintro e w1 ⟨A1, c1, rfl, hi1, hf1, hb1⟩
    rw [HE.out] at hi1 ⊢
    have U1 := Bx.new hi1
    have HB1 := bel_al (HB0.trans (hb1.mono HB0.size)) (Nat.le_refl _) (fo Fl.no A1 c1)
    clear hb1 x1 x2 x3 y1 y2 y3 X0 Y0 HB0 hi1 hf1
    go_wp2_with fail
    refine (begun_any _).mono ?_
    rintro e w2 ⟨rfl, hb2⟩
    have U2 := U1.below hb2
    have HB2 := HB1.trans (hb2.mono HB1.size)
    clear hb2 U1 HB1
    obtain ⟨_, y1, y2, y3, _⟩ := id U2
    go_wp2_with fail
    refine (sameNo_any A1 c1 _ U2.ints).mono ?_
    rintro e w3 ⟨rfl, hb3⟩
    go_wp2
    go_ret
    exact ⟨rfl, HB2.trans (hb3.mono HB2.size)⟩

end Go.Proofs.Ytnnnjmelbnnnjaa
