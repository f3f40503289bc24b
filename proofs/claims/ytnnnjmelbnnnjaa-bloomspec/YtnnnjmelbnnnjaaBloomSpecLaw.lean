/-
  The walk of the law that compares package bloom with its reference.
-/
import Derived.Test.YtnnnjmelbnnnjaaBloomSpecMem
namespace Go.Proofs.Ytnnnjmelbnnnjaa
open Go.RowKit Go.Shelf
set_option linter.unusedVariables false

theorem sameF_self (F : Fl) : sameF F F = true := sameF_yes rfl rfl rfl

/-- Behind the reference's part. -/
def SpecCut (F G : Fl) (s : ByteArray) (w6 : World) (s18 s19 s20 s21 s25 : Value) (wx : World) : Prop :=
  ∃ A c, s18 = .int .i64 (errS F s) ∧ s19 = .int .i64 (errU F G) ∧ s20 = .int .i64 (errF F) ∧ s21 = .slice A (bitsM F s).length c ∧ s25 = .bool (mayM F s) ∧ Ints wx A c (bitsM F s) ∧
    H3 wx w6.heap.size w6.heap.size (addM F s) ∧ H3 wx w6.heap.size (w6.heap.size + 1) (uniM F G) ∧ H3 wx w6.heap.size (w6.heap.size + 2) (foldM F) ∧ Below w6.heap.size w6 wx
/-- Behind the string's part. -/
def SpecCutA (F : Fl) (s : ByteArray) (w6 : World) (s18 s21 s25 : Value) (wx : World) : Prop :=
  ∃ A c, s18 = .int .i64 (errS F s) ∧ s21 = .slice A (bitsM F s).length c ∧ s25 = .bool (mayM F s) ∧ Ints wx A c (bitsM F s) ∧ (∀ a, A = some a → w6.heap.size + 3 ≤ a.block) ∧
    H3 wx w6.heap.size w6.heap.size (addM F s) ∧ H3 wx w6.heap.size (w6.heap.size + 1) Fl.no ∧ H3 wx w6.heap.size (w6.heap.size + 2) Fl.no ∧ Below w6.heap.size w6 wx
/-- Behind the second filter's part. -/
def SpecCutB (F G : Fl) (s : ByteArray) (A : Option Addr) (c : Nat) (w6 : World) (s19 : Value) (wx : World) : Prop :=
  s19 = .int .i64 (errU F G) ∧ Ints wx A c (bitsM F s) ∧
    H3 wx w6.heap.size w6.heap.size (addM F s) ∧ H3 wx w6.heap.size (w6.heap.size + 1) (uniM F G) ∧ H3 wx w6.heap.size (w6.heap.size + 2) Fl.no ∧ Below w6.heap.size w6 wx

theorem h3_new (w : World) : H3 (((w.alloc z3).alloc z3).alloc z3) w.heap.size w.heap.size Fl.no ∧ H3 (((w.alloc z3).alloc z3).alloc z3) w.heap.size (w.heap.size + 1) Fl.no ∧ H3 (((w.alloc z3).alloc z3).alloc z3) w.heap.size (w.heap.size + 2) Fl.no :=
  ⟨⟨none, 0, ⟨by simp; omega, by simp [go_sem, Fl.no], by simp [go_sem, Fl.no], by simp [go_sem, Fl.no], Ints.none_ _⟩, ⟨by simp [go_sem], by simp [go_sem], by simp [go_sem]⟩, fun a h => (by cases h)⟩,
   ⟨none, 0, ⟨by simp, by simp [go_sem, Fl.no], by simp [go_sem, Fl.no], by simp [go_sem, Fl.no], Ints.none_ _⟩, ⟨by simp [go_sem], by simp [go_sem], by simp [go_sem]⟩, fun a h => (by cases h)⟩,
   ⟨none, 0, ⟨by simp, by simp [go_sem, Fl.no], by simp [go_sem, Fl.no], by simp [go_sem, Fl.no], Ints.none_ _⟩, ⟨by simp [go_sem], by simp [go_sem], by simp [go_sem]⟩, fun a h => (by cases h)⟩⟩

set_option maxHeartbeats 20000000 in
set_option maxRecDepth 100000 in
theorem bloomSpec_walk (F : Fl) (A : Option Addr) (c : Nat) (G : Fl) (B : Option Addr) (d : Nat) (s : ByteArray) (w : World) (ha : Ints w A c F.set) (hb : Ints w B d G.set) (hs : s.size ≤ maxLen) :
    Calls Try.prog 3 #[fv F A c, fv G B d, .string s] w fun e w' => e = .returned (.bool true) ∧ Below w.heap.size w w' := by
  have hW1 : Below w.heap.size w (w.alloc (fo F A c)) := (Below.refl _ _).alloc (Nat.le_refl _) _
  have X0 := (Bx.new ha).alloc (fo G B d)
  have Y0 := Bx.new (F := G) (hb.below hW1)
  have hsz : (w.alloc (fo F A c)).heap.size = w.heap.size + 1 := by simp
  rw [hsz] at Y0
  have HB0 : Below w.heap.size w ((w.alloc (fo F A c)).alloc (fo G B d)) := hW1.alloc (by simp) _
  clear ha hb hW1 hsz
  obtain ⟨_, x1, x2, x3, _⟩ := id X0
  go_enter Try.func3, Try.ntmps3
  go_wp2_with fail
  refine (bits_any F A c s _ X0.ints hs).mono ?_
  rintro e w1 ⟨A1, c1, rfl, P1, hb1⟩
  have X1 := X0.below hb1
  have Y1 := Y0.below hb1
  have HB1 := HB0.trans (hb1.mono HB0.size)
  clear hb1 x1 x2 x3 X0 Y0 HB0
  obtain ⟨_, x1, x2, x3, _⟩ := id X1
  go_wp2_with fail
  refine (add_any F A c s _ X1.ints hs).mono ?_
  rintro e w2 ⟨A2, c2, rfl, hi2, hf2, hb2⟩
  have Z2 := Bx.new hi2
  have X2 := (X1.below hb2).alloc (fo (addM F s) A2 c2)
  have Y2 := (Y1.below hb2).alloc (fo (addM F s) A2 c2)
  have P2 := (P1.below hb2).alloc (fo (addM F s) A2 c2)
  have HB2 := bel_al (HB1.trans (hb2.mono HB1.size)) (Nat.le_refl _) (fo (addM F s) A2 c2)
  clear hb2 x1 x2 x3 X1 Y1 P1 HB1 hi2 hf2
  obtain ⟨_, x1, x2, x3, _⟩ := id X2
  go_wp2_with fail
  refine (may_any F A c s _ X2.ints hs).mono ?_
  rintro e w3 ⟨rfl, hb3⟩
  have Z3 := Z2.below hb3
  have X3 := X2.below hb3
  have Y3 := Y2.below hb3
  have P3 := P2.below hb3
  have HB3 := HB2.trans (hb3.mono HB2.size)
  clear hb3 x1 x2 x3 X2 Y2 P2 Z2 HB2
  obtain ⟨_, x1, x2, x3, _⟩ := id X3
  obtain ⟨_, y1, y2, y3, _⟩ := id Y3
  go_wp2_with fail
  refine (union_any F G A B c d _ X3.ints Y3.ints).mono ?_
  rintro e w4 ⟨A4, c4, rfl, hi4, hf4, hb4⟩
  have U4 := Bx.new hi4
  have Z4 := (Z3.below hb4).alloc (fo (uniM F G) A4 c4)
  have X4 := (X3.below hb4).alloc (fo (uniM F G) A4 c4)
  have Y4 := (Y3.below hb4).alloc (fo (uniM F G) A4 c4)
  have P4 := (P3.below hb4).alloc (fo (uniM F G) A4 c4)
  have HB4 := bel_al (HB3.trans (hb4.mono HB3.size)) (Nat.le_refl _) (fo (uniM F G) A4 c4)
  clear hb4 x1 x2 x3 y1 y2 y3 X3 Y3 P3 Z3 HB3 hi4 hf4
  obtain ⟨_, x1, x2, x3, _⟩ := id X4
  go_wp2_with fail
  refine (fold_any F A c _ X4.ints).mono ?_
  rintro e w5 ⟨A5, c5, rfl, hi5, hf5, hb5⟩
  have V5 := Bx.new hi5
  have U5 := (U4.below hb5).alloc (fo (foldM F) A5 c5)
  have Z5 := (Z4.below hb5).alloc (fo (foldM F) A5 c5)
  have X5 := (X4.below hb5).alloc (fo (foldM F) A5 c5)
  have Y5 := (Y4.below hb5).alloc (fo (foldM F) A5 c5)
  have P5 := (P4.below hb5).alloc (fo (foldM F) A5 c5)
  have HB5 := bel_al (HB4.trans (hb5.mono HB4.size)) (Nat.le_refl _) (fo (foldM F) A5 c5)
  clear hb5 x1 x2 x3 X4 Y4 P4 Z4 U4 HB4 hi5 hf5
  obtain ⟨_, x1, x2, x3, _⟩ := id X5
  go_wp2_with fail
  refine (refCheck_any F A c _ X5.ints).mono ?_
  rintro e w6 ⟨rfl, hb6⟩
  have V6 := V5.below hb6
  have U6 := U5.below hb6
  have Z6 := Z5.below hb6
  have X6 := X5.below hb6
  have Y6 := Y5.below hb6
  have P6 := P5.below hb6
  have HB6 := HB5.trans (hb6.mono HB5.size)
  have hn6 : w.heap.size + 1 < w6.heap.size := Y6.1
  clear hb6 x1 x2 x3 X5 Y5 P5 Z5 U5 V5 HB5
  generalize HCK0 : checkF F = ck
  have HCK := Lib.hid HCK0
  clear HCK0
  generalize w2.heap.size = g2 at *
  generalize w4.heap.size = g4 at *
  generalize w5.heap.size = g5 at *
  go_upto_if 61 with fail
  go_cut [18, 19, 20, 21, 25] (fun s18 s19 s20 s21 s25 wx => SpecCut F G s w6 s18 s19 s20 s21 s25 wx)
  case first =>
    as_aux_lemma =>
      have hb7 : Below w6.heap.size w6 (((w6.alloc z3).alloc z3).alloc z3) := ((Below.refl _ w6).alloc (Nat.le_refl _) z3).alloc (by simp) z3 |>.alloc (by simp; omega) z3
      obtain ⟨h22, h23, h24⟩ := h3_new w6
      have hz7 : w6.heap.size + 3 ≤ (((w6.alloc z3).alloc z3).alloc z3).heap.size := by simp
      generalize hw7 : ((w6.alloc z3).alloc z3).alloc z3 = w7 at *
      clear hw7 V6 U6 Z6 P6 HB6
      by_cases hc0 : ck = 0
      · subst hc0
        have g := good_of HCK.out
        have s1 := g.s1
        have s2 := g.s2
        have t1 := g.h1
        have t2 := g.h2
        have HG := Lib.hid g
        clear g
        go_upto_if 64 with fail
        go_cut [18, 21, 25] (fun s18 s21 s25 wx => SpecCutA F s w6 s18 s21 s25 wx)
        case first =>
          as_aux_lemma =>
            by_cases hl : 40 < s.size
            · have HE : Hid (errS F s = 2 ∧ bitsM F s = [] ∧ mayM F s = false ∧ addM F s = Fl.no) := Lib.hid (by
                have e : errS F s = 2 := by rw [errS_good HG.out]; unfold eS; rw [if_pos hl]
                exact ⟨e, by unfold bitsM; rw [e]; rfl, by unfold mayM; rw [e]; rfl, by unfold addM; rw [e]; rfl⟩)
              have ql : decide ((40 : Int) < (s.size : Int)) = true := by simp; omega
              go_wp2
              go_meet
              refine ⟨none, 0, ?_, ?_, ?_, ?_, fun a h => (by cases h), ?_, h23, h24, hb7⟩
              · rw [HE.out.1]
              · rw [HE.out.2.1]; rfl
              · rw [HE.out.2.2.1]
              · rw [HE.out.2.1]; exact Ints.none_ _
              · rw [HE.out.2.2.2]; exact h22
            · have HE : Hid (errS F s = 0 ∧ bitsM F s = bitsL F s ∧ mayM F s = mayL F s ∧ addM F s = addL F s) := Lib.hid (by
                have e : errS F s = 0 := by rw [errS_good HG.out]; unfold eS; rw [if_neg hl]
                exact ⟨e, by unfold bitsM; rw [if_pos e], by unfold mayM; rw [if_pos e], by unfold addM; rw [if_pos e]⟩)
              have ql : decide ((40 : Int) < (s.size : Int)) = false := by simp; omega
              have hpl := fun W (h : Ints W A c F.set) => places_any F A c s W h s1 s2 t1 t2 (by omega)
              rw [places_eq HG.out] at hpl
              have HPL := Lib.hid hpl
              clear hpl
              obtain ⟨_, x1, x2, x3, _⟩ := X6.below hb7
              go_wp2_with fail
              refine (HPL.out _ (X6.below hb7).ints).mono ?_
              rintro e w8 ⟨A8, c8, rfl, hi8, hf8, hb8⟩
              have hb8' : Below w6.heap.size w6 w8 := hb7.trans (hb8.mono hb7.size)
              have hz8 : w6.heap.size + 3 ≤ w8.heap.size := Nat.le_trans hz7 hb8.size
              have h22' := h22.below hb8
              have h23' := h23.below hb8
              have h24' := h24.below hb8
              have hfr : ∀ a, A8 = some a → w6.heap.size + 3 ≤ a.block := fun a h => Nat.le_trans hz7 (hf8 a h)
              have HSG := Lib.hid (SG.new (X6.below hb8') (Y6.below hb8').2.2.2.1 h22' hn6)
              have HBO : Hid (∀ W, Ints W A c F.set → Ints W A8 c8 (bitsL F s) → Calls Try.prog 14 #[.slice A F.set.length c, .slice A8 (bitsL F s).length c8, .int .i64 F.size] W (OwnR (ord (F.set ++ bitsL F s)) W)) := Lib.hid (fun W h1 h2 => by
                have := both_int A A8 c c8 F.set (bitsL F s) F.size W h1 h2 (by omega) s2
                rwa [both_eq (fun x hx => by have := HG.out.bd x hx; omega) (fun x hx => by have := bits_bd HG.out hx; omega)] at this)
              have hA8 := (X6.below hb8').ints
              clear x1 x2 x3 hb8 hf8 h22 h23 h24 hb7 hz7 HPL
              go_wp2
              go_region_held3 (fun w' => w'.cell? ⟨w.heap.size, 0, none⟩ = some (.int .i64 F.size) ∧ w'.cell? ⟨w.heap.size, 1, none⟩ = some (.int .i64 F.hashes) ∧ w'.cell? ⟨w.heap.size, 2, none⟩ = some (.slice A F.set.length c) ∧ w'.cell? ⟨w.heap.size + 1, 2, none⟩ = some (.slice B G.set.length d) ∧
                  w'.cell? ⟨w6.heap.size, 0, none⟩ = some (rd w' w6.heap.size 0) ∧ w'.cell? ⟨w6.heap.size, 1, none⟩ = some (rd w' w6.heap.size 1) ∧ w'.cell? ⟨w6.heap.size, 2, none⟩ = some (rd w' w6.heap.size 2) ∧
                  w'.frozen? ⟨w6.heap.size, 0, none⟩ = false ∧ w'.frozen? ⟨w6.heap.size, 1, none⟩ = false ∧ w'.frozen? ⟨w6.heap.size, 2, none⟩ = false ∧ w.heap.size + 1 < w6.heap.size ∧ w6.heap.size < w8.heap.size ∧ w8.grownBy w' (some w6.heap.size))
                (first | exact SG.set3 (SG.next (SG.drew HSG.out) (Nat.le_refl _) hb9) _ _ _ | exact SG.next (SG.drew HSG.out) (Nat.le_refl _) hb9 | exact SG.drew HSG.out)
                (first | (go_at_call 14; refine (HBO.out w8.drew hA8.drew hi8.drew).mono ?_; rintro e w9 ⟨A9, c9, rfl, hi9, hf9, hb9⟩))
              rename_i hHH
              clear hHH
              have hS9 := SG.next (SG.drew HSG.out) (Nat.le_refl _) hb9
              have hA : H3 (((w9.setCell ⟨w6.heap.size, 0, none⟩ (.int .i64 F.size)).setCell ⟨w6.heap.size, 1, none⟩ (.int .i64 F.hashes)).setCell ⟨w6.heap.size, 2, none⟩ (.slice A9 (ord (F.set ++ bitsL F s)).length c9)) w6.heap.size w6.heap.size (addL F s) :=
                SG.h3 (m := w6.heap.size) (G := addL F s) hS9 hi9 (fun a h => Nat.le_trans hz8 (hf9 a h)) (by omega)
              have hGb := SG.gb (SG.set3 hS9 (.int .i64 F.size) (.int .i64 F.hashes) (.slice A9 (ord (F.set ++ bitsL F s)).length c9))
              clear hS9 hb9 hi9 hf9 HSG HBO hA8
              generalize ((w9.setCell ⟨w6.heap.size, 0, none⟩ (.int .i64 F.size)).setCell ⟨w6.heap.size, 1, none⟩ (.int .i64 F.hashes)).setCell ⟨w6.heap.size, 2, none⟩ (.slice A9 (ord (F.set ++ bitsL F s)).length c9) = wf at *
              have hbf : Below w6.heap.size w6 wf := hb8'.trans (gb_below hGb (Nat.le_refl _) (by omega))
              have h23f := h23'.gb hGb (by omega) (by omega)
              have h24f := h24'.gb hGb (by omega) (by omega)
              have hi8f := hi8.gb hGb (fun a h => by have := hfr a h; omega)
              obtain ⟨Aa, ca, ⟨_, y1, y2, y3, yi⟩, _, _⟩ := id hA
              obtain ⟨_, x1, x2, x3, xi⟩ := X6.below hbf
              have HMY : Hid (decide ((addL F s).set = F.set) = mayL F s) := Lib.hid (may_eq HG.out s)
              clear h22' h23' h24' hi8 hb8' hGb
              go_wp2_with fail
              refine (sameInts_any Aa A ca c _ _ _ yi xi).mono ?_
              rintro e w10 ⟨rfl, hb10⟩
              rw [HMY.out]
              clear x1 x2 x3 y1 y2 y3 xi yi
              go_wp2
              go_meet
              refine ⟨A8, c8, ?_, ?_, ?_, ?_, hfr, ?_, h23f.below hb10, h24f.below hb10, hbf.trans (hb10.mono hbf.size)⟩
              · rw [HE.out.1]
              · rw [HE.out.2.1]
              · rw [HE.out.2.2.1]
              · rw [HE.out.2.1]; exact hi8f.below hb10
              · rw [HE.out.2.2.2]; exact hA.below hb10
        case rest =>
          as_aux_lemma =>
            obtain ⟨A7, c7, rfl, rfl, rfl, P7, hfr, h22c, h23c, h24c, hbc⟩ := hcut
            clear h22 h23 h24 hb7 hz7
            obtain ⟨_, y1, y2, y3, _⟩ := Y6.below hbc
            go_wp2_with fail
            refine (refCheck_any G B d _ (Y6.below hbc).ints).mono ?_
            rintro e w8 ⟨rfl, hb8⟩
            have hbd : Below w6.heap.size w6 w8 := hbc.trans (hb8.mono hbc.size)
            have P8 := P7.below hb8
            have h22d := h22c.below hb8
            have h23d := h23c.below hb8
            have h24d := h24c.below hb8
            clear y1 y2 y3 hb8 hbc P7 h22c h23c h24c
            generalize HKG0 : checkF G = kg
            have HKG := Lib.hid HKG0
            clear HKG0
            go_upto_region 18 with fail
            go_cut [101] (fun s101 wx => s101 = .bool (decide (kg = 0) && (decide (F.size ≠ G.size) || decide (F.hashes ≠ G.hashes))) ∧ w8 = wx)
            case first =>
              as_aux_lemma =>
                by_cases k0 : kg = 0
                · subst k0
                  obtain ⟨_, x1, x2, x3, _⟩ := X6.below hbd
                  obtain ⟨_, y1, y2, y3, _⟩ := Y6.below hbd
                  by_cases k1 : F.size = G.size
                  · have q1 : (F.size != G.size) = false := by simp [k1]
                    by_cases k2 : F.hashes = G.hashes
                    · have q2 : (F.hashes != G.hashes) = false := by simp [k2]
                      have HQ : Hid ((decide (F.size ≠ G.size) || decide (F.hashes ≠ G.hashes)) = false) := Lib.hid (by simp [k1, k2])
                      clear k1 k2
                      go_wp2
                      go_meet
                      exact ⟨by rw [HQ.out]; rfl, rfl⟩
                    · have q2 : (F.hashes != G.hashes) = true := by simp [k2]
                      have HQ : Hid ((decide (F.size ≠ G.size) || decide (F.hashes ≠ G.hashes)) = true) := Lib.hid (by simp [k2])
                      clear k1 k2
                      go_wp2
                      go_meet
                      exact ⟨by rw [HQ.out]; rfl, rfl⟩
                  · have q1 : (F.size != G.size) = true := by simp [k1]
                    have HQ : Hid ((decide (F.size ≠ G.size) || decide (F.hashes ≠ G.hashes)) = true) := Lib.hid (by simp [k1])
                    clear k1
                    go_wp2
                    go_meet
                    exact ⟨by rw [HQ.out]; rfl, rfl⟩
                · have q0 : (kg == 0) = false := by simp [k0]
                  have HQ : Hid (decide (kg = 0) = false) := Lib.hid (by simp [k0])
                  clear k0
                  go_wp2
                  go_meet
                  exact ⟨by rw [HQ.out]; rfl, rfl⟩
            case rest =>
              as_aux_lemma =>
                obtain ⟨rfl, rfl⟩ := hcut
                go_upto_if 101 with fail
                go_cut [19] (fun s19 wx => SpecCutB F G s A7 c7 w6 s19 wx)
                case first =>
                  as_aux_lemma =>
                    by_cases k0 : kg = 0
                    · subst k0
                      by_cases k1 : F.size = G.size ∧ F.hashes = G.hashes
                      · have HQ : Hid ((decide ((0 : Int) = 0) && (decide (F.size ≠ G.size) || decide (F.hashes ≠ G.hashes))) = false) := Lib.hid (by simp [k1.1, k1.2])
                        have HE : Hid (errU F G = 0 ∧ uniM F G = uniL F G) := Lib.hid (by
                          have e : errU F G = 0 := errU_of HG.out (good_of HKG.out) k1.1 k1.2
                          exact ⟨e, by unfold uniM; rw [if_pos e]⟩)
                        have hz8 : w6.heap.size + 3 ≤ w8.heap.size := by obtain ⟨_, _, h, _⟩ := h24d; have := h.1; omega
                        have HSG := Lib.hid (SG.new (X6.below hbd) (Y6.below hbd).2.2.2.1 h23d (by omega))
                        have HBO : Hid (∀ W, Ints W A c F.set → Ints W B d G.set → Calls Try.prog 14 #[.slice A F.set.length c, .slice B G.set.length d, .int .i64 F.size] W (OwnR (ord (F.set ++ G.set)) W)) := Lib.hid (fun W h1 h2 => by
                          have := both_int A B c d F.set G.set F.size W h1 h2 (by omega) s2
                          rwa [both_eq (fun x hx => by have := HG.out.bd x hx; omega) (fun x hx => by have := (good_of HKG.out).bd x hx; omega)] at this)
                        have hA8 := (X6.below hbd).ints
                        have hB8 := (Y6.below hbd).ints
                        rw [HQ.out]
                        clear k1 HQ
                        go_wp2
                        go_region_held3 (fun w' => w'.cell? ⟨w.heap.size, 0, none⟩ = some (.int .i64 F.size) ∧ w'.cell? ⟨w.heap.size, 1, none⟩ = some (.int .i64 F.hashes) ∧ w'.cell? ⟨w.heap.size, 2, none⟩ = some (.slice A F.set.length c) ∧ w'.cell? ⟨w.heap.size + 1, 2, none⟩ = some (.slice B G.set.length d) ∧ w'.cell? ⟨w6.heap.size + 1, 0, none⟩ = some (rd w' (w6.heap.size + 1) 0) ∧ w'.cell? ⟨w6.heap.size + 1, 1, none⟩ = some (rd w' (w6.heap.size + 1) 1) ∧ w'.cell? ⟨w6.heap.size + 1, 2, none⟩ = some (rd w' (w6.heap.size + 1) 2) ∧ w'.frozen? ⟨w6.heap.size + 1, 0, none⟩ = false ∧ w'.frozen? ⟨w6.heap.size + 1, 1, none⟩ = false ∧ w'.frozen? ⟨w6.heap.size + 1, 2, none⟩ = false ∧ w.heap.size + 1 < w6.heap.size + 1 ∧ w6.heap.size + 1 < w8.heap.size ∧ w8.grownBy w' (some (w6.heap.size + 1)))
                          (first | exact SG.set3 (SG.next (SG.drew HSG.out) (Nat.le_refl _) hb9) _ _ _ | exact SG.next (SG.drew HSG.out) (Nat.le_refl _) hb9 | exact SG.drew HSG.out)
                          (first | (go_at_call 14; refine (HBO.out w8.drew hA8.drew hB8.drew).mono ?_; rintro e w9 ⟨A9, c9, rfl, hi9, hf9, hb9⟩))
                        rename_i hHH
                        clear hHH
                        have hS9 := SG.next (SG.drew HSG.out) (Nat.le_refl _) hb9
                        have hA : H3 (((w9.setCell ⟨w6.heap.size + 1, 0, none⟩ (.int .i64 F.size)).setCell ⟨w6.heap.size + 1, 1, none⟩ (.int .i64 F.hashes)).setCell ⟨w6.heap.size + 1, 2, none⟩ (.slice A9 (ord (F.set ++ G.set)).length c9)) w6.heap.size (w6.heap.size + 1) (uniL F G) :=
                          SG.h3 (m := w6.heap.size) (G := uniL F G) hS9 hi9 (fun a h => Nat.le_trans hz8 (hf9 a h)) (by omega)
                        have hGb := SG.gb (SG.set3 hS9 (.int .i64 F.size) (.int .i64 F.hashes) (.slice A9 (ord (F.set ++ G.set)).length c9))
                        clear hS9 hb9 hi9 hf9 HSG HBO hA8 hB8
                        generalize ((w9.setCell ⟨w6.heap.size + 1, 0, none⟩ (.int .i64 F.size)).setCell ⟨w6.heap.size + 1, 1, none⟩ (.int .i64 F.hashes)).setCell ⟨w6.heap.size + 1, 2, none⟩ (.slice A9 (ord (F.set ++ G.set)).length c9) = wf at *
                        go_wp2
                        go_meet
                        refine ⟨?_, P8.gb hGb (fun a h => by have := hfr a h; omega), h22d.gb hGb (by omega) (by omega), ?_, h24d.gb hGb (by omega) (by omega), hbd.trans (gb_below hGb (by omega) (by omega))⟩
                        · rw [HE.out.1]
                        · rw [HE.out.2]; exact hA
                      · have HQ : Hid ((decide ((0 : Int) = 0) && (decide (F.size ≠ G.size) || decide (F.hashes ≠ G.hashes))) = true) := Lib.hid (by
                          simp only [decide_true, Bool.true_and, Bool.or_eq_true, decide_eq_true_eq]
                          by_cases e : F.size = G.size
                          · exact .inr (fun e2 => k1 ⟨e, e2⟩)
                          · exact .inl e)
                        have HE : Hid (errU F G = 7 ∧ uniM F G = Fl.no) := Lib.hid (by
                          have e : errU F G = 7 := by unfold errU; rw [if_pos HCK.out, if_pos HKG.out, if_neg k1]
                          exact ⟨e, by unfold uniM; rw [e]; rfl⟩)
                        rw [HQ.out]
                        clear k1 HQ
                        go_wp2
                        go_meet
                        refine ⟨?_, P8, h22d, ?_, h24d, hbd⟩
                        · rw [HE.out.1]
                        · rw [HE.out.2]; exact h23d
                    · have HQ : Hid ((decide (kg = 0) && (decide (F.size ≠ G.size) || decide (F.hashes ≠ G.hashes))) = false) := Lib.hid (by simp [k0])
                      have q0 : (kg == 0) = false := by simp [k0]
                      have HE : Hid (errU F G = kg ∧ uniM F G = Fl.no) := Lib.hid (by
                        have e : errU F G = kg := by unfold errU; rw [if_pos HCK.out, HKG.out, if_neg k0]
                        exact ⟨e, by unfold uniM; rw [e, if_neg k0]⟩)
                      rw [HQ.out]
                      clear k0 HQ
                      go_wp2
                      go_meet
                      refine ⟨?_, P8, h22d, ?_, h24d, hbd⟩
                      · rw [HE.out.1]
                      · rw [HE.out.2]; exact h23d
                case rest =>
                  as_aux_lemma =>
                    obtain ⟨rfl, P9, h22e, h23e, h24e, hbe⟩ := hcut
                    clear h22d h23d h24d hbd P8
                    obtain ⟨_, x1, x2, x3, xi⟩ := X6.below hbe
                    by_cases k0 : F.size % 2 = 0
                    · have q0 : (F.size % 2 == 1) = false := by simp; omega
                      have HE : Hid (errF F = 0 ∧ foldM F = foldL F) := Lib.hid (by
                        have e : errF F = 0 := errF_of HG.out k0
                        exact ⟨e, by unfold foldM; rw [if_pos e]⟩)
                      have hz8 : w6.heap.size + 3 ≤ wc.heap.size := by obtain ⟨_, _, h, _⟩ := h24e; have := h.1; omega
                      have h24e' : H3 wc w6.heap.size (w6.heap.size + 1 + 1) Fl.no := h24e
                      have HSG := Lib.hid (SG.new (X6.below hbe) (Y6.below hbe).2.2.2.1 h24e' (by omega))
                      have HBO : Hid (∀ W, Ints W A c F.set → Calls Try.prog 16 #[fv F A c] W (OwnR (ord (F.set.map (· / 2))) W)) := Lib.hid (fun W h1 => by
                        have := half_ref F A c W h1 (by omega) s2
                        rwa [half_eq HG.out k0] at this)
                      have HD : Hid (IntKind.i64.wrap (F.size.tdiv 2) = F.size / 2) := Lib.hid (by rw [Int.tdiv_eq_ediv_of_nonneg (by omega), IntKind.wrap_i64]; omega)
                      clear k0
                      go_wp2
                      clear x1 x2 x3
                      go_region_held3 (fun w' => w'.cell? ⟨w.heap.size, 0, none⟩ = some (.int .i64 F.size) ∧ w'.cell? ⟨w.heap.size, 1, none⟩ = some (.int .i64 F.hashes) ∧ w'.cell? ⟨w.heap.size, 2, none⟩ = some (.slice A F.set.length c) ∧ w'.cell? ⟨w.heap.size + 1, 2, none⟩ = some (.slice B G.set.length d) ∧ w'.cell? ⟨w6.heap.size + 1 + 1, 0, none⟩ = some (rd w' (w6.heap.size + 1 + 1) 0) ∧ w'.cell? ⟨w6.heap.size + 1 + 1, 1, none⟩ = some (rd w' (w6.heap.size + 1 + 1) 1) ∧ w'.cell? ⟨w6.heap.size + 1 + 1, 2, none⟩ = some (rd w' (w6.heap.size + 1 + 1) 2) ∧ w'.frozen? ⟨w6.heap.size + 1 + 1, 0, none⟩ = false ∧ w'.frozen? ⟨w6.heap.size + 1 + 1, 1, none⟩ = false ∧ w'.frozen? ⟨w6.heap.size + 1 + 1, 2, none⟩ = false ∧ w.heap.size + 1 < w6.heap.size + 1 + 1 ∧ w6.heap.size + 1 + 1 < wc.heap.size ∧ wc.grownBy w' (some (w6.heap.size + 1 + 1)))
                        (first | exact SG.set3 (SG.next (SG.drew HSG.out) (Nat.le_refl _) hb9) _ _ _ | exact SG.next (SG.drew HSG.out) (Nat.le_refl _) hb9 | exact SG.drew HSG.out)
                        (first | (go_at_call 16; refine (HBO.out wc.drew xi.drew).mono ?_; rintro e w9 ⟨A9, c9, rfl, hi9, hf9, hb9⟩))
                      rename_i hHH
                      clear hHH
                      rw [HD.out]
                      have hS9 := SG.next (SG.drew HSG.out) (Nat.le_refl _) hb9
                      have hA : H3 (((w9.setCell ⟨w6.heap.size + 1 + 1, 0, none⟩ (.int .i64 (F.size / 2))).setCell ⟨w6.heap.size + 1 + 1, 1, none⟩ (.int .i64 F.hashes)).setCell ⟨w6.heap.size + 1 + 1, 2, none⟩ (.slice A9 (ord (F.set.map (· / 2))).length c9)) w6.heap.size (w6.heap.size + 1 + 1) (foldL F) :=
                        SG.h3 (m := w6.heap.size) (G := foldL F) hS9 hi9 (fun a h => Nat.le_trans hz8 (hf9 a h)) (by omega)
                      have hGb := SG.gb (SG.set3 hS9 (.int .i64 (F.size / 2)) (.int .i64 F.hashes) (.slice A9 (ord (F.set.map (· / 2))).length c9))
                      clear hS9 hb9 hi9 hf9 HSG HBO
                      generalize ((w9.setCell ⟨w6.heap.size + 1 + 1, 0, none⟩ (.int .i64 (F.size / 2))).setCell ⟨w6.heap.size + 1 + 1, 1, none⟩ (.int .i64 F.hashes)).setCell ⟨w6.heap.size + 1 + 1, 2, none⟩ (.slice A9 (ord (F.set.map (· / 2))).length c9) = wf at *
                      go_wp2
                      go_meet
                      refine ⟨A7, c7, rfl, rfl, ?_, rfl, rfl, P9.gb hGb (fun a h => by have := hfr a h; omega), h22e.gb hGb (by omega) (by omega), h23e.gb hGb (by omega) (by omega), ?_, hbe.trans (gb_below hGb (by omega) (by omega))⟩
                      · rw [HE.out.1]
                      · rw [HE.out.2]; exact hA
                    · have q0 : (F.size % 2 == 1) = true := by simp; omega
                      have HE : Hid (errF F = 4 ∧ foldM F = Fl.no) := Lib.hid (by
                        have e : errF F = 4 := by unfold errF; rw [if_pos HCK.out, if_neg k0]
                        exact ⟨e, by unfold foldM; rw [e]; rfl⟩)
                      clear k0
                      go_wp2
                      go_meet
                      refine ⟨A7, c7, rfl, rfl, ?_, rfl, rfl, P9, h22e, h23e, ?_, hbe⟩
                      · rw [HE.out.1]
                      · rw [HE.out.2]; exact h24e
      · have HE : Hid (errS F s = ck ∧ bitsM F s = [] ∧ mayM F s = false ∧ addM F s = Fl.no ∧ errU F G = ck ∧ uniM F G = Fl.no ∧ errF F = ck ∧ foldM F = Fl.no) := Lib.hid (by
          have c0 : ¬ checkF F = 0 := by rw [HCK.out]; exact hc0
          have e : errS F s = ck := by unfold errS; rw [if_neg c0, HCK.out]
          have e2 : errU F G = ck := by unfold errU; rw [if_neg c0, HCK.out]
          have e3 : errF F = ck := by unfold errF; rw [if_neg c0, HCK.out]
          exact ⟨e, by unfold bitsM; rw [e, if_neg hc0], by unfold mayM; rw [e, if_neg hc0], by unfold addM; rw [e, if_neg hc0], e2, by unfold uniM; rw [e2, if_neg hc0], e3, by unfold foldM; rw [e3, if_neg hc0]⟩)
        have q0 : (ck == 0) = false := by simp [hc0]
        clear hc0
        go_wp2
        go_meet
        obtain ⟨e1, e2, e3, e4, e5, e6, e7, e8⟩ := HE.out
        refine ⟨none, 0, ?_, ?_, ?_, ?_, ?_, ?_, ?_, ?_, ?_, hb7⟩
        · rw [e1]
        · rw [e5]
        · rw [e7]
        · rw [e2]; rfl
        · rw [e3]
        · rw [e2]; exact Ints.none_ _
        · rw [e4]; exact h22
        · rw [e6]; exact h23
        · rw [e8]; exact h24
  case rest =>
    as_aux_lemma =>
      obtain ⟨A7, c7, rfl, rfl, rfl, rfl, rfl, P7, h22, h23, h24, hb7⟩ := hcut
      have V7 := V6.below hb7
      have U7 := U6.below hb7
      have Z7 := Z6.below hb7
      have X7 := X6.below hb7
      have Q7 := P6.below hb7
      have HB7 := HB6.trans (hb7.mono HB6.size)
      obtain ⟨Aa, ca, S7, _, _⟩ := h22
      obtain ⟨Ab, cb, T7, _, _⟩ := h23
      obtain ⟨Ac, cc, R7, _, _⟩ := h24
      clear V6 U6 Z6 X6 Y6 P6 HB6 hb7
      generalize w6.heap.size = m at *
      go_wp2_with fail
      refine (begun_any _).mono ?_
      rintro e w8 ⟨rfl, hb8⟩
      have V8 := V7.below hb8
      have U8 := U7.below hb8
      have Z8 := Z7.below hb8
      have X8 := X7.below hb8
      have Q8 := Q7.below hb8
      have P8 := P7.below hb8
      have S8 := S7.below hb8
      have T8 := T7.below hb8
      have R8 := R7.below hb8
      have HB8 := HB7.trans (hb8.mono HB7.size)
      clear hb8 V7 U7 Z7 X7 Q7 P7 S7 T7 R7 HB7
      obtain ⟨_, x1, x2, x3, _⟩ := id X8
      go_wp2_with fail
      refine (check_any F A c _ X8.ints).mono ?_
      rintro e w9 ⟨rfl, hb9⟩
      rw [HCK.out]
      have V9 := V8.below hb9
      have U9 := U8.below hb9
      have Z9 := Z8.below hb9
      have Q9 := Q8.below hb9
      have P9 := P8.below hb9
      have S9 := S8.below hb9
      have T9 := T8.below hb9
      have R9 := R8.below hb9
      have HB9 := HB8.trans (hb9.mono HB8.size)
      clear hb9 V8 U8 Z8 X8 Q8 P8 S8 T8 R8 HB8 x1 x2 x3
      go_wp2_with fail
      refine (sameInts_any A1 A7 c1 c7 _ _ _ Q9 P9).mono ?_
      rintro e w10 ⟨rfl, hb10⟩
      rw [decide_eq_true rfl]
      have V10 := V9.below hb10
      have U10 := U9.below hb10
      have Z10 := Z9.below hb10
      have S10 := S9.below hb10
      have T10 := T9.below hb10
      have R10 := R9.below hb10
      have HB10 := HB9.trans (hb10.mono HB9.size)
      clear hb10 V9 U9 Z9 Q9 P9 S9 T9 R9 HB9
      obtain ⟨_, x1, x2, x3, _⟩ := id Z10
      obtain ⟨_, y1, y2, y3, _⟩ := id S10
      go_wp2_with fail
      refine (sameF_any (addM F s) (addM F s) A2 Aa c2 ca _ Z10.ints S10.ints).mono ?_
      rintro e w11 ⟨rfl, hb11⟩
      rw [sameF_self]
      have V11 := V10.below hb11
      have U11 := U10.below hb11
      have T11 := T10.below hb11
      have R11 := R10.below hb11
      have HB11 := HB10.trans (hb11.mono HB10.size)
      clear hb11 V10 U10 Z10 S10 T10 R10 HB10 x1 x2 x3 y1 y2 y3
      obtain ⟨_, x1, x2, x3, _⟩ := id U11
      obtain ⟨_, y1, y2, y3, _⟩ := id T11
      go_wp2_with fail
      refine (sameF_any (uniM F G) (uniM F G) A4 Ab c4 cb _ U11.ints T11.ints).mono ?_
      rintro e w12 ⟨rfl, hb12⟩
      rw [sameF_self]
      have V12 := V11.below hb12
      have R12 := R11.below hb12
      have HB12 := HB11.trans (hb12.mono HB11.size)
      clear hb12 V11 U11 T11 R11 HB11 x1 x2 x3 y1 y2 y3
      obtain ⟨_, x1, x2, x3, _⟩ := id V12
      obtain ⟨_, y1, y2, y3, _⟩ := id R12
      go_wp2_with fail
      refine (sameF_any (foldM F) (foldM F) A5 Ac c5 cc _ V12.ints R12.ints).mono ?_
      rintro e w13 ⟨rfl, hb13⟩
      rw [sameF_self]
      have HB13 := HB12.trans (hb13.mono HB12.size)
      clear hb13 V12 R12 HB12 x1 x2 x3 y1 y2 y3
      go_wp2
      go_ret
      exact ⟨rfl, HB13⟩

end Go.Proofs.Ytnnnjmelbnnnjaa
