/-
  The walk of the law that compares package lfu with its reference.
-/
import Derived.Test.YtdliacdmoeogcaaLfuRef3
import Derived.Deep.DeepCutAuto
namespace Go.Proofs.Ytdliacdmoeogcaa.Lfu
open Go.RowKit Go.Maps
open Lru (isRm isK keysE keysE_zero traceE trace_zero)
set_option linter.unusedVariables false
set_option maxRecDepth 100000

def rd (w : World) (m j : Nat) : Value := (w.cell? ⟨m, j, none⟩).getD (.int .i64 0)
theorem rd_of {w : World} {m j : Nat} {v : Value} (h : w.cell? ⟨m, j, none⟩ = some v) : w.cell? ⟨m, j, none⟩ = some (rd w m j) := by unfold rd; rw [h]; rfl
/-- A variable with a cache whose list lies in none of three variables. -/
def KN (q : Nat) (w : World) (p : Nat) (r : Int) (F : List Us) : Prop :=
  ∃ B d, Kb w p r (.slice B F.length d) ∧ Uss w B d F ∧ (0 < F.length → ∀ a, B = some a → a.block ≠ q ∧ a.block ≠ q + 1 ∧ a.block ≠ q + 1 + 1)
theorem KN.below {q : Nat} {w w' : World} {p : Nat} {r : Int} {F : List Us} (k : KN q w p r F) (hb : Below w.heap.size w w') : KN q w' p r F := by
  obtain ⟨B, d, k1, k2, k3⟩ := k
  exact ⟨B, d, k1.below hb, k2.below hb, k3⟩
theorem KN.set2 {q : Nat} {w : World} {p v : Nat} {r : Int} {F : List Us} (k : KN q w p r F) (hp : p ≠ v) (hv : v = q ∨ v = q + 1 ∨ v = q + 1 + 1) (a b : Value) : KN q ((w.setCell ⟨v, 0, none⟩ a).setCell ⟨v, 1, none⟩ b) p r F := by
  obtain ⟨B, d, k1, k2, k3⟩ := k
  refine ⟨B, d, (k1.other (a := ⟨v, 0, none⟩) hp a).other (a := ⟨v, 1, none⟩) hp b, k2.put2 (fun h0 a ha e => ?_) _ _, k3⟩
  obtain ⟨h1, h2, h3⟩ := k3 h0 a ha
  rcases hv with rfl | rfl | rfl
  · exact h1 e.symm
  · exact h2 e.symm
  · exact h3 e.symm
theorem KN.zero {q : Nat} {w : World} {p : Nat} (k : Kb w p 0 (.slice none 0 0)) : KN q w p 0 [] := ⟨none, 0, k, Uss.none_ _, fun h => absurd h (by simp)⟩
theorem Kb.set2 {w : World} {p v : Nat} {r : Int} {u : Value} (k : Kb w p r u) (hp : p ≠ v) (a b : Value) : Kb ((w.setCell ⟨v, 0, none⟩ a).setCell ⟨v, 1, none⟩ b) p r u :=
  (k.other (a := ⟨v, 0, none⟩) hp a).other (a := ⟨v, 1, none⟩) hp b
theorem Uss.belowB {w w' : World} {A : Option Addr} {c B : Nat} {F : List Us} (h : Uss w A c F) (hA : 0 < F.length → ∀ a, A = some a → a.block < B) (hb : Below B w w') : Uss w' A c F :=
  ⟨h.1, h.2.1, h.2.2.1, fun hl => by obtain ⟨b, o, e, ht⟩ := h.2.2.2 hl; exact ⟨b, o, e, ht.below (hA hl _ e) hb⟩⟩
/-- Such a variable in a later world: all below B is as it was. -/
theorem KN.later {q : Nat} {w0 w w' : World} {p B : Nat} {r : Int} {F : List Us} (k : KN q w0 p r F) (hB : B = w0.heap.size) (hw : ∀ C d, Kb w0 p r (.slice C F.length d) → Uss w0 C d F → (0 < F.length → ∀ a, C = some a → a.block ≠ q ∧ a.block ≠ q + 1 ∧ a.block ≠ q + 1 + 1) → Kb w p r (.slice C F.length d) ∧ Uss w C d F) (hb : Below B w w') : KN q w' p r F := by
  subst hB
  obtain ⟨C, d, k1, k2, k3⟩ := k
  obtain ⟨l1, l2⟩ := hw C d k1 k2 k3
  exact ⟨C, d, l1.belowB hb k1.lt, l2.belowB (fun h0 a ha => k2.lt h0 a ha) hb, k3⟩

/-- Behind the reference's part. -/
def CutK (r : Int) (F : List Us) (key : Int) (xs : List Int) (q : Nat) (w4 : World) (s19 s20 s21 s25 s26 s27 s28 : Value) (wx : World) : Prop :=
  s19 = .int .i64 (acE r F key) ∧ s20 = .int .i64 (rnE r F xs) ∧ s21 = .int .i64 (viE r F) ∧ s25 = .bool (acH r F key) ∧ s26 = .int .i64 (acG r F key) ∧ s27 = .int .i64 (rnH r F xs) ∧ s28 = .int .i64 (viN r F) ∧
  KN q wx q (acR r F key) (acF r F key) ∧ KN q wx (q + 1) (rnR r F xs) (rnF r F xs) ∧ KN q wx (q + 1 + 1) (agR r F) (agF r F) ∧ Below q w4 wx
theorem bad_all {r : Int} {F : List Us} {key : Int} {xs : List Int} (e : checkK r F ≠ 0) : acE r F key = checkK r F ∧ rnE r F xs = checkK r F ∧ viE r F = checkK r F ∧ acH r F key = false ∧ acG r F key = 0 ∧ rnH r F xs = 0 ∧ viN r F = 0 ∧
    acR r F key = 0 ∧ acF r F key = [] ∧ rnR r F xs = 0 ∧ rnF r F xs = [] ∧ agR r F = 0 ∧ agF r F = [] := by
  have e1 : acE r F key = checkK r F := by unfold acE; rw [if_neg e]
  have e2 : rnE r F xs = checkK r F := by unfold rnE; rw [if_neg e]
  have e3 : viE r F = checkK r F := by unfold viE; rw [if_neg e]
  have n1 : acE r F key ≠ 0 := by rw [e1]; exact e
  have n2 : rnE r F xs ≠ 0 := by rw [e2]; exact e
  have n3 : viE r F ≠ 0 := by rw [e3]; exact e
  refine ⟨e1, e2, e3, ?_, ?_, ?_, ?_, ?_, ?_, ?_, ?_, ?_, ?_⟩
  · unfold acH; rw [if_neg n1]
  · unfold acG; rw [if_neg n1]
  · unfold rnH; rw [if_neg n2]
  · unfold viN; rw [if_neg n3]
  · unfold acR; rw [if_neg n1]
  · unfold acF; rw [if_neg n1]
  · unfold rnR; rw [if_neg n2]
  · unfold rnF; rw [if_neg n2]
  · unfold agR; rw [if_neg e]
  · unfold agF; rw [if_neg e]
theorem ac_bad {r : Int} {F : List Us} {key : Int} (h0 : checkK r F = 0) (hk : ¬ isK key) : acE r F key = 3 ∧ acH r F key = false ∧ acG r F key = 0 ∧ acR r F key = 0 ∧ acF r F key = [] := by
  have e : acE r F key = 3 := by unfold acE; rw [if_pos h0, if_neg hk]
  have n : acE r F key ≠ 0 := by rw [e]; decide
  exact ⟨e, by unfold acH; rw [if_neg n], by unfold acG; rw [if_neg n], by unfold acR; rw [if_neg n], by unfold acF; rw [if_neg n]⟩
theorem ac_ok {r : Int} {F : List Us} {key : Int} (h0 : checkK r F = 0) (hk : isK key) : acE r F key = 0 ∧ acH r F key = decide (key ∈ keys F) ∧ acG r F key = gone r F key ∧ acR r F key = r ∧ acF r F key = tch r F key := by
  have e : acE r F key = 0 := by unfold acE; rw [if_pos h0, if_pos hk]
  exact ⟨e, by unfold acH; rw [if_pos e], by unfold acG; rw [if_pos e], by unfold acR; rw [if_pos e], by unfold acF; rw [if_pos e]⟩
theorem rn_bad {r : Int} {F : List Us} {xs : List Int} (h0 : checkK r F = 0) (ht : traceE xs ≠ 0) : rnE r F xs = traceE xs ∧ rnH r F xs = 0 ∧ rnR r F xs = 0 ∧ rnF r F xs = [] := by
  have e : rnE r F xs = traceE xs := by unfold rnE; rw [if_pos h0]
  have n : rnE r F xs ≠ 0 := by rw [e]; exact ht
  exact ⟨e, by unfold rnH; rw [if_neg n], by unfold rnR; rw [if_neg n], by unfold rnF; rw [if_neg n]⟩
theorem rn_ok {r : Int} {F : List Us} {xs : List Int} (h0 : checkK r F = 0) (ht : traceE xs = 0) : rnE r F xs = traceE xs ∧ rnH r F xs = (hitsU r F xs : Int) ∧ rnR r F xs = r ∧ rnF r F xs = runU r F xs := by
  have e : rnE r F xs = traceE xs := by unfold rnE; rw [if_pos h0]
  have n : rnE r F xs = 0 := by rw [e]; exact ht
  exact ⟨e, by unfold rnH; rw [if_pos n], by unfold rnR; rw [if_pos n], by unfold rnF; rw [if_pos n]⟩
theorem ag_ok {r : Int} {F : List Us} (h0 : checkK r F = 0) : agR r F = r ∧ agF r F = half F := ⟨by unfold agR; rw [if_pos h0], by unfold agF; rw [if_pos h0]⟩
theorem vi_ok {r : Int} {F : List Us} (h0 : checkK r F = 0) : (F.length = 0 → viE r F = 5 ∧ viN r F = 0) ∧ (0 < F.length → viE r F = 0 ∧ viN r F = (gu F (vicN F)).key) := by
  refine ⟨fun h => ?_, fun h => ?_⟩
  · have e : viE r F = 5 := by unfold viE; rw [if_pos h0, if_pos h]
    exact ⟨e, by unfold viN; rw [e]; rfl⟩
  · have e : viE r F = 0 := by unfold viE; rw [if_pos h0, if_neg (by omega)]
    exact ⟨e, by unfold viN; rw [if_pos e]⟩

set_option maxHeartbeats 20000000 in
theorem lfuSpec_walk (r : Int) (A : Option Addr) (c : Nat) (F : List Us) (key : Int) (A1 : Option Addr) (c1 : Nat) (xs : List Int) (w : World) (hI : Uss w A c F) (hJ : Ints w A1 c1 xs) :
    Calls Try.prog 3 #[kv r (.slice A F.length c), .int .i64 key, .slice A1 xs.length c1] w fun e w' => e = .returned (.bool true) ∧ Below w.heap.size w w' := by
  have X0 := Lib.hid (Kb.new w r (.slice A F.length c))
  have HB0 : Hid (Below w.heap.size w (w.alloc (ko r (.slice A F.length c)))) := Lib.hid (bel_al (Below.refl _ _) (Nat.le_refl _) _)
  have HJ := Lib.hid hJ
  have HI0 := Lib.hid hI
  have HA := Lib.hid (fun (W : World) (a : Uss W A c F) => access_any r A c F key W a)
  have HR := Lib.hid (fun (W : World) (a : Uss W A c F) (b : Ints W A1 c1 xs) => run_any r A c F A1 c1 xs W a b)
  have HL := Lib.hid (fun (W : World) (a : Uss W A c F) => age_any r A c F W a)
  have HV := Lib.hid (fun (W : World) (a : Uss W A c F) => victimE_any r A c F W a)
  have HCk := Lib.hid (fun (W : World) (a : Uss W A c F) => check_any r A c F W a)
  have HCr := Lib.hid (fun (W : World) (a : Uss W A c F) => lfuCheck_any r A c F W a)
  have HTc := Lib.hid (fun (W : World) (b : Ints W A1 c1 xs) => Kr.traceCheck_any A1 c1 xs W b)
  unfold AR at HA
  unfold NR at HR
  unfold GR at HL
  clear hI hJ
  obtain ⟨x1, x2, -, -⟩ := X0.out.cells
  go_enter Try.func3, Try.ntmps3
  go_wp2_with fail
  refine (HA.out _ (HI0.out.below HB0.out)).mono ?_
  rintro e w1 ⟨B1, k1, rfl, hI1, -, hb1⟩
  have X1 := Lib.hid ((X0.out.below hb1).alloc (ko (acR r F key) (.slice B1 (acF r F key).length k1)))
  have P1 := Lib.hid (And.intro (Kb.new w1 (acR r F key) (.slice B1 (acF r F key).length k1)) (hI1.alloc (ko (acR r F key) (.slice B1 (acF r F key).length k1))))
  have HB1 : Hid (Below w.heap.size w (w1.alloc (ko (acR r F key) (.slice B1 (acF r F key).length k1)))) := Lib.hid (bel_al (HB0.out.trans (hb1.mono HB0.out.size)) (Nat.le_trans HB0.out.size hb1.size) _)
  clear hI1 hb1 x1 x2
  obtain ⟨x1, x2, -, -⟩ := X1.out.cells
  go_wp2_with fail
  refine (HR.out _ (HI0.out.below HB1.out) (HJ.out.below HB1.out)).mono ?_
  rintro e w2 ⟨B2, k2, rfl, hI2, -, hb2⟩
  have X2 := Lib.hid ((X1.out.below hb2).alloc (ko (rnR r F xs) (.slice B2 (rnF r F xs).length k2)))
  have P2 := Lib.hid (And.intro ((P1.out.1.below hb2).alloc (ko (rnR r F xs) (.slice B2 (rnF r F xs).length k2))) ((P1.out.2.below hb2).alloc (ko (rnR r F xs) (.slice B2 (rnF r F xs).length k2))))
  have U2 := Lib.hid (And.intro (Kb.new w2 (rnR r F xs) (.slice B2 (rnF r F xs).length k2)) (hI2.alloc (ko (rnR r F xs) (.slice B2 (rnF r F xs).length k2))))
  have HB2 : Hid (Below w.heap.size w (w2.alloc (ko (rnR r F xs) (.slice B2 (rnF r F xs).length k2)))) := Lib.hid (bel_al (HB1.out.trans (hb2.mono HB1.out.size)) (Nat.le_trans HB1.out.size hb2.size) _)
  clear hI2 hb2 x1 x2
  obtain ⟨x1, x2, -, -⟩ := X2.out.cells
  go_wp2_with fail
  refine (HL.out _ (HI0.out.below HB2.out)).mono ?_
  rintro e w3 ⟨B3, k3, rfl, hI3, -, hb3⟩
  have X3 := Lib.hid ((X2.out.below hb3).alloc (ko (agR r F) (.slice B3 (agF r F).length k3)))
  have P3 := Lib.hid (And.intro ((P2.out.1.below hb3).alloc (ko (agR r F) (.slice B3 (agF r F).length k3))) ((P2.out.2.below hb3).alloc (ko (agR r F) (.slice B3 (agF r F).length k3))))
  have U3 := Lib.hid (And.intro ((U2.out.1.below hb3).alloc (ko (agR r F) (.slice B3 (agF r F).length k3))) ((U2.out.2.below hb3).alloc (ko (agR r F) (.slice B3 (agF r F).length k3))))
  have V3 := Lib.hid (And.intro (Kb.new w3 (agR r F) (.slice B3 (agF r F).length k3)) (hI3.alloc (ko (agR r F) (.slice B3 (agF r F).length k3))))
  have HB3 : Hid (Below w.heap.size w (w3.alloc (ko (agR r F) (.slice B3 (agF r F).length k3)))) := Lib.hid (bel_al (HB2.out.trans (hb3.mono HB2.out.size)) (Nat.le_trans HB2.out.size hb3.size) _)
  clear hI3 hb3 x1 x2
  obtain ⟨x1, x2, -, -⟩ := X3.out.cells
  go_wp2_with fail
  refine (HV.out _ (HI0.out.below HB3.out)).mono ?_
  rintro e w3' ⟨rfl, hb3'⟩
  have X3 := Lib.hid (X3.out.below hb3')
  have P3' := Lib.hid (And.intro (P3.out.1.below hb3') (P3.out.2.below hb3'))
  have U3' := Lib.hid (And.intro (U3.out.1.below hb3') (U3.out.2.below hb3'))
  have V3' := Lib.hid (And.intro (V3.out.1.below hb3') (V3.out.2.below hb3'))
  have HB3' : Hid (Below w.heap.size w w3') := Lib.hid (HB3.out.trans (hb3'.mono HB3.out.size))
  clear hb3' x1 x2
  obtain ⟨x1, x2, -, -⟩ := X3.out.cells
  go_wp2_with fail
  refine (HCr.out _ (HI0.out.below HB3'.out)).mono ?_
  rintro e w4 ⟨rfl, hb4⟩
  have X4 := Lib.hid (X3.out.below hb4)
  have P4 := Lib.hid (And.intro (P3'.out.1.below hb4) (P3'.out.2.below hb4))
  have U4 := Lib.hid (And.intro (U3'.out.1.below hb4) (U3'.out.2.below hb4))
  have V4 := Lib.hid (And.intro (V3'.out.1.below hb4) (V3'.out.2.below hb4))
  have HB4 : Hid (Below w.heap.size w w4) := Lib.hid (HB3'.out.trans (hb4.mono HB3'.out.size))
  clear hb4 x1 x2 X1 X2 X3 P1 P2 P3 U2 U3 V3 HB1 HB2 HB3 P3' U3' V3' HB3'
  generalize w1.heap.size = p1 at *
  generalize w2.heap.size = p2 at *
  generalize w3.heap.size = p3 at *
  have HZZ : Hid (Kb (((w4.alloc zk).alloc zk).alloc zk) w4.heap.size 0 (.slice none 0 0) ∧ Kb (((w4.alloc zk).alloc zk).alloc zk) (w4.heap.size + 1) 0 (.slice none 0 0) ∧ Kb (((w4.alloc zk).alloc zk).alloc zk) (w4.heap.size + 1 + 1) 0 (.slice none 0 0) ∧ Below w4.heap.size w4 (((w4.alloc zk).alloc zk).alloc zk)) := Lib.hid (by
    have h1 := Kb.new (w4.alloc zk) 0 (.slice none 0 0)
    rw [show (w4.alloc zk).heap.size = w4.heap.size + 1 by simp] at h1
    have h2 := Kb.new ((w4.alloc zk).alloc zk) 0 (.slice none 0 0)
    rw [show ((w4.alloc zk).alloc zk).heap.size = w4.heap.size + 1 + 1 by simp] at h2
    exact ⟨((Kb.new w4 0 _).alloc _).alloc _, h1.alloc _, h2, bel_al (bel_al (bel_al (Below.refl _ _) (Nat.le_refl _) _) (by simp) _) (by simp; omega) _⟩)
  go_upto_if 61 with fail
  generalize (((w4.alloc zk).alloc zk).alloc zk) = w5 at *
  generalize hq : w4.heap.size = q at *
  have HQ := Lib.hid hq
  clear hq
  go_cut [19, 20, 21, 25, 26, 27, 28] (fun s19 s20 s21 s25 s26 s27 s28 wx => CutK r F key xs q w4 s19 s20 s21 s25 s26 s27 s28 wx)
  case first =>
    as_aux_lemma =>
      by_cases h0 : checkK r F = 0
      · have H0 := Lib.hid h0
        have HG := Lib.hid (check_zero.1 h0)
        have qc : (checkK r F == 0) = true := by simpa using h0
        have hb5' : Below w4.heap.size w4 w5 := by rw [HQ.out]; exact HZZ.out.2.2.2
        have X5 := Lib.hid (X4.out.below hb5')
        have HB5 : Hid (Below w.heap.size w w5) := Lib.hid (HB4.out.trans (hb5'.mono HB4.out.size))
        have HQ4 : Hid (w.heap.size < q) := Lib.hid (by rw [← HQ.out]; exact X4.out.lt)
        have HAn : Hid (∀ p, w.heap.size ≤ p → 0 < F.length → ∀ a, A = some a → a.block ≠ p) := Lib.hid (fun p hp h1 a ha => by
          have := HI0.out.lt h1 a ha; omega)
        clear h0 hb5' HA HR HL HV HCk HCr P4 U4 V4
        obtain ⟨bk, hbk⟩ : ∃ bk : Bool, bk = !decide (isK key) := ⟨_, rfl⟩
        have HBk := Lib.hid hbk
        clear hbk
        go_upto_region 10 with fail
        go_cut [67] (fun s67 wx => s67 = .bool bk ∧ w5 = wx)
        case first =>
          as_aux_lemma =>
            by_cases h1 : key < 0
            · have d1 : decide (key < 0) = true := by simpa using h1
              have HE : Hid (true = bk) := Lib.hid (by rw [HBk.out, decide_eq_false (fun h : isK key => by have := h.1; omega)]; rfl)
              clear h1
              go_wp2
              go_meet
              exact ⟨by rw [HE.out], rfl⟩
            · have d1 : decide (key < 0) = false := by simpa using h1
              have HE : Hid (decide (1048576 < key) = bk) := Lib.hid (by
                rw [HBk.out]
                by_cases h : 1048576 < key
                · rw [decide_eq_true h, decide_eq_false (fun h2 : isK key => by have := h2.2; omega)]; rfl
                · rw [decide_eq_false h, decide_eq_true (show isK key from ⟨by omega, by omega⟩)]; rfl)
              clear h1
              go_wp2
              go_meet
              exact ⟨by rw [HE.out], rfl⟩
        case rest =>
          as_aux_lemma =>
            obtain ⟨rfl, rfl⟩ := hcut
            go_upto_if 67 with fail
            go_cut [19, 25, 26] (fun s19 s25 s26 wx => s19 = .int .i64 (acE r F key) ∧ s25 = .bool (acH r F key) ∧ s26 = .int .i64 (acG r F key) ∧ KN q wx q (acR r F key) (acF r F key) ∧ Kb wx (q + 1) 0 (.slice none 0 0) ∧ Kb wx (q + 1 + 1) 0 (.slice none 0 0) ∧ Below q w4 wx)
            case first =>
              as_aux_lemma =>
                by_cases hk : isK key
                · have d1 : bk = false := by rw [HBk.out]; simpa using hk
                  subst d1
                  have HE := Lib.hid (ac_ok H0.out hk)
                  have HTr := Lib.hid (touchRef_any r A c F key w5 (HI0.out.below HB5.out) HG.out hk)
                  unfold TR at HTr
                  clear hk
                  obtain ⟨T, hT⟩ : ∃ T, tch r F key = T := ⟨_, rfl⟩
                  rw [hT] at HTr HE
                  clear hT
                  obtain ⟨lT, hlT⟩ : ∃ lT, T.length = lT := ⟨_, rfl⟩
                  have HLT := Lib.hid hlT
                  simp only [hlT] at HTr
                  clear hlT
                  obtain ⟨x1, x2, -, -⟩ := X5.out.cells
                  go_wp2_with fail
                  refine HTr.out.mono ?_
                  rintro e w6 ⟨B6, k6, rfl, hI6, hA6, hb6⟩
                  have hz := HZZ.out.1.below hb6
                  have HK6 := Lib.hid (hz.put2 r (.slice B6 lT k6))
                  have HF6 := Lib.hid (hI6.set2 (p := q) (fun a ha => by have := hA6 a ha; have := HZZ.out.1.lt; omega) (.int .i64 r) (.slice B6 lT k6))
                  have HN6 : Hid (0 < T.length → ∀ a, B6 = some a → a.block ≠ q ∧ a.block ≠ q + 1 ∧ a.block ≠ q + 1 + 1) := Lib.hid (fun _ a ha => by have := hA6 a ha; have := HZZ.out.2.2.1.lt; exact ⟨by omega, by omega, by omega⟩)
                  have HY6 := Lib.hid (And.intro ((HZZ.out.2.1.below hb6).set2 (v := q) (by omega) (.int .i64 r) (.slice B6 lT k6)) ((HZZ.out.2.2.1.below hb6).set2 (v := q) (by omega) (.int .i64 r) (.slice B6 lT k6)))
                  have HB6 := Lib.hid (bel_set2 (HZZ.out.2.2.2.trans (hb6.mono (by have := HZZ.out.1.lt; omega))) (p := q) (Nat.le_refl _) (.int .i64 r) (.slice B6 lT k6))
                  obtain ⟨z1, z2, z3, z4⟩ := hz.cells
                  clear hz hI6 hA6 hb6 x1 x2
                  go_wp2
                  go_meet
                  obtain ⟨e1, e2, e3, e4, e6⟩ := HE.out
                  exact ⟨by rw [e1, H0.out], by rw [e2], by rw [e3], ⟨B6, k6, by rw [e4, e6, HLT.out]; exact HK6.out, by rw [e6]; exact HF6.out, by rw [e6]; exact HN6.out⟩, HY6.out.1, HY6.out.2, HB6.out⟩
                · have HE := Lib.hid (ac_bad H0.out hk)
                  have d1 : bk = true := by rw [HBk.out]; simpa using hk
                  subst d1
                  clear hk
                  go_wp2
                  go_meet
                  obtain ⟨e1, e2, e3, e4, e6⟩ := HE.out
                  exact ⟨by rw [e1], by rw [e2], by rw [e3], by rw [e4, e6]; exact KN.zero HZZ.out.1, HZZ.out.2.1, HZZ.out.2.2.1, HZZ.out.2.2.2⟩
            case rest =>
              as_aux_lemma =>
                obtain ⟨rfl, rfl, rfl, hX6, hz1, hz2, hb6⟩ := hcut
                have E6 := Lib.hid hX6
                have HZ6 := Lib.hid (And.intro hz1 hz2)
                have HBq6 := Lib.hid hb6
                have hb6' : Below w4.heap.size w4 wc := by rw [HQ.out]; exact hb6
                have X6 := Lib.hid (X4.out.below hb6')
                have HB6 : Hid (Below w.heap.size w wc) := Lib.hid (HB4.out.trans (hb6'.mono HB4.out.size))
                clear hX6 hz1 hz2 hb6 hb6'
                generalize wc = w6 at *
                go_wp2_with fail
                refine (HTc.out w6 (HJ.out.below HB6.out)).mono ?_
                rintro e w' ⟨rfl, rfl⟩
                go_upto_if 78 with fail
                go_cut [27] (fun s27 wx => s27 = .int .i64 (rnH r F xs) ∧ KN q wx q (acR r F key) (acF r F key) ∧ KN q wx (q + 1) (rnR r F xs) (rnF r F xs) ∧ Kb wx (q + 1 + 1) 0 (.slice none 0 0) ∧ Below q w4 wx)
                case first =>
                  as_aux_lemma =>
                    by_cases ht : traceE xs = 0
                    · have d1 : (traceE xs == 0) = true := by simpa using ht
                      have HE := Lib.hid (rn_ok H0.out ht)
                      have HT := Lib.hid (trace_zero.1 ht)
                      have HRr := Lib.hid (runRef_any r A A1 c c1 F xs w6 (HI0.out.below HB6.out) (HJ.out.below HB6.out) HG.out HT.out.2 HT.out.1)
                      clear ht
                      obtain ⟨T, hT⟩ : ∃ T, runU r F xs = T := ⟨_, rfl⟩
                      rw [hT] at HRr HE
                      clear hT
                      obtain ⟨lT, hlT⟩ : ∃ lT, T.length = lT := ⟨_, rfl⟩
                      have HLT := Lib.hid hlT
                      simp only [hlT] at HRr
                      clear hlT
                      obtain ⟨x1, x2, -, -⟩ := X6.out.cells
                      go_wp2_with fail
                      refine HRr.out.mono ?_
                      rintro e w7 ⟨B7, k7, rfl, hI7, hW7, hb7⟩
                      have hz := HZ6.out.1.below hb7
                      have HN7 : Hid (0 < T.length → ∀ a, B7 = some a → a.block ≠ q ∧ a.block ≠ q + 1 ∧ a.block ≠ q + 1 + 1) := Lib.hid (fun h0 a ha => by
                        rcases hW7 a ha with ⟨h1, h2⟩ | h1
                        · have hh := HAn.out
                          have hL : 0 < F.length := by rw [← h2]; exact h0
                          have hq := HQ4.out
                          exact ⟨hh q (by omega) hL a h1, hh (q + 1) (by omega) hL a h1, hh (q + 1 + 1) (by omega) hL a h1⟩
                        · have := HZ6.out.2.lt; exact ⟨by omega, by omega, by omega⟩)
                      have HK7 := Lib.hid (hz.put2 r (.slice B7 lT k7))
                      have HF7 := Lib.hid (hI7.put2 (p := q + 1) (fun h0 a ha => fun e => (HN7.out h0 a ha).2.1 e.symm) (.int .i64 r) (.slice B7 lT k7))
                      have HE7 := Lib.hid ((E6.out.below hb7).set2 (v := q + 1) (by omega) (.inr (.inl rfl)) (.int .i64 r) (.slice B7 lT k7))
                      have HZ7 := Lib.hid ((HZ6.out.2.below hb7).set2 (v := q + 1) (by omega) (.int .i64 r) (.slice B7 lT k7))
                      have HB7 := Lib.hid (bel_set2 (HBq6.out.trans (hb7.mono (by have := HZ6.out.1.lt; omega))) (p := q + 1) (by omega) (.int .i64 r) (.slice B7 lT k7))
                      obtain ⟨z1, z2, z3, z4⟩ := hz.cells
                      clear hz hI7 hW7 hb7 x1 x2
                      go_wp2
                      go_meet
                      obtain ⟨e1, e2, e3, e5⟩ := HE.out
                      exact ⟨by rw [e2], HE7.out, ⟨B7, k7, by rw [e3, e5, HLT.out]; exact HK7.out, by rw [e5]; exact HF7.out, by rw [e5]; exact HN7.out⟩, HZ7.out, HB7.out⟩
                    · have d1 : (traceE xs == 0) = false := by simpa using ht
                      have HE := Lib.hid (rn_bad H0.out ht)
                      clear ht
                      go_wp2
                      go_meet
                      obtain ⟨e1, e2, e3, e5⟩ := HE.out
                      exact ⟨by rw [e2], E6.out, by rw [e3, e5]; exact KN.zero HZ6.out.1, HZ6.out.2, HBq6.out⟩
                case rest =>
                  as_aux_lemma =>
                    obtain ⟨rfl, hE7, hR7, hz7, hb7⟩ := hcut
                    have E7 := Lib.hid hE7
                    have R7 := Lib.hid hR7
                    have Z7 := Lib.hid hz7
                    have HBq7 := Lib.hid hb7
                    have hb7' : Below w4.heap.size w4 wc := by rw [HQ.out]; exact hb7
                    have X7 := Lib.hid (X4.out.below hb7')
                    have HB7 : Hid (Below w.heap.size w wc) := Lib.hid (HB4.out.trans (hb7'.mono HB4.out.size))
                    have HEr : Hid (rnE r F xs = traceE xs) := Lib.hid (by unfold rnE; rw [if_pos H0.out])
                    clear hE7 hR7 hz7 hb7 hb7'
                    generalize wc = w7 at *
                    have hl40 := HG.out.len40
                    obtain ⟨ln, hln⟩ : ∃ ln, F.length = ln := ⟨_, rfl⟩
                    have HLN := Lib.hid hln
                    rw [hln] at X7 X4 hl40
                    clear hln
                    go_upto_region 16 with fail
                    go_cut [24] (fun s24 wx => s24 = .pointer (some ⟨q + 1 + 1, 0, none⟩) ∧ ∃ A9 c9, Kb wx (q + 1 + 1) r (.slice A9 ln c9) ∧ OwnU wx w7.heap.size (.slice A9 ln c9) F ∧ (∀ w', Below w7.heap.size wx w' → KN q w' q (acR r F key) (acF r F key) ∧ KN q w' (q + 1) (rnR r F xs) (rnF r F xs)) ∧ Below q w4 wx ∧ w7.heap.size ≤ wx.heap.size)
                    case first =>
                      as_aux_lemma =>
                        have HOa : Hid (OwnU (w7.alloc (.cells #[] 42)).drew w7.heap.size (.slice (some ⟨w7.heap.size, 0, none⟩) 0 0) []) := Lib.hid (OwnU.drew (World.ownsRow_made (e := 42) (size := 2) w7 #[] 0 (Nat.le_refl w7.heap.size) (Nat.zero_le _) (by simp)))
                        have HMa : Hid (Uss (w7.alloc (.cells #[] 42)).drew A c F) := Lib.hid (((HI0.out.below HB7.out).alloc _).drew)
                        have HXa : Hid (Kb (w7.alloc (.cells #[] 42)).drew w.heap.size r (.slice A ln c)) := Lib.hid (X7.out.alloc _).drew
                        have HZa : Hid (Kb (w7.alloc (.cells #[] 42)).drew (q + 1 + 1) 0 (.slice none 0 0)) := Lib.hid (Z7.out.alloc _).drew
                        have HBa : Hid (Below w7.heap.size w7 (w7.alloc (.cells #[] 42)).drew) := Lib.hid (bel_al (Below.refl _ _) (Nat.le_refl _) _).drew
                        have HM6 : Hid (([] ++ F : List Us).length = ln) := Lib.hid (by rw [List.nil_append]; exact HLN.out)
                        obtain ⟨x1, x2, -, -⟩ := X7.out.cells
                        obtain ⟨a1, a2, -, -⟩ := HXa.out.cells
                        go_region_law ((refine step_append_uss (by rfl) _ _ (by rfl) w7.heap.size _ [] (by rfl) HOa.out A c ln F HLN.out.symm (by rfl) HMa.out (by simp; omega) HBa.out.size ?_; intro v5 w5 hown5 hg5; have hX5 := HXa.out.grown HOa.out hg5; have hZ5 := HZa.out.grown HOa.out hg5; have hB5 := HBa.out.grown hg5 HBa.out.size (fun q hq => (HOa.out.lt q hq).1); obtain ⟨y1, y2, -, -⟩ := hX5.cells; obtain ⟨z1, z2, z3, z4⟩ := hZ5.cells; obtain ⟨A5, c5, rfl, hI5, -⟩ := uss_of_own hown5; rw [HM6.out] at hown5 ⊢))
                        all_goals
                          have O9 : OwnU w5 w7.heap.size (.slice A5 ln c5) F := hown5
                          have K10 := Lib.hid (hZ5.put2 r (.slice A5 ln c5))
                          have O10 := Lib.hid (O9.set2 (hZ5.own O9) (.int .i64 r) (.slice A5 ln c5))
                          have E10 : Hid (∀ w', Below w7.heap.size ((w5.setCell ⟨q + 1 + 1, 0, none⟩ (.int .i64 r)).setCell ⟨q + 1 + 1, 1, none⟩ (.slice A5 ln c5)) w' → KN q w' q (acR r F key) (acF r F key) ∧ KN q w' (q + 1) (rnR r F xs) (rnF r F xs)) := Lib.hid (fun w' hw => ⟨E7.out.later rfl (fun C d k1 k2 k3 => ⟨(k1.below hB5).set2 (by omega) _ _, (k2.below hB5).put2 (fun h0 a ha e => (k3 h0 a ha).2.2 e.symm) _ _⟩) hw, R7.out.later rfl (fun C d k1 k2 k3 => ⟨(k1.below hB5).set2 (by omega) _ _, (k2.below hB5).put2 (fun h0 a ha e => (k3 h0 a ha).2.2 e.symm) _ _⟩) hw⟩)
                          have HBq10 := Lib.hid (bel_set2 (HBq7.out.trans (hB5.mono (by have := Z7.out.lt; omega))) (p := q + 1 + 1) (by omega) (.int .i64 r) (.slice A5 ln c5))
                          have HSz := Lib.hid (bel_set2 (B := 0) (hB5.mono (Nat.zero_le _)) (p := q + 1 + 1) (Nat.zero_le _) (.int .i64 r) (.slice A5 ln c5)).size
                          clear hI5 hown5 hg5 hX5 hZ5 hB5 y1 y2 z1 z2 z3 z4 x1 x2 a1 a2 O9
                          go_wp2
                          go_meet
                          exact ⟨rfl, A5, c5, K10.out, O10.out, E10.out, HBq10.out, HSz.out⟩
                    case rest =>
                      as_aux_lemma =>
                        obtain ⟨rfl, A9, c9, hK, hO, hE, hB, hS⟩ := hcut
                        have K10 := Lib.hid hK
                        have O10 := Lib.hid hO
                        have E10 := Lib.hid hE
                        have HBq10 := Lib.hid hB
                        have HS10 := Lib.hid hS
                        have HQ7 : Hid (q + 1 + 1 < w7.heap.size) := Lib.hid Z7.out.lt
                        clear hK hO hE hB hS
                        generalize wc = w10 at *
                        go_wp2
                        go_loopw [29] (fun i wr => ∃ (k : Nat), k ≤ ln ∧ i = .int .i64 (k : Int) ∧ Kb wr (q + 1 + 1) r (.slice A9 ln c9) ∧ OwnU wr w7.heap.size (.slice A9 ln c9) (halfK F k) ∧ Below w7.heap.size w10 wr) (fun i _ => ln - (intOf i).toNat)
                        case atStart => exact ⟨0, by omega, rfl, K10.out, O10.out, Below.refl _ _⟩
                        case round =>
                          obtain ⟨k, hk, rfl, hkr, hor, hbr⟩ := hrel
                          have HKr := Lib.hid hkr
                          have HOr := Lib.hid hor
                          have HBr := Lib.hid hbr
                          clear hkr hor hbr
                          obtain ⟨x1, x2, -, -⟩ := HKr.out.cells
                          by_cases hlt : k < ln
                          · have hin : (k : Int) < (ln : Int) := by omega
                            have hiB : (0 : Int) ≤ (k : Int) := by omega
                            have HKL : Hid (k < F.length) := Lib.hid (by rw [HLN.out]; exact hlt)
                            obtain ⟨g, cc, e, hgb⟩ := HOr.out.form (by rw [halfK_len]; have := HKL.out; omega)
                            simp only [Value.slice.injEq] at e
                            obtain ⟨rfl, -, -⟩ := e
                            have HKk : Hid (k < (halfK F k).length) := Lib.hid (by rw [halfK_len]; exact HKL.out)
                            have HLe : Hid (ln = (halfK F k).length) := Lib.hid (by rw [halfK_len]; exact HLN.out.symm)
                            obtain ⟨z1, z2, z3, z4⟩ := HOr.out.cells HLe.out HKk.out
                            rw [halfK_at HKL.out] at z1 z2
                            have hc := HG.out.cnts _ (gu_mem HKL.out)
                            unfold okC at hc
                            have HO3 := Lib.hid (HOr.out.putU HLe.out HKk.out (max ((gu F k).cnt / 2) 1))
                            rw [halfK_at HKL.out, halfK_step HKL.out, Int.max_comm] at HO3
                            have hq : ((gu F k).cnt).tdiv 2 = (gu F k).cnt / 2 := Int.tdiv_eq_ediv_of_nonneg (by omega)
                            have hw : IntKind.i64.wrap ((gu F k).cnt / 2) = (gu F k).cnt / 2 := by rw [IntKind.wrap_i64]; omega
                            generalize (gu F k).cnt = cn at *
                            have HK3 := Lib.hid (HKr.out.other (a := ⟨g, k * 2 + 1, none⟩) (fun e => HKr.out.own HOr.out (by rw [e]; rfl)) (.int .i64 (max 1 (cn / 2))))
                            have HB3 := Lib.hid (bel_set HBr.out (a := ⟨g, k * 2 + 1, none⟩) hgb (.int .i64 (max 1 (cn / 2))))
                            clear hc
                            go_wp2_with fail
                            go_still_tail 13, (by kernel_rfl)
                            change wpList _ _ _ _ _ wr.drew
                            have HK4 := Lib.hid (Kb.drew HK3.out)
                            have HO4 := Lib.hid (OwnU.drew HO3.out)
                            have HB4 := Lib.hid (bel_drew HB3.out)
                            go_wp2
                            go_roundw
                            case rel => exact ⟨k + 1, by omega, by go_num, HK4.out, HO4.out, HB4.out⟩
                            case measure => simp [intOf]; omega
                          · obtain rfl : k = ln := by omega
                            have HOf : Hid (halfK F k = half F) := Lib.hid (halfK_all (by rw [HLN.out]; exact Nat.le_refl _))
                            rw [HOf.out] at HOr
                            obtain ⟨A4, c4, e4, hF4, hA4⟩ := uss_of_own HOr.out
                            simp only [Value.slice.injEq] at e4
                            obtain ⟨rfl, -, rfl⟩ := e4
                            have HF4 := Lib.hid hF4
                            have HA4 := Lib.hid hA4
                            clear hF4 hA4 hlt
                            have HCl := Lib.hid (ag_ok H0.out)
                            have HVi := Lib.hid (vi_ok H0.out)
                            have HEe := Lib.hid (E10.out _ HBr.out)
                            have HBe : Hid (Below q w4 wr) := Lib.hid (HBq10.out.trans (HBr.out.mono (by have := HQ7.out; omega)))
                            have HBw : Hid (Below w.heap.size w wr) := Lib.hid (HB4.out.trans (HBe.out.mono (by have := HQ4.out; omega)))
                            have HXr : Hid (Kb wr w.heap.size r (.slice A k c)) := Lib.hid (X4.out.belowB HBe.out HQ4.out)
                            have HLe := Lib.hid (fun (h0 : 0 < F.length) => least_any A c F wr (HI0.out.below HBw.out) h0 (by rw [HLN.out]; omega))
                            rw [HLN.out] at HVi HLe
                            obtain ⟨y1, y2, -, -⟩ := HXr.out.cells
                            have HKN : Hid (KN q wr (q + 1 + 1) (agR r F) (agF r F)) := Lib.hid (by
                              obtain ⟨c1, c3⟩ := HCl.out
                              exact ⟨A9, c9, by rw [c1, c3, half_len, HLN.out]; exact HKr.out, by rw [c3]; exact HF4.out, fun _ a ha => by have := HA4.out a ha; have := HQ7.out; exact ⟨by omega, by omega, by omega⟩⟩)
                            by_cases hz : k = 0
                            · subst hz
                              have HV0 := Lib.hid (HVi.out.1 rfl)
                              clear HVi HLe
                              go_wp2
                              go_meet
                              exact ⟨rfl, by rw [HEr.out], by rw [HV0.out.1], rfl, rfl, rfl, by rw [HV0.out.2], HEe.out.1, HEe.out.2, HKN.out, HBe.out⟩
                            · have hz2 : ((k : Int) == 0) = false := by simpa using hz
                              have HV0 := Lib.hid (HVi.out.2 (by omega))
                              have HLl := Lib.hid (HLe.out (by omega))
                              clear HVi HLe hz
                              generalize (gu F (vicN F)).key = ky at *
                              go_wp2_with fail
                              refine HLl.out.mono ?_
                              rintro e w12 ⟨rfl, hb12⟩
                              have HFin : Hid (KN q w12 q (acR r F key) (acF r F key) ∧ KN q w12 (q + 1) (rnR r F xs) (rnF r F xs) ∧ KN q w12 (q + 1 + 1) (agR r F) (agF r F) ∧ Below q w4 w12) := Lib.hid ⟨HEe.out.1.below hb12, HEe.out.2.below hb12, HKN.out.below hb12, HBe.out.trans (hb12.mono (by have := HKr.out.lt; omega))⟩
                              clear hb12
                              go_wp2
                              go_meet
                              exact ⟨rfl, by rw [HEr.out], by rw [HV0.out.1, H0.out], rfl, rfl, rfl, by rw [HV0.out.2], HFin.out⟩
      · have HE := Lib.hid (bad_all (key := key) (xs := xs) h0)
        have qc : (checkK r F == 0) = false := by simpa using h0
        clear h0
        go_wp2
        go_meet
        obtain ⟨e1, e2, e3, e4, e5, e6, e7, e8, e9, e10, e11, e12, e13⟩ := HE.out
        refine ⟨by rw [e1], by rw [e2], by rw [e3], by rw [e4], by rw [e5], by rw [e6], by rw [e7], ?_, ?_, ?_, HZZ.out.2.2.2⟩
        · rw [e8, e9]; exact KN.zero HZZ.out.1
        · rw [e10, e11]; exact KN.zero HZZ.out.2.1
        · rw [e12, e13]; exact KN.zero HZZ.out.2.2.1
  case rest =>
    as_aux_lemma =>
      obtain ⟨rfl, rfl, rfl, rfl, rfl, rfl, rfl, ⟨Ba, da, ka, fa, -⟩, ⟨Bb, db, kb, fb, -⟩, ⟨Bc, dc, kc, fc, -⟩, hb⟩ := hcut
      have hb' : Below w4.heap.size w4 wc := by rw [HQ.out]; exact hb
      have X6 := Lib.hid (X4.out.below hb')
      have P6 := Lib.hid (And.intro (P4.out.1.below hb') (P4.out.2.below hb'))
      have U6 := Lib.hid (And.intro (U4.out.1.below hb') (U4.out.2.below hb'))
      have V6 := Lib.hid (And.intro (V4.out.1.below hb') (V4.out.2.below hb'))
      have T6 := Lib.hid (And.intro ka fa)
      have R6 := Lib.hid (And.intro kb fb)
      have S6 := Lib.hid (And.intro kc fc)
      have HB6 : Hid (Below w.heap.size w wc) := Lib.hid (HB4.out.trans (hb'.mono HB4.out.size))
      clear ka fa kb fb kc fc hb hb'
      go_wp2_with fail
      refine (begun_any _).mono ?_
      rintro e w7 ⟨rfl, hb7⟩
      have X7 := Lib.hid (X6.out.below hb7)
      have P7 := Lib.hid (And.intro (P6.out.1.below hb7) (P6.out.2.below hb7))
      have U7 := Lib.hid (And.intro (U6.out.1.below hb7) (U6.out.2.below hb7))
      have V7 := Lib.hid (And.intro (V6.out.1.below hb7) (V6.out.2.below hb7))
      have T7 := Lib.hid (And.intro (T6.out.1.below hb7) (T6.out.2.below hb7))
      have R7 := Lib.hid (And.intro (R6.out.1.below hb7) (R6.out.2.below hb7))
      have S7 := Lib.hid (And.intro (S6.out.1.below hb7) (S6.out.2.below hb7))
      have HB7 : Hid (Below w.heap.size w w7) := Lib.hid (HB6.out.trans (hb7.mono HB6.out.size))
      clear hb7 X6 P6 U6 V6 T6 R6 S6 HB6
      obtain ⟨x1, x2, -, -⟩ := X7.out.cells
      go_wp2_with fail
      refine (HCk.out _ (HI0.out.below HB7.out)).mono ?_
      rintro e w8 ⟨rfl, hb8⟩
      have P8 := Lib.hid (And.intro (P7.out.1.below hb8) (P7.out.2.below hb8))
      have U8 := Lib.hid (And.intro (U7.out.1.below hb8) (U7.out.2.below hb8))
      have V8 := Lib.hid (And.intro (V7.out.1.below hb8) (V7.out.2.below hb8))
      have T8 := Lib.hid (And.intro (T7.out.1.below hb8) (T7.out.2.below hb8))
      have R8 := Lib.hid (And.intro (R7.out.1.below hb8) (R7.out.2.below hb8))
      have S8 := Lib.hid (And.intro (S7.out.1.below hb8) (S7.out.2.below hb8))
      have HB8 : Hid (Below w.heap.size w w8) := Lib.hid (HB7.out.trans (hb8.mono HB7.out.size))
      clear hb8 X7 P7 U7 V7 T7 R7 S7 HB7 x1 x2
      obtain ⟨x1, x2, -, -⟩ := P8.out.1.cells
      obtain ⟨y1, y2, -, -⟩ := T8.out.1.cells
      go_wp2_with fail
      refine (sameUses_eq _ B1 Ba k1 da (acF r F key) w8 P8.out.2 T8.out.2).mono ?_
      rintro e w9 ⟨rfl, hb9⟩
      have U9 := Lib.hid (And.intro (U8.out.1.below hb9) (U8.out.2.below hb9))
      have V9 := Lib.hid (And.intro (V8.out.1.below hb9) (V8.out.2.below hb9))
      have R9 := Lib.hid (And.intro (R8.out.1.below hb9) (R8.out.2.below hb9))
      have S9 := Lib.hid (And.intro (S8.out.1.below hb9) (S8.out.2.below hb9))
      have HB9 : Hid (Below w.heap.size w w9) := Lib.hid (HB8.out.trans (hb9.mono HB8.out.size))
      clear hb9 P8 U8 V8 T8 R8 S8 HB8 x1 x2 y1 y2
      obtain ⟨x1, x2, -, -⟩ := U9.out.1.cells
      obtain ⟨y1, y2, -, -⟩ := R9.out.1.cells
      go_wp2_with fail
      refine (sameUses_eq _ B2 Bb k2 db (rnF r F xs) w9 U9.out.2 R9.out.2).mono ?_
      rintro e w10 ⟨rfl, hb10⟩
      have V10 := Lib.hid (And.intro (V9.out.1.below hb10) (V9.out.2.below hb10))
      have S10 := Lib.hid (And.intro (S9.out.1.below hb10) (S9.out.2.below hb10))
      have HB10 : Hid (Below w.heap.size w w10) := Lib.hid (HB9.out.trans (hb10.mono HB9.out.size))
      clear hb10 U9 V9 R9 S9 HB9 x1 x2 y1 y2
      obtain ⟨x1, x2, -, -⟩ := V10.out.1.cells
      obtain ⟨y1, y2, -, -⟩ := S10.out.1.cells
      go_wp2_with fail
      refine (sameUses_eq _ B3 Bc k3 dc (agF r F) w10 V10.out.2 S10.out.2).mono ?_
      rintro e w11 ⟨rfl, hb11⟩
      have HB11 : Hid (Below w.heap.size w w11) := Lib.hid (HB10.out.trans (hb11.mono HB10.out.size))
      clear hb11 V10 S10 HB10 x1 x2 y1 y2
      go_wp2
      go_ret
      exact ⟨rfl, HB11.out⟩

end Go.Proofs.Ytdliacdmoeogcaa.Lfu
