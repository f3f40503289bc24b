/-
  The walk of the law that compares package clock with its reference.
-/
import Derived.Test.YtdcimkllonflkaaClockRef3
import Derived.Deep.DeepCutAuto
namespace Go.Proofs.Ytdcimkllonflkaa.Clk
open Go.RowKit Go.Maps
open Lru (isRm isK keysE keysE_zero traceE trace_zero ints_lit)
set_option linter.unusedVariables false
set_option maxRecDepth 100000

theorem copy_any2 (A : Option Addr) (c : Nat) (F : List Fr) (w : World) (h : Frs w A c F) (hs : F.length ≤ 1048576) :
    Calls Try.prog 15 #[.slice A F.length c] w fun e w' => ∃ A' c', e = .returned (.slice A' F.length c') ∧ OwnF w' w.heap.size (.slice A' F.length c') F ∧ Below w.heap.size w w' :=
  (copy_any A c F w h hs).mono (fun e w' ⟨v, h1, h2, h3⟩ => by
    obtain ⟨A', c', rfl, -, -⟩ := frs_of_own h2
    exact ⟨A', c', h1, h2, h3⟩)
/-- A variable with a clock whose frames lie in none of three variables. -/
def KN (q : Nat) (w : World) (p : Nat) (r h : Int) (F : List Fr) : Prop :=
  ∃ B d, Kb w p r h (.slice B F.length d) ∧ Frs w B d F ∧ (0 < F.length → ∀ a, B = some a → a.block ≠ q ∧ a.block ≠ q + 1 ∧ a.block ≠ q + 1 + 1)
theorem KN.below {q : Nat} {w w' : World} {p : Nat} {r h : Int} {F : List Fr} (k : KN q w p r h F) (hb : Below w.heap.size w w') : KN q w' p r h F := by
  obtain ⟨B, d, k1, k2, k3⟩ := k
  exact ⟨B, d, k1.below hb, k2.below hb, k3⟩
theorem KN.set3 {q : Nat} {w : World} {p v : Nat} {r h : Int} {F : List Fr} (k : KN q w p r h F) (hp : p ≠ v) (hv : v = q ∨ v = q + 1 ∨ v = q + 1 + 1) (a b c : Value) : KN q (((w.setCell ⟨v, 0, none⟩ a).setCell ⟨v, 1, none⟩ b).setCell ⟨v, 2, none⟩ c) p r h F := by
  obtain ⟨B, d, k1, k2, k3⟩ := k
  refine ⟨B, d, ((k1.other (a := ⟨v, 0, none⟩) hp a).other (a := ⟨v, 1, none⟩) hp b).other (a := ⟨v, 2, none⟩) hp c, k2.put3 (fun h0 a ha e => ?_) _ _ _, k3⟩
  obtain ⟨h1, h2, h3⟩ := k3 h0 a ha
  rcases hv with rfl | rfl | rfl
  · exact h1 e.symm
  · exact h2 e.symm
  · exact h3 e.symm
theorem KN.zero {q : Nat} {w : World} {p : Nat} (k : Kb w p 0 0 (.slice none 0 0)) : KN q w p 0 0 [] := ⟨none, 0, k, Frs.none_ _, fun h => absurd h (by simp)⟩
theorem Kb.set3 {w : World} {p v : Nat} {r h : Int} {u : Value} (k : Kb w p r h u) (hp : p ≠ v) (a b c : Value) : Kb (((w.setCell ⟨v, 0, none⟩ a).setCell ⟨v, 1, none⟩ b).setCell ⟨v, 2, none⟩ c) p r h u :=
  ((k.other (a := ⟨v, 0, none⟩) hp a).other (a := ⟨v, 1, none⟩) hp b).other (a := ⟨v, 2, none⟩) hp c

theorem Frs.belowB {w w' : World} {A : Option Addr} {c B : Nat} {F : List Fr} (h : Frs w A c F) (hA : 0 < F.length → ∀ a, A = some a → a.block < B) (hb : Below B w w') : Frs w' A c F :=
  ⟨h.1, h.2.1, h.2.2.1, fun hl => by obtain ⟨b, o, e, ht⟩ := h.2.2.2 hl; exact ⟨b, o, e, ht.below (hA hl _ e) hb⟩⟩
/-- Such a variable in a later world: all below B is as it was. -/
theorem KN.later {q : Nat} {w0 w w' : World} {p B : Nat} {r h : Int} {F : List Fr} (k : KN q w0 p r h F) (hB : B = w0.heap.size) (hw : ∀ C d, Kb w0 p r h (.slice C F.length d) → Frs w0 C d F → (0 < F.length → ∀ a, C = some a → a.block ≠ q ∧ a.block ≠ q + 1 ∧ a.block ≠ q + 1 + 1) → Kb w p r h (.slice C F.length d) ∧ Frs w C d F) (hb : Below B w w') : KN q w' p r h F := by
  subst hB
  obtain ⟨C, d, k1, k2, k3⟩ := k
  obtain ⟨l1, l2⟩ := hw C d k1 k2 k3
  exact ⟨C, d, l1.belowB hb k1.lt, l2.belowB (fun h0 a ha => k2.lt h0 a ha) hb, k3⟩

/-- Behind the reference's part. -/
def CutK (r h : Int) (F : List Fr) (key : Int) (xs : List Int) (q : Nat) (w4 : World) (s17 s18 s22 s23 s24 : Value) (wx : World) : Prop :=
  s17 = .int .i64 (acE r h F key) ∧ s18 = .int .i64 (rnE r h F xs) ∧ s22 = .bool (acH r h F key) ∧ s23 = .int .i64 (acG r h F key) ∧ s24 = .int .i64 (rnH r h F xs) ∧
  KN q wx q (acR r h F key) (acP r h F key) (acF r h F key) ∧ KN q wx (q + 1) (rnR r h F xs) (rnP r h F xs) (rnF r h F xs) ∧ KN q wx (q + 1 + 1) (clR r h F) (clP r h F) (clF r h F) ∧ Below q w4 wx
theorem bad_all {r h : Int} {F : List Fr} {key : Int} {xs : List Int} (e : checkK r h F ≠ 0) : acE r h F key = checkK r h F ∧ rnE r h F xs = checkK r h F ∧ acH r h F key = false ∧ acG r h F key = 0 ∧ rnH r h F xs = 0 ∧
    acR r h F key = 0 ∧ acP r h F key = 0 ∧ acF r h F key = [] ∧ rnR r h F xs = 0 ∧ rnP r h F xs = 0 ∧ rnF r h F xs = [] ∧ clR r h F = 0 ∧ clP r h F = 0 ∧ clF r h F = [] := by
  have e1 : acE r h F key = checkK r h F := by unfold acE; rw [if_neg e]
  have e2 : rnE r h F xs = checkK r h F := by unfold rnE; rw [if_neg e]
  have n1 : acE r h F key ≠ 0 := by rw [e1]; exact e
  have n2 : rnE r h F xs ≠ 0 := by rw [e2]; exact e
  refine ⟨e1, e2, ?_, ?_, ?_, ?_, ?_, ?_, ?_, ?_, ?_, ?_, ?_, ?_⟩
  · unfold acH; rw [if_neg n1]
  · unfold acG; rw [if_neg n1]
  · unfold rnH; rw [if_neg n2]
  · unfold acR; rw [if_neg n1]
  · unfold acP; rw [if_neg n1]
  · unfold acF; rw [if_neg n1]
  · unfold rnR; rw [if_neg n2]
  · unfold rnP; rw [if_neg n2]
  · unfold rnF; rw [if_neg n2]
  · unfold clR; rw [if_neg e]
  · unfold clP; rw [if_neg e]
  · unfold clF; rw [if_neg e]
theorem ac_bad {r h : Int} {F : List Fr} {key : Int} (h0 : checkK r h F = 0) (hk : ¬ isK key) : acE r h F key = 3 ∧ acH r h F key = false ∧ acG r h F key = 0 ∧ acR r h F key = 0 ∧ acP r h F key = 0 ∧ acF r h F key = [] := by
  have e : acE r h F key = 3 := by unfold acE; rw [if_pos h0, if_neg hk]
  have n : acE r h F key ≠ 0 := by rw [e]; decide
  exact ⟨e, by unfold acH; rw [if_neg n], by unfold acG; rw [if_neg n], by unfold acR; rw [if_neg n], by unfold acP; rw [if_neg n], by unfold acF; rw [if_neg n]⟩
theorem ac_ok {r : Int} {h : Nat} {F : List Fr} {key : Int} (h0 : checkK r (h : Int) F = 0) (hk : isK key) : acE r (h : Int) F key = 0 ∧ acH r (h : Int) F key = decide (key ∈ keys F) ∧ acG r (h : Int) F key = gone r (h, F) key ∧ acR r (h : Int) F key = r ∧ acP r (h : Int) F key = ((tch r (h, F) key).1 : Int) ∧ acF r (h : Int) F key = (tch r (h, F) key).2 := by
  have e : acE r (h : Int) F key = 0 := by unfold acE; rw [if_pos h0, if_pos hk]
  exact ⟨e, by unfold acH; rw [if_pos e], by unfold acG; rw [if_pos e, Int.toNat_natCast], by unfold acR; rw [if_pos e], by unfold acP; rw [if_pos e, Int.toNat_natCast], by unfold acF; rw [if_pos e, Int.toNat_natCast]⟩
theorem rn_bad {r h : Int} {F : List Fr} {xs : List Int} (h0 : checkK r h F = 0) (ht : traceE xs ≠ 0) : rnE r h F xs = traceE xs ∧ rnH r h F xs = 0 ∧ rnR r h F xs = 0 ∧ rnP r h F xs = 0 ∧ rnF r h F xs = [] := by
  have e : rnE r h F xs = traceE xs := by unfold rnE; rw [if_pos h0]
  have n : rnE r h F xs ≠ 0 := by rw [e]; exact ht
  exact ⟨e, by unfold rnH; rw [if_neg n], by unfold rnR; rw [if_neg n], by unfold rnP; rw [if_neg n], by unfold rnF; rw [if_neg n]⟩
theorem rn_ok {r : Int} {h : Nat} {F : List Fr} {xs : List Int} (h0 : checkK r (h : Int) F = 0) (ht : traceE xs = 0) : rnE r (h : Int) F xs = traceE xs ∧ rnH r (h : Int) F xs = (hitsC r (h, F) xs : Int) ∧ rnR r (h : Int) F xs = r ∧ rnP r (h : Int) F xs = ((runC r (h, F) xs).1 : Int) ∧ rnF r (h : Int) F xs = (runC r (h, F) xs).2 := by
  have e : rnE r (h : Int) F xs = traceE xs := by unfold rnE; rw [if_pos h0]
  have n : rnE r (h : Int) F xs = 0 := by rw [e]; exact ht
  exact ⟨e, by unfold rnH; rw [if_pos n, Int.toNat_natCast], by unfold rnR; rw [if_pos n], by unfold rnP; rw [if_pos n, Int.toNat_natCast], by unfold rnF; rw [if_pos n, Int.toNat_natCast]⟩
theorem cl_ok {r h : Int} {F : List Fr} (h0 : checkK r h F = 0) : clR r h F = r ∧ clP r h F = h ∧ clF r h F = off F := ⟨by unfold clR; rw [if_pos h0], by unfold clP; rw [if_pos h0], by unfold clF; rw [if_pos h0]⟩

set_option maxHeartbeats 20000000 in
theorem clockSpec_walk (r h : Int) (A : Option Addr) (c : Nat) (F : List Fr) (key : Int) (A1 : Option Addr) (c1 : Nat) (xs : List Int) (w : World) (hI : Frs w A c F) (hJ : Ints w A1 c1 xs) :
    Calls Try.prog 3 #[kv r h (.slice A F.length c), .int .i64 key, .slice A1 xs.length c1] w fun e w' => e = .returned (.bool true) ∧ Below w.heap.size w w' := by
  have X0 := Lib.hid (Kb.new w r h (.slice A F.length c))
  have HB0 : Hid (Below w.heap.size w (w.alloc (ko r h (.slice A F.length c)))) := Lib.hid (bel_al (Below.refl _ _) (Nat.le_refl _) _)
  have HJ := Lib.hid hJ
  have HI0 := Lib.hid hI
  have HA := Lib.hid (fun (W : World) (a : Frs W A c F) => access_any r h A c F key W a)
  have HR := Lib.hid (fun (W : World) (a : Frs W A c F) (b : Ints W A1 c1 xs) => run_any r h A c F A1 c1 xs W a b)
  have HL := Lib.hid (fun (W : World) (a : Frs W A c F) => clear_any r h A c F W a)
  have HCk := Lib.hid (fun (W : World) (a : Frs W A c F) => check_any r h A c F W a)
  have HCr := Lib.hid (fun (W : World) (a : Frs W A c F) => clockCheck_any r h A c F W a)
  have HTc := Lib.hid (fun (W : World) (b : Ints W A1 c1 xs) => Lru.traceCheck_any A1 c1 xs W b)
  unfold AR at HA
  unfold NR at HR
  unfold LR at HL
  clear hI hJ
  obtain ⟨x1, x2, x3, -, -, -⟩ := X0.out.cells
  go_enter Try.func3, Try.ntmps3
  go_wp2_with fail
  refine (HA.out _ (HI0.out.below HB0.out)).mono ?_
  rintro e w1 ⟨B1, k1, rfl, hI1, -, hb1⟩
  have X1 := Lib.hid ((X0.out.below hb1).alloc (ko (acR r h F key) (acP r h F key) (.slice B1 (acF r h F key).length k1)))
  have P1 := Lib.hid (And.intro (Kb.new w1 (acR r h F key) (acP r h F key) (.slice B1 (acF r h F key).length k1)) (hI1.alloc (ko (acR r h F key) (acP r h F key) (.slice B1 (acF r h F key).length k1))))
  have HB1 : Hid (Below w.heap.size w (w1.alloc (ko (acR r h F key) (acP r h F key) (.slice B1 (acF r h F key).length k1)))) := Lib.hid (bel_al (HB0.out.trans (hb1.mono HB0.out.size)) (Nat.le_trans HB0.out.size hb1.size) _)
  clear hI1 hb1 x1 x2 x3
  obtain ⟨x1, x2, x3, -, -, -⟩ := X1.out.cells
  go_wp2_with fail
  refine (HR.out _ (HI0.out.below HB1.out) (HJ.out.below HB1.out)).mono ?_
  rintro e w2 ⟨B2, k2, rfl, hI2, -, hb2⟩
  have X2 := Lib.hid ((X1.out.below hb2).alloc (ko (rnR r h F xs) (rnP r h F xs) (.slice B2 (rnF r h F xs).length k2)))
  have P2 := Lib.hid (And.intro ((P1.out.1.below hb2).alloc (ko (rnR r h F xs) (rnP r h F xs) (.slice B2 (rnF r h F xs).length k2))) ((P1.out.2.below hb2).alloc (ko (rnR r h F xs) (rnP r h F xs) (.slice B2 (rnF r h F xs).length k2))))
  have U2 := Lib.hid (And.intro (Kb.new w2 (rnR r h F xs) (rnP r h F xs) (.slice B2 (rnF r h F xs).length k2)) (hI2.alloc (ko (rnR r h F xs) (rnP r h F xs) (.slice B2 (rnF r h F xs).length k2))))
  have HB2 : Hid (Below w.heap.size w (w2.alloc (ko (rnR r h F xs) (rnP r h F xs) (.slice B2 (rnF r h F xs).length k2)))) := Lib.hid (bel_al (HB1.out.trans (hb2.mono HB1.out.size)) (Nat.le_trans HB1.out.size hb2.size) _)
  clear hI2 hb2 x1 x2 x3
  obtain ⟨x1, x2, x3, -, -, -⟩ := X2.out.cells
  go_wp2_with fail
  refine (HL.out _ (HI0.out.below HB2.out)).mono ?_
  rintro e w3 ⟨B3, k3, rfl, hI3, -, hb3⟩
  have X3 := Lib.hid ((X2.out.below hb3).alloc (ko (clR r h F) (clP r h F) (.slice B3 (clF r h F).length k3)))
  have P3 := Lib.hid (And.intro ((P2.out.1.below hb3).alloc (ko (clR r h F) (clP r h F) (.slice B3 (clF r h F).length k3))) ((P2.out.2.below hb3).alloc (ko (clR r h F) (clP r h F) (.slice B3 (clF r h F).length k3))))
  have U3 := Lib.hid (And.intro ((U2.out.1.below hb3).alloc (ko (clR r h F) (clP r h F) (.slice B3 (clF r h F).length k3))) ((U2.out.2.below hb3).alloc (ko (clR r h F) (clP r h F) (.slice B3 (clF r h F).length k3))))
  have V3 := Lib.hid (And.intro (Kb.new w3 (clR r h F) (clP r h F) (.slice B3 (clF r h F).length k3)) (hI3.alloc (ko (clR r h F) (clP r h F) (.slice B3 (clF r h F).length k3))))
  have HB3 : Hid (Below w.heap.size w (w3.alloc (ko (clR r h F) (clP r h F) (.slice B3 (clF r h F).length k3)))) := Lib.hid (bel_al (HB2.out.trans (hb3.mono HB2.out.size)) (Nat.le_trans HB2.out.size hb3.size) _)
  clear hI3 hb3 x1 x2 x3
  obtain ⟨x1, x2, x3, -, -, -⟩ := X3.out.cells
  go_wp2_with fail
  refine (HCr.out _ (HI0.out.below HB3.out)).mono ?_
  rintro e w4 ⟨rfl, hb4⟩
  have X4 := Lib.hid (X3.out.below hb4)
  have P4 := Lib.hid (And.intro (P3.out.1.below hb4) (P3.out.2.below hb4))
  have U4 := Lib.hid (And.intro (U3.out.1.below hb4) (U3.out.2.below hb4))
  have V4 := Lib.hid (And.intro (V3.out.1.below hb4) (V3.out.2.below hb4))
  have HB4 : Hid (Below w.heap.size w w4) := Lib.hid (HB3.out.trans (hb4.mono HB3.out.size))
  clear hb4 x1 x2 x3 X1 X2 X3 P1 P2 P3 U2 U3 V3 HB1 HB2 HB3
  generalize w1.heap.size = p1 at *
  generalize w2.heap.size = p2 at *
  generalize w3.heap.size = p3 at *
  have HZZ : Hid (Kb (((w4.alloc zk).alloc zk).alloc zk) w4.heap.size 0 0 (.slice none 0 0) ∧ Kb (((w4.alloc zk).alloc zk).alloc zk) (w4.heap.size + 1) 0 0 (.slice none 0 0) ∧ Kb (((w4.alloc zk).alloc zk).alloc zk) (w4.heap.size + 1 + 1) 0 0 (.slice none 0 0) ∧ Below w4.heap.size w4 (((w4.alloc zk).alloc zk).alloc zk)) := Lib.hid (by
    have h1 := Kb.new (w4.alloc zk) 0 0 (.slice none 0 0)
    rw [show (w4.alloc zk).heap.size = w4.heap.size + 1 by simp] at h1
    have h2 := Kb.new ((w4.alloc zk).alloc zk) 0 0 (.slice none 0 0)
    rw [show ((w4.alloc zk).alloc zk).heap.size = w4.heap.size + 1 + 1 by simp] at h2
    exact ⟨((Kb.new w4 0 0 _).alloc _).alloc _, h1.alloc _, h2, bel_al (bel_al (bel_al (Below.refl _ _) (Nat.le_refl _) _) (by simp) _) (by simp; omega) _⟩)
  go_upto_if 51 with fail
  generalize (((w4.alloc zk).alloc zk).alloc zk) = w5 at *
  generalize hq : w4.heap.size = q at *
  have HQ := Lib.hid hq
  clear hq
  go_cut [17, 18, 22, 23, 24] (fun s17 s18 s22 s23 s24 wx => CutK r h F key xs q w4 s17 s18 s22 s23 s24 wx)
  case first =>
    as_aux_lemma =>
      by_cases h0 : checkK r h F = 0
      · have H0 := Lib.hid h0
        have HG := Lib.hid (check_zero.1 h0)
        have qc : (checkK r h F == 0) = true := by simpa using h0
        have hb5' : Below w4.heap.size w4 w5 := by rw [HQ.out]; exact HZZ.out.2.2.2
        have X5 := Lib.hid (X4.out.below hb5')
        have HB5 : Hid (Below w.heap.size w w5) := Lib.hid (HB4.out.trans (hb5'.mono HB4.out.size))
        have HQ4 : Hid (w.heap.size ≤ q) := Lib.hid (by rw [← HQ.out]; exact HB4.out.size)
        have HAn : Hid (∀ p, w.heap.size ≤ p → 0 < F.length → ∀ a, A = some a → a.block ≠ p) := Lib.hid (fun p hp h1 a ha => by
          have := HI0.out.lt h1 a ha; omega)
        clear h0 hb5' HA HR HL HCk HCr P4 U4 V4
        obtain ⟨hn, rfl⟩ := HG.out.nat
        obtain ⟨bk, hbk⟩ : ∃ bk : Bool, bk = !decide (isK key) := ⟨_, rfl⟩
        have HBk := Lib.hid hbk
        clear hbk
        go_upto_region 9 with fail
        go_cut [57] (fun s57 wx => s57 = .bool bk ∧ w5 = wx)
        case first =>
          as_aux_lemma =>
            by_cases h1 : key < 0
            · have d1 : decide (key < 0) = true := by simpa using h1
              have HE : Hid (true = bk) := Lib.hid (by rw [HBk.out, decide_eq_false (fun h : isK key => by have := h.1; omega)]; rfl)
              clear h1
              go_wp2
              go_meet
              exact ⟨by rw [HE.out], rfl⟩
            · have d1 : decide (key < 0) = false := by simpa using h1
              have HE : Hid (decide (1048576 < key) = bk) := Lib.hid (by
                rw [HBk.out]
                by_cases h : 1048576 < key
                · rw [decide_eq_true h, decide_eq_false (fun h2 : isK key => by have := h2.2; omega)]; rfl
                · rw [decide_eq_false h, decide_eq_true (show isK key from ⟨by omega, by omega⟩)]; rfl)
              clear h1
              go_wp2
              go_meet
              exact ⟨by rw [HE.out], rfl⟩
        case rest =>
          as_aux_lemma =>
            obtain ⟨rfl, rfl⟩ := hcut
            go_upto_if 57 with fail
            go_cut [17, 22, 23] (fun s17 s22 s23 wx => s17 = .int .i64 (acE r (hn : Int) F key) ∧ s22 = .bool (acH r (hn : Int) F key) ∧ s23 = .int .i64 (acG r (hn : Int) F key) ∧ KN q wx q (acR r (hn : Int) F key) (acP r (hn : Int) F key) (acF r (hn : Int) F key) ∧ Kb wx (q + 1) 0 0 (.slice none 0 0) ∧ Kb wx (q + 1 + 1) 0 0 (.slice none 0 0) ∧ Below q w4 wx)
            case first =>
              as_aux_lemma =>
                by_cases hk : isK key
                · have d1 : bk = false := by rw [HBk.out]; simpa using hk
                  subst d1
                  have HE := Lib.hid (ac_ok H0.out hk)
                  have HTr := Lib.hid (touchRef_any r hn A c F key w5 (HI0.out.below HB5.out) HG.out)
                  unfold TR at HTr
                  clear hk
                  obtain ⟨T, hT⟩ : ∃ T, tch r (hn, F) key = T := ⟨_, rfl⟩
                  rw [hT] at HTr HE
                  clear hT
                  obtain ⟨lT, hlT⟩ : ∃ lT, T.2.length = lT := ⟨_, rfl⟩
                  have HLT := Lib.hid hlT
                  simp only [hlT] at HTr
                  clear hlT
                  obtain ⟨x1, x2, x3, -, -, -⟩ := X5.out.cells
                  go_wp2_with fail
                  refine HTr.out.mono ?_
                  rintro e w6 ⟨B6, k6, rfl, hI6, hA6, hb6⟩
                  have hz := HZZ.out.1.below hb6
                  have HK6 := Lib.hid (hz.put3 r (T.1 : Int) (.slice B6 lT k6))
                  have HF6 := Lib.hid (hI6.set3 (p := q) (fun a ha => by have := hA6 a ha; have := HZZ.out.1.lt; omega) (.int .i64 r) (.int .i64 (T.1 : Int)) (.slice B6 lT k6))
                  have HN6 : Hid (0 < T.2.length → ∀ a, B6 = some a → a.block ≠ q ∧ a.block ≠ q + 1 ∧ a.block ≠ q + 1 + 1) := Lib.hid (fun _ a ha => by have := hA6 a ha; have := HZZ.out.2.2.1.lt; exact ⟨by omega, by omega, by omega⟩)
                  have HY6 := Lib.hid (And.intro ((HZZ.out.2.1.below hb6).set3 (v := q) (by omega) (.int .i64 r) (.int .i64 (T.1 : Int)) (.slice B6 lT k6)) ((HZZ.out.2.2.1.below hb6).set3 (v := q) (by omega) (.int .i64 r) (.int .i64 (T.1 : Int)) (.slice B6 lT k6)))
                  have HB6 := Lib.hid (bel_set3 (HZZ.out.2.2.2.trans (hb6.mono (by have := HZZ.out.1.lt; omega))) (p := q) (Nat.le_refl _) (.int .i64 r) (.int .i64 (T.1 : Int)) (.slice B6 lT k6))
                  obtain ⟨z1, z2, z3, z4, z5, z6⟩ := hz.cells
                  clear hz hI6 hA6 hb6 x1 x2 x3
                  go_wp2
                  go_meet
                  obtain ⟨e1, e2, e3, e4, e5, e6⟩ := HE.out
                  exact ⟨by rw [e1, H0.out], by rw [e2], by rw [e3], ⟨B6, k6, by rw [e4, e5, e6, HLT.out]; exact HK6.out, by rw [e6]; exact HF6.out, by rw [e6]; exact HN6.out⟩, HY6.out.1, HY6.out.2, HB6.out⟩
                · have HE := Lib.hid (ac_bad H0.out hk)
                  have d1 : bk = true := by rw [HBk.out]; simpa using hk
                  subst d1
                  clear hk
                  go_wp2
                  go_meet
                  obtain ⟨e1, e2, e3, e4, e5, e6⟩ := HE.out
                  exact ⟨by rw [e1], by rw [e2], by rw [e3], by rw [e4, e5, e6]; exact KN.zero HZZ.out.1, HZZ.out.2.1, HZZ.out.2.2.1, HZZ.out.2.2.2⟩
            case rest =>
              as_aux_lemma =>
                obtain ⟨rfl, rfl, rfl, hX6, hz1, hz2, hb6⟩ := hcut
                have E6 := Lib.hid hX6
                have HZ6 := Lib.hid (And.intro hz1 hz2)
                have HBq6 := Lib.hid hb6
                have hb6' : Below w4.heap.size w4 wc := by rw [HQ.out]; exact hb6
                have X6 := Lib.hid (X4.out.below hb6')
                have HB6 : Hid (Below w.heap.size w wc) := Lib.hid (HB4.out.trans (hb6'.mono HB4.out.size))
                clear hX6 hz1 hz2 hb6 hb6'
                generalize wc = w6 at *
                go_wp2_with fail
                refine (HTc.out w6 (HJ.out.below HB6.out)).mono ?_
                rintro e w' ⟨rfl, rfl⟩
                go_upto_if 68 with fail
                go_cut [24] (fun s24 wx => s24 = .int .i64 (rnH r (hn : Int) F xs) ∧ KN q wx q (acR r (hn : Int) F key) (acP r (hn : Int) F key) (acF r (hn : Int) F key) ∧ KN q wx (q + 1) (rnR r (hn : Int) F xs) (rnP r (hn : Int) F xs) (rnF r (hn : Int) F xs) ∧ Kb wx (q + 1 + 1) 0 0 (.slice none 0 0) ∧ Below q w4 wx)
                case first =>
                  as_aux_lemma =>
                    by_cases ht : traceE xs = 0
                    · have d1 : (traceE xs == 0) = true := by simpa using ht
                      have HE := Lib.hid (rn_ok H0.out ht)
                      have HT := Lib.hid (trace_zero.1 ht)
                      have HRr := Lib.hid (runRef_any r hn A A1 c c1 F xs w6 (HI0.out.below HB6.out) (HJ.out.below HB6.out) HG.out HT.out.2 HT.out.1)
                      clear ht
                      obtain ⟨T, hT⟩ : ∃ T, runC r (hn, F) xs = T := ⟨_, rfl⟩
                      rw [hT] at HRr HE
                      clear hT
                      obtain ⟨lT, hlT⟩ : ∃ lT, T.2.length = lT := ⟨_, rfl⟩
                      have HLT := Lib.hid hlT
                      simp only [hlT] at HRr
                      clear hlT
                      obtain ⟨x1, x2, x3, -, -, -⟩ := X6.out.cells
                      go_wp2_with fail
                      refine HRr.out.mono ?_
                      rintro e w7 ⟨B7, k7, rfl, hI7, hW7, hb7⟩
                      have hz := HZ6.out.1.below hb7
                      have HN7 : Hid (0 < T.2.length → ∀ a, B7 = some a → a.block ≠ q ∧ a.block ≠ q + 1 ∧ a.block ≠ q + 1 + 1) := Lib.hid (fun h0 a ha => by
                        rcases hW7 a ha with ⟨h1, h2⟩ | h1
                        · have hh := HAn.out
                          have hL : 0 < F.length := by rw [← h2]; exact h0
                          have hq := HQ4.out
                          exact ⟨hh q hq hL a h1, hh (q + 1) (by omega) hL a h1, hh (q + 1 + 1) (by omega) hL a h1⟩
                        · have := HZ6.out.2.lt; exact ⟨by omega, by omega, by omega⟩)
                      have HK7 := Lib.hid (hz.put3 r (T.1 : Int) (.slice B7 lT k7))
                      have HF7 := Lib.hid (hI7.put3 (p := q + 1) (fun h0 a ha => fun e => (HN7.out h0 a ha).2.1 e.symm) (.int .i64 r) (.int .i64 (T.1 : Int)) (.slice B7 lT k7))
                      have HE7 := Lib.hid ((E6.out.below hb7).set3 (v := q + 1) (by omega) (.inr (.inl rfl)) (.int .i64 r) (.int .i64 (T.1 : Int)) (.slice B7 lT k7))
                      have HZ7 := Lib.hid ((HZ6.out.2.below hb7).set3 (v := q + 1) (by omega) (.int .i64 r) (.int .i64 (T.1 : Int)) (.slice B7 lT k7))
                      have HB7 := Lib.hid (bel_set3 (HBq6.out.trans (hb7.mono (by have := HZ6.out.1.lt; omega))) (p := q + 1) (by omega) (.int .i64 r) (.int .i64 (T.1 : Int)) (.slice B7 lT k7))
                      obtain ⟨z1, z2, z3, z4, z5, z6⟩ := hz.cells
                      clear hz hI7 hW7 hb7 x1 x2 x3
                      go_wp2
                      go_meet
                      obtain ⟨e1, e2, e3, e4, e5⟩ := HE.out
                      exact ⟨by rw [e2], HE7.out, ⟨B7, k7, by rw [e3, e4, e5, HLT.out]; exact HK7.out, by rw [e5]; exact HF7.out, by rw [e5]; exact HN7.out⟩, HZ7.out, HB7.out⟩
                    · have d1 : (traceE xs == 0) = false := by simpa using ht
                      have HE := Lib.hid (rn_bad H0.out ht)
                      clear ht
                      go_wp2
                      go_meet
                      obtain ⟨e1, e2, e3, e4, e5⟩ := HE.out
                      exact ⟨by rw [e2], E6.out, by rw [e3, e4, e5]; exact KN.zero HZ6.out.1, HZ6.out.2, HBq6.out⟩
                case rest =>
                  as_aux_lemma =>
                    obtain ⟨rfl, hE7, hR7, hz7, hb7⟩ := hcut
                    have E7 := Lib.hid hE7
                    have R7 := Lib.hid hR7
                    have Z7 := Lib.hid hz7
                    have HBq7 := Lib.hid hb7
                    have hb7' : Below w4.heap.size w4 wc := by rw [HQ.out]; exact hb7
                    have X7 := Lib.hid (X4.out.below hb7')
                    have HB7 : Hid (Below w.heap.size w wc) := Lib.hid (HB4.out.trans (hb7'.mono HB4.out.size))
                    have HEr : Hid (rnE r (hn : Int) F xs = traceE xs) := Lib.hid (by unfold rnE; rw [if_pos H0.out])
                    clear hE7 hR7 hz7 hb7 hb7'
                    generalize wc = w7 at *
                    have hl40 := HG.out.len40
                    have HCp := Lib.hid (copy_any2 A c F w7.drew (HI0.out.below (HB7.out.drew)) (by omega))
                    obtain ⟨ln, hln⟩ : ∃ ln, F.length = ln := ⟨_, rfl⟩
                    have HLN := Lib.hid hln
                    rw [hln] at HCp X7 hl40
                    clear hln
                    have HS : Hid (∀ W, Below w7.heap.size w7 W → W.cell? ⟨w.heap.size, 0, none⟩ = some (.int .i64 r) ∧ W.cell? ⟨w.heap.size, 1, none⟩ = some (.int .i64 (hn : Int)) ∧ W.cell? ⟨w.heap.size, 2, none⟩ = some (.slice A ln c) ∧ W.cell? ⟨q + 1 + 1, 0, none⟩ = some (Lru.rd W (q + 1 + 1) 0) ∧ W.cell? ⟨q + 1 + 1, 1, none⟩ = some (Lru.rd W (q + 1 + 1) 1) ∧ W.cell? ⟨q + 1 + 1, 2, none⟩ = some (Lru.rd W (q + 1 + 1) 2) ∧ W.frozen? ⟨q + 1 + 1, 0, none⟩ = false ∧ W.frozen? ⟨q + 1 + 1, 1, none⟩ = false ∧ W.frozen? ⟨q + 1 + 1, 2, none⟩ = false) := Lib.hid (fun W hW => by
                      obtain ⟨a1, a2, a3, -⟩ := (X7.out.below hW).cells
                      obtain ⟨b1, b2, b3, b4, b5, b6⟩ := (Z7.out.below hW).cells
                      exact ⟨a1, a2, a3, Lru.rd_of b1, Lru.rd_of b2, Lru.rd_of b3, b4, b5, b6⟩)
                    have HS2 : Hid (∀ W (v : Value), Below w7.heap.size w7 W → (((W.setCell ⟨q + 1 + 1, 0, none⟩ (.int .i64 r)).setCell ⟨q + 1 + 1, 1, none⟩ (.int .i64 (hn : Int))).setCell ⟨q + 1 + 1, 2, none⟩ v).cell? ⟨w.heap.size, 0, none⟩ = some (.int .i64 r) ∧ (((W.setCell ⟨q + 1 + 1, 0, none⟩ (.int .i64 r)).setCell ⟨q + 1 + 1, 1, none⟩ (.int .i64 (hn : Int))).setCell ⟨q + 1 + 1, 2, none⟩ v).cell? ⟨w.heap.size, 1, none⟩ = some (.int .i64 (hn : Int)) ∧ (((W.setCell ⟨q + 1 + 1, 0, none⟩ (.int .i64 r)).setCell ⟨q + 1 + 1, 1, none⟩ (.int .i64 (hn : Int))).setCell ⟨q + 1 + 1, 2, none⟩ v).cell? ⟨w.heap.size, 2, none⟩ = some (.slice A ln c) ∧ (((W.setCell ⟨q + 1 + 1, 0, none⟩ (.int .i64 r)).setCell ⟨q + 1 + 1, 1, none⟩ (.int .i64 (hn : Int))).setCell ⟨q + 1 + 1, 2, none⟩ v).cell? ⟨q + 1 + 1, 0, none⟩ = some (Lru.rd (((W.setCell ⟨q + 1 + 1, 0, none⟩ (.int .i64 r)).setCell ⟨q + 1 + 1, 1, none⟩ (.int .i64 (hn : Int))).setCell ⟨q + 1 + 1, 2, none⟩ v) (q + 1 + 1) 0) ∧ (((W.setCell ⟨q + 1 + 1, 0, none⟩ (.int .i64 r)).setCell ⟨q + 1 + 1, 1, none⟩ (.int .i64 (hn : Int))).setCell ⟨q + 1 + 1, 2, none⟩ v).cell? ⟨q + 1 + 1, 1, none⟩ = some (Lru.rd (((W.setCell ⟨q + 1 + 1, 0, none⟩ (.int .i64 r)).setCell ⟨q + 1 + 1, 1, none⟩ (.int .i64 (hn : Int))).setCell ⟨q + 1 + 1, 2, none⟩ v) (q + 1 + 1) 1) ∧ (((W.setCell ⟨q + 1 + 1, 0, none⟩ (.int .i64 r)).setCell ⟨q + 1 + 1, 1, none⟩ (.int .i64 (hn : Int))).setCell ⟨q + 1 + 1, 2, none⟩ v).cell? ⟨q + 1 + 1, 2, none⟩ = some (Lru.rd (((W.setCell ⟨q + 1 + 1, 0, none⟩ (.int .i64 r)).setCell ⟨q + 1 + 1, 1, none⟩ (.int .i64 (hn : Int))).setCell ⟨q + 1 + 1, 2, none⟩ v) (q + 1 + 1) 2) ∧ (((W.setCell ⟨q + 1 + 1, 0, none⟩ (.int .i64 r)).setCell ⟨q + 1 + 1, 1, none⟩ (.int .i64 (hn : Int))).setCell ⟨q + 1 + 1, 2, none⟩ v).frozen? ⟨q + 1 + 1, 0, none⟩ = false ∧ (((W.setCell ⟨q + 1 + 1, 0, none⟩ (.int .i64 r)).setCell ⟨q + 1 + 1, 1, none⟩ (.int .i64 (hn : Int))).setCell ⟨q + 1 + 1, 2, none⟩ v).frozen? ⟨q + 1 + 1, 1, none⟩ = false ∧ (((W.setCell ⟨q + 1 + 1, 0, none⟩ (.int .i64 r)).setCell ⟨q + 1 + 1, 1, none⟩ (.int .i64 (hn : Int))).setCell ⟨q + 1 + 1, 2, none⟩ v).frozen? ⟨q + 1 + 1, 2, none⟩ = false) := Lib.hid (fun W v hW => by
                      obtain ⟨a1, a2, a3, -⟩ := ((X7.out.below hW).set3 (v := q + 1 + 1) (by have := HQ4.out; omega) (.int .i64 r) (.int .i64 (hn : Int)) v).cells
                      obtain ⟨b1, b2, b3, b4, b5, b6⟩ := ((Z7.out.below hW).put3 r (hn : Int) v).cells
                      exact ⟨a1, a2, a3, Lru.rd_of b1, Lru.rd_of b2, Lru.rd_of b3, b4, b5, b6⟩)
                    go_upto_region 15 with fail
                    go_region_held3 (fun w' => w'.cell? ⟨w.heap.size, 0, none⟩ = some (.int .i64 r) ∧ w'.cell? ⟨w.heap.size, 1, none⟩ = some (.int .i64 (hn : Int)) ∧ w'.cell? ⟨w.heap.size, 2, none⟩ = some (.slice A ln c) ∧ w'.cell? ⟨q + 1 + 1, 0, none⟩ = some (Lru.rd w' (q + 1 + 1) 0) ∧ w'.cell? ⟨q + 1 + 1, 1, none⟩ = some (Lru.rd w' (q + 1 + 1) 1) ∧ w'.cell? ⟨q + 1 + 1, 2, none⟩ = some (Lru.rd w' (q + 1 + 1) 2) ∧ w'.frozen? ⟨q + 1 + 1, 0, none⟩ = false ∧ w'.frozen? ⟨q + 1 + 1, 1, none⟩ = false ∧ w'.frozen? ⟨q + 1 + 1, 2, none⟩ = false)
                      (first | exact HS2.out _ _ hb9 | exact HS.out _ hb9 | exact HS.out _ (Below.refl _ _).drew)
                      (first | (go_at_call 15; refine HCp.out.mono ?_; rintro e w9 ⟨A9, c9, rfl, ho9, hb9'⟩; have hb9 : Below w7.heap.size w7 w9 := (Below.refl _ _).drew.trans hb9'; have ho9' : OwnF w9 w7.heap.size (.slice A9 ln c9) F := ho9))
                    have O9 := Lib.hid ho9'
                    have Z9 := Lib.hid (Z7.out.below hb9)
                    have HBq9 : Hid (Below q w4 w9) := Lib.hid (HBq7.out.trans (hb9.mono (by have := Z7.out.lt; omega)))
                    have K10 := Lib.hid (Z9.out.put3 r (hn : Int) (.slice A9 ln c9))
                    have O10 := Lib.hid (O9.out.set3 (Z9.out.own O9.out) (.int .i64 r) (.int .i64 (hn : Int)) (.slice A9 ln c9))
                    have E10 : Hid (∀ w', Below w7.heap.size (((w9.setCell ⟨q + 1 + 1, 0, none⟩ (.int .i64 r)).setCell ⟨q + 1 + 1, 1, none⟩ (.int .i64 (hn : Int))).setCell ⟨q + 1 + 1, 2, none⟩ (.slice A9 ln c9)) w' → KN q w' q (acR r (hn : Int) F key) (acP r (hn : Int) F key) (acF r (hn : Int) F key) ∧ KN q w' (q + 1) (rnR r (hn : Int) F xs) (rnP r (hn : Int) F xs) (rnF r (hn : Int) F xs)) := Lib.hid (fun w' hw => ⟨E7.out.later rfl (fun C d k1 k2 k3 => ⟨(k1.below hb9).set3 (by omega) _ _ _, (k2.below hb9).put3 (fun h0 a ha e => (k3 h0 a ha).2.2 e.symm) _ _ _⟩) hw, R7.out.later rfl (fun C d k1 k2 k3 => ⟨(k1.below hb9).set3 (by omega) _ _ _, (k2.below hb9).put3 (fun h0 a ha e => (k3 h0 a ha).2.2 e.symm) _ _ _⟩) hw⟩)
                    have HBq10 := Lib.hid (bel_set3 HBq9.out (p := q + 1 + 1) (by omega) (.int .i64 r) (.int .i64 (hn : Int)) (.slice A9 ln c9))
                    have HQ7 : Hid (q + 1 + 1 < w7.heap.size) := Lib.hid Z7.out.lt
                    rename_i hHH
                    clear hHH ho9 ho9' hb9 hb9' HS HS2
                    generalize (((w9.setCell ⟨q + 1 + 1, 0, none⟩ (.int .i64 r)).setCell ⟨q + 1 + 1, 1, none⟩ (.int .i64 (hn : Int))).setCell ⟨q + 1 + 1, 2, none⟩ (.slice A9 ln c9)) = w10 at *
                    go_wp2
                    go_loopw [25] (fun i wr => ∃ (k : Nat), k ≤ ln ∧ i = .int .i64 (k : Int) ∧ Kb wr (q + 1 + 1) r (hn : Int) (.slice A9 ln c9) ∧ OwnF wr w7.heap.size (.slice A9 ln c9) (offK F k) ∧ Below w7.heap.size w10 wr) (fun i _ => ln - (intOf i).toNat)
                    case atStart => exact ⟨0, by omega, rfl, K10.out, O10.out, Below.refl _ _⟩
                    case round =>
                      obtain ⟨k, hk, rfl, hkr, hor, hbr⟩ := hrel
                      have HKr := Lib.hid hkr
                      have HOr := Lib.hid hor
                      have HBr := Lib.hid hbr
                      clear hkr hor hbr
                      obtain ⟨x1, x2, x3, -, -, -⟩ := HKr.out.cells
                      by_cases hlt : k < ln
                      · have hin : (k : Int) < (ln : Int) := by omega
                        have hiB : (0 : Int) ≤ (k : Int) := by omega
                        have HKL : Hid (k < F.length) := Lib.hid (by rw [HLN.out]; exact hlt)
                        obtain ⟨g, cc, e, hgb⟩ := HOr.out.form (by rw [offK_len]; have := HKL.out; omega)
                        simp only [Value.slice.injEq] at e
                        obtain ⟨rfl, -, -⟩ := e
                        have HKk : Hid (k < (offK F k).length) := Lib.hid (by rw [offK_len]; exact HKL.out)
                        have HLe : Hid (ln = (offK F k).length) := Lib.hid (by rw [offK_len]; exact HLN.out.symm)
                        obtain ⟨z1, z2, z3, z4⟩ := HOr.out.cells HLe.out HKk.out
                        have HO3 := Lib.hid (HOr.out.putU HLe.out HKk.out false)
                        rw [offK_step HKL.out] at HO3
                        have HK3 := Lib.hid (HKr.out.other (a := ⟨g, k * 2 + 1, none⟩) (fun e => HKr.out.own HOr.out (by rw [e]; rfl)) (.bool false))
                        have HB3 := Lib.hid (bel_set HBr.out (a := ⟨g, k * 2 + 1, none⟩) hgb (.bool false))
                        go_wp2
                        go_roundw
                        case rel => exact ⟨k + 1, by omega, by go_num, HK3.out, HO3.out, HB3.out⟩
                        case measure => simp [intOf]; omega
                      · obtain rfl : k = ln := by omega
                        have HOf : Hid (offK F k = off F) := Lib.hid (offK_all (by rw [HLN.out]; exact Nat.le_refl _))
                        rw [HOf.out] at HOr
                        obtain ⟨A4, c4, e4, hF4, hA4⟩ := frs_of_own HOr.out
                        simp only [Value.slice.injEq] at e4
                        obtain ⟨rfl, -, rfl⟩ := e4
                        have HF4 := Lib.hid hF4
                        have HA4 := Lib.hid hA4
                        clear hF4 hA4 hlt
                        have HCl := Lib.hid (cl_ok H0.out)
                        have HEe := Lib.hid (E10.out _ HBr.out)
                        have HBe : Hid (Below q w4 wr) := Lib.hid (HBq10.out.trans (HBr.out.mono (by have := HQ7.out; omega)))
                        go_wp2
                        go_meet
                        obtain ⟨c1, c2, c3⟩ := HCl.out
                        exact ⟨rfl, by rw [HEr.out], rfl, rfl, rfl, HEe.out.1, HEe.out.2, ⟨A9, c9, by rw [c1, c2, c3, show (off F).length = k by unfold off; rw [List.length_map]; exact HLN.out]; exact HKr.out, by rw [c3]; exact HF4.out, fun _ a ha => by have := HA4.out a ha; have := HQ7.out; exact ⟨by omega, by omega, by omega⟩⟩, HBe.out⟩
      · have HE := Lib.hid (bad_all (key := key) (xs := xs) h0)
        have qc : (checkK r h F == 0) = false := by simpa using h0
        clear h0
        go_wp2
        go_meet
        obtain ⟨e1, e2, e3, e4, e5, e6, e7, e8, e9, e10, e11, e12, e13, e14⟩ := HE.out
        refine ⟨by rw [e1], by rw [e2], by rw [e3], by rw [e4], by rw [e5], ?_, ?_, ?_, HZZ.out.2.2.2⟩
        · rw [e6, e7, e8]; exact KN.zero HZZ.out.1
        · rw [e9, e10, e11]; exact KN.zero HZZ.out.2.1
        · rw [e12, e13, e14]; exact KN.zero HZZ.out.2.2.1
  case rest =>
    as_aux_lemma =>
      obtain ⟨rfl, rfl, rfl, rfl, rfl, ⟨Ba, da, ka, fa, -⟩, ⟨Bb, db, kb, fb, -⟩, ⟨Bc, dc, kc, fc, -⟩, hb⟩ := hcut
      have hb' : Below w4.heap.size w4 wc := by rw [HQ.out]; exact hb
      have X6 := Lib.hid (X4.out.below hb')
      have P6 := Lib.hid (And.intro (P4.out.1.below hb') (P4.out.2.below hb'))
      have U6 := Lib.hid (And.intro (U4.out.1.below hb') (U4.out.2.below hb'))
      have V6 := Lib.hid (And.intro (V4.out.1.below hb') (V4.out.2.below hb'))
      have T6 := Lib.hid (And.intro ka fa)
      have R6 := Lib.hid (And.intro kb fb)
      have S6 := Lib.hid (And.intro kc fc)
      have HB6 : Hid (Below w.heap.size w wc) := Lib.hid (HB4.out.trans (hb'.mono HB4.out.size))
      clear ka fa kb fb kc fc hb hb'
      go_wp2_with fail
      refine (begun_any _).mono ?_
      rintro e w7 ⟨rfl, hb7⟩
      have X7 := Lib.hid (X6.out.below hb7)
      have P7 := Lib.hid (And.intro (P6.out.1.below hb7) (P6.out.2.below hb7))
      have U7 := Lib.hid (And.intro (U6.out.1.below hb7) (U6.out.2.below hb7))
      have V7 := Lib.hid (And.intro (V6.out.1.below hb7) (V6.out.2.below hb7))
      have T7 := Lib.hid (And.intro (T6.out.1.below hb7) (T6.out.2.below hb7))
      have R7 := Lib.hid (And.intro (R6.out.1.below hb7) (R6.out.2.below hb7))
      have S7 := Lib.hid (And.intro (S6.out.1.below hb7) (S6.out.2.below hb7))
      have HB7 : Hid (Below w.heap.size w w7) := Lib.hid (HB6.out.trans (hb7.mono HB6.out.size))
      clear hb7 X6 P6 U6 V6 T6 R6 S6 HB6
      obtain ⟨x1, x2, x3, -, -, -⟩ := X7.out.cells
      go_wp2_with fail
      refine (HCk.out _ (HI0.out.below HB7.out)).mono ?_
      rintro e w8 ⟨rfl, hb8⟩
      have P8 := Lib.hid (And.intro (P7.out.1.below hb8) (P7.out.2.below hb8))
      have U8 := Lib.hid (And.intro (U7.out.1.below hb8) (U7.out.2.below hb8))
      have V8 := Lib.hid (And.intro (V7.out.1.below hb8) (V7.out.2.below hb8))
      have T8 := Lib.hid (And.intro (T7.out.1.below hb8) (T7.out.2.below hb8))
      have R8 := Lib.hid (And.intro (R7.out.1.below hb8) (R7.out.2.below hb8))
      have S8 := Lib.hid (And.intro (S7.out.1.below hb8) (S7.out.2.below hb8))
      have HB8 : Hid (Below w.heap.size w w8) := Lib.hid (HB7.out.trans (hb8.mono HB7.out.size))
      clear hb8 X7 P7 U7 V7 T7 R7 S7 HB7 x1 x2 x3
      obtain ⟨x1, x2, x3, -, -, -⟩ := P8.out.1.cells
      obtain ⟨y1, y2, y3, -, -, -⟩ := T8.out.1.cells
      go_wp2_with fail
      refine (sameClock_eq _ _ B1 Ba k1 da (acF r h F key) w8 P8.out.2 T8.out.2).mono ?_
      rintro e w9 ⟨rfl, hb9⟩
      have U9 := Lib.hid (And.intro (U8.out.1.below hb9) (U8.out.2.below hb9))
      have V9 := Lib.hid (And.intro (V8.out.1.below hb9) (V8.out.2.below hb9))
      have R9 := Lib.hid (And.intro (R8.out.1.below hb9) (R8.out.2.below hb9))
      have S9 := Lib.hid (And.intro (S8.out.1.below hb9) (S8.out.2.below hb9))
      have HB9 : Hid (Below w.heap.size w w9) := Lib.hid (HB8.out.trans (hb9.mono HB8.out.size))
      clear hb9 P8 U8 V8 T8 R8 S8 HB8 x1 x2 x3 y1 y2 y3
      obtain ⟨x1, x2, x3, -, -, -⟩ := U9.out.1.cells
      obtain ⟨y1, y2, y3, -, -, -⟩ := R9.out.1.cells
      go_wp2_with fail
      refine (sameClock_eq _ _ B2 Bb k2 db (rnF r h F xs) w9 U9.out.2 R9.out.2).mono ?_
      rintro e w10 ⟨rfl, hb10⟩
      have V10 := Lib.hid (And.intro (V9.out.1.below hb10) (V9.out.2.below hb10))
      have S10 := Lib.hid (And.intro (S9.out.1.below hb10) (S9.out.2.below hb10))
      have HB10 : Hid (Below w.heap.size w w10) := Lib.hid (HB9.out.trans (hb10.mono HB9.out.size))
      clear hb10 U9 V9 R9 S9 HB9 x1 x2 x3 y1 y2 y3
      obtain ⟨x1, x2, x3, -, -, -⟩ := V10.out.1.cells
      obtain ⟨y1, y2, y3, -, -, -⟩ := S10.out.1.cells
      go_wp2_with fail
      refine (sameClock_eq _ _ B3 Bc k3 dc (clF r h F) w10 V10.out.2 S10.out.2).mono ?_
      rintro e w11 ⟨rfl, hb11⟩
      have HB11 : Hid (Below w.heap.size w w11) := Lib.hid (HB10.out.trans (hb11.mono HB10.out.size))
      clear hb11 V10 S10 HB10 x1 x2 x3 y1 y2 y3
      go_wp2
      go_ret
      exact ⟨rfl, HB11.out⟩

end Go.Proofs.Ytdcimkllonflkaa.Clk
