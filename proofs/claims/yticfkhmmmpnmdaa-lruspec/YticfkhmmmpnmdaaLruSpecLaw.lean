/-
  The walk of the law that compares package lru with its reference.
-/
import Derived.Test.YticfkhmmmpnmdaaLruRef3
namespace Go.Proofs.Yticfkhmmmpnmdaa.Lru
open Go.RowKit Go.Maps
set_option linter.unusedVariables false

theorem Zb.bx {w : World} {p : Nat} (h : Zb w p) : Bx w p 0 none 0 [] := ⟨h.lt, h.cells.1, h.cells.2.1, Ints.none_ _⟩
/-- The keys lie in none of the three variables. -/
def NB (q : Nat) (B : Option Addr) (L : List Int) : Prop := 0 < L.length → ∀ a, B = some a → a.block ≠ q ∧ a.block ≠ q + 1 ∧ a.block ≠ q + 1 + 1
theorem NB.none_ (q : Nat) : NB q none [] := fun h => absurd h (by simp)
theorem Bx.other {w : World} {p v : Nat} {r : Int} {B : Option Addr} {d : Nat} {L : List Int} (h : Bx w p r B d L) (hv : p ≠ v) (hn : 0 < L.length → ∀ a, B = some a → a.block ≠ v) (j : Nat) (u : Value) : Bx (w.setCell ⟨v, j, none⟩ u) p r B d L := by
  have hk : ∀ k, (w.setCell ⟨v, j, none⟩ u).cell? ⟨p, k, none⟩ = w.cell? ⟨p, k, none⟩ := fun k => World.cell?_of_block (w := w) (a := ⟨p, k, none⟩) (Below.heap_setCell w ⟨v, j, none⟩ u p hv)
  exact ⟨by simpa [World.setCell] using h.1, (hk 0).trans h.2.1, (hk 1).trans h.2.2.1, ints_set h.2.2.2 hn j u⟩
theorem Zb.put3 {w : World} {p : Nat} {r : Int} {A : Option Addr} {c : Nat} {L : List Int} (h : Zb w p) (hI : Ints w A c L) (hA : 0 < L.length → ∀ a, A = some a → a.block ≠ p) :
    Bx ((w.setCell ⟨p, 0, none⟩ (.int .i64 r)).setCell ⟨p, 1, none⟩ (.slice A L.length c)) p r A c L := by
  have hv := h.put2 (q := r) (.slice A L.length c)
  exact ⟨hv.lt, hv.cells.1, hv.cells.2.1, ints_set (ints_set hI hA 0 _) hA 1 _⟩
/-- The length of the slice in a variable. -/
def slotLen (w : World) (p : Nat) : Nat := match w.cell? ⟨p, 1, none⟩ with | some (.slice _ n _) => n | _ => 0
/-! ### All old blocks but one are as they were -/
theorem kp_bx {w w' : World} {b p : Nat} {r : Int} {B : Option Addr} {d : Nat} {L : List Int} (h : Bx w b r B d L) (hg : w.grownBy w' (some p)) (hb : b ≠ p) (hn : 0 < L.length → ∀ a, B = some a → a.block ≠ p) : Bx w' b r B d L := by
  have hk : ∀ q k, q < w.heap.size → q ≠ p → w'.cell? ⟨q, k, none⟩ = w.cell? ⟨q, k, none⟩ := fun q k hq hqp => World.cell?_of_block (w := w) (a := ⟨q, k, none⟩) (hg.block q hq (fun e => hqp (Option.some.inj e)))
  refine ⟨Nat.lt_of_lt_of_le h.1 hg.size, (hk _ _ h.1 hb).trans h.2.1, (hk _ _ h.1 hb).trans h.2.2.1, h.2.2.2.1, h.2.2.2.2.1, h.2.2.2.2.2.1, fun h0 => ?_⟩
  obtain ⟨bb, o, e, ht⟩ := h.2.2.2.2.2.2 h0
  exact ⟨bb, o, e, Nat.lt_of_lt_of_le ht.1 hg.size, fun i hi => (hk _ _ ht.1 (hn h0 _ e)).trans (ht.2 i hi)⟩
theorem kp_app {w w' w'' : World} {p : Nat} {ob : Option Nat} (h1 : w.grownBy w' (some p)) (h2 : w'.grownBy w'' ob) (hob : ∀ k, ob = some k → w.heap.size ≤ k) : w.grownBy w'' (some p) :=
  ⟨h2.os.trans h1.os, h2.tape.trans h1.tape, h2.output.trans h1.output, Nat.le_trans h1.size h2.size, fun k hk hne => (h2.block k (Nat.lt_of_lt_of_le hk h1.size) (fun e => by have := hob k e.symm; omega)).trans (h1.block k hk hne)⟩
theorem kp_al {w w' : World} {p : Nat} (h1 : w.grownBy w' (some p)) (o : Obj) : w.grownBy (w'.alloc o) (some p) :=
  have hb : Below w'.heap.size w' (w'.alloc o) := bel_al (Below.refl _ _) (Nat.le_refl _) _
  kp_app h1 (ob := none) ⟨hb.os, hb.tape, hb.output, hb.size, fun k hk _ => hb.block k hk⟩ (fun k e => by cases e)
theorem kp_set {w w' : World} {p : Nat} (h1 : w.grownBy w' (some p)) (j : Nat) (u : Value) : w.grownBy (w'.setCell ⟨p, j, none⟩ u) (some p) :=
  ⟨h1.os, h1.tape, h1.output, by simpa [World.setCell] using h1.size, fun k hk hne => (Below.heap_setCell w' ⟨p, j, none⟩ u k (fun e => hne (by rw [e]))).trans (h1.block k hk hne)⟩
theorem Ints.grown {w w' : World} {A : Option Addr} {c : Nat} {L : List Int} {q : Option Nat} (h : Ints w A c L) (hg : w.grownBy w' q) (hq : ∀ a, A = some a → q ≠ some a.block) : Ints w' A c L :=
  ⟨h.1, h.2.1, h.2.2.1, fun hl => by
    obtain ⟨b, o, e, h1, h2⟩ := h.2.2.2 hl
    exact ⟨b, o, e, Nat.lt_of_lt_of_le h1 hg.size, fun i hi => (World.cell?_of_block (w := w) (a := ⟨b, _, none⟩) (hg.block b h1 (fun e2 => hq _ e e2.symm))).trans (h2 i hi)⟩⟩
theorem ints_take {w : World} {A : Option Addr} {c : Nat} {L : List Int} (h : Ints w A c L) (k : Nat) : Ints w A c (L.take k) :=
  ⟨by rw [List.length_take]; have := h.1; omega, h.2.1, h.2.2.1, fun h0 => by
    rw [List.length_take] at h0
    obtain ⟨b, o, e, ht⟩ := h.2.2.2 (by omega)
    refine ⟨b, o, e, ht.1, fun i hi => ?_⟩
    rw [List.length_take] at hi
    rw [gi_take (by omega)]
    exact ht.2 i (by omega)⟩
theorem drop_rev {L : List Int} {n : Nat} (h : n < L.length) : (L.drop n).reverse = (L.drop (n + 1)).reverse ++ [gi L n] := by
  rw [List.drop_eq_getElem_cons h, List.reverse_cons, gi_get h]
theorem rz_bad {r : Int} {L : List Int} {room : Int} (h0 : checkC r L = 0) (h : ¬ isRm room) : rzE r L room = 3 ∧ rzO r L room = [] ∧ rzR r L room = 0 ∧ rzL r L room = [] := by
  have e : rzE r L room = 3 := by unfold rzE; rw [if_pos h0, if_neg h]
  have n : rzE r L room ≠ 0 := by rw [e]; decide
  exact ⟨e, by unfold rzO; rw [if_neg n], by unfold rzR; rw [if_neg n], by unfold rzL; rw [if_neg n]⟩
theorem rz_ok {r : Int} {L : List Int} {room : Int} (h0 : checkC r L = 0) (h : isRm room) : rzE r L room = 0 ∧ rzO r L room = (L.drop room.toNat).reverse ∧ rzR r L room = room ∧ rzL r L room = L.take room.toNat := by
  have e : rzE r L room = 0 := by unfold rzE; rw [if_pos h0, if_pos h]
  exact ⟨e, by unfold rzO; rw [if_pos e], by unfold rzR; rw [if_pos e], by unfold rzL; rw [if_pos e]⟩
/-- Behind the reference's part. -/
def CutL (r : Int) (L : List Int) (key : Int) (xs : List Int) (room : Int) (q : Nat) (w4 : World) (s20 s21 s22 s26 s27 s28 s29 : Value) (wx : World) : Prop :=
  s20 = .int .i64 (acE r L key) ∧ s21 = .int .i64 (rnE r L xs) ∧ s22 = .int .i64 (rzE r L room) ∧ s26 = .bool (acH r L key) ∧ s27 = .int .i64 (acG r L key) ∧ s28 = .int .i64 (rnH r L xs) ∧
  (∃ B d, s29 = .slice B (rzO r L room).length d ∧ Ints wx B d (rzO r L room)) ∧ (∃ B d, Bx wx q (acR r L key) B d (acL r L key)) ∧ (∃ B d, Bx wx (q + 1) (rnR r L xs) B d (rnL r L xs)) ∧ (∃ B d, Bx wx (q + 1 + 1) (rzR r L room) B d (rzL r L room)) ∧ Below q w4 wx
theorem bad_all {r : Int} {L : List Int} {key : Int} {xs : List Int} {room : Int} (h : checkC r L ≠ 0) : acE r L key = checkC r L ∧ rnE r L xs = checkC r L ∧ rzE r L room = checkC r L ∧ acH r L key = false ∧ acG r L key = 0 ∧ rnH r L xs = 0 ∧ rzO r L room = [] ∧ acR r L key = 0 ∧ acL r L key = [] ∧ rnR r L xs = 0 ∧ rnL r L xs = [] ∧ rzR r L room = 0 ∧ rzL r L room = [] := by
  have e1 : acE r L key = checkC r L := by unfold acE; rw [if_neg h]
  have e2 : rnE r L xs = checkC r L := by unfold rnE; rw [if_neg h]
  have e3 : rzE r L room = checkC r L := by unfold rzE; rw [if_neg h]
  have n1 : acE r L key ≠ 0 := by rw [e1]; exact h
  have n2 : rnE r L xs ≠ 0 := by rw [e2]; exact h
  have n3 : rzE r L room ≠ 0 := by rw [e3]; exact h
  refine ⟨e1, e2, e3, ?_, ?_, ?_, ?_, ?_, ?_, ?_, ?_, ?_, ?_⟩
  · unfold acH; rw [if_neg n1]
  · unfold acG; rw [if_neg n1]
  · unfold rnH; rw [if_neg n2]
  · unfold rzO; rw [if_neg n3]
  · unfold acR; rw [if_neg n1]
  · unfold acL; rw [if_neg n1]
  · unfold rnR; rw [if_neg n2]
  · unfold rnL; rw [if_neg n2]
  · unfold rzR; rw [if_neg n3]
  · unfold rzL; rw [if_neg n3]

theorem ac_bad {r : Int} {L : List Int} {key : Int} (h0 : checkC r L = 0) (h : ¬ isK key) : acE r L key = 3 ∧ acH r L key = false ∧ acG r L key = 0 ∧ acR r L key = 0 ∧ acL r L key = [] := by
  have e : acE r L key = 3 := by unfold acE; rw [if_pos h0, if_neg h]
  have n : acE r L key ≠ 0 := by rw [e]; decide
  exact ⟨e, by unfold acH; rw [if_neg n], by unfold acG; rw [if_neg n], by unfold acR; rw [if_neg n], by unfold acL; rw [if_neg n]⟩
theorem ac_ok {r : Int} {L : List Int} {key : Int} (h0 : checkC r L = 0) (h : isK key) : acE r L key = 0 ∧ acH r L key = decide (key ∈ L) ∧ acG r L key = gone r L key ∧ acR r L key = r ∧ acL r L key = touch r L key := by
  have e : acE r L key = 0 := by unfold acE; rw [if_pos h0, if_pos h]
  exact ⟨e, by unfold acH; rw [if_pos e], by unfold acG; rw [if_pos e], by unfold acR; rw [if_pos e], by unfold acL; rw [if_pos e]⟩
theorem rn_bad {r : Int} {L xs : List Int} (h0 : checkC r L = 0) (h : traceE xs ≠ 0) : rnE r L xs = traceE xs ∧ rnH r L xs = 0 ∧ rnR r L xs = 0 ∧ rnL r L xs = [] := by
  have e : rnE r L xs = traceE xs := by unfold rnE; rw [if_pos h0]
  have n : rnE r L xs ≠ 0 := by rw [e]; exact h
  exact ⟨e, by unfold rnH; rw [if_neg n], by unfold rnR; rw [if_neg n], by unfold rnL; rw [if_neg n]⟩
theorem rn_ok {r : Int} {L xs : List Int} (h0 : checkC r L = 0) (h : traceE xs = 0) : rnE r L xs = traceE xs ∧ rnH r L xs = (hitsM r L xs : Int) ∧ rnR r L xs = r ∧ rnL r L xs = runL r L xs := by
  have e : rnE r L xs = traceE xs := by unfold rnE; rw [if_pos h0]
  have n : rnE r L xs = 0 := by rw [e]; exact h
  exact ⟨e, by unfold rnH; rw [if_pos n], by unfold rnR; rw [if_pos n], by unfold rnL; rw [if_pos n]⟩

set_option maxHeartbeats 20000000 in
set_option maxRecDepth 100000 in
theorem lruSpec_walk (r : Int) (A : Option Addr) (c : Nat) (L : List Int) (key : Int) (A1 : Option Addr) (c1 : Nat) (xs : List Int) (room : Int) (w : World) (hI : Ints w A c L) (hJ : Ints w A1 c1 xs) :
    Calls Try.prog 3 #[cv r A c L, .int .i64 key, .slice A1 xs.length c1, .int .i64 room] w fun e w' => e = .returned (.bool true) ∧ Below w.heap.size w w' := by
  have X0 := Lib.hid (Bx.new (r := r) hI)
  have HB0 : Hid (Below w.heap.size w (w.alloc (co r A c L))) := Lib.hid (bel_al (Below.refl _ _) (Nat.le_refl _) _)
  have HJ := Lib.hid hJ
  have HI0 := Lib.hid hI
  have HA := Lib.hid (fun (W : World) (h : Ints W A c L) => access_any r A c L key W h)
  have HR := Lib.hid (fun (W : World) (h : Ints W A c L) (h' : Ints W A1 c1 xs) => run_any r A A1 c c1 L xs W h h')
  have HZ := Lib.hid (fun (W : World) (h : Ints W A c L) => resize_any r A c L room W h)
  unfold AR at HA
  unfold NR at HR
  unfold ZR at HZ
  clear hI hJ
  obtain ⟨-, x1, x2, -⟩ := X0.out
  go_enter Try.func3, Try.ntmps3
  go_wp2_with fail
  refine (HA.out _ X0.out.ints).mono ?_
  rintro e w1 ⟨B1, k1, rfl, hI1, -, hb1⟩
  have X1 := Lib.hid ((X0.out.below hb1).alloc (co (acR r L key) B1 k1 (acL r L key)))
  have P1 := Lib.hid (Bx.new (r := acR r L key) hI1)
  have HB1 : Hid (Below w.heap.size w (w1.alloc (co (acR r L key) B1 k1 (acL r L key)))) := Lib.hid (bel_al (HB0.out.trans (hb1.mono HB0.out.size)) (Nat.le_trans HB0.out.size hb1.size) _)
  clear hI1 hb1 x1 x2
  obtain ⟨-, x1, x2, -⟩ := X1.out
  go_wp2_with fail
  refine (HR.out _ X1.out.ints (HJ.out.below HB1.out)).mono ?_
  rintro e w2 ⟨B2, k2, rfl, hI2, -, hb2⟩
  have X2 := Lib.hid ((X1.out.below hb2).alloc (co (rnR r L xs) B2 k2 (rnL r L xs)))
  have P2 := Lib.hid ((P1.out.below hb2).alloc (co (rnR r L xs) B2 k2 (rnL r L xs)))
  have U2 := Lib.hid (Bx.new (r := rnR r L xs) hI2)
  have HB2 : Hid (Below w.heap.size w (w2.alloc (co (rnR r L xs) B2 k2 (rnL r L xs)))) := Lib.hid (bel_al (HB1.out.trans (hb2.mono HB1.out.size)) (Nat.le_trans HB1.out.size hb2.size) _)
  clear hI2 hb2 x1 x2
  obtain ⟨-, x1, x2, -⟩ := X2.out
  go_wp2_with fail
  refine (HZ.out _ X2.out.ints).mono ?_
  rintro e w3 ⟨B3, k3, D3, m3, rfl, hI3, hO3, -, -, hb3⟩
  have X3 := Lib.hid ((X2.out.below hb3).alloc (co (rzR r L room) B3 k3 (rzL r L room)))
  have P3 := Lib.hid ((P2.out.below hb3).alloc (co (rzR r L room) B3 k3 (rzL r L room)))
  have U3 := Lib.hid ((U2.out.below hb3).alloc (co (rzR r L room) B3 k3 (rzL r L room)))
  have V3 := Lib.hid (Bx.new (r := rzR r L room) hI3)
  have O3 := Lib.hid (hO3.alloc (co (rzR r L room) B3 k3 (rzL r L room)))
  have HB3 : Hid (Below w.heap.size w (w3.alloc (co (rzR r L room) B3 k3 (rzL r L room)))) := Lib.hid (bel_al (HB2.out.trans (hb3.mono HB2.out.size)) (Nat.le_trans HB2.out.size hb3.size) _)
  clear hI3 hO3 hb3 x1 x2
  obtain ⟨-, x1, x2, -⟩ := X3.out
  go_wp2_with fail
  refine (lruCheck_any r A c L _ X3.out.ints).mono ?_
  rintro e w4 ⟨rfl, hb4⟩
  have X4 := Lib.hid (X3.out.below hb4)
  have P4 := Lib.hid (P3.out.below hb4)
  have U4 := Lib.hid (U3.out.below hb4)
  have V4 := Lib.hid (V3.out.below hb4)
  have O4 := Lib.hid (O3.out.below hb4)
  have HB4 : Hid (Below w.heap.size w w4) := Lib.hid (HB3.out.trans (hb4.mono HB3.out.size))
  clear hb4 x1 x2 X1 X2 X3 P1 P2 P3 U2 U3 V3 O3 HB1 HB2 HB3
  generalize w1.heap.size = p1 at *
  generalize w2.heap.size = p2 at *
  generalize w3.heap.size = p3 at *
  have HZZ : Hid (Zb (((w4.alloc zo).alloc zo).alloc zo) w4.heap.size ∧ Zb (((w4.alloc zo).alloc zo).alloc zo) (w4.heap.size + 1) ∧ Zb (((w4.alloc zo).alloc zo).alloc zo) (w4.heap.size + 1 + 1) ∧ Below w4.heap.size w4 (((w4.alloc zo).alloc zo).alloc zo)) := Lib.hid (by
    have h1 := Zb.new (w4.alloc zo)
    rw [show (w4.alloc zo).heap.size = w4.heap.size + 1 by simp] at h1
    have h2 := Zb.new ((w4.alloc zo).alloc zo)
    rw [show ((w4.alloc zo).alloc zo).heap.size = w4.heap.size + 1 + 1 by simp] at h2
    exact ⟨((Zb.new w4).alloc _).alloc _, h1.alloc _, h2, bel_al (bel_al (bel_al (Below.refl _ _) (Nat.le_refl _) _) (by simp) _) (by simp; omega) _⟩)
  go_upto_if 59 with fail
  generalize (((w4.alloc zo).alloc zo).alloc zo) = w5 at *
  generalize hq : w4.heap.size = q at *
  have HQ := Lib.hid hq
  clear hq
  go_cut [20, 21, 22, 26, 27, 28, 29] (fun s20 s21 s22 s26 s27 s28 s29 wx => CutL r L key xs room q w4 s20 s21 s22 s26 s27 s28 s29 wx)
  case first =>
    as_aux_lemma =>
      by_cases h0 : checkC r L = 0
      · have H0 := Lib.hid h0
        have HG := Lib.hid (check_zero.1 h0)
        have qc : (checkC r L == 0) = true := by simpa using h0
        have hb5' : Below w4.heap.size w4 w5 := by rw [HQ.out]; exact HZZ.out.2.2.2
        have X5 := Lib.hid (X4.out.below hb5')
        have HB5 : Hid (Below w.heap.size w w5) := Lib.hid (HB4.out.trans (hb5'.mono HB4.out.size))
        have HAn : Hid (∀ p, w.heap.size ≤ p → 0 < L.length → ∀ a, A = some a → a.block ≠ p) := Lib.hid (fun p hp h1 a ha => by
          obtain ⟨b, o, e, ht⟩ := HI0.out.2.2.2 h1
          rw [e] at ha; cases ha; have := ht.1; show b ≠ p; omega)
        have HQ4 : Hid (w.heap.size ≤ q) := Lib.hid (by rw [← HQ.out]; exact HB4.out.size)
        clear h0 hb5'
        obtain ⟨bk, hbk⟩ : ∃ bk : Bool, bk = !decide (isK key) := ⟨_, rfl⟩
        have HBk := Lib.hid hbk
        clear hbk
        go_upto_region 10 with fail
        go_cut [65] (fun s65 wx => s65 = .bool bk ∧ w5 = wx)
        case first =>
          as_aux_lemma =>
            by_cases h1 : key < 0
            · have d1 : decide (key < 0) = true := by simpa using h1
              have HE : Hid (true = bk) := Lib.hid (by rw [HBk.out, decide_eq_false (fun h : isK key => by have := h.1; omega)]; rfl)
              clear h1
              go_wp2
              go_meet
              exact ⟨by rw [HE.out], rfl⟩
            · have d1 : decide (key < 0) = false := by simpa using h1
              have HE : Hid (decide (1048576 < key) = bk) := Lib.hid (by
                rw [HBk.out]
                by_cases h : 1048576 < key
                · rw [decide_eq_true h, decide_eq_false (fun h2 : isK key => by have := h2.2; omega)]; rfl
                · rw [decide_eq_false h, decide_eq_true (show isK key from ⟨by omega, by omega⟩)]; rfl)
              clear h1
              go_wp2
              go_meet
              exact ⟨by rw [HE.out], rfl⟩
        case rest =>
         as_aux_lemma =>
          obtain ⟨rfl, rfl⟩ := hcut
          go_upto_if 65 with fail
          go_cut [20, 26, 27] (fun s20 s26 s27 wx => s20 = .int .i64 (acE r L key) ∧ s26 = .bool (acH r L key) ∧ s27 = .int .i64 (acG r L key) ∧ (∃ B d, Bx wx q (acR r L key) B d (acL r L key) ∧ NB q B (acL r L key)) ∧ Zb wx (q + 1) ∧ Zb wx (q + 1 + 1) ∧ Below q w4 wx)
          case first =>
            as_aux_lemma =>
              by_cases hk : isK key
              · have d1 : bk = false := by rw [HBk.out]; simpa using hk
                subst d1
                have HE := Lib.hid (ac_ok H0.out hk)
                clear hk
                obtain ⟨-, x1, x2, -⟩ := X5.out
                go_wp2_with fail
                refine (touchRef_any r A c L key w5 X5.out.ints HG.out).mono ?_
                rintro e w6 ⟨B6, k6, rfl, hI6, hA6, hb6⟩
                have hz := HZZ.out.1.below hb6
                have hne := HZZ.out.1.ne hA6
                have HNb : Hid (NB q B6 (touch r L key)) := Lib.hid (fun _ a ha => ⟨HZZ.out.1.ne hA6 a ha, HZZ.out.2.1.ne hA6 a ha, HZZ.out.2.2.1.ne hA6 a ha⟩)
                have HX6 := Lib.hid (hz.put (r := r) hI6 hne)
                have HY6 := Lib.hid (And.intro (((HZZ.out.2.1.below hb6).other (show q + 1 ≠ q by omega) 0 (.int .i64 r)).other (show q + 1 ≠ q by omega) 1 (.slice B6 (touch r L key).length k6)) (((HZZ.out.2.2.1.below hb6).other (show q + 1 + 1 ≠ q by omega) 0 (.int .i64 r)).other (show q + 1 + 1 ≠ q by omega) 1 (.slice B6 (touch r L key).length k6)))
                have HB6 : Hid (Below q w4 ((w6.setCell ⟨q, 0, none⟩ (.int .i64 r)).setCell ⟨q, 1, none⟩ (.slice B6 (touch r L key).length k6))) := Lib.hid (below_put (HZZ.out.2.2.2.trans (hb6.mono (by have := HZZ.out.1.lt; omega))) (Nat.le_refl _) _ _)
                obtain ⟨z1, z2, z3, z4⟩ := hz.cells
                clear hz hne hI6 hA6 hb6 x1 x2
                generalize touch r L key = T at *
                go_wp2
                go_meet
                obtain ⟨e1, e2, e3, e4, e5⟩ := HE.out
                exact ⟨by rw [e1, H0.out], by rw [e2], by rw [e3], ⟨B6, k6, by rw [e4, e5]; exact HX6.out, by rw [e5]; exact HNb.out⟩, HY6.out.1, HY6.out.2, HB6.out⟩
              · have HE := Lib.hid (ac_bad H0.out hk)
                have d1 : bk = true := by rw [HBk.out]; simpa using hk
                subst d1
                clear hk
                go_wp2
                go_meet
                obtain ⟨e1, e2, e3, e4, e5⟩ := HE.out
                exact ⟨by rw [e1], by rw [e2], by rw [e3], ⟨none, 0, by rw [e4, e5]; exact HZZ.out.1.bx, by rw [e5]; exact NB.none_ q⟩, HZZ.out.2.1, HZZ.out.2.2.1, HZZ.out.2.2.2⟩
          case rest =>
            as_aux_lemma =>
              obtain ⟨rfl, rfl, rfl, ⟨B6, k6, hX6, hNb6⟩, hz1, hz2, hb6⟩ := hcut
              have E6 := Lib.hid hX6
              have HNb6 := Lib.hid hNb6
              have HZ6 := Lib.hid (And.intro hz1 hz2)
              have HBq6 := Lib.hid hb6
              have hb6' : Below w4.heap.size w4 wc := by rw [HQ.out]; exact hb6
              have X6 := Lib.hid (X4.out.below hb6')
              have HB6 : Hid (Below w.heap.size w wc) := Lib.hid (HB4.out.trans (hb6'.mono HB4.out.size))
              clear hX6 hz1 hz2 hb6 hb6' hNb6
              generalize wc = w6 at *
              go_wp2_with fail
              refine (traceCheck_any A1 c1 xs w6 (HJ.out.below HB6.out)).mono ?_
              rintro e w' ⟨rfl, rfl⟩
              go_upto_if 76 with fail
              go_cut [28] (fun s28 wx => s28 = .int .i64 (rnH r L xs) ∧ (∃ B d, Bx wx q (acR r L key) B d (acL r L key) ∧ NB q B (acL r L key)) ∧ (∃ B d, Bx wx (q + 1) (rnR r L xs) B d (rnL r L xs) ∧ NB q B (rnL r L xs)) ∧ Zb wx (q + 1 + 1) ∧ Below q w4 wx)
              case first =>
                as_aux_lemma =>
                  by_cases ht : traceE xs = 0
                  · have d1 : (traceE xs == 0) = true := by simpa using ht
                    have HE := Lib.hid (rn_ok H0.out ht)
                    have HT := Lib.hid (trace_zero.1 ht)
                    clear ht
                    obtain ⟨-, x1, x2, -⟩ := X6.out
                    go_wp2_with fail
                    refine (runRef_any r A A1 c c1 L xs w6 X6.out.ints (HJ.out.below HB6.out) HG.out HT.out.2 HT.out.1).mono ?_
                    rintro e w7 ⟨B7, k7, rfl, hI7, hW7, hb7⟩
                    have hz := HZ6.out.1.below hb7
                    have hne : 0 < (runL r L xs).length → ∀ a, B7 = some a → a.block ≠ q + 1 := fun h0 a ha => by
                      rcases hW7 a ha with ⟨h1, h2⟩ | h1
                      · exact HAn.out (q + 1) (by have := HQ4.out; omega) (by rw [← h2]; exact h0) a h1
                      · have := HZ6.out.1.lt; omega
                    have HX7 := Lib.hid (hz.put3 (r := r) hI7 hne)
                    have HNb7 : Hid (NB q B7 (runL r L xs)) := Lib.hid (fun h0 a ha => by
                      rcases hW7 a ha with ⟨h1, h2⟩ | h1
                      · have hh := HAn.out
                        have hL : 0 < L.length := by rw [← h2]; exact h0
                        have hq := HQ4.out
                        exact ⟨hh q hq hL a h1, hh (q + 1) (by omega) hL a h1, hh (q + 1 + 1) (by omega) hL a h1⟩
                      · have := HZ6.out.2.lt; exact ⟨by omega, by omega, by omega⟩)
                    have HE7 := Lib.hid (((E6.out.below hb7).other (show q ≠ q + 1 by omega) (fun h a ha => (HNb6.out h a ha).2.1) 0 (.int .i64 r)).other (show q ≠ q + 1 by omega) (fun h a ha => (HNb6.out h a ha).2.1) 1 (.slice B7 (runL r L xs).length k7))
                    have HZ7 := Lib.hid (((HZ6.out.2.below hb7).other (show q + 1 + 1 ≠ q + 1 by omega) 0 (.int .i64 r)).other (show q + 1 + 1 ≠ q + 1 by omega) 1 (.slice B7 (runL r L xs).length k7))
                    have HBq7 : Hid (Below q w4 ((w7.setCell ⟨q + 1, 0, none⟩ (.int .i64 r)).setCell ⟨q + 1, 1, none⟩ (.slice B7 (runL r L xs).length k7))) := Lib.hid (below_put (HBq6.out.trans (hb7.mono (by have := HZ6.out.1.lt; omega))) (by omega) _ _)
                    obtain ⟨z1, z2, z3, z4⟩ := hz.cells
                    clear hz hne hI7 hW7 hb7 x1 x2
                    generalize runL r L xs = T at *
                    go_wp2
                    go_meet
                    obtain ⟨e1, e2, e3, e4⟩ := HE.out
                    exact ⟨by rw [e2], ⟨B6, k6, HE7.out, HNb6.out⟩, ⟨B7, k7, by rw [e3, e4]; exact HX7.out, by rw [e4]; exact HNb7.out⟩, HZ7.out, HBq7.out⟩
                  · have d1 : (traceE xs == 0) = false := by simpa using ht
                    have HE := Lib.hid (rn_bad H0.out ht)
                    clear ht
                    go_wp2
                    go_meet
                    obtain ⟨e1, e2, e3, e4⟩ := HE.out
                    exact ⟨by rw [e2], ⟨B6, k6, E6.out, HNb6.out⟩, ⟨none, 0, by rw [e3, e4]; exact HZ6.out.1.bx, by rw [e4]; exact NB.none_ q⟩, HZ6.out.2, HBq6.out⟩
              case rest =>
                as_aux_lemma =>
                  obtain ⟨rfl, ⟨B7, k7, hX7, hNb7⟩, ⟨B8, k8, hX8, hNb8⟩, hz, hb⟩ := hcut
                  have E8 := Lib.hid hX7
                  have HN7 := Lib.hid hNb7
                  have F8 := Lib.hid hX8
                  have HN8 := Lib.hid hNb8
                  have HZ8 := Lib.hid hz
                  have HBq8 := Lib.hid hb
                  have hb' : Below w4.heap.size w4 wc := by rw [HQ.out]; exact hb
                  have X8 := Lib.hid (X4.out.below hb')
                  clear hX7 hNb7 hX8 hNb8 hz hb hb'
                  generalize wc = w8 at *
                  have HRn : Hid (rnE r L xs = traceE xs) := Lib.hid (by unfold rnE; rw [if_pos H0.out])
                  obtain ⟨bm, hbm⟩ : ∃ bm : Bool, bm = !decide (isRm room) := ⟨_, rfl⟩
                  have HBm := Lib.hid hbm
                  clear hbm
                  go_upto_region 16 with fail
                  go_cut [88] (fun s88 wx => s88 = .bool bm ∧ w8 = wx)
                  case first =>
                    as_aux_lemma =>
                      by_cases h1 : room < 1
                      · have d1 : decide (room < 1) = true := by simpa using h1
                        have HE : Hid (true = bm) := Lib.hid (by rw [HBm.out, decide_eq_false (fun h : isRm room => by have := h.1; omega)]; rfl)
                        clear h1
                        go_wp2
                        go_meet
                        exact ⟨by rw [HE.out], rfl⟩
                      · have d1 : decide (room < 1) = false := by simpa using h1
                        have HE : Hid (decide (40 < room) = bm) := Lib.hid (by
                          rw [HBm.out]
                          by_cases h : 40 < room
                          · rw [decide_eq_true h, decide_eq_false (fun h2 : isRm room => by have := h2.2; omega)]; rfl
                          · rw [decide_eq_false h, decide_eq_true (show isRm room from ⟨by omega, by omega⟩)]; rfl)
                        clear h1
                        go_wp2
                        go_meet
                        exact ⟨by rw [HE.out], rfl⟩
                  case rest =>
                    as_aux_lemma =>
                      obtain ⟨rfl, rfl⟩ := hcut
                      by_cases hm : isRm room
                      · have d1 : bm = false := by rw [HBm.out]; simpa using hm
                        subst d1
                        have HE := Lib.hid (rz_ok H0.out hm)
                        have hr1 := hm.1
                        have hl40 : L.length ≤ 40 := by have := HG.out.few; have := HG.out.room.2; omega
                        clear hm
                        have HOm := Lib.hid (own_made w8 w8.heap.size (Nat.le_refl _))
                        have HIa := Lib.hid (X8.out.ints.alloc (.cells #[] 3))
                        have HZa := Lib.hid (HZ8.out.alloc (.cells #[] 3))
                        have HGa : Hid (w8.grownBy (w8.alloc (.cells #[] 3)) (some (q + 1 + 1))) := Lib.hid (kp_al ⟨rfl, rfl, rfl, Nat.le_refl _, fun _ _ _ => rfl⟩ _)
                        have Xa := Lib.hid (X8.out.alloc (.cells #[] 3))
                        obtain ⟨-, x1, x2, -⟩ := Xa.out
                        go_wp2_with (at_builtin; refine wpList_append_ints (by rfl) _ _ (by rfl) w8.heap.size _ [] (by rfl) HOm.out A c L (by rfl) HIa.out (by simp; omega) (by simp) ?_; intro v9 w9 hown9 hg9; rw [List.nil_append] at hown9; have hGB9 := kp_app HGa.out hg9 (fun k hk => (HOm.out.lt k hk).1); have hZ9 := HZa.out.grown HOm.out hg9; obtain ⟨A9, k9, rfl, hI9, hA9⟩ := ints_of_own2 hown9; have hL9 : ∀ a, A9 = some a → a.block < w9.heap.size := (fun a ha => (hown9.lt a.block (by rw [ha]; rfl)).2); obtain ⟨z1, z2, z3, z4⟩ := hZ9.cells)
                        have hne9 : ∀ a, A9 = some a → a.block ≠ q + 1 + 1 := fun a ha => by have := hA9 a ha; have := HZ8.out.lt; omega
                        have HV10 := Lib.hid (hZ9.put2 (q := room) (.slice A9 L.length k9))
                        have HI10 := Lib.hid ((hI9.setCell (p := ⟨q + 1 + 1, 0, none⟩) hne9 (.int .i64 room)).setCell (p := ⟨q + 1 + 1, 1, none⟩) hne9 (.slice A9 L.length k9))
                        have HGB10 := Lib.hid (kp_set (kp_set hGB9 0 (.int .i64 room)) 1 (.slice A9 L.length k9))
                        have HA9 := Lib.hid hA9
                        have HA10 : Hid (∀ a, A9 = some a → a.block < ((w9.setCell ⟨q + 1 + 1, 0, none⟩ (.int .i64 room)).setCell ⟨q + 1 + 1, 1, none⟩ (.slice A9 L.length k9)).heap.size) := Lib.hid (fun a ha => by simpa [World.setCell] using hL9 a ha)
                        have HNe9 := Lib.hid hne9
                        clear hown9 hg9 hGB9 hZ9 hI9 hA9 hL9 hne9 x1 x2 z1 z2 z3 z4
                        generalize ((w9.setCell ⟨q + 1 + 1, 0, none⟩ (.int .i64 room)).setCell ⟨q + 1 + 1, 1, none⟩ (.slice A9 L.length k9)) = w10 at *
                        go_loopw [29] (fun s29 wr => ∃ m : Nat, m ≤ L.length ∧ (room ≤ (m : Int) ∨ m = L.length) ∧ Vb wr (q + 1 + 1) room (.slice A9 m k9) ∧ Ints wr A9 k9 (L.take m) ∧ OwnI wr w10.heap.size s29 (L.drop m).reverse ∧ w10.heap.size ≤ wr.heap.size ∧ w8.grownBy wr (some (q + 1 + 1))) (fun _ wr => slotLen wr (q + 1 + 1))
                        case atStart => exact ⟨L.length, Nat.le_refl _, .inr rfl, HV10.out, by rw [List.take_length]; exact HI10.out, by rw [List.drop_length]; exact World.ownsRow_nil _ _ _ _, Nat.le_refl _, HGB10.out⟩
                        case round =>
                          obtain ⟨m, hm, hrm, hV, hI, hO, hs, hg⟩ := hrel
                          have HV := Lib.hid hV
                          have HIr := Lib.hid hI
                          have HO := Lib.hid hO
                          have HSz := Lib.hid hs
                          have HGr := Lib.hid hg
                          clear hV hI hO hs hg
                          generalize u29 = v at *
                          obtain ⟨c1', c2', c3', c4'⟩ := HV.out.cells
                          have hlm : (L.take m).length = m := by rw [List.length_take]; omega
                          by_cases hgt : room < (m : Int)
                          · have d1 : decide (room < (m : Int)) = true := by simpa using hgt
                            obtain ⟨n, hn⟩ : ∃ n, m = n + 1 := ⟨m - 1, by omega⟩
                            have hw : IntKind.i64.wrap ((m : Int) - 1) = (n : Int) := by rw [IntKind.wrap_i64]; omega
                            have h1 : (n : Int) < (m : Int) := by omega
                            have h2 : (0 : Int) ≤ (n : Int) := by omega
                            have hmk : m ≤ k9 := by have := HIr.out.1; omega
                            have h3 : n ≤ k9 := by omega
                            have h4 : ¬ k9 = 0 := by omega
                            have h5 : (n : Int) ≤ (k9 : Int) := by omega
                            obtain ⟨bb, o, rfl, ht⟩ := HIr.out.2.2.2 (by omega)
                            have e1 := ht.2 n (by omega)
                            rw [gi_take (by omega)] at e1
                            have HDr : Hid ((L.drop n).reverse = (L.drop m).reverse ++ [gi L n]) := Lib.hid (by rw [hn]; exact drop_rev (by omega))
                            have HRn2 : Hid (room ≤ (n : Int)) := Lib.hid (by omega)
                            have HLn2 : Hid ((L.drop m).reverse.length + 1 ≤ 40) := Lib.hid (by rw [List.length_reverse, List.length_drop]; omega)
                            have HTt : Hid ((L.take m).take n = L.take n) := Lib.hid (by rw [List.take_take, Nat.min_eq_left (by omega)])
                            clear ht
                            generalize gi L n = y at *
                            have HOa := Lib.hid (own_alloc HO.out (.cells #[.int .i64 y] 3))
                            have HTa : Hid (Ints (wr.alloc (.cells #[.int .i64 y] 3)) (some ⟨wr.heap.size, 0, none⟩) 1 [y]) := Lib.hid (ints_lit wr [y] (by unfold maxLen; simp))
                            have HVa := Lib.hid (HV.out.below (bel_al (Below.refl _ _) (Nat.le_refl _) (.cells #[.int .i64 y] 3)))
                            have HIa2 := Lib.hid (HIr.out.alloc (.cells #[.int .i64 y] 3))
                            have HGa2 := Lib.hid (kp_al HGr.out (.cells #[.int .i64 y] 3))
                            have HSa : Hid (w10.heap.size ≤ (wr.alloc (.cells #[.int .i64 y] 3)).heap.size) := Lib.hid (Nat.le_trans HSz.out (by simp))
                            have hS8 : w8.heap.size ≤ w10.heap.size := HGB10.out.size
                            go_wp2_with (at_builtin; refine wpList_append_ints (by rfl) _ _ (by rfl) w10.heap.size _ (L.drop m).reverse (by rfl) HOa.out (some ⟨wr.heap.size, 0, none⟩) 1 [y] (by rfl) HTa.out (by have := HLn2.out; simp only [List.length_singleton]; omega) HSa.out ?_; intro v5 w5 hown5 hg5; have hV5 := HVa.out.grown HOa.out hg5; obtain ⟨y1, y2, y3, y4⟩ := hV5.cells)
                            have hIt : Ints (wr.alloc (.cells #[.int .i64 y] 3)) (some ⟨bb, o, none⟩) k9 (L.take n) := by rw [← HTt.out]; exact ints_take HIa2.out n
                            have hIg : Ints w5 (some ⟨bb, o, none⟩) k9 (L.take n) := Ints.grown hIt hg5 (fun a ha e => absurd (HA10.out a ha) (Nat.not_lt.2 (HOa.out.lt _ e).1))
                            have hIn : Ints (w5.setCell ⟨q + 1 + 1, 1, none⟩ (.slice (some ⟨bb, o, none⟩) n k9)) (some ⟨bb, o, none⟩) k9 (L.take n) := hIg.setCell (p := ⟨q + 1 + 1, 1, none⟩) HNe9.out _
                            have HI6 := Lib.hid hIn
                            have HV6 := Lib.hid (hV5.set (.slice (some ⟨bb, o, none⟩) n k9))
                            have HO6 := Lib.hid (own_set hown5 (hV5.own hown5) 1 (.slice (some ⟨bb, o, none⟩) n k9))
                            have HG6 := Lib.hid (kp_set (kp_app HGa2.out hg5 (fun k hk => Nat.le_trans hS8 (HOa.out.lt k hk).1)) 1 (.slice (some ⟨bb, o, none⟩) n k9))
                            have HS6 : Hid (w10.heap.size ≤ (w5.setCell ⟨q + 1 + 1, 1, none⟩ (.slice (some ⟨bb, o, none⟩) n k9)).heap.size) := Lib.hid (by simp only [World.setCell, Array.size_modify]; exact Nat.le_trans HSa.out hg5.size)
                            clear hIt hIg hIn hV5 hown5 hg5 y1 y2 y3 y4 c1' c2' c3' c4' e1 hS8
                            go_roundw
                            case rel => exact ⟨n, by omega, .inl HRn2.out, HV6.out, HI6.out, by rw [HDr.out]; exact HO6.out, HS6.out, HG6.out⟩
                            case measure => unfold slotLen; rw [HV.out.cells.2.1, HV6.out.cells.2.1]; show n < m; omega
                          · have d1 : decide (room < (m : Int)) = false := by simpa using hgt
                            have HMr : Hid (L.take m = L.take room.toNat ∧ L.drop m = L.drop room.toNat) := Lib.hid (by
                              rcases hrm with h | h
                              · have : m = room.toNat := by omega
                                rw [this]; exact ⟨rfl, rfl⟩
                              · rw [h, List.take_length, List.drop_length, List.take_of_length_le (by omega), List.drop_of_length_le (by omega)]; exact ⟨rfl, rfl⟩)
                            obtain ⟨D5, m5, rfl, hI5⟩ := ints_of_own HO.out
                            have HI5 := Lib.hid hI5
                            clear hI5
                            have HBx9 : Hid (Bx wr (q + 1 + 1) room A9 k9 (L.take m)) := Lib.hid ⟨HV.out.lt, c1', by rw [hlm]; exact c2', HIr.out⟩
                            go_wp2
                            go_meet
                            obtain ⟨e1, e2, e3, e4⟩ := HE.out
                            exact ⟨rfl, by rw [HRn.out], by rw [e1, H0.out], rfl, rfl, rfl, ⟨D5, m5, by rw [e2, ← HMr.out.2, List.length_reverse, List.length_drop], by rw [e2, ← HMr.out.2]; exact HI5.out⟩, ⟨B7, k7, kp_bx E8.out HGr.out (by omega) (fun h a ha => (HN7.out h a ha).2.2)⟩, ⟨B8, k8, kp_bx F8.out HGr.out (by omega) (fun h a ha => (HN8.out h a ha).2.2)⟩, ⟨A9, k9, by rw [e3, e4, ← HMr.out.1]; exact HBx9.out⟩, HBq8.out.grown HGr.out (by have := HZ8.out.lt; omega) (fun k hk => by cases hk; omega)⟩
                      · have d1 : bm = true := by rw [HBm.out]; simpa using hm
                        subst d1
                        have HE := Lib.hid (rz_bad H0.out hm)
                        clear hm
                        go_wp2
                        go_meet
                        obtain ⟨e1, e2, e3, e4⟩ := HE.out
                        exact ⟨rfl, by rw [HRn.out], by rw [e1], rfl, rfl, rfl, ⟨none, 0, by rw [e2]; rfl, by rw [e2]; exact Ints.none_ _⟩, ⟨B7, k7, E8.out⟩, ⟨B8, k8, F8.out⟩, ⟨none, 0, by rw [e3, e4]; exact HZ8.out.bx⟩, HBq8.out⟩
      · have HE := Lib.hid (bad_all (key := key) (xs := xs) (room := room) h0)
        have qc : (checkC r L == 0) = false := by simpa using h0
        clear h0
        go_wp2
        go_meet
        obtain ⟨e1, e2, e3, e4, e5, e6, e7, e8, e9, e10, e11, e12, e13⟩ := HE.out
        refine ⟨by rw [e1], by rw [e2], by rw [e3], by rw [e4], by rw [e5], by rw [e6], ⟨none, 0, by rw [e7]; rfl, by rw [e7]; exact Ints.none_ _⟩, ⟨none, 0, by rw [e8, e9]; exact HZZ.out.1.bx⟩, ⟨none, 0, by rw [e10, e11]; exact HZZ.out.2.1.bx⟩, ⟨none, 0, by rw [e12, e13]; exact HZZ.out.2.2.1.bx⟩, HZZ.out.2.2.2⟩
  case rest =>
    as_aux_lemma =>
      obtain ⟨rfl, rfl, rfl, rfl, rfl, rfl, ⟨B6, k6, rfl, hO6⟩, ⟨B7, k7, hX7⟩, ⟨B8, k8, hX8⟩, ⟨B9, k9, hX9⟩, hb6⟩ := hcut
      have hb6' : Below w4.heap.size w4 wc := by rw [HQ.out]; exact hb6
      have X6 := Lib.hid (X4.out.below hb6')
      have P6 := Lib.hid (P4.out.below hb6')
      have U6 := Lib.hid (U4.out.below hb6')
      have V6 := Lib.hid (V4.out.below hb6')
      have O6 := Lib.hid (O4.out.below hb6')
      have N6 := Lib.hid hO6
      have E6 := Lib.hid hX7
      have F6 := Lib.hid hX8
      have G6 := Lib.hid hX9
      have HB6 : Hid (Below w.heap.size w wc) := Lib.hid (HB4.out.trans (hb6'.mono HB4.out.size))
      clear hO6 hX7 hX8 hX9 hb6 hb6'
      generalize wc = w6 at *
      go_wp2_with fail
      refine (begun_any _).mono ?_
      rintro e w7 ⟨rfl, hb7⟩
      have E7 := Lib.hid (E6.out.below hb7)
      have F7 := Lib.hid (F6.out.below hb7)
      have G7 := Lib.hid (G6.out.below hb7)
      have N7 := Lib.hid (N6.out.below hb7)
      have O7 := Lib.hid (O6.out.below hb7)
      have P7 := Lib.hid (P6.out.below hb7)
      have U7 := Lib.hid (U6.out.below hb7)
      have V7 := Lib.hid (V6.out.below hb7)
      have X7 := Lib.hid (X6.out.below hb7)
      have HB7 : Hid (Below w.heap.size w w7) := Lib.hid (HB6.out.trans (hb7.mono HB6.out.size))
      clear hb7
      obtain ⟨-, x1, x2, -⟩ := X7.out
      go_wp2_with fail
      refine (check_any r A c L _ X7.out.ints).mono ?_
      rintro e w8 ⟨rfl, hb8⟩
      have E8 := Lib.hid (E7.out.below hb8)
      have F8 := Lib.hid (F7.out.below hb8)
      have G8 := Lib.hid (G7.out.below hb8)
      have N8 := Lib.hid (N7.out.below hb8)
      have O8 := Lib.hid (O7.out.below hb8)
      have P8 := Lib.hid (P7.out.below hb8)
      have U8 := Lib.hid (U7.out.below hb8)
      have V8 := Lib.hid (V7.out.below hb8)
      have HB8 : Hid (Below w.heap.size w w8) := Lib.hid (HB7.out.trans (hb8.mono HB7.out.size))
      clear hb8 x1 x2
      have HTa := Lib.hid (checkTrace_any A1 c1 xs w8 (HJ.out.below HB8.out))
      have HTb := Lib.hid (traceCheck_any A1 c1 xs w8 (HJ.out.below HB8.out))
      go_wp2_with fail
      refine HTa.out.mono ?_
      rintro e w' ⟨rfl, rfl⟩
      go_wp2_with fail
      refine HTb.out.mono ?_
      rintro e w' ⟨rfl, rfl⟩
      have HS8 := Lib.hid (sameCache_any (acR r L key) (acR r L key) B1 B7 k1 k7 (acL r L key) (acL r L key) _ P8.out.ints E8.out.ints)
      rw [show decide (acR r L key = acR r L key ∧ acL r L key = acL r L key) = true by simp] at HS8
      obtain ⟨-, p1, p2, -⟩ := P8.out
      obtain ⟨-, e1, e2, -⟩ := E8.out
      go_wp2_with fail
      refine (HS8.out).mono ?_
      rintro e w9 ⟨rfl, hb9⟩
      have F9 := Lib.hid (F8.out.below hb9)
      have G9 := Lib.hid (G8.out.below hb9)
      have N9 := Lib.hid (N8.out.below hb9)
      have O9 := Lib.hid (O8.out.below hb9)
      have U9 := Lib.hid (U8.out.below hb9)
      have V9 := Lib.hid (V8.out.below hb9)
      have HB9 : Hid (Below w.heap.size w w9) := Lib.hid (HB8.out.trans (hb9.mono HB8.out.size))
      clear hb9 p1 p2 e1 e2
      have HS9 := Lib.hid (sameCache_any (rnR r L xs) (rnR r L xs) B2 B8 k2 k8 (rnL r L xs) (rnL r L xs) _ U9.out.ints F9.out.ints)
      rw [show decide (rnR r L xs = rnR r L xs ∧ rnL r L xs = rnL r L xs) = true by simp] at HS9
      obtain ⟨-, u1, u2, -⟩ := U9.out
      obtain ⟨-, f1, f2, -⟩ := F9.out
      go_wp2_with fail
      refine (HS9.out).mono ?_
      rintro e w10 ⟨rfl, hb10⟩
      have G10 := Lib.hid (G9.out.below hb10)
      have N10 := Lib.hid (N9.out.below hb10)
      have O10 := Lib.hid (O9.out.below hb10)
      have V10 := Lib.hid (V9.out.below hb10)
      have HB10 : Hid (Below w.heap.size w w10) := Lib.hid (HB9.out.trans (hb10.mono HB9.out.size))
      clear hb10 u1 u2 f1 f2
      have HS10 := Lib.hid (sameCache_any (rzR r L room) (rzR r L room) B3 B9 k3 k9 (rzL r L room) (rzL r L room) _ V10.out.ints G10.out.ints)
      rw [show decide (rzR r L room = rzR r L room ∧ rzL r L room = rzL r L room) = true by simp] at HS10
      obtain ⟨-, v1, v2, -⟩ := V10.out
      obtain ⟨-, g1, g2, -⟩ := G10.out
      go_wp2_with fail
      refine (HS10.out).mono ?_
      rintro e w11 ⟨rfl, hb11⟩
      have N11 := Lib.hid (N10.out.below hb11)
      have O11 := Lib.hid (O10.out.below hb11)
      have HB11 : Hid (Below w.heap.size w w11) := Lib.hid (HB10.out.trans (hb11.mono HB10.out.size))
      clear hb11 v1 v2 g1 g2
      have HS11 := Lib.hid (sameInts_any D3 B6 m3 k6 (rzO r L room) (rzO r L room) _ O11.out N11.out)
      rw [show decide (rzO r L room = rzO r L room) = true by simp] at HS11
      go_wp2_with fail
      refine (HS11.out).mono ?_
      rintro e w12 ⟨rfl, hb12⟩
      have HB12 : Hid (Below w.heap.size w w12) := Lib.hid (HB11.out.trans (hb12.mono HB11.out.size))
      clear hb12
      go_wp2
      go_ret
      exact ⟨rfl, HB12.out⟩

end Go.Proofs.Yticfkhmmmpnmdaa.Lru
