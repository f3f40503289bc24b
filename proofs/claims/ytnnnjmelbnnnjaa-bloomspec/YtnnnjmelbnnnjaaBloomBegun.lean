/-
  Filters in variables; SameFilter of the reference; what must be in any case.
-/
import Derived.Test.YtnnnjmelbnnnjaaBloomWalks6
namespace Go.Proofs.Ytnnnjmelbnnnjaa
open Go.RowKit Go.Shelf
set_option linter.unusedVariables false

/-- Block p holds a filter. -/
def Bx (w : World) (p : Nat) (F : Fl) (A : Option Addr) (c : Nat) : Prop :=
  p < w.heap.size ∧ w.cell? ⟨p, 0, none⟩ = some (.int .i64 F.size) ∧ w.cell? ⟨p, 1, none⟩ = some (.int .i64 F.hashes) ∧ w.cell? ⟨p, 2, none⟩ = some (.slice A F.set.length c) ∧ Ints w A c F.set
section
variable {w w' : World} {p : Nat} {F : Fl} {A : Option Addr} {c : Nat}
theorem Bx.below (h : Bx w p F A c) (hb : Below w.heap.size w w') : Bx w' p F A c :=
  ⟨Nat.lt_of_lt_of_le h.1 hb.size, (hb.cell h.1).trans h.2.1, (hb.cell h.1).trans h.2.2.1, (hb.cell h.1).trans h.2.2.2.1, h.2.2.2.2.below hb⟩
theorem Bx.new (h : Ints w A c F.set) : Bx (w.alloc (fo F A c)) w.heap.size F A c := ⟨by simp, by simp [go_sem], by simp [go_sem], by simp [go_sem], h.alloc _⟩
theorem Bx.alloc (h : Bx w p F A c) (o : Obj) : Bx (w.alloc o) p F A c := h.below ((Below.refl _ _).alloc (Nat.le_refl _) o)
theorem Bx.ints (h : Bx w p F A c) : Ints w A c F.set := h.2.2.2.2
end
theorem bel_al {B : Nat} {a w : World} (h : Below B a w) (hB : B ≤ a.heap.size) (o : Obj) : Below B a (w.alloc o) := h.alloc (Nat.le_trans hB h.size) o

def sameF (F G : Fl) : Bool := decide (F.size = G.size) && (decide (F.hashes = G.hashes) && decide (F.set = G.set))
theorem sameF_yes {F G : Fl} (h1 : F.size = G.size) (h2 : F.hashes = G.hashes) (h3 : F.set = G.set) : sameF F G = true := by simp [sameF, h1, h2, h3]

set_option maxHeartbeats 1000000 in
theorem sameF_any (F G : Fl) (A B : Option Addr) (c d : Nat) (w : World) (ha : Ints w A c F.set) (hb : Ints w B d G.set) :
    Calls Try.prog 19 #[fv F A c, fv G B d] w fun e w' => e = .returned (.bool (sameF F G)) ∧ Below w.heap.size w w' := by
  have HW : Below w.heap.size w ((w.alloc (fo F A c)).alloc (fo G B d)) := ((Below.refl _ w).alloc (Nat.le_refl _) (fo F A c)).alloc (by simp) _
  by_cases h1 : F.size = G.size
  · have q1 : (F.size == G.size) = true := by simp [h1]
    by_cases h2 : F.hashes = G.hashes
    · have q2 : (F.hashes == G.hashes) = true := by simp [h2]
      have HR : Hid (sameF F G = decide (F.set = G.set)) := Lib.hid (by simp [sameF, h1, h2])
      clear h1 h2
      go_enter Try.func19, Try.ntmps19
      go_wp2_with fail
      refine (sameInts_any A B c d F.set G.set _ (ha.below HW) (hb.below HW)).mono ?_
      rintro e w1 ⟨rfl, hb1⟩
      go_wp2
      go_ret
      exact ⟨ret_bool HR.out.symm, HW.trans (hb1.mono HW.size)⟩
    · have q2 : (F.hashes == G.hashes) = false := by simp [h2]
      have HR : Hid (sameF F G = false) := Lib.hid (by simp [sameF, h2])
      clear h1 h2
      go_enter Try.func19, Try.ntmps19
      go_wp2
      go_ret
      exact ⟨ret_bool HR.out.symm, HW⟩
  · have q1 : (F.size == G.size) = false := by simp [h1]
    have HR : Hid (sameF F G = false) := Lib.hid (by simp [sameF, h1])
    clear h1
    go_enter Try.func19, Try.ntmps19
    go_wp2
    go_ret
    exact ⟨ret_bool HR.out.symm, HW⟩

/-! ### What must be in any case -/
def kA : ByteArray := ⟨#[97]⟩
def E0 : Fl := ⟨64, 3, []⟩
theorem gE0 : Good E0 := ⟨by decide, by decide, by decide, by decide, List.Pairwise.nil, fun x hx => by cases hx⟩
theorem bgA : errS E0 kA = 0 ∧ addM E0 kA = addL E0 kA := by
  have e : errS E0 kA = 0 := errS_of gE0 (by decide)
  exact ⟨e, by unfold addM; rw [if_pos e]⟩
theorem bgM : errS (addL E0 kA) kA = 0 ∧ mayM (addL E0 kA) kA = true ∧ bitsM (addL E0 kA) kA = (addL E0 kA).set ∧ 0 < (addL E0 kA).set.length := by
  have g := good_add gE0 kA
  have e : errS (addL E0 kA) kA = 0 := errS_of g (by decide)
  have hb : bitsL (addL E0 kA) kA = (addL E0 kA).set := by
    rw [← bits_same (F := E0) (G := addL E0 kA) rfl rfl]
    exact (ord_eq (L := E0.set ++ bitsL E0 kA) (M := bitsL E0 kA) (ord_inc _) (fun x => by rw [show E0.set ++ bitsL E0 kA = bitsL E0 kA from rfl])).symm
  refine ⟨e, by unfold mayM; rw [if_pos e]; exact may_added _ _, by unfold bitsM; rw [if_pos e, hb], ?_⟩
  rw [← hb]; exact bits_pos g kA
theorem bgZ : mayM E0 kA = false := by
  unfold mayM
  rw [if_pos bgA.1, Bool.eq_false_iff]
  intro h
  rw [mayL_iff] at h
  have := bits_pos gE0 kA
  obtain ⟨x, hx⟩ := List.exists_mem_of_length_pos this
  have h2 := h x hx
  cases h2
theorem bgU : errU (addL E0 kA) E0 = 0 ∧ uniM (addL E0 kA) E0 = uniL (addL E0 kA) E0 ∧ sameF (uniL (addL E0 kA) E0) (addL E0 kA) = true := by
  have g := good_add gE0 kA
  have e : errU (addL E0 kA) E0 = 0 := errU_of g gE0 rfl rfl
  refine ⟨e, by unfold uniM; rw [if_pos e], sameF_yes rfl rfl (ord_eq g.inc (fun x => by rw [show (addL E0 kA).set ++ E0.set = (addL E0 kA).set from List.append_nil _]))⟩
theorem bgF : errF ⟨3, 1, []⟩ = 4 ∧ foldM ⟨3, 1, []⟩ = Fl.no := by
  have e : errF ⟨3, 1, []⟩ = 4 := by decide
  exact ⟨e, by unfold foldM; rw [e]; rfl⟩
theorem bgC : checkF Fl.no = 3 := by decide

theorem add_bg (w : World) : Calls Try.prog 8 #[.agg #[.int .i64 64, .int .i64 3, .slice none 0 0], .string ⟨#[97]⟩] w (FltR (addL E0 kA) 0 w) := by
  have h := add_any E0 none 0 kA w (Ints.none_ w) (by decide)
  rwa [bgA.1, bgA.2] at h
theorem may_bg (w : World) : Calls Try.prog 9 #[.agg #[.int .i64 64, .int .i64 3, .slice none 0 0], .string ⟨#[97]⟩] w fun e w' => e = .returned (.tuple #[.bool false, .int .i64 0]) ∧ Below w.heap.size w w' := by
  have h := may_any E0 none 0 kA w (Ints.none_ w) (by decide)
  rwa [bgA.1, bgZ] at h
theorem fold_bg (w : World) : Calls Try.prog 11 #[.agg #[.int .i64 3, .int .i64 1, .slice none 0 0]] w (FltR Fl.no 4 w) := by
  have h := fold_any ⟨3, 1, []⟩ none 0 w (Ints.none_ w)
  rwa [bgF.1, bgF.2] at h
theorem check_bg (w : World) : Calls Try.prog 18 #[.agg #[.int .i64 0, .int .i64 0, .slice none 0 0]] w fun e w' => e = .returned (.int .i64 3) ∧ Below w.heap.size w w' := by
  have h := check_any Fl.no none 0 w (Ints.none_ w)
  rwa [bgC] at h
theorem union_bg (A : Option Addr) (c : Nat) (w : World) (h : Ints w A c (addL E0 kA).set) : Calls Try.prog 10 #[fv (addL E0 kA) A c, .agg #[.int .i64 64, .int .i64 3, .slice none 0 0]] w (FltR (uniL (addL E0 kA) E0) 0 w) := by
  have h := union_any (addL E0 kA) E0 A none c 0 w h (Ints.none_ w)
  rwa [bgU.1, bgU.2.1] at h

set_option maxHeartbeats 4000000 in
theorem begun_any (w : World) :
    Calls Try.prog 17 #[] w fun e w' => e = .returned (.bool true) ∧ Below w.heap.size w w' := by
  have HM := Lib.hid bgM
  have HU := Lib.hid bgU
  go_enter Try.func17, Try.ntmps17
  go_wp2_with fail
  refine (add_bg _).mono ?_
  rintro e w1 ⟨A1, c1, rfl, hi1, hf1, hb1⟩
  have X1 := Bx.new hi1
  have HB1 := bel_al hb1 (Nat.le_refl _) (fo (addL E0 kA) A1 c1)
  clear hb1
  obtain ⟨_, x1, x2, x3, _⟩ := id X1
  go_wp2_with fail
  refine (may_any (addL E0 kA) A1 c1 kA _ X1.ints (by decide)).mono ?_
  rintro e w2 ⟨rfl, hb2⟩
  rw [HM.out.1, HM.out.2.1]
  have X2 := X1.below hb2
  have HB2 := HB1.trans (hb2.mono HB1.size)
  clear hb2 x1 x2 x3
  obtain ⟨_, x1, x2, x3, _⟩ := id X2
  go_wp2_with fail
  refine (bits_any (addL E0 kA) A1 c1 kA _ X2.ints (by decide)).mono ?_
  rintro e w3 ⟨A3, c3, rfl, hi3, hb3⟩
  rw [HM.out.2.2.1] at hi3 ⊢
  rw [HM.out.1]
  have X3 := X2.below hb3
  have HB3 := HB2.trans (hb3.mono HB2.size)
  clear hb3 x1 x2 x3 HB1 HB2 X1 X2
  obtain ⟨_, x1, x2, x3, _⟩ := id X3
  go_wp2_with fail
  refine (may_bg _).mono ?_
  rintro e w4 ⟨rfl, hb4⟩
  have X4 := X3.below hb4
  have hi4 := hi3.below hb4
  have HB4 := HB3.trans (hb4.mono HB3.size)
  clear hb4 x1 x2 x3 HB3 X3 hi3
  obtain ⟨_, x1, x2, x3, _⟩ := id X4
  go_wp2_with fail
  refine (union_bg A1 c1 _ X4.ints).mono ?_
  rintro e w5 ⟨A5, c5, rfl, hi5, hf5, hb5⟩
  have Y5 := Bx.new hi5
  have X5 := (X4.below hb5).alloc (fo (uniL (addL E0 kA) E0) A5 c5)
  have hi6 := (hi4.below hb5).alloc (fo (uniL (addL E0 kA) E0) A5 c5)
  have HB5 := bel_al (HB4.trans (hb5.mono HB4.size)) (Nat.le_refl _) (fo (uniL (addL E0 kA) E0) A5 c5)
  clear hb5 x1 x2 x3 HB4 X4 hi4
  obtain ⟨_, x1, x2, x3, _⟩ := id X5
  obtain ⟨_, y1, y2, y3, _⟩ := id Y5
  go_wp2_with fail
  refine (fold_bg _).mono ?_
  rintro e w6 ⟨A6, c6, rfl, hi7, hf6, hb6⟩
  have Y6 := (Y5.below hb6).alloc (fo Fl.no A6 c6)
  have X6 := (X5.below hb6).alloc (fo Fl.no A6 c6)
  have hi8 := (hi6.below hb6).alloc (fo Fl.no A6 c6)
  have HB6 := bel_al (HB5.trans (hb6.mono HB5.size)) (Nat.le_refl _) (fo Fl.no A6 c6)
  clear hb6 x1 x2 x3 y1 y2 y3 HB5 X5 hi6 Y5
  obtain ⟨_, x1, x2, x3, _⟩ := id X6
  obtain ⟨_, y1, y2, y3, _⟩ := id Y6
  have hpos : ((0 : Int) < ((addL E0 kA).set.length : Int)) := by have := HM.out.2.2.2; omega
  have hq : decide ((0 : Int) < ((addL E0 kA).set.length : Int)) = true := by simpa using hpos
  go_wp2_with fail
  refine (sameInts_any A3 A1 c3 c1 _ _ _ hi8 X6.ints).mono ?_
  rintro e w7 ⟨rfl, hb7⟩
  rw [decide_eq_true rfl]
  have X7 := X6.below hb7
  have Y7 := Y6.below hb7
  have HB7 := HB6.trans (hb7.mono HB6.size)
  clear hb7 x1 x2 x3 y1 y2 y3 HB6 X6 Y6 hi8
  obtain ⟨_, x1, x2, x3, _⟩ := id X7
  obtain ⟨_, y1, y2, y3, _⟩ := id Y7
  go_wp2_with fail
  refine (sameF_any (uniL (addL E0 kA) E0) (addL E0 kA) A5 A1 c5 c1 _ Y7.ints X7.ints).mono ?_
  rintro e w8 ⟨rfl, hb8⟩
  rw [HU.out.2.2]
  have HB8 := HB7.trans (hb8.mono HB7.size)
  clear hb8 x1 x2 x3 y1 y2 y3 HB7 X7 Y7
  go_wp2_with fail
  refine (check_bg _).mono ?_
  rintro e w9 ⟨rfl, hb9⟩
  go_wp2
  go_ret
  exact ⟨rfl, HB8.trans (hb9.mono HB8.size)⟩

end Go.Proofs.Ytnnnjmelbnnnjaa
