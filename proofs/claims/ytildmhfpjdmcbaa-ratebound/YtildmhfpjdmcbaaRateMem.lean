/-
  Buckets as values and in memory; '==' of two buckets; numbers and ticks.
-/
import Derived.Test.YtildmhfpjdmcbaaRateMath
import Derived.Test.YtildmhfpjdmcbaaInts
import Derived.Test.YtildmhfpjdmcbaaChecked
import Derived.WalkKit
import Derived.Below
import Derived.Lib.Hide
import Derived.Laws.StructEq
namespace Go.Proofs.Ytildmhfpjdmcbaa.Rat
open Go.RowKit
set_option linter.unusedVariables false
set_option maxRecDepth 100000

abbrev bv (b : Bk) : Value := .agg #[.int .i64 b.most, .int .i64 b.every, .int .i64 b.has, .int .i64 b.att]
abbrev bo (b : Bk) : Obj := .cells #[.int .i64 b.most, .int .i64 b.every, .int .i64 b.has, .int .i64 b.att] 23
/-- Block p holds a bucket. -/
def Kb (w : World) (p : Nat) (b : Bk) : Prop := w.heap[p]? = some (.cells #[.int .i64 b.most, .int .i64 b.every, .int .i64 b.has, .int .i64 b.att] 23 (0, 0))
section
variable {w w' : World} {p : Nat} {b : Bk}
theorem Kb.lt (k : Kb w p b) : p < w.heap.size := (Array.getElem?_eq_some_iff.1 k).1
theorem Kb.cells (k : Kb w p b) : w.cell? ⟨p, 0, none⟩ = some (.int .i64 b.most) ∧ w.cell? ⟨p, 1, none⟩ = some (.int .i64 b.every) ∧ w.cell? ⟨p, 2, none⟩ = some (.int .i64 b.has) ∧ w.cell? ⟨p, 3, none⟩ = some (.int .i64 b.att) := by
  have k : w.heap[p]? = some (.cells #[.int .i64 b.most, .int .i64 b.every, .int .i64 b.has, .int .i64 b.att] 23 (0, 0)) := k
  exact ⟨by rw [cell_of_row w p 0 _ _ (0, 0) k]; rfl, by rw [cell_of_row w p 1 _ _ (0, 0) k]; rfl, by rw [cell_of_row w p 2 _ _ (0, 0) k]; rfl, by rw [cell_of_row w p 3 _ _ (0, 0) k]; rfl⟩
theorem Kb.free (k : Kb w p b) : w.frozen? ⟨p, 0, none⟩ = false ∧ w.frozen? ⟨p, 1, none⟩ = false ∧ w.frozen? ⟨p, 2, none⟩ = false ∧ w.frozen? ⟨p, 3, none⟩ = false := by
  have k : w.heap[p]? = some (.cells #[.int .i64 b.most, .int .i64 b.every, .int .i64 b.has, .int .i64 b.att] 23 (0, 0)) := k
  exact ⟨by simp [World.frozen?, k], by simp [World.frozen?, k], by simp [World.frozen?, k], by simp [World.frozen?, k]⟩
theorem Kb.below (k : Kb w p b) (hb : Below w.heap.size w w') : Kb w' p b := (hb.block p k.lt).trans k
theorem Kb.belowB {B : Nat} (k : Kb w p b) (hb : Below B w w') (hp : p < B) : Kb w' p b := (hb.block p hp).trans k
theorem Kb.alloc (k : Kb w p b) (o : Obj) : Kb (w.alloc o) p b := k.below ((Below.refl _ _).alloc (Nat.le_refl _) o)
theorem Kb.drew (k : Kb w p b) : Kb w.drew p b := k
theorem Kb.new (w : World) (b : Bk) : Kb (w.alloc (bo b)) w.heap.size b := Array.getElem?_push_size
theorem Kb.other (k : Kb w p b) {a : Addr} (ha : p ≠ a.block) (u : Value) : Kb (w.setCell a u) p b := (Below.heap_setCell w a u p ha).trans k
theorem Kb.put (k : Kb w p b) (c : Bk) : Kb ((((w.setCell ⟨p, 0, none⟩ (.int .i64 c.most)).setCell ⟨p, 1, none⟩ (.int .i64 c.every)).setCell ⟨p, 2, none⟩ (.int .i64 c.has)).setCell ⟨p, 3, none⟩ (.int .i64 c.att)) p c := by
  have k : w.heap[p]? = some (.cells #[.int .i64 b.most, .int .i64 b.every, .int .i64 b.has, .int .i64 b.att] 23 (0, 0)) := k
  show ((((w.setCell ⟨p, 0, none⟩ (.int .i64 c.most)).setCell ⟨p, 1, none⟩ (.int .i64 c.every)).setCell ⟨p, 2, none⟩ (.int .i64 c.has)).setCell ⟨p, 3, none⟩ (.int .i64 c.att)).heap[p]? = _
  simp [World.setCell, Array.getElem?_modify, k]
theorem Kb.setH (k : Kb w p b) (n : Int) : Kb (w.setCell ⟨p, 2, none⟩ (.int .i64 n)) p ⟨b.most, b.every, n, b.att⟩ := by
  have k : w.heap[p]? = some (.cells #[.int .i64 b.most, .int .i64 b.every, .int .i64 b.has, .int .i64 b.att] 23 (0, 0)) := k
  show (w.setCell ⟨p, 2, none⟩ _).heap[p]? = _
  simp [World.setCell, Array.getElem?_modify, k]
theorem Kb.setA (k : Kb w p b) (n : Int) : Kb (w.setCell ⟨p, 3, none⟩ (.int .i64 n)) p ⟨b.most, b.every, b.has, n⟩ := by
  have k : w.heap[p]? = some (.cells #[.int .i64 b.most, .int .i64 b.every, .int .i64 b.has, .int .i64 b.att] 23 (0, 0)) := k
  show (w.setCell ⟨p, 3, none⟩ _).heap[p]? = _
  simp [World.setCell, Array.getElem?_modify, k]
theorem Kb.other4 (k : Kb w p b) {q : Nat} (ha : p ≠ q) (u0 u1 u2 u3 : Value) : Kb ((((w.setCell ⟨q, 0, none⟩ u0).setCell ⟨q, 1, none⟩ u1).setCell ⟨q, 2, none⟩ u2).setCell ⟨q, 3, none⟩ u3) p b :=
  (((k.other (a := ⟨q, 0, none⟩) ha u0).other (a := ⟨q, 1, none⟩) ha u1).other (a := ⟨q, 2, none⟩) ha u2).other (a := ⟨q, 3, none⟩) ha u3
end
theorem fromAlloc {w w' : World} {o : Obj} (h : Below w.heap.size (w.alloc o) w') : Below w.heap.size w w' := ((Below.refl _ _).alloc (Nat.le_refl _) o).trans h
theorem bel_al {B : Nat} {w w' : World} (h : Below B w w') (hB : B ≤ w'.heap.size) (o : Obj) : Below B w (w'.alloc o) := h.alloc hB o
theorem bel_set {B : Nat} {w w' : World} (h : Below B w w') {a : Addr} (ha : B ≤ a.block) (u : Value) : Below B w (w'.setCell a u) :=
  h.trans ⟨rfl, rfl, rfl, by simp [World.setCell], fun k hk => Below.heap_setCell w' a u k (by omega)⟩
theorem bel_set4 {B p : Nat} {w w' : World} (h : Below B w w') (ha : B ≤ p) (u0 u1 u2 u3 : Value) : Below B w ((((w'.setCell ⟨p, 0, none⟩ u0).setCell ⟨p, 1, none⟩ u1).setCell ⟨p, 2, none⟩ u2).setCell ⟨p, 3, none⟩ u3) :=
  bel_set (bel_set (bel_set (bel_set h (a := ⟨p, 0, none⟩) ha u0) (a := ⟨p, 1, none⟩) ha u1) (a := ⟨p, 2, none⟩) ha u2) (a := ⟨p, 3, none⟩) ha u3
/-- The two boxes of a function: its argument and its result. -/
theorem box2 (w : World) (b : Bk) : Kb ((w.alloc (bo b)).alloc (bo nB)) w.heap.size b ∧ Kb ((w.alloc (bo b)).alloc (bo nB)) (w.heap.size + 1) nB ∧ Below w.heap.size w ((w.alloc (bo b)).alloc (bo nB)) := by
  refine ⟨(Kb.new w b).alloc _, ?_, bel_al (bel_al (Below.refl _ _) (Nat.le_refl _) _) (by simp) _⟩
  have := Kb.new (w.alloc (bo b)) nB
  rwa [show (w.alloc (bo b)).heap.size = w.heap.size + 1 by simp] at this

/-- '==' of two buckets. -/
theorem run_eq (x y : Bk) (w : World) : (binOp .eql 23 (bv x) (bv y)).run Try.prog w = .ok (.bool (decide (x = y))) w := by
  have hf : Try.prog.underlying 23 = some (.struct (Try.prog.fieldsOf 23)) := by kernel_rfl
  have hs : Try.prog.stoodInHeld 23 = false := by kernel_rfl
  rw [run_eql_struct, run_equalIn_agg w 9999 _ _ _ hf hs]
  have hl : (Try.prog.fieldsOf 23).toList = [⟨"Most", 3, 0, false, "", "", 0⟩, ⟨"Every", 3, 1, false, "", "", 8⟩, ⟨"Has", 3, 2, false, "", "", 16⟩, ⟨"At", 3, 3, false, "", "", 24⟩] := by kernel_rfl
  have hi : Try.prog.underlying 3 = some (.int .i64) := by kernel_rfl
  rw [hl]
  obtain ⟨m, e, h, a⟩ := x
  obtain ⟨m', e', h', a'⟩ := y
  simp [go_sem, Op.eqFields, hi]
  by_cases h1 : m = m'
  · by_cases h2 : e = e'
    · by_cases h3 : h = h'
      · by_cases h4 : a = a' <;> simp [h1, h2, h3, h4]
      · simp [h1, h2, h3]
    · simp [h1, h2]
  · simp [h1]

theorem isNumber_any (n : Int) (w : World) : Calls Try.prog 17 #[.int .i64 n] w fun e w' => e = .returned (.bool (decide (isTok n))) ∧ w = w' := by
  by_cases h : 1 ≤ n
  · have hd : decide (1 ≤ n) = true := by simpa using h
    have HE : Hid (decide (isTok n) = decide (n ≤ 1048576)) := Lib.hid (by simp [isTok, h])
    clear h
    go_enter Try.func17, Try.ntmps17
    go_wp2
    go_ret
    exact ⟨ret_bool HE.out.symm, rfl⟩
  · have hd : decide (1 ≤ n) = false := by simpa using h
    have HE : Hid (decide (isTok n) = false) := Lib.hid (decide_eq_false (fun hh => h hh.1))
    clear h
    go_enter Try.func17, Try.ntmps17
    go_wp2
    go_ret
    exact ⟨ret_bool HE.out.symm, rfl⟩
theorem isTick_any (n : Int) (w : World) : Calls Try.prog 16 #[.int .i64 n] w fun e w' => e = .returned (.bool (decide (isTick n))) ∧ w = w' := by
  by_cases h : 0 ≤ n
  · have hd : decide (0 ≤ n) = true := by simpa using h
    have HE : Hid (decide (isTick n) = decide (n ≤ 1099511627776)) := Lib.hid (by simp [isTick, h])
    clear h
    go_enter Try.func16, Try.ntmps16
    go_wp2
    go_ret
    exact ⟨ret_bool HE.out.symm, rfl⟩
  · have hd : decide (0 ≤ n) = false := by simpa using h
    have HE : Hid (decide (isTick n) = false) := Lib.hid (decide_eq_false (fun hh => h hh.1))
    clear h
    go_enter Try.func16, Try.ntmps16
    go_wp2
    go_ret
    exact ⟨ret_bool HE.out.symm, rfl⟩

/-! ### Check -/
theorem check_one {b : Bk} (h : ¬ Ok b) : ckE b = 3 := if_neg h
theorem check_zero {b : Bk} : ckE b = 0 ↔ Ok b := by unfold ckE; split <;> simp_all

set_option maxHeartbeats 4000000 in
theorem check_any (b : Bk) (w : World) :
    Calls Try.prog 15 #[bv b] w fun e w' => e = .returned (.int .i64 (ckE b)) ∧ Below w.heap.size w w' := by
  obtain ⟨m, ev, h, t⟩ := b
  have HB0 : Hid (Below w.heap.size w (w.alloc (bo ⟨m, ev, h, t⟩))) := Lib.hid (bel_al (Below.refl _ _) (Nat.le_refl _) _)
  obtain ⟨x0, x1, x2, x3⟩ := (Kb.new w ⟨m, ev, h, t⟩).cells
  have H1 : Hid (∀ W : World, Calls Try.prog 17 #[.int .i64 m] W fun e w' => e = .returned (.bool (decide (isTok m))) ∧ W = w') := Lib.hid (fun W => isNumber_any m W)
  have H2 : Hid (∀ W : World, Calls Try.prog 17 #[.int .i64 ev] W fun e w' => e = .returned (.bool (decide (isTok ev))) ∧ W = w') := Lib.hid (fun W => isNumber_any ev W)
  have H3 : Hid (∀ W : World, Calls Try.prog 16 #[.int .i64 t] W fun e w' => e = .returned (.bool (decide (isTick t))) ∧ W = w') := Lib.hid (fun W => isTick_any t W)
  by_cases q1 : isTok m
  · have p1 : decide (isTok m) = true := decide_eq_true q1
    by_cases q2 : isTok ev
    · have p2 : decide (isTok ev) = true := decide_eq_true q2
      by_cases q3 : h < 0
      · have p3 : decide (h < 0) = true := by simpa using q3
        have HE : Hid (ckE ⟨m, ev, h, t⟩ = 3) := Lib.hid (check_one (fun k => by have : 0 ≤ h := k.2.2.1.1; omega))
        clear q1 q2 q3
        go_enter Try.func15, Try.ntmps15
        go_wp2_with (first | (with_reducible refine (H1.out _).mono ?_; rintro e w2 ⟨rfl, rfl⟩) | (with_reducible refine (H2.out _).mono ?_; rintro e w2 ⟨rfl, rfl⟩) | (with_reducible refine (H3.out _).mono ?_; rintro e w2 ⟨rfl, rfl⟩))
        go_ret
        exact ⟨ret_int HE.out.symm, HB0.out⟩
      · have p3 : decide (h < 0) = false := by simpa using q3
        by_cases q4 : m < h
        · have p4 : decide (m < h) = true := by simpa using q4
          have HE : Hid (ckE ⟨m, ev, h, t⟩ = 3) := Lib.hid (check_one (fun k => by have : h ≤ m := k.2.2.1.2; omega))
          clear q1 q2 q3 q4
          go_enter Try.func15, Try.ntmps15
          go_wp2_with (first | (with_reducible refine (H1.out _).mono ?_; rintro e w2 ⟨rfl, rfl⟩) | (with_reducible refine (H2.out _).mono ?_; rintro e w2 ⟨rfl, rfl⟩) | (with_reducible refine (H3.out _).mono ?_; rintro e w2 ⟨rfl, rfl⟩))
          go_ret
          exact ⟨ret_int HE.out.symm, HB0.out⟩
        · have p4 : decide (m < h) = false := by simpa using q4
          by_cases q5 : isTick t
          · have p5 : decide (isTick t) = true := decide_eq_true q5
            have HE : Hid (ckE ⟨m, ev, h, t⟩ = 0) := Lib.hid (if_pos ⟨q1, q2, ⟨by show 0 ≤ h; omega, by show h ≤ m; omega⟩, q5⟩)
            clear q1 q2 q3 q4 q5
            go_enter Try.func15, Try.ntmps15
            go_wp2_with (first | (with_reducible refine (H1.out _).mono ?_; rintro e w2 ⟨rfl, rfl⟩) | (with_reducible refine (H2.out _).mono ?_; rintro e w2 ⟨rfl, rfl⟩) | (with_reducible refine (H3.out _).mono ?_; rintro e w2 ⟨rfl, rfl⟩))
            go_ret
            exact ⟨ret_int HE.out.symm, HB0.out⟩
          · have p5 : decide (isTick t) = false := decide_eq_false q5
            have HE : Hid (ckE ⟨m, ev, h, t⟩ = 3) := Lib.hid (check_one (fun k => q5 k.2.2.2))
            clear q1 q2 q3 q4 q5
            go_enter Try.func15, Try.ntmps15
            go_wp2_with (first | (with_reducible refine (H1.out _).mono ?_; rintro e w2 ⟨rfl, rfl⟩) | (with_reducible refine (H2.out _).mono ?_; rintro e w2 ⟨rfl, rfl⟩) | (with_reducible refine (H3.out _).mono ?_; rintro e w2 ⟨rfl, rfl⟩))
            go_ret
            exact ⟨ret_int HE.out.symm, HB0.out⟩
    · have p2 : decide (isTok ev) = false := decide_eq_false q2
      have HE : Hid (ckE ⟨m, ev, h, t⟩ = 3) := Lib.hid (check_one (fun k => q2 k.2.1))
      clear q1 q2
      go_enter Try.func15, Try.ntmps15
      go_wp2_with (first | (with_reducible refine (H1.out _).mono ?_; rintro e w2 ⟨rfl, rfl⟩) | (with_reducible refine (H2.out _).mono ?_; rintro e w2 ⟨rfl, rfl⟩) | (with_reducible refine (H3.out _).mono ?_; rintro e w2 ⟨rfl, rfl⟩))
      go_ret
      exact ⟨ret_int HE.out.symm, HB0.out⟩
  · have p1 : decide (isTok m) = false := decide_eq_false q1
    have HE : Hid (ckE ⟨m, ev, h, t⟩ = 3) := Lib.hid (check_one (fun k => q1 k.1))
    clear q1
    go_enter Try.func15, Try.ntmps15
    go_wp2_with (first | (with_reducible refine (H1.out _).mono ?_; rintro e w2 ⟨rfl, rfl⟩) | (with_reducible refine (H2.out _).mono ?_; rintro e w2 ⟨rfl, rfl⟩) | (with_reducible refine (H3.out _).mono ?_; rintro e w2 ⟨rfl, rfl⟩))
    go_ret
    exact ⟨ret_int HE.out.symm, HB0.out⟩

end Go.Proofs.Ytildmhfpjdmcbaa.Rat
