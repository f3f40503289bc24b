/-
  Points and rows of them in memory.
-/
import Derived.Test.YtjmhemkbfephpaaRingMore
import Derived.Test.YtjmhemkbfephpaaInts
import Derived.Test.YtjmhemkbfephpaaChecked
import Derived.WalkKit
import Derived.Below
import Derived.Lib.Hide
import Derived.Laws.OwnMore
namespace Go.Proofs.Ytjmhemkbfephpaa.Rng
open Go.RowKit
set_option linter.unusedVariables false

abbrev fv (f : Pt) : Value := .agg #[.int .i64 f.at_, .int .i64 f.sh]
abbrev fo (f : Pt) : Obj := .cells #[.int .i64 f.at_, .int .i64 f.sh] 35
def encP (f : Pt) : List Value := [.int .i64 f.at_, .int .i64 f.sh]
def encPs (F : List Pt) : List Value := F.flatMap encP
theorem encPs_cons (f : Pt) (F : List Pt) : encPs (f :: F) = .int .i64 f.at_ :: .int .i64 f.sh :: encPs F := by simp [encPs, encP]
theorem encPs_len (F : List Pt) : (encPs F).length = F.length * 2 := by
  induction F with
  | nil => rfl
  | cons x xs ih => rw [encPs_cons]; simp only [List.length_cons, ih]; omega
theorem encPs_app (F M : List Pt) : encPs (F ++ M) = encPs F ++ encPs M := by simp [encPs]
theorem encPs_get (F : List Pt) : ∀ (i : Nat), i < F.length → (encPs F)[i * 2]? = some (.int .i64 (gp F i).at_) ∧ (encPs F)[i * 2 + 1]? = some (.int .i64 (gp F i).sh) := by
  induction F with
  | nil => intro i hi; simp at hi
  | cons x xs ih =>
    intro i hi
    rw [encPs_cons]
    cases i with
    | zero => simp [gp]
    | succ i =>
      have h := ih i (by simpa using hi)
      rw [show (i + 1) * 2 = i * 2 + 1 + 1 by omega]
      simpa [gp] using h
theorem encPs_one (F : List Pt) : ∀ u ∈ encPs F, u.oneCell' = true := by
  intro u hu
  obtain ⟨s, _, hs⟩ := List.mem_flatMap.1 hu
  simp only [encP, List.mem_cons, List.not_mem_nil, or_false] at hs
  rcases hs with rfl | rfl <;> rfl
theorem encPs_setU (F : List Pt) (b : Int) : ∀ i, i < F.length → (encPs F).set (i * 2 + 1) (.int .i64 b) = encPs (F.set i ⟨(gp F i).at_, b⟩) := by
  induction F with
  | nil => intro i hi; simp at hi
  | cons x xs ih =>
    intro i hi
    cases i with
    | zero => rw [List.set_cons_zero, encPs_cons, encPs_cons]; simp [gp]
    | succ i =>
      rw [List.set_cons_succ, encPs_cons, encPs_cons, show (i + 1) * 2 + 1 = i * 2 + 1 + 1 + 1 by omega, List.set_cons_succ, List.set_cons_succ, ih i (by simpa using hi)]
      rfl
theorem encPs_set (F : List Pt) (f : Pt) : ∀ i, ((encPs F).set (i * 2) (.int .i64 f.at_)).set (i * 2 + 1) (.int .i64 f.sh) = encPs (F.set i f) := by
  induction F with
  | nil => intro i; simp [encPs]
  | cons x xs ih =>
    intro i
    cases i with
    | zero => rw [List.set_cons_zero, encPs_cons, encPs_cons]; rfl
    | succ i =>
      rw [List.set_cons_succ, encPs_cons, encPs_cons, ← ih i, show (i + 1) * 2 = i * 2 + 1 + 1 by omega]
      simp only [List.set_cons_succ]

/-! ### rows of points -/
def PtAt (w : World) (b o : Nat) (F : List Pt) : Prop :=
  b < w.heap.size ∧ ∀ i, i < F.length → w.cell? ⟨b, o + i * 2, none⟩ = some (.int .i64 (gp F i).at_) ∧ w.cell? ⟨b, o + i * 2 + 1, none⟩ = some (.int .i64 (gp F i).sh)
/-- A slice of points that reads as F. -/
def Pts (w : World) (A : Option Addr) (c : Nat) (F : List Pt) : Prop :=
  F.length ≤ c ∧ c ≤ maxLen ∧ (A = none → c = 0) ∧ (0 < F.length → ∃ b o, A = some ⟨b, o, none⟩ ∧ PtAt w b o F)
section
variable {w w' : World} {A : Option Addr} {c : Nat} {F : List Pt}
theorem PtAt.below {b o B : Nat} (h : PtAt w b o F) (hB : b < B) (hb : Below B w w') : PtAt w' b o F :=
  ⟨Nat.lt_of_lt_of_le h.1 hb.size, fun i hi => ⟨(hb.cell (p := ⟨b, _, none⟩) hB).trans (h.2 i hi).1, (hb.cell (p := ⟨b, _, none⟩) hB).trans (h.2 i hi).2⟩⟩
theorem Pts.below (h : Pts w A c F) (hb : Below w.heap.size w w') : Pts w' A c F :=
  ⟨h.1, h.2.1, h.2.2.1, fun hl => by obtain ⟨b, o, e, ht⟩ := h.2.2.2 hl; exact ⟨b, o, e, ht.below ht.1 hb⟩⟩
theorem Pts.none_ (w : World) : Pts w none 0 [] := ⟨Nat.le_refl _, Nat.zero_le _, fun _ => rfl, fun h => absurd h (by simp)⟩
theorem Pts.len (h : Pts w A c F) : F.length ≤ 9223372036854775807 := by
  have h1 := h.1; have h2 := h.2.1; unfold maxLen at h2; omega
theorem Pts.len' (h : Pts w A c F) : F.length ≤ maxLen := Nat.le_trans h.1 h.2.1
theorem Pts.alloc (h : Pts w A c F) (o : Obj) : Pts (w.alloc o) A c F := h.below ((Below.refl _ _).alloc (Nat.le_refl _) o)
theorem Pts.drew (h : Pts w A c F) : Pts w.drew A c F := h.below (Below.refl _ _).drew
theorem Pts.setCell (h : Pts w A c F) {p : Addr} (hp : ∀ a, A = some a → p.block ≠ a.block) (u : Value) : Pts (w.setCell p u) A c F :=
  ⟨h.1, h.2.1, h.2.2.1, fun hl => by
    obtain ⟨b, o, e, h1, h2⟩ := h.2.2.2 hl
    refine ⟨b, o, e, by simpa [World.setCell] using h1, fun i hi => ?_⟩
    have hne : b ≠ p.block := fun e2 => hp _ e e2.symm
    have hk : ∀ k, (w.setCell p u).cell? ⟨b, k, none⟩ = w.cell? ⟨b, k, none⟩ := fun k => World.cell?_of_block (w := w) (a := ⟨b, k, none⟩) (Below.heap_setCell w p u b hne)
    exact ⟨(hk _).trans (h2 i hi).1, (hk _).trans (h2 i hi).2⟩⟩
theorem Pts.take (h : Pts w A c F) (k : Nat) : Pts w A c (F.take k) :=
  ⟨by rw [List.length_take]; have := h.1; omega, h.2.1, h.2.2.1, fun h0 => by
    rw [List.length_take] at h0
    obtain ⟨b, o, e, ht⟩ := h.2.2.2 (by omega)
    refine ⟨b, o, e, ht.1, fun i hi => ?_⟩
    rw [List.length_take] at hi
    have e : gp (F.take k) i = gp F i := by unfold gp; rw [List.getD_eq_getElem?_getD, List.getElem?_take, if_pos (by omega), ← List.getD_eq_getElem?_getD]
    rw [e]
    exact ht.2 i (by omega)⟩
end
/-- A row of the call's own. -/
def OwnP (w : World) (base : Nat) (v : Value) (F : List Pt) : Prop := w.ownsRow base 35 2 v F.length (encPs F)
section
variable {w w' : World} {base p : Nat} {v : Value} {F : List Pt}
theorem pts_of_own (h : OwnP w base v F) : ∃ A c, v = .slice A F.length c ∧ Pts w A c F ∧ ∀ a, A = some a → base ≤ a.block := by
  rcases h.2 with ⟨rfl, h0⟩ | ⟨g, cap, cur, rfl, hb, hg, hn, hm, hs, ht⟩
  · have : F = [] := List.length_eq_zero_iff.1 h0
    subst this
    exact ⟨none, 0, rfl, Pts.none_ w, fun a e => by cases e⟩
  · refine ⟨_, cap, rfl, ⟨hn, hm, fun e => (by cases e), fun hl => ⟨g, 0, rfl, (Array.getElem?_eq_some_iff.1 hg).1, fun i hi => ?_⟩⟩, fun a e => by cases e; exact hb⟩
    obtain ⟨e1, e2⟩ := encPs_get F i hi
    rw [← ht, List.getElem?_take, if_pos (by omega)] at e1 e2
    rw [Nat.zero_add, cell_of_row w g _ _ _ (0, 0) hg, cell_of_row w g _ _ _ (0, 0) hg]
    exact ⟨by simpa using e1, by simpa using e2⟩
theorem OwnP.form (h : OwnP w base v F) (h0 : 0 < F.length) : ∃ g c, v = .slice (some ⟨g, 0, none⟩) F.length c ∧ base ≤ g := by
  rcases h.2 with ⟨rfl, h1⟩ | ⟨g, cap, cur, rfl, hb, hg, hn, hm, hs, ht⟩
  · omega
  · exact ⟨g, cap, rfl, hb⟩
theorem OwnP.alloc (h : OwnP w base v F) (o : Obj) : OwnP (w.alloc o) base v F := World.ownsRow.alloc h o
theorem OwnP.drew (h : OwnP w base v F) : OwnP w.drew base v F := h
theorem OwnP.set (h : OwnP w base v F) (hp : v.ownBlock ≠ some p) (j : Nat) (u : Value) : OwnP (w.setCell ⟨p, j, none⟩ u) base v F :=
  World.ownsRow.kept (row := some p) h ⟨rfl, rfl, rfl, by simp [World.setCell], fun k hk hne => Below.heap_setCell w ⟨p, j, none⟩ u k (fun e => hne (by rw [e]))⟩ (.inr hp)
theorem OwnP.cells {g c n i : Nat} (h : OwnP w base (.slice (some ⟨g, 0, none⟩) n c) F) (hn : n = F.length) (hi : i < F.length) :
    w.cell? ⟨g, i * 2, none⟩ = some (.int .i64 (gp F i).at_) ∧ w.cell? ⟨g, i * 2 + 1, none⟩ = some (.int .i64 (gp F i).sh) ∧ w.frozen? ⟨g, i * 2, none⟩ = false ∧ w.frozen? ⟨g, i * 2 + 1, none⟩ = false := by
  subst hn
  obtain ⟨e1, e2⟩ := encPs_get F i hi
  exact ⟨(World.ownsRow.cellAt h _ (by omega)).trans e1, (World.ownsRow.cellAt h _ (by omega)).trans e2, World.ownsRow.frozenAt h _, World.ownsRow.frozenAt h _⟩
theorem OwnP.putU {g c n i : Nat} (h : OwnP w base (.slice (some ⟨g, 0, none⟩) n c) F) (hn : n = F.length) (hi : i < F.length) (b : Int) :
    OwnP (w.setCell ⟨g, i * 2 + 1, none⟩ (.int .i64 b)) base (.slice (some ⟨g, 0, none⟩) n c) (F.set i ⟨(gp F i).at_, b⟩) := by
  subst hn
  have k := (World.ownsRow.stored h (i * 2 + 1) (.int .i64 b)).1
  rw [encPs_setU F b i hi] at k
  unfold OwnP
  rw [List.length_set]
  exact k
theorem OwnP.put {g c n i : Nat} (h : OwnP w base (.slice (some ⟨g, 0, none⟩) n c) F) (hn : n = F.length) (f : Pt) :
    OwnP ((w.setCell ⟨g, i * 2, none⟩ (.int .i64 f.at_)).setCell ⟨g, i * 2 + 1, none⟩ (.int .i64 f.sh)) base (.slice (some ⟨g, 0, none⟩) n c) (F.set i f) := by
  subst hn
  have k := (World.ownsRow.stored (World.ownsRow.stored h (i * 2) (.int .i64 f.at_)).1 (i * 2 + 1) (.int .i64 f.sh)).1
  rw [encPs_set F f i] at k
  unfold OwnP
  rw [List.length_set]
  exact k
end

theorem OwnP.below {w w' : World} {base : Nat} {v : Value} {F : List Pt} (h : OwnP w base v F) (hb : Below w.heap.size w w') : OwnP w' base v F :=
  World.ownsRow.kept (row := none) h ⟨hb.os, hb.tape, hb.output, hb.size, fun k hk _ => hb.block k hk⟩ (by cases v.ownBlock with | none => exact .inl rfl | some k => exact .inr (by simp))
theorem OwnP.base_le {w : World} {base base' : Nat} {v : Value} {F : List Pt} (h : OwnP w base v F) (hb : base' ≤ base) : OwnP w base' v F :=
  ⟨h.1, h.2.elim .inl (fun ⟨g, cap, cur, e, h1, h2⟩ => .inr ⟨g, cap, cur, e, Nat.le_trans hb h1, h2⟩)⟩
theorem OwnP.nil (w : World) (base : Nat) : OwnP w base (.slice none 0 0) [] := World.ownsRow_nil _ _ _ _
theorem pts_cells {w : World} {b o : Nat} {F : List Pt} (h : PtAt w b o F) : ∀ j u, (encPs F)[j]? = some u → w.cell? ⟨b, o + j, none⟩ = some u := by
  intro j u hu
  have hl : j < F.length * 2 := by rw [← encPs_len]; exact (List.getElem?_eq_some_iff.1 hu).1
  obtain ⟨h1, h2⟩ := encPs_get F (j / 2) (by omega)
  obtain ⟨g1, g2⟩ := h.2 (j / 2) (by omega)
  rcases (by omega : j = j / 2 * 2 ∨ j = j / 2 * 2 + 1) with e | e
  · rw [← e] at h1 g1; rw [hu] at h1; rw [g1, h1]
  · rw [← e] at h2; rw [Nat.add_assoc, ← e] at g2; rw [hu] at h2; rw [g2, h2]
/-- Point k of a slice. -/
theorem Pts.pt {w : World} {A : Option Addr} {c k : Nat} {F : List Pt} (h : Pts w A c F) (hk : k < F.length) : ∃ b o, A = some ⟨b, o, none⟩ ∧ w.cell? ⟨b, o + k * 2, none⟩ = some (.int .i64 (gp F k).at_) ∧ w.cell? ⟨b, o + k * 2 + 1, none⟩ = some (.int .i64 (gp F k).sh) := by
  obtain ⟨b, o, e, ht⟩ := h.2.2.2 (by omega)
  exact ⟨b, o, e, (ht.2 k hk).1, (ht.2 k hk).2⟩
/-- Two points of a slice. -/
theorem Pts.two {w : World} {A : Option Addr} {c k j : Nat} {F : List Pt} (h : Pts w A c F) (hk : k < F.length) (hj : j < F.length) : ∃ b o, A = some ⟨b, o, none⟩ ∧ (w.cell? ⟨b, o + k * 2, none⟩ = some (.int .i64 (gp F k).at_) ∧ w.cell? ⟨b, o + k * 2 + 1, none⟩ = some (.int .i64 (gp F k).sh)) ∧ w.cell? ⟨b, o + j * 2, none⟩ = some (.int .i64 (gp F j).at_) ∧ w.cell? ⟨b, o + j * 2 + 1, none⟩ = some (.int .i64 (gp F j).sh) := by
  obtain ⟨b, o, e, ht⟩ := h.2.2.2 (by omega)
  exact ⟨b, o, e, ht.2 k hk, ht.2 j hj⟩
theorem Pts.drewN {w : World} {A : Option Addr} {c : Nat} {F : List Pt} (h : Pts w A c F) (n : Nat) : Pts (w.drewN n) A c F := h.below ⟨rfl, rfl, rfl, Nat.le_refl _, fun _ _ => rfl⟩

/-! ### A point in a block of its own -/
/-- Block p holds a point. -/
def Sb (w : World) (p : Nat) (b : Pt) : Prop := w.heap[p]? = some (.cells #[.int .i64 b.at_, .int .i64 b.sh] 35 (0, 0))
section
variable {w w' : World} {p : Nat} {b : Pt}
theorem Sb.lt (k : Sb w p b) : p < w.heap.size := (Array.getElem?_eq_some_iff.1 k).1
theorem Sb.cells (k : Sb w p b) : w.cell? ⟨p, 0, none⟩ = some (.int .i64 b.at_) ∧ w.cell? ⟨p, 1, none⟩ = some (.int .i64 b.sh) := by
  have k : w.heap[p]? = some (.cells #[.int .i64 b.at_, .int .i64 b.sh] 35 (0, 0)) := k
  exact ⟨by rw [cell_of_row w p 0 _ _ (0, 0) k]; rfl, by rw [cell_of_row w p 1 _ _ (0, 0) k]; rfl⟩
theorem Sb.below (k : Sb w p b) (hb : Below w.heap.size w w') : Sb w' p b := (hb.block p k.lt).trans k
theorem Sb.belowB {B : Nat} (k : Sb w p b) (hb : Below B w w') (hp : p < B) : Sb w' p b := (hb.block p hp).trans k
theorem Sb.alloc (k : Sb w p b) (o : Obj) : Sb (w.alloc o) p b := k.below ((Below.refl _ _).alloc (Nat.le_refl _) o)
theorem Sb.drewN (k : Sb w p b) (n : Nat) : Sb (w.drewN n) p b := k
theorem Sb.new (w : World) (b : Pt) : Sb (w.alloc (fo b)) w.heap.size b := Array.getElem?_push_size
/-- As a slice of one point. -/
theorem Sb.one (k : Sb w p b) : Pts w (some ⟨p, 0, none⟩) 1 [b] := by
  refine ⟨Nat.le_refl _, by unfold maxLen; decide, fun e => (by cases e), fun _ => ⟨p, 0, rfl, k.lt, fun i hi => ?_⟩⟩
  obtain rfl : i = 0 := by simp at hi; omega
  simpa [gp] using k.cells
end

theorem bel_drewN {B : Nat} {w w' : World} (h : Below B w w') (n : Nat) : Below B w (w'.drewN n) := h.trans ⟨rfl, rfl, rfl, Nat.le_refl _, fun _ _ => rfl⟩
theorem bel_al {B : Nat} {w w' : World} (h : Below B w w') (hB : B ≤ w'.heap.size) (o : Obj) : Below B w (w'.alloc o) := h.alloc hB o
theorem bel_set {B : Nat} {w w' : World} (h : Below B w w') {a : Addr} (ha : B ≤ a.block) (u : Value) : Below B w (w'.setCell a u) :=
  h.trans ⟨rfl, rfl, rfl, by simp [World.setCell], fun k hk => Below.heap_setCell w' a u k (by omega)⟩
theorem fromAlloc {w w' : World} {o : Obj} (h : Below w.heap.size (w.alloc o) w') : Below w.heap.size w w' := ((Below.refl _ _).alloc (Nat.le_refl _) o).trans h
theorem ret_bool {a b : Bool} (h : a = b) : Ending.returned (.bool a) = .returned (.bool b) := by rw [h]
theorem ret_int {k : IntKind} {a b : Int} (h : a = b) : Ending.returned (.int k a) = .returned (.int k b) := by rw [h]

end Go.Proofs.Ytjmhemkbfephpaa.Rng
