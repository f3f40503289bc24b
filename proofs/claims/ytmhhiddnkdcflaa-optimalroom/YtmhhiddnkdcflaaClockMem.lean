/-
  Frames, rows of frames and clocks in memory.
-/
import Derived.Test.YtmhhiddnkdcflaaClockMath
import Derived.Test.YtmhhiddnkdcflaaChecked
import Derived.WalkKit
import Derived.Below
import Derived.Lib.Hide
import Derived.Laws.OwnMore
namespace Go.Proofs.Ytmhhiddnkdcflaa.Clk
open Go.RowKit
set_option linter.unusedVariables false

abbrev fv (f : Fr) : Value := .agg #[.int .i64 f.key, .bool f.used]
abbrev fo (f : Fr) : Obj := .cells #[.int .i64 f.key, .bool f.used] 83
def encF (f : Fr) : List Value := [.int .i64 f.key, .bool f.used]
def encFs (F : List Fr) : List Value := F.flatMap encF
theorem encFs_cons (f : Fr) (F : List Fr) : encFs (f :: F) = .int .i64 f.key :: .bool f.used :: encFs F := by simp [encFs, encF]
theorem encFs_len (F : List Fr) : (encFs F).length = F.length * 2 := by
  induction F with
  | nil => rfl
  | cons x xs ih => rw [encFs_cons]; simp only [List.length_cons, ih]; omega
theorem encFs_app (F M : List Fr) : encFs (F ++ M) = encFs F ++ encFs M := by simp [encFs]
theorem encFs_get (F : List Fr) : ∀ (i : Nat), i < F.length → (encFs F)[i * 2]? = some (.int .i64 (gf F i).key) ∧ (encFs F)[i * 2 + 1]? = some (.bool (gf F i).used) := by
  induction F with
  | nil => intro i hi; simp at hi
  | cons x xs ih =>
    intro i hi
    rw [encFs_cons]
    cases i with
    | zero => simp [gf]
    | succ i =>
      have h := ih i (by simpa using hi)
      rw [show (i + 1) * 2 = i * 2 + 1 + 1 by omega]
      simpa [gf] using h
theorem encFs_one (F : List Fr) : ∀ u ∈ encFs F, u.oneCell' = true := by
  intro u hu
  obtain ⟨s, _, hs⟩ := List.mem_flatMap.1 hu
  simp only [encF, List.mem_cons, List.not_mem_nil, or_false] at hs
  rcases hs with rfl | rfl <;> rfl
theorem encFs_setU (F : List Fr) (b : Bool) : ∀ i, i < F.length → (encFs F).set (i * 2 + 1) (.bool b) = encFs (F.set i ⟨(gf F i).key, b⟩) := by
  induction F with
  | nil => intro i hi; simp at hi
  | cons x xs ih =>
    intro i hi
    cases i with
    | zero => rw [List.set_cons_zero, encFs_cons, encFs_cons]; simp [gf]
    | succ i =>
      rw [List.set_cons_succ, encFs_cons, encFs_cons, show (i + 1) * 2 + 1 = i * 2 + 1 + 1 + 1 by omega, List.set_cons_succ, List.set_cons_succ, ih i (by simpa using hi)]
      rfl
theorem encFs_set (F : List Fr) (f : Fr) : ∀ i, ((encFs F).set (i * 2) (.int .i64 f.key)).set (i * 2 + 1) (.bool f.used) = encFs (F.set i f) := by
  induction F with
  | nil => intro i; simp [encFs]
  | cons x xs ih =>
    intro i
    cases i with
    | zero => rw [List.set_cons_zero, encFs_cons, encFs_cons]; rfl
    | succ i =>
      rw [List.set_cons_succ, encFs_cons, encFs_cons, ← ih i, show (i + 1) * 2 = i * 2 + 1 + 1 by omega]
      simp only [List.set_cons_succ]

/-! ### rows of frames -/
def FrAt (w : World) (b o : Nat) (F : List Fr) : Prop :=
  b < w.heap.size ∧ ∀ i, i < F.length → w.cell? ⟨b, o + i * 2, none⟩ = some (.int .i64 (gf F i).key) ∧ w.cell? ⟨b, o + i * 2 + 1, none⟩ = some (.bool (gf F i).used)
/-- A slice of frames that reads as F. -/
def Frs (w : World) (A : Option Addr) (c : Nat) (F : List Fr) : Prop :=
  F.length ≤ c ∧ c ≤ maxLen ∧ (A = none → c = 0) ∧ (0 < F.length → ∃ b o, A = some ⟨b, o, none⟩ ∧ FrAt w b o F)
section
variable {w w' : World} {A : Option Addr} {c : Nat} {F : List Fr}
theorem FrAt.below {b o B : Nat} (h : FrAt w b o F) (hB : b < B) (hb : Below B w w') : FrAt w' b o F :=
  ⟨Nat.lt_of_lt_of_le h.1 hb.size, fun i hi => ⟨(hb.cell (p := ⟨b, _, none⟩) hB).trans (h.2 i hi).1, (hb.cell (p := ⟨b, _, none⟩) hB).trans (h.2 i hi).2⟩⟩
theorem Frs.below (h : Frs w A c F) (hb : Below w.heap.size w w') : Frs w' A c F :=
  ⟨h.1, h.2.1, h.2.2.1, fun hl => by obtain ⟨b, o, e, ht⟩ := h.2.2.2 hl; exact ⟨b, o, e, ht.below ht.1 hb⟩⟩
theorem Frs.none_ (w : World) : Frs w none 0 [] := ⟨Nat.le_refl _, Nat.zero_le _, fun _ => rfl, fun h => absurd h (by simp)⟩
theorem Frs.len (h : Frs w A c F) : F.length ≤ 9223372036854775807 := by
  have h1 := h.1; have h2 := h.2.1; unfold maxLen at h2; omega
theorem Frs.len' (h : Frs w A c F) : F.length ≤ maxLen := Nat.le_trans h.1 h.2.1
theorem Frs.alloc (h : Frs w A c F) (o : Obj) : Frs (w.alloc o) A c F := h.below ((Below.refl _ _).alloc (Nat.le_refl _) o)
theorem Frs.drew (h : Frs w A c F) : Frs w.drew A c F := h.below (Below.refl _ _).drew
theorem Frs.setCell (h : Frs w A c F) {p : Addr} (hp : ∀ a, A = some a → p.block ≠ a.block) (u : Value) : Frs (w.setCell p u) A c F :=
  ⟨h.1, h.2.1, h.2.2.1, fun hl => by
    obtain ⟨b, o, e, h1, h2⟩ := h.2.2.2 hl
    refine ⟨b, o, e, by simpa [World.setCell] using h1, fun i hi => ?_⟩
    have hne : b ≠ p.block := fun e2 => hp _ e e2.symm
    have hk : ∀ k, (w.setCell p u).cell? ⟨b, k, none⟩ = w.cell? ⟨b, k, none⟩ := fun k => World.cell?_of_block (w := w) (a := ⟨b, k, none⟩) (Below.heap_setCell w p u b hne)
    exact ⟨(hk _).trans (h2 i hi).1, (hk _).trans (h2 i hi).2⟩⟩
theorem Frs.take (h : Frs w A c F) (k : Nat) : Frs w A c (F.take k) :=
  ⟨by rw [List.length_take]; have := h.1; omega, h.2.1, h.2.2.1, fun h0 => by
    rw [List.length_take] at h0
    obtain ⟨b, o, e, ht⟩ := h.2.2.2 (by omega)
    refine ⟨b, o, e, ht.1, fun i hi => ?_⟩
    rw [List.length_take] at hi
    have e : gf (F.take k) i = gf F i := by unfold gf; rw [List.getD_eq_getElem?_getD, List.getElem?_take, if_pos (by omega), ← List.getD_eq_getElem?_getD]
    rw [e]
    exact ht.2 i (by omega)⟩
end
/-- A row of the call's own. -/
def OwnF (w : World) (base : Nat) (v : Value) (F : List Fr) : Prop := w.ownsRow base 83 2 v F.length (encFs F)
section
variable {w w' : World} {base p : Nat} {v : Value} {F : List Fr}
theorem frs_of_own (h : OwnF w base v F) : ∃ A c, v = .slice A F.length c ∧ Frs w A c F ∧ ∀ a, A = some a → base ≤ a.block := by
  rcases h.2 with ⟨rfl, h0⟩ | ⟨g, cap, cur, rfl, hb, hg, hn, hm, hs, ht⟩
  · have : F = [] := List.length_eq_zero_iff.1 h0
    subst this
    exact ⟨none, 0, rfl, Frs.none_ w, fun a e => by cases e⟩
  · refine ⟨_, cap, rfl, ⟨hn, hm, fun e => (by cases e), fun hl => ⟨g, 0, rfl, (Array.getElem?_eq_some_iff.1 hg).1, fun i hi => ?_⟩⟩, fun a e => by cases e; exact hb⟩
    obtain ⟨e1, e2⟩ := encFs_get F i hi
    rw [← ht, List.getElem?_take, if_pos (by omega)] at e1 e2
    rw [Nat.zero_add, cell_of_row w g _ _ _ (0, 0) hg, cell_of_row w g _ _ _ (0, 0) hg]
    exact ⟨by simpa using e1, by simpa using e2⟩
theorem OwnF.form (h : OwnF w base v F) (h0 : 0 < F.length) : ∃ g c, v = .slice (some ⟨g, 0, none⟩) F.length c ∧ base ≤ g := by
  rcases h.2 with ⟨rfl, h1⟩ | ⟨g, cap, cur, rfl, hb, hg, hn, hm, hs, ht⟩
  · omega
  · exact ⟨g, cap, rfl, hb⟩
theorem OwnF.alloc (h : OwnF w base v F) (o : Obj) : OwnF (w.alloc o) base v F := World.ownsRow.alloc h o
theorem OwnF.drew (h : OwnF w base v F) : OwnF w.drew base v F := h
theorem OwnF.set (h : OwnF w base v F) (hp : v.ownBlock ≠ some p) (j : Nat) (u : Value) : OwnF (w.setCell ⟨p, j, none⟩ u) base v F :=
  World.ownsRow.kept (row := some p) h ⟨rfl, rfl, rfl, by simp [World.setCell], fun k hk hne => Below.heap_setCell w ⟨p, j, none⟩ u k (fun e => hne (by rw [e]))⟩ (.inr hp)
theorem OwnF.cells {g c n i : Nat} (h : OwnF w base (.slice (some ⟨g, 0, none⟩) n c) F) (hn : n = F.length) (hi : i < F.length) :
    w.cell? ⟨g, i * 2, none⟩ = some (.int .i64 (gf F i).key) ∧ w.cell? ⟨g, i * 2 + 1, none⟩ = some (.bool (gf F i).used) ∧ w.frozen? ⟨g, i * 2, none⟩ = false ∧ w.frozen? ⟨g, i * 2 + 1, none⟩ = false := by
  subst hn
  obtain ⟨e1, e2⟩ := encFs_get F i hi
  exact ⟨(World.ownsRow.cellAt h _ (by omega)).trans e1, (World.ownsRow.cellAt h _ (by omega)).trans e2, World.ownsRow.frozenAt h _, World.ownsRow.frozenAt h _⟩
theorem OwnF.putU {g c n i : Nat} (h : OwnF w base (.slice (some ⟨g, 0, none⟩) n c) F) (hn : n = F.length) (hi : i < F.length) (b : Bool) :
    OwnF (w.setCell ⟨g, i * 2 + 1, none⟩ (.bool b)) base (.slice (some ⟨g, 0, none⟩) n c) (F.set i ⟨(gf F i).key, b⟩) := by
  subst hn
  have k := (World.ownsRow.stored h (i * 2 + 1) (.bool b)).1
  rw [encFs_setU F b i hi] at k
  unfold OwnF
  rw [List.length_set]
  exact k
theorem OwnF.put {g c n i : Nat} (h : OwnF w base (.slice (some ⟨g, 0, none⟩) n c) F) (hn : n = F.length) (f : Fr) :
    OwnF ((w.setCell ⟨g, i * 2, none⟩ (.int .i64 f.key)).setCell ⟨g, i * 2 + 1, none⟩ (.bool f.used)) base (.slice (some ⟨g, 0, none⟩) n c) (F.set i f) := by
  subst hn
  have k := (World.ownsRow.stored (World.ownsRow.stored h (i * 2) (.int .i64 f.key)).1 (i * 2 + 1) (.bool f.used)).1
  rw [encFs_set F f i] at k
  unfold OwnF
  rw [List.length_set]
  exact k
end

/-! ### A clock as a value, and in memory -/
abbrev kv (r h : Int) (v : Value) : Value := .agg #[.int .i64 r, .int .i64 h, v]
abbrev ko (r h : Int) (v : Value) : Obj := .cells #[.int .i64 r, .int .i64 h, v] 42
/-- Block p holds a clock. -/
def Kb (w : World) (p : Nat) (r h : Int) (v : Value) : Prop := w.heap[p]? = some (.cells #[.int .i64 r, .int .i64 h, v] 42 (0, 0))
section
variable {w w' : World} {p base : Nat} {r h : Int} {v v' : Value} {F : List Fr}
theorem Kb.lt (k : Kb w p r h v) : p < w.heap.size := (Array.getElem?_eq_some_iff.1 k).1
theorem Kb.cells (k : Kb w p r h v) : w.cell? ⟨p, 0, none⟩ = some (.int .i64 r) ∧ w.cell? ⟨p, 1, none⟩ = some (.int .i64 h) ∧ w.cell? ⟨p, 2, none⟩ = some v ∧ w.frozen? ⟨p, 0, none⟩ = false ∧ w.frozen? ⟨p, 1, none⟩ = false ∧ w.frozen? ⟨p, 2, none⟩ = false := by
  have k : w.heap[p]? = some (.cells #[.int .i64 r, .int .i64 h, v] 42 (0, 0)) := k
  exact ⟨by rw [cell_of_row w p 0 _ _ (0, 0) k]; rfl, by rw [cell_of_row w p 1 _ _ (0, 0) k]; rfl, by rw [cell_of_row w p 2 _ _ (0, 0) k]; rfl, by simp [World.frozen?, k], by simp [World.frozen?, k], by simp [World.frozen?, k]⟩
theorem Kb.below (k : Kb w p r h v) (hb : Below w.heap.size w w') : Kb w' p r h v := (hb.block p k.lt).trans k
theorem Kb.belowB {B : Nat} (k : Kb w p r h v) (hb : Below B w w') (hp : p < B) : Kb w' p r h v := (hb.block p hp).trans k
theorem Kb.alloc (k : Kb w p r h v) (o : Obj) : Kb (w.alloc o) p r h v := k.below ((Below.refl _ _).alloc (Nat.le_refl _) o)
theorem Kb.drew (k : Kb w p r h v) : Kb w.drew p r h v := k
theorem Kb.new (w : World) (r h : Int) (v : Value) : Kb (w.alloc (ko r h v)) w.heap.size r h v := Array.getElem?_push_size
theorem Kb.own (k : Kb w p r h v) (ho : OwnF w base v' F) : v'.ownBlock ≠ some p := by
  intro e
  rcases ho.2 with ⟨rfl, -⟩ | ⟨g, cap, cur, rfl, -, hg, -⟩
  · cases e
  · cases e
    have k : w.heap[g]? = some (.cells #[.int .i64 r, .int .i64 h, v] 42 (0, 0)) := k
    rw [hg] at k
    simp at k
theorem Kb.grown (k : Kb w p r h v) (ho : OwnF w base v' F) (hg : w.grownBy w' v'.ownBlock) : Kb w' p r h v := (hg.block p k.lt (fun e => k.own ho e.symm)).trans k
theorem Kb.setV (k : Kb w p r h v) (u : Value) : Kb (w.setCell ⟨p, 2, none⟩ u) p r h u := by
  have k : w.heap[p]? = some (.cells #[.int .i64 r, .int .i64 h, v] 42 (0, 0)) := k
  show (w.setCell ⟨p, 2, none⟩ u).heap[p]? = _
  simp [World.setCell, Array.getElem?_modify, k]
theorem Kb.setH (k : Kb w p r h v) (j : Int) : Kb (w.setCell ⟨p, 1, none⟩ (.int .i64 j)) p r j v := by
  have k : w.heap[p]? = some (.cells #[.int .i64 r, .int .i64 h, v] 42 (0, 0)) := k
  show (w.setCell ⟨p, 1, none⟩ _).heap[p]? = _
  simp [World.setCell, Array.getElem?_modify, k]
/-- A store into another block. -/
theorem Kb.other (k : Kb w p r h v) {a : Addr} (ha : p ≠ a.block) (u : Value) : Kb (w.setCell a u) p r h v := (Below.heap_setCell w a u p ha).trans k
end

theorem ret_bool {a b : Bool} (h : a = b) : Ending.returned (.bool a) = .returned (.bool b) := by rw [h]
theorem ret_int {a b : Int} (h : a = b) : Ending.returned (.int .i64 a) = .returned (.int .i64 b) := by rw [h]
theorem fromAlloc {w w' : World} {o : Obj} (h : Below w.heap.size (w.alloc o) w') : Below w.heap.size w w' :=
  ((Below.refl _ _).alloc (Nat.le_refl _) o).trans h
theorem bel_al {B : Nat} {w w' : World} (h : Below B w w') (hB : B ≤ w'.heap.size) (o : Obj) : Below B w (w'.alloc o) := h.alloc hB o
theorem bel_set {B : Nat} {w w' : World} (h : Below B w w') {a : Addr} (ha : B ≤ a.block) (u : Value) : Below B w (w'.setCell a u) :=
  h.trans ⟨rfl, rfl, rfl, by simp [World.setCell], fun k hk => Below.heap_setCell w' a u k (by omega)⟩

end Go.Proofs.Ytmhhiddnkdcflaa.Clk
