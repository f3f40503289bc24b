/-
  Keys with their next places and rows of them in memory.
-/
import Derived.Test.YtgdklpgmoanfkaaOptMath
import Derived.Test.YtgdklpgmoanfkaaChecked
import Derived.WalkKit
import Derived.Below
import Derived.Lib.Hide
import Derived.Laws.OwnMore
namespace Go.Proofs.Ytgdklpgmoanfkaa.Opt
open Go.RowKit
open Lfu (Us gu gu_get gu_mem gu_set keys keys_len keys_get keys_mem)
set_option linter.unusedVariables false

abbrev fv (f : Us) : Value := .agg #[.int .i64 f.key, .int .i64 f.cnt]
abbrev fo (f : Us) : Obj := .cells #[.int .i64 f.key, .int .i64 f.cnt] 56
def encU (f : Us) : List Value := [.int .i64 f.key, .int .i64 f.cnt]
def encUs (F : List Us) : List Value := F.flatMap encU
theorem encUs_cons (f : Us) (F : List Us) : encUs (f :: F) = .int .i64 f.key :: .int .i64 f.cnt :: encUs F := by simp [encUs, encU]
theorem encUs_len (F : List Us) : (encUs F).length = F.length * 2 := by
  induction F with
  | nil => rfl
  | cons x xs ih => rw [encUs_cons]; simp only [List.length_cons, ih]; omega
theorem encUs_app (F M : List Us) : encUs (F ++ M) = encUs F ++ encUs M := by simp [encUs]
theorem encUs_get (F : List Us) : ∀ (i : Nat), i < F.length → (encUs F)[i * 2]? = some (.int .i64 (gu F i).key) ∧ (encUs F)[i * 2 + 1]? = some (.int .i64 (gu F i).cnt) := by
  induction F with
  | nil => intro i hi; simp at hi
  | cons x xs ih =>
    intro i hi
    rw [encUs_cons]
    cases i with
    | zero => simp [gu]
    | succ i =>
      have h := ih i (by simpa using hi)
      rw [show (i + 1) * 2 = i * 2 + 1 + 1 by omega]
      simpa [gu] using h
theorem encUs_one (F : List Us) : ∀ u ∈ encUs F, u.oneCell' = true := by
  intro u hu
  obtain ⟨s, _, hs⟩ := List.mem_flatMap.1 hu
  simp only [encU, List.mem_cons, List.not_mem_nil, or_false] at hs
  rcases hs with rfl | rfl <;> rfl
theorem encUs_setU (F : List Us) (b : Int) : ∀ i, i < F.length → (encUs F).set (i * 2 + 1) (.int .i64 b) = encUs (F.set i ⟨(gu F i).key, b⟩) := by
  induction F with
  | nil => intro i hi; simp at hi
  | cons x xs ih =>
    intro i hi
    cases i with
    | zero => rw [List.set_cons_zero, encUs_cons, encUs_cons]; simp [gu]
    | succ i =>
      rw [List.set_cons_succ, encUs_cons, encUs_cons, show (i + 1) * 2 + 1 = i * 2 + 1 + 1 + 1 by omega, List.set_cons_succ, List.set_cons_succ, ih i (by simpa using hi)]
      rfl
theorem encUs_set (F : List Us) (f : Us) : ∀ i, ((encUs F).set (i * 2) (.int .i64 f.key)).set (i * 2 + 1) (.int .i64 f.cnt) = encUs (F.set i f) := by
  induction F with
  | nil => intro i; simp [encUs]
  | cons x xs ih =>
    intro i
    cases i with
    | zero => rw [List.set_cons_zero, encUs_cons, encUs_cons]; rfl
    | succ i =>
      rw [List.set_cons_succ, encUs_cons, encUs_cons, ← ih i, show (i + 1) * 2 = i * 2 + 1 + 1 by omega]
      simp only [List.set_cons_succ]

/-! ### rows of frames -/
def UsAt (w : World) (b o : Nat) (F : List Us) : Prop :=
  b < w.heap.size ∧ ∀ i, i < F.length → w.cell? ⟨b, o + i * 2, none⟩ = some (.int .i64 (gu F i).key) ∧ w.cell? ⟨b, o + i * 2 + 1, none⟩ = some (.int .i64 (gu F i).cnt)
/-- A slice of frames that reads as F. -/
def Uss (w : World) (A : Option Addr) (c : Nat) (F : List Us) : Prop :=
  F.length ≤ c ∧ c ≤ maxLen ∧ (A = none → c = 0) ∧ (0 < F.length → ∃ b o, A = some ⟨b, o, none⟩ ∧ UsAt w b o F)
section
variable {w w' : World} {A : Option Addr} {c : Nat} {F : List Us}
theorem UsAt.below {b o B : Nat} (h : UsAt w b o F) (hB : b < B) (hb : Below B w w') : UsAt w' b o F :=
  ⟨Nat.lt_of_lt_of_le h.1 hb.size, fun i hi => ⟨(hb.cell (p := ⟨b, _, none⟩) hB).trans (h.2 i hi).1, (hb.cell (p := ⟨b, _, none⟩) hB).trans (h.2 i hi).2⟩⟩
theorem Uss.below (h : Uss w A c F) (hb : Below w.heap.size w w') : Uss w' A c F :=
  ⟨h.1, h.2.1, h.2.2.1, fun hl => by obtain ⟨b, o, e, ht⟩ := h.2.2.2 hl; exact ⟨b, o, e, ht.below ht.1 hb⟩⟩
theorem Uss.none_ (w : World) : Uss w none 0 [] := ⟨Nat.le_refl _, Nat.zero_le _, fun _ => rfl, fun h => absurd h (by simp)⟩
theorem Uss.len (h : Uss w A c F) : F.length ≤ 9223372036854775807 := by
  have h1 := h.1; have h2 := h.2.1; unfold maxLen at h2; omega
theorem Uss.len' (h : Uss w A c F) : F.length ≤ maxLen := Nat.le_trans h.1 h.2.1
theorem Uss.alloc (h : Uss w A c F) (o : Obj) : Uss (w.alloc o) A c F := h.below ((Below.refl _ _).alloc (Nat.le_refl _) o)
theorem Uss.drew (h : Uss w A c F) : Uss w.drew A c F := h.below (Below.refl _ _).drew
theorem Uss.setCell (h : Uss w A c F) {p : Addr} (hp : ∀ a, A = some a → p.block ≠ a.block) (u : Value) : Uss (w.setCell p u) A c F :=
  ⟨h.1, h.2.1, h.2.2.1, fun hl => by
    obtain ⟨b, o, e, h1, h2⟩ := h.2.2.2 hl
    refine ⟨b, o, e, by simpa [World.setCell] using h1, fun i hi => ?_⟩
    have hne : b ≠ p.block := fun e2 => hp _ e e2.symm
    have hk : ∀ k, (w.setCell p u).cell? ⟨b, k, none⟩ = w.cell? ⟨b, k, none⟩ := fun k => World.cell?_of_block (w := w) (a := ⟨b, k, none⟩) (Below.heap_setCell w p u b hne)
    exact ⟨(hk _).trans (h2 i hi).1, (hk _).trans (h2 i hi).2⟩⟩
theorem Uss.take (h : Uss w A c F) (k : Nat) : Uss w A c (F.take k) :=
  ⟨by rw [List.length_take]; have := h.1; omega, h.2.1, h.2.2.1, fun h0 => by
    rw [List.length_take] at h0
    obtain ⟨b, o, e, ht⟩ := h.2.2.2 (by omega)
    refine ⟨b, o, e, ht.1, fun i hi => ?_⟩
    rw [List.length_take] at hi
    have e : gu (F.take k) i = gu F i := by unfold gu; rw [List.getD_eq_getElem?_getD, List.getElem?_take, if_pos (by omega), ← List.getD_eq_getElem?_getD]
    rw [e]
    exact ht.2 i (by omega)⟩
end
/-- A row of the call's own. -/
def OwnU (w : World) (base : Nat) (v : Value) (F : List Us) : Prop := w.ownsRow base 56 2 v F.length (encUs F)
section
variable {w w' : World} {base p : Nat} {v : Value} {F : List Us}
theorem uss_of_own (h : OwnU w base v F) : ∃ A c, v = .slice A F.length c ∧ Uss w A c F ∧ ∀ a, A = some a → base ≤ a.block := by
  rcases h.2 with ⟨rfl, h0⟩ | ⟨g, cap, cur, rfl, hb, hg, hn, hm, hs, ht⟩
  · have : F = [] := List.length_eq_zero_iff.1 h0
    subst this
    exact ⟨none, 0, rfl, Uss.none_ w, fun a e => by cases e⟩
  · refine ⟨_, cap, rfl, ⟨hn, hm, fun e => (by cases e), fun hl => ⟨g, 0, rfl, (Array.getElem?_eq_some_iff.1 hg).1, fun i hi => ?_⟩⟩, fun a e => by cases e; exact hb⟩
    obtain ⟨e1, e2⟩ := encUs_get F i hi
    rw [← ht, List.getElem?_take, if_pos (by omega)] at e1 e2
    rw [Nat.zero_add, cell_of_row w g _ _ _ (0, 0) hg, cell_of_row w g _ _ _ (0, 0) hg]
    exact ⟨by simpa using e1, by simpa using e2⟩
theorem OwnU.form (h : OwnU w base v F) (h0 : 0 < F.length) : ∃ g c, v = .slice (some ⟨g, 0, none⟩) F.length c ∧ base ≤ g := by
  rcases h.2 with ⟨rfl, h1⟩ | ⟨g, cap, cur, rfl, hb, hg, hn, hm, hs, ht⟩
  · omega
  · exact ⟨g, cap, rfl, hb⟩
theorem OwnU.alloc (h : OwnU w base v F) (o : Obj) : OwnU (w.alloc o) base v F := World.ownsRow.alloc h o
theorem OwnU.drew (h : OwnU w base v F) : OwnU w.drew base v F := h
theorem OwnU.set (h : OwnU w base v F) (hp : v.ownBlock ≠ some p) (j : Nat) (u : Value) : OwnU (w.setCell ⟨p, j, none⟩ u) base v F :=
  World.ownsRow.kept (row := some p) h ⟨rfl, rfl, rfl, by simp [World.setCell], fun k hk hne => Below.heap_setCell w ⟨p, j, none⟩ u k (fun e => hne (by rw [e]))⟩ (.inr hp)
theorem OwnU.cells {g c n i : Nat} (h : OwnU w base (.slice (some ⟨g, 0, none⟩) n c) F) (hn : n = F.length) (hi : i < F.length) :
    w.cell? ⟨g, i * 2, none⟩ = some (.int .i64 (gu F i).key) ∧ w.cell? ⟨g, i * 2 + 1, none⟩ = some (.int .i64 (gu F i).cnt) ∧ w.frozen? ⟨g, i * 2, none⟩ = false ∧ w.frozen? ⟨g, i * 2 + 1, none⟩ = false := by
  subst hn
  obtain ⟨e1, e2⟩ := encUs_get F i hi
  exact ⟨(World.ownsRow.cellAt h _ (by omega)).trans e1, (World.ownsRow.cellAt h _ (by omega)).trans e2, World.ownsRow.frozenAt h _, World.ownsRow.frozenAt h _⟩
theorem OwnU.putU {g c n i : Nat} (h : OwnU w base (.slice (some ⟨g, 0, none⟩) n c) F) (hn : n = F.length) (hi : i < F.length) (b : Int) :
    OwnU (w.setCell ⟨g, i * 2 + 1, none⟩ (.int .i64 b)) base (.slice (some ⟨g, 0, none⟩) n c) (F.set i ⟨(gu F i).key, b⟩) := by
  subst hn
  have k := (World.ownsRow.stored h (i * 2 + 1) (.int .i64 b)).1
  rw [encUs_setU F b i hi] at k
  unfold OwnU
  rw [List.length_set]
  exact k
theorem OwnU.put {g c n i : Nat} (h : OwnU w base (.slice (some ⟨g, 0, none⟩) n c) F) (hn : n = F.length) (f : Us) :
    OwnU ((w.setCell ⟨g, i * 2, none⟩ (.int .i64 f.key)).setCell ⟨g, i * 2 + 1, none⟩ (.int .i64 f.cnt)) base (.slice (some ⟨g, 0, none⟩) n c) (F.set i f) := by
  subst hn
  have k := (World.ownsRow.stored (World.ownsRow.stored h (i * 2) (.int .i64 f.key)).1 (i * 2 + 1) (.int .i64 f.cnt)).1
  rw [encUs_set F f i] at k
  unfold OwnU
  rw [List.length_set]
  exact k
end

section
variable {w w' : World} {p base : Nat} {r : Int} {v v' : Value} {F : List Us}
theorem OwnU.below (h : OwnU w base v F) (hb : Below w.heap.size w w') : OwnU w' base v F :=
  World.ownsRow.kept (row := none) h ⟨hb.os, hb.tape, hb.output, hb.size, fun k hk _ => hb.block k hk⟩ (by cases v.ownBlock with | none => exact .inl rfl | some k => exact .inr (by simp))
theorem OwnU.base_le {base' : Nat} (h : OwnU w base v F) (hb : base' ≤ base) : OwnU w base' v F :=
  ⟨h.1, h.2.elim .inl (fun ⟨g, cap, cur, e, h1, h2⟩ => .inr ⟨g, cap, cur, e, Nat.le_trans hb h1, h2⟩)⟩
theorem OwnU.set2 (h : OwnU w base v F) (hp : v.ownBlock ≠ some p) (a b : Value) : OwnU ((w.setCell ⟨p, 0, none⟩ a).setCell ⟨p, 1, none⟩ b) base v F := (h.set hp 0 a).set hp 1 b
theorem Uss.set2 {A : Option Addr} {c : Nat} (h : Uss w A c F) (hp : ∀ a, A = some a → p ≠ a.block) (a b : Value) : Uss ((w.setCell ⟨p, 0, none⟩ a).setCell ⟨p, 1, none⟩ b) A c F :=
  (h.setCell (p := ⟨p, 0, none⟩) hp a).setCell (p := ⟨p, 1, none⟩) hp b
end

theorem ret_bool {a b : Bool} (h : a = b) : Ending.returned (.bool a) = .returned (.bool b) := by rw [h]
theorem ret_int {a b : Int} (h : a = b) : Ending.returned (.int .i64 a) = .returned (.int .i64 b) := by rw [h]
theorem fromAlloc {w w' : World} {o : Obj} (h : Below w.heap.size (w.alloc o) w') : Below w.heap.size w w' :=
  ((Below.refl _ _).alloc (Nat.le_refl _) o).trans h
theorem bel_al {B : Nat} {w w' : World} (h : Below B w w') (hB : B ≤ w'.heap.size) (o : Obj) : Below B w (w'.alloc o) := h.alloc hB o
theorem bel_set {B : Nat} {w w' : World} (h : Below B w w') {a : Addr} (ha : B ≤ a.block) (u : Value) : Below B w (w'.setCell a u) :=
  h.trans ⟨rfl, rfl, rfl, by simp [World.setCell], fun k hk => Below.heap_setCell w' a u k (by omega)⟩

theorem bel_set2 {B : Nat} {w w' : World} (h : Below B w w') {p : Nat} (hp : B ≤ p) (a b : Value) : Below B w ((w'.setCell ⟨p, 0, none⟩ a).setCell ⟨p, 1, none⟩ b) :=
  bel_set (bel_set h (a := ⟨p, 0, none⟩) hp a) (a := ⟨p, 1, none⟩) hp b
theorem bel_drew {B : Nat} {w w' : World} (h : Below B w w') : Below B w w'.drew := h.drew

end Go.Proofs.Ytgdklpgmoanfkaa.Opt
