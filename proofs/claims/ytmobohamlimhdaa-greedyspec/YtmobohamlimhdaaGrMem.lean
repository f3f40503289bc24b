/-
  Items, rows of them and caches of them in memory.
-/
import Derived.Test.YtmobohamlimhdaaGreedyMath
import Derived.Test.YtmobohamlimhdaaInts
import Derived.Test.YtmobohamlimhdaaChecked
import Derived.WalkKit
import Derived.Below
import Derived.Lib.Hide
import Derived.Laws.OwnMore
namespace Go.Proofs.Ytmobohamlimhdaa.Grd
open Go.RowKit
open Lru (isK)
set_option linter.unusedVariables false
set_option maxRecDepth 100000

abbrev fv (f : It) : Value := .agg #[.int .i64 f.key, .int .i64 f.size, .int .i64 f.cost, .int .i64 f.worth]
abbrev fo (f : It) : Obj := .cells #[.int .i64 f.key, .int .i64 f.size, .int .i64 f.cost, .int .i64 f.worth] 26
def encT (f : It) : List Value := [.int .i64 f.key, .int .i64 f.size, .int .i64 f.cost, .int .i64 f.worth]
def encTs (F : List It) : List Value := F.flatMap encT
theorem encTs_cons (f : It) (F : List It) : encTs (f :: F) = .int .i64 f.key :: .int .i64 f.size :: .int .i64 f.cost :: .int .i64 f.worth :: encTs F := by simp [encTs, encT]
theorem encTs_len (F : List It) : (encTs F).length = F.length * 4 := by
  induction F with
  | nil => rfl
  | cons x xs ih => rw [encTs_cons]; simp only [List.length_cons, ih]; omega
theorem encTs_app (F M : List It) : encTs (F ++ M) = encTs F ++ encTs M := by simp [encTs]
theorem encTs_get (F : List It) : ∀ (i : Nat), i < F.length → (encTs F)[i * 4]? = some (.int .i64 (gt F i).key) ∧ (encTs F)[i * 4 + 1]? = some (.int .i64 (gt F i).size) ∧ (encTs F)[i * 4 + 2]? = some (.int .i64 (gt F i).cost) ∧ (encTs F)[i * 4 + 3]? = some (.int .i64 (gt F i).worth) := by
  induction F with
  | nil => intro i hi; simp at hi
  | cons x xs ih =>
    intro i hi
    rw [encTs_cons]
    cases i with
    | zero => simp [gt]
    | succ i =>
      have h := ih i (by simpa using hi)
      rw [show (i + 1) * 4 = i * 4 + 1 + 1 + 1 + 1 by omega]
      simpa [gt] using h
theorem encTs_one (F : List It) : ∀ u ∈ encTs F, u.oneCell' = true := by
  intro u hu
  obtain ⟨s, _, hs⟩ := List.mem_flatMap.1 hu
  simp only [encT, List.mem_cons, List.not_mem_nil, or_false] at hs
  rcases hs with rfl | rfl | rfl | rfl <;> rfl
theorem encTs_setW (F : List It) (b : Int) : ∀ i, i < F.length → (encTs F).set (i * 4 + 3) (.int .i64 b) = encTs (F.set i ⟨(gt F i).key, (gt F i).size, (gt F i).cost, b⟩) := by
  induction F with
  | nil => intro i hi; simp at hi
  | cons x xs ih =>
    intro i hi
    cases i with
    | zero => rw [List.set_cons_zero, encTs_cons, encTs_cons]; simp [gt]
    | succ i =>
      rw [List.set_cons_succ, encTs_cons, encTs_cons, show (i + 1) * 4 + 3 = i * 4 + 3 + 1 + 1 + 1 + 1 by omega, List.set_cons_succ, List.set_cons_succ, List.set_cons_succ, List.set_cons_succ, ih i (by simpa using hi)]
      rfl

/-! ### rows of items -/
def TsAt (w : World) (b o : Nat) (F : List It) : Prop :=
  b < w.heap.size ∧ ∀ i, i < F.length → w.cell? ⟨b, o + i * 4, none⟩ = some (.int .i64 (gt F i).key) ∧ w.cell? ⟨b, o + i * 4 + 1, none⟩ = some (.int .i64 (gt F i).size) ∧ w.cell? ⟨b, o + i * 4 + 2, none⟩ = some (.int .i64 (gt F i).cost) ∧ w.cell? ⟨b, o + i * 4 + 3, none⟩ = some (.int .i64 (gt F i).worth)
/-- A slice of items that reads as F. -/
def Tss (w : World) (A : Option Addr) (c : Nat) (F : List It) : Prop :=
  F.length ≤ c ∧ c ≤ maxLen ∧ (A = none → c = 0) ∧ (0 < F.length → ∃ b o, A = some ⟨b, o, none⟩ ∧ TsAt w b o F)
section
variable {w w' : World} {A : Option Addr} {c : Nat} {F : List It}
theorem TsAt.below {b o B : Nat} (h : TsAt w b o F) (hB : b < B) (hb : Below B w w') : TsAt w' b o F :=
  ⟨Nat.lt_of_lt_of_le h.1 hb.size, fun i hi => ⟨(hb.cell (p := ⟨b, _, none⟩) hB).trans (h.2 i hi).1, (hb.cell (p := ⟨b, _, none⟩) hB).trans (h.2 i hi).2.1, (hb.cell (p := ⟨b, _, none⟩) hB).trans (h.2 i hi).2.2.1, (hb.cell (p := ⟨b, _, none⟩) hB).trans (h.2 i hi).2.2.2⟩⟩
theorem Tss.below (h : Tss w A c F) (hb : Below w.heap.size w w') : Tss w' A c F :=
  ⟨h.1, h.2.1, h.2.2.1, fun hl => by obtain ⟨b, o, e, ht⟩ := h.2.2.2 hl; exact ⟨b, o, e, ht.below ht.1 hb⟩⟩
theorem Tss.belowB {B : Nat} (h : Tss w A c F) (hb : Below B w w') (hB : ∀ a, A = some a → a.block < B) : Tss w' A c F :=
  ⟨h.1, h.2.1, h.2.2.1, fun hl => by obtain ⟨b, o, e, ht⟩ := h.2.2.2 hl; exact ⟨b, o, e, ht.below (hB _ e) hb⟩⟩
theorem Tss.none_ (w : World) : Tss w none 0 [] := ⟨Nat.le_refl _, Nat.zero_le _, fun _ => rfl, fun h => absurd h (by simp)⟩
theorem Tss.len (h : Tss w A c F) : F.length ≤ 9223372036854775807 := by
  have h1 := h.1; have h2 := h.2.1; unfold maxLen at h2; omega
theorem Tss.len' (h : Tss w A c F) : F.length ≤ maxLen := Nat.le_trans h.1 h.2.1
theorem Tss.alloc (h : Tss w A c F) (o : Obj) : Tss (w.alloc o) A c F := h.below ((Below.refl _ _).alloc (Nat.le_refl _) o)
theorem Tss.drew (h : Tss w A c F) : Tss w.drew A c F := h.below (Below.refl _ _).drew
theorem Tss.setCell (h : Tss w A c F) {p : Addr} (hp : ∀ a, A = some a → p.block ≠ a.block) (u : Value) : Tss (w.setCell p u) A c F :=
  ⟨h.1, h.2.1, h.2.2.1, fun hl => by
    obtain ⟨b, o, e, h1, h2⟩ := h.2.2.2 hl
    refine ⟨b, o, e, by simpa [World.setCell] using h1, fun i hi => ?_⟩
    have hne : b ≠ p.block := fun e2 => hp _ e e2.symm
    have hk : ∀ k, (w.setCell p u).cell? ⟨b, k, none⟩ = w.cell? ⟨b, k, none⟩ := fun k => World.cell?_of_block (w := w) (a := ⟨b, k, none⟩) (Below.heap_setCell w p u b hne)
    exact ⟨(hk _).trans (h2 i hi).1, (hk _).trans (h2 i hi).2.1, (hk _).trans (h2 i hi).2.2.1, (hk _).trans (h2 i hi).2.2.2⟩⟩
theorem Tss.set3 {p : Nat} (h : Tss w A c F) (hp : ∀ a, A = some a → p ≠ a.block) (x y z : Value) : Tss (((w.setCell ⟨p, 0, none⟩ x).setCell ⟨p, 1, none⟩ y).setCell ⟨p, 2, none⟩ z) A c F :=
  ((h.setCell (p := ⟨p, 0, none⟩) hp x).setCell (p := ⟨p, 1, none⟩) hp y).setCell (p := ⟨p, 2, none⟩) hp z
theorem gt_take {k i : Nat} (hi : i < k) : gt (F.take k) i = gt F i := by unfold gt; rw [List.getD_eq_getElem?_getD, List.getElem?_take, if_pos hi, ← List.getD_eq_getElem?_getD]
theorem Tss.take (h : Tss w A c F) (k : Nat) : Tss w A c (F.take k) :=
  ⟨by rw [List.length_take]; have := h.1; omega, h.2.1, h.2.2.1, fun h0 => by
    rw [List.length_take] at h0
    obtain ⟨b, o, e, ht⟩ := h.2.2.2 (by omega)
    refine ⟨b, o, e, ht.1, fun i hi => ?_⟩
    rw [List.length_take] at hi
    rw [gt_take (F := F) (k := k) (i := i) (by omega)]
    exact ht.2 i (by omega)⟩
/-- Item k of a slice. -/
theorem Tss.us {k : Nat} (h : Tss w A c F) (hk : k < F.length) : ∃ b o, A = some ⟨b, o, none⟩ ∧ w.cell? ⟨b, o + k * 4, none⟩ = some (.int .i64 (gt F k).key) ∧ w.cell? ⟨b, o + k * 4 + 1, none⟩ = some (.int .i64 (gt F k).size) ∧ w.cell? ⟨b, o + k * 4 + 2, none⟩ = some (.int .i64 (gt F k).cost) ∧ w.cell? ⟨b, o + k * 4 + 3, none⟩ = some (.int .i64 (gt F k).worth) := by
  obtain ⟨b, o, e, ht⟩ := h.2.2.2 (by omega)
  exact ⟨b, o, e, ht.2 k hk⟩
end
theorem tss_cells {w : World} {b o : Nat} {F : List It} (h : TsAt w b o F) : ∀ j u, (encTs F)[j]? = some u → w.cell? ⟨b, o + j, none⟩ = some u := by
  intro j u hu
  have hl : j < F.length * 4 := by rw [← encTs_len]; exact (List.getElem?_eq_some_iff.1 hu).1
  obtain ⟨h1, h2, h3, h4⟩ := encTs_get F (j / 4) (by omega)
  obtain ⟨g1, g2, g3, g4⟩ := h.2 (j / 4) (by omega)
  rcases (by omega : j = j / 4 * 4 ∨ j = j / 4 * 4 + 1 ∨ j = j / 4 * 4 + 2 ∨ j = j / 4 * 4 + 3) with e | e | e | e
  · rw [← e] at h1 g1; rw [hu] at h1; rw [g1, h1]
  · rw [← e] at h2; rw [Nat.add_assoc, ← e] at g2; rw [hu] at h2; rw [g2, h2]
  · rw [← e] at h3; rw [Nat.add_assoc, ← e] at g3; rw [hu] at h3; rw [g3, h3]
  · rw [← e] at h4; rw [Nat.add_assoc, ← e] at g4; rw [hu] at h4; rw [g4, h4]

/-- A row of the call's own. -/
def OwnT (w : World) (base : Nat) (v : Value) (F : List It) : Prop := w.ownsRow base 26 4 v F.length (encTs F)
section
variable {w w' : World} {base p : Nat} {v : Value} {F : List It}
theorem tss_of_own (h : OwnT w base v F) : ∃ A c, v = .slice A F.length c ∧ Tss w A c F ∧ ∀ a, A = some a → base ≤ a.block := by
  rcases h.2 with ⟨rfl, h0⟩ | ⟨g, cap, cur, rfl, hb, hg, hn, hm, hs, ht⟩
  · have : F = [] := List.length_eq_zero_iff.1 h0
    subst this
    exact ⟨none, 0, rfl, Tss.none_ w, fun a e => by cases e⟩
  · refine ⟨_, cap, rfl, ⟨hn, hm, fun e => (by cases e), fun hl => ⟨g, 0, rfl, (Array.getElem?_eq_some_iff.1 hg).1, fun i hi => ?_⟩⟩, fun a e => by cases e; exact hb⟩
    obtain ⟨e1, e2, e3, e4⟩ := encTs_get F i hi
    rw [← ht, List.getElem?_take, if_pos (by omega)] at e1 e2 e3 e4
    rw [Nat.zero_add, cell_of_row w g _ _ _ (0, 0) hg, cell_of_row w g _ _ _ (0, 0) hg, cell_of_row w g _ _ _ (0, 0) hg, cell_of_row w g _ _ _ (0, 0) hg]
    exact ⟨by simpa using e1, by simpa using e2, by simpa using e3, by simpa using e4⟩
theorem OwnT.form (h : OwnT w base v F) (h0 : 0 < F.length) : ∃ g c, v = .slice (some ⟨g, 0, none⟩) F.length c ∧ base ≤ g ∧ g < w.heap.size := by
  rcases h.2 with ⟨rfl, h1⟩ | ⟨g, cap, cur, rfl, hb, hg, hn, hm, hs, ht⟩
  · omega
  · exact ⟨g, cap, rfl, hb, (Array.getElem?_eq_some_iff.1 hg).1⟩
theorem OwnT.alloc (h : OwnT w base v F) (o : Obj) : OwnT (w.alloc o) base v F := World.ownsRow.alloc h o
theorem OwnT.drew (h : OwnT w base v F) : OwnT w.drew base v F := h
theorem OwnT.set (h : OwnT w base v F) (hp : v.ownBlock ≠ some p) (j : Nat) (u : Value) : OwnT (w.setCell ⟨p, j, none⟩ u) base v F :=
  World.ownsRow.kept (row := some p) h ⟨rfl, rfl, rfl, by simp [World.setCell], fun k hk hne => Below.heap_setCell w ⟨p, j, none⟩ u k (fun e => hne (by rw [e]))⟩ (.inr hp)
theorem OwnT.set3 (h : OwnT w base v F) (hp : v.ownBlock ≠ some p) (x y z : Value) : OwnT (((w.setCell ⟨p, 0, none⟩ x).setCell ⟨p, 1, none⟩ y).setCell ⟨p, 2, none⟩ z) base v F := ((h.set hp 0 x).set hp 1 y).set hp 2 z
theorem OwnT.cells {g c n i : Nat} (h : OwnT w base (.slice (some ⟨g, 0, none⟩) n c) F) (hn : n = F.length) (hi : i < F.length) :
    w.cell? ⟨g, i * 4, none⟩ = some (.int .i64 (gt F i).key) ∧ w.cell? ⟨g, i * 4 + 1, none⟩ = some (.int .i64 (gt F i).size) ∧ w.cell? ⟨g, i * 4 + 2, none⟩ = some (.int .i64 (gt F i).cost) ∧ w.cell? ⟨g, i * 4 + 3, none⟩ = some (.int .i64 (gt F i).worth) ∧ ∀ j, w.frozen? ⟨g, j, none⟩ = false := by
  subst hn
  obtain ⟨e1, e2, e3, e4⟩ := encTs_get F i hi
  exact ⟨(World.ownsRow.cellAt h _ (by omega)).trans e1, (World.ownsRow.cellAt h _ (by omega)).trans e2, (World.ownsRow.cellAt h _ (by omega)).trans e3, (World.ownsRow.cellAt h _ (by omega)).trans e4, fun j => World.ownsRow.frozenAt h _⟩
theorem OwnT.putW {g c n i : Nat} (h : OwnT w base (.slice (some ⟨g, 0, none⟩) n c) F) (hn : n = F.length) (hi : i < F.length) (b : Int) :
    OwnT (w.setCell ⟨g, i * 4 + 3, none⟩ (.int .i64 b)) base (.slice (some ⟨g, 0, none⟩) n c) (F.set i ⟨(gt F i).key, (gt F i).size, (gt F i).cost, b⟩) := by
  subst hn
  have k := (World.ownsRow.stored h (i * 4 + 3) (.int .i64 b)).1
  rw [encTs_setW F b i hi] at k
  unfold OwnT
  rw [List.length_set]
  exact k
theorem OwnT.below (h : OwnT w base v F) (hb : Below w.heap.size w w') : OwnT w' base v F :=
  World.ownsRow.kept (row := none) h ⟨hb.os, hb.tape, hb.output, hb.size, fun k hk _ => hb.block k hk⟩ (by cases v.ownBlock with | none => exact .inl rfl | some k => exact .inr (by simp))
theorem OwnT.base_le {base' : Nat} (h : OwnT w base v F) (hb : base' ≤ base) : OwnT w base' v F :=
  ⟨h.1, h.2.elim .inl (fun ⟨g, cap, cur, e, h1, h2⟩ => .inr ⟨g, cap, cur, e, Nat.le_trans hb h1, h2⟩)⟩
theorem OwnT.nil (w : World) (base : Nat) : OwnT w base (.slice none 0 0) [] := World.ownsRow_nil _ _ _ _
end

/-! ### An item in a block of its own -/
/-- Block p holds an item. -/
def Ib (w : World) (p : Nat) (b : It) : Prop := w.heap[p]? = some (.cells #[.int .i64 b.key, .int .i64 b.size, .int .i64 b.cost, .int .i64 b.worth] 26 (0, 0))
section
variable {w w' : World} {p : Nat} {b : It}
theorem Ib.lt (k : Ib w p b) : p < w.heap.size := (Array.getElem?_eq_some_iff.1 k).1
theorem Ib.cells (k : Ib w p b) : w.cell? ⟨p, 0, none⟩ = some (.int .i64 b.key) ∧ w.cell? ⟨p, 1, none⟩ = some (.int .i64 b.size) ∧ w.cell? ⟨p, 2, none⟩ = some (.int .i64 b.cost) ∧ w.cell? ⟨p, 3, none⟩ = some (.int .i64 b.worth) := by
  have k : w.heap[p]? = some (.cells #[.int .i64 b.key, .int .i64 b.size, .int .i64 b.cost, .int .i64 b.worth] 26 (0, 0)) := k
  exact ⟨by rw [cell_of_row w p 0 _ _ (0, 0) k]; rfl, by rw [cell_of_row w p 1 _ _ (0, 0) k]; rfl, by rw [cell_of_row w p 2 _ _ (0, 0) k]; rfl, by rw [cell_of_row w p 3 _ _ (0, 0) k]; rfl⟩
theorem Ib.free (k : Ib w p b) : w.frozen? ⟨p, 0, none⟩ = false ∧ w.frozen? ⟨p, 1, none⟩ = false ∧ w.frozen? ⟨p, 2, none⟩ = false ∧ w.frozen? ⟨p, 3, none⟩ = false := by
  have k : w.heap[p]? = some (.cells #[.int .i64 b.key, .int .i64 b.size, .int .i64 b.cost, .int .i64 b.worth] 26 (0, 0)) := k
  exact ⟨by simp [World.frozen?, k], by simp [World.frozen?, k], by simp [World.frozen?, k], by simp [World.frozen?, k]⟩
theorem Ib.below (k : Ib w p b) (hb : Below w.heap.size w w') : Ib w' p b := (hb.block p k.lt).trans k
theorem Ib.belowB {B : Nat} (k : Ib w p b) (hb : Below B w w') (hp : p < B) : Ib w' p b := (hb.block p hp).trans k
theorem Ib.alloc (k : Ib w p b) (o : Obj) : Ib (w.alloc o) p b := k.below ((Below.refl _ _).alloc (Nat.le_refl _) o)
theorem Ib.new (w : World) (b : It) : Ib (w.alloc (fo b)) w.heap.size b := Array.getElem?_push_size
theorem Ib.other (k : Ib w p b) {a : Addr} (ha : p ≠ a.block) (u : Value) : Ib (w.setCell a u) p b := (Below.heap_setCell w a u p ha).trans k
theorem Ib.setW (k : Ib w p b) (n : Int) : Ib (w.setCell ⟨p, 3, none⟩ (.int .i64 n)) p ⟨b.key, b.size, b.cost, n⟩ := by
  have k : w.heap[p]? = some (.cells #[.int .i64 b.key, .int .i64 b.size, .int .i64 b.cost, .int .i64 b.worth] 26 (0, 0)) := k
  show (w.setCell ⟨p, 3, none⟩ _).heap[p]? = _
  simp [World.setCell, Array.getElem?_modify, k]
/-- As a slice of one item. -/
theorem Ib.one (k : Ib w p b) : Tss w (some ⟨p, 0, none⟩) 1 [b] := by
  refine ⟨Nat.le_refl _, by unfold maxLen; decide, fun e => (by cases e), fun _ => ⟨p, 0, rfl, k.lt, fun i hi => ?_⟩⟩
  obtain rfl : i = 0 := by simp at hi; omega
  simpa [gt] using k.cells
end

/-! ### A cache as a value, and in memory -/
abbrev kv (r fl : Int) (v : Value) : Value := .agg #[.int .i64 r, .int .i64 fl, v]
abbrev ko (r fl : Int) (v : Value) : Obj := .cells #[.int .i64 r, .int .i64 fl, v] 24
/-- Block p holds a cache. -/
def Kb (w : World) (p : Nat) (r fl : Int) (v : Value) : Prop := w.heap[p]? = some (.cells #[.int .i64 r, .int .i64 fl, v] 24 (0, 0))
section
variable {w w' : World} {p base : Nat} {r fl : Int} {v v' : Value} {F : List It} {L : List Int}
theorem Kb.lt (k : Kb w p r fl v) : p < w.heap.size := (Array.getElem?_eq_some_iff.1 k).1
theorem Kb.cells (k : Kb w p r fl v) : w.cell? ⟨p, 0, none⟩ = some (.int .i64 r) ∧ w.cell? ⟨p, 1, none⟩ = some (.int .i64 fl) ∧ w.cell? ⟨p, 2, none⟩ = some v := by
  have k : w.heap[p]? = some (.cells #[.int .i64 r, .int .i64 fl, v] 24 (0, 0)) := k
  exact ⟨by rw [cell_of_row w p 0 _ _ (0, 0) k]; rfl, by rw [cell_of_row w p 1 _ _ (0, 0) k]; rfl, by rw [cell_of_row w p 2 _ _ (0, 0) k]; rfl⟩
theorem Kb.free (k : Kb w p r fl v) : w.frozen? ⟨p, 0, none⟩ = false ∧ w.frozen? ⟨p, 1, none⟩ = false ∧ w.frozen? ⟨p, 2, none⟩ = false := by
  have k : w.heap[p]? = some (.cells #[.int .i64 r, .int .i64 fl, v] 24 (0, 0)) := k
  exact ⟨by simp [World.frozen?, k], by simp [World.frozen?, k], by simp [World.frozen?, k]⟩
theorem Kb.below (k : Kb w p r fl v) (hb : Below w.heap.size w w') : Kb w' p r fl v := (hb.block p k.lt).trans k
theorem Kb.belowB {B : Nat} (k : Kb w p r fl v) (hb : Below B w w') (hp : p < B) : Kb w' p r fl v := (hb.block p hp).trans k
theorem Kb.alloc (k : Kb w p r fl v) (o : Obj) : Kb (w.alloc o) p r fl v := k.below ((Below.refl _ _).alloc (Nat.le_refl _) o)
theorem Kb.drew (k : Kb w p r fl v) : Kb w.drew p r fl v := k
theorem Kb.new (w : World) (r fl : Int) (v : Value) : Kb (w.alloc (ko r fl v)) w.heap.size r fl v := Array.getElem?_push_size
theorem Kb.ownT (k : Kb w p r fl v) (ho : OwnT w base v' F) : v'.ownBlock ≠ some p := by
  intro e
  rcases ho.2 with ⟨rfl, -⟩ | ⟨g, cap, cur, rfl, -, hg, -⟩
  · cases e
  · cases e
    have k : w.heap[g]? = some (.cells #[.int .i64 r, .int .i64 fl, v] 24 (0, 0)) := k
    rw [hg] at k
    simp at k
theorem Kb.grown (k : Kb w p r fl v) (ho : OwnT w base v' F) (hg : w.grownBy w' v'.ownBlock) : Kb w' p r fl v := (hg.block p k.lt (fun e => k.ownT ho e.symm)).trans k
theorem Kb.setF (k : Kb w p r fl v) (n : Int) : Kb (w.setCell ⟨p, 1, none⟩ (.int .i64 n)) p r n v := by
  have k : w.heap[p]? = some (.cells #[.int .i64 r, .int .i64 fl, v] 24 (0, 0)) := k
  show (w.setCell ⟨p, 1, none⟩ _).heap[p]? = _
  simp [World.setCell, Array.getElem?_modify, k]
theorem Kb.setV (k : Kb w p r fl v) (u : Value) : Kb (w.setCell ⟨p, 2, none⟩ u) p r fl u := by
  have k : w.heap[p]? = some (.cells #[.int .i64 r, .int .i64 fl, v] 24 (0, 0)) := k
  show (w.setCell ⟨p, 2, none⟩ u).heap[p]? = _
  simp [World.setCell, Array.getElem?_modify, k]
/-- A store into another block. -/
theorem Kb.other (k : Kb w p r fl v) {a : Addr} (ha : p ≠ a.block) (u : Value) : Kb (w.setCell a u) p r fl v := (Below.heap_setCell w a u p ha).trans k
theorem Kb.other3 (k : Kb w p r fl v) {q : Nat} (ha : p ≠ q) (x y z : Value) : Kb (((w.setCell ⟨q, 0, none⟩ x).setCell ⟨q, 1, none⟩ y).setCell ⟨q, 2, none⟩ z) p r fl v :=
  ((k.other (a := ⟨q, 0, none⟩) ha x).other (a := ⟨q, 1, none⟩) ha y).other (a := ⟨q, 2, none⟩) ha z
theorem Kb.put3 (k : Kb w p r fl v) (r' fl' : Int) (u : Value) : Kb (((w.setCell ⟨p, 0, none⟩ (.int .i64 r')).setCell ⟨p, 1, none⟩ (.int .i64 fl')).setCell ⟨p, 2, none⟩ u) p r' fl' u := by
  have k : w.heap[p]? = some (.cells #[.int .i64 r, .int .i64 fl, v] 24 (0, 0)) := k
  show (((w.setCell ⟨p, 0, none⟩ (.int .i64 r')).setCell ⟨p, 1, none⟩ (.int .i64 fl')).setCell ⟨p, 2, none⟩ u).heap[p]? = _
  simp [World.setCell, Array.getElem?_modify, k]
end
theorem ret_bool {a b : Bool} (h : a = b) : Ending.returned (.bool a) = .returned (.bool b) := by rw [h]
theorem ret_int {a b : Int} (h : a = b) : Ending.returned (.int .i64 a) = .returned (.int .i64 b) := by rw [h]
theorem fromAlloc {w w' : World} {o : Obj} (h : Below w.heap.size (w.alloc o) w') : Below w.heap.size w w' := ((Below.refl _ _).alloc (Nat.le_refl _) o).trans h
theorem bel_al {B : Nat} {w w' : World} (h : Below B w w') (hB : B ≤ w'.heap.size) (o : Obj) : Below B w (w'.alloc o) := h.alloc hB o
theorem bel_set {B : Nat} {w w' : World} (h : Below B w w') {a : Addr} (ha : B ≤ a.block) (u : Value) : Below B w (w'.setCell a u) :=
  h.trans ⟨rfl, rfl, rfl, by simp [World.setCell], fun k hk => Below.heap_setCell w' a u k (by omega)⟩
theorem bel_set3 {B : Nat} {w w' : World} (h : Below B w w') {p : Nat} (hp : B ≤ p) (x y z : Value) : Below B w (((w'.setCell ⟨p, 0, none⟩ x).setCell ⟨p, 1, none⟩ y).setCell ⟨p, 2, none⟩ z) :=
  bel_set (bel_set (bel_set h (a := ⟨p, 0, none⟩) hp x) (a := ⟨p, 1, none⟩) hp y) (a := ⟨p, 2, none⟩) hp z
theorem bel_drew {B : Nat} {w w' : World} (h : Below B w w') : Below B w w'.drew := h.drew
theorem bel_drewN {B : Nat} {w w' : World} (h : Below B w w') (n : Nat) : Below B w (w'.drewN n) := h.trans ⟨rfl, rfl, rfl, Nat.le_refl _, fun _ _ => rfl⟩

end Go.Proofs.Ytmobohamlimhdaa.Grd
