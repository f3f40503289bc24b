/-
  Shards and rows of them in memory.
-/
import Derived.Test.YtjmhemkbfephpaaShMath
import Derived.Test.YtjmhemkbfephpaaInts
import Derived.Test.YtjmhemkbfephpaaChecked
import Derived.WalkKit
import Derived.Below
import Derived.Lib.Hide
import Derived.Laws.OwnMore
namespace Go.Proofs.Ytjmhemkbfephpaa.Shd
open Go.RowKit
set_option linter.unusedVariables false

abbrev fv (f : Sh) : Value := .agg #[.string f.name, .int .i64 f.wt]
abbrev fo (f : Sh) : Obj := .cells #[.string f.name, .int .i64 f.wt] 81
def encS (f : Sh) : List Value := [.string f.name, .int .i64 f.wt]
def encSs (F : List Sh) : List Value := F.flatMap encS
theorem encSs_cons (f : Sh) (F : List Sh) : encSs (f :: F) = .string f.name :: .int .i64 f.wt :: encSs F := by simp [encSs, encS]
theorem encSs_len (F : List Sh) : (encSs F).length = F.length * 2 := by
  induction F with
  | nil => rfl
  | cons x xs ih => rw [encSs_cons]; simp only [List.length_cons, ih]; omega
theorem encSs_app (F M : List Sh) : encSs (F ++ M) = encSs F ++ encSs M := by simp [encSs]
theorem encSs_get (F : List Sh) : ∀ (i : Nat), i < F.length → (encSs F)[i * 2]? = some (.string (gs F i).name) ∧ (encSs F)[i * 2 + 1]? = some (.int .i64 (gs F i).wt) := by
  induction F with
  | nil => intro i hi; simp at hi
  | cons x xs ih =>
    intro i hi
    rw [encSs_cons]
    cases i with
    | zero => simp [gs]
    | succ i =>
      have h := ih i (by simpa using hi)
      rw [show (i + 1) * 2 = i * 2 + 1 + 1 by omega]
      simpa [gs] using h
theorem encSs_one (F : List Sh) : ∀ u ∈ encSs F, u.oneCell' = true := by
  intro u hu
  obtain ⟨s, _, hs⟩ := List.mem_flatMap.1 hu
  simp only [encS, List.mem_cons, List.not_mem_nil, or_false] at hs
  rcases hs with rfl | rfl <;> rfl
theorem encSs_setU (F : List Sh) (b : Int) : ∀ i, i < F.length → (encSs F).set (i * 2 + 1) (.int .i64 b) = encSs (F.set i ⟨(gs F i).name, b⟩) := by
  induction F with
  | nil => intro i hi; simp at hi
  | cons x xs ih =>
    intro i hi
    cases i with
    | zero => rw [List.set_cons_zero, encSs_cons, encSs_cons]; simp [gs]
    | succ i =>
      rw [List.set_cons_succ, encSs_cons, encSs_cons, show (i + 1) * 2 + 1 = i * 2 + 1 + 1 + 1 by omega, List.set_cons_succ, List.set_cons_succ, ih i (by simpa using hi)]
      rfl
theorem encSs_set (F : List Sh) (f : Sh) : ∀ i, ((encSs F).set (i * 2) (.string f.name)).set (i * 2 + 1) (.int .i64 f.wt) = encSs (F.set i f) := by
  induction F with
  | nil => intro i; simp [encSs]
  | cons x xs ih =>
    intro i
    cases i with
    | zero => rw [List.set_cons_zero, encSs_cons, encSs_cons]; rfl
    | succ i =>
      rw [List.set_cons_succ, encSs_cons, encSs_cons, ← ih i, show (i + 1) * 2 = i * 2 + 1 + 1 by omega]
      simp only [List.set_cons_succ]

/-! ### rows of shards -/
def ShAt (w : World) (b o : Nat) (F : List Sh) : Prop :=
  b < w.heap.size ∧ ∀ i, i < F.length → w.cell? ⟨b, o + i * 2, none⟩ = some (.string (gs F i).name) ∧ w.cell? ⟨b, o + i * 2 + 1, none⟩ = some (.int .i64 (gs F i).wt)
/-- A slice of shards that reads as F. -/
def Shs (w : World) (A : Option Addr) (c : Nat) (F : List Sh) : Prop :=
  F.length ≤ c ∧ c ≤ maxLen ∧ (A = none → c = 0) ∧ (0 < F.length → ∃ b o, A = some ⟨b, o, none⟩ ∧ ShAt w b o F)
section
variable {w w' : World} {A : Option Addr} {c : Nat} {F : List Sh}
theorem ShAt.below {b o B : Nat} (h : ShAt w b o F) (hB : b < B) (hb : Below B w w') : ShAt w' b o F :=
  ⟨Nat.lt_of_lt_of_le h.1 hb.size, fun i hi => ⟨(hb.cell (p := ⟨b, _, none⟩) hB).trans (h.2 i hi).1, (hb.cell (p := ⟨b, _, none⟩) hB).trans (h.2 i hi).2⟩⟩
theorem Shs.below (h : Shs w A c F) (hb : Below w.heap.size w w') : Shs w' A c F :=
  ⟨h.1, h.2.1, h.2.2.1, fun hl => by obtain ⟨b, o, e, ht⟩ := h.2.2.2 hl; exact ⟨b, o, e, ht.below ht.1 hb⟩⟩
theorem Shs.none_ (w : World) : Shs w none 0 [] := ⟨Nat.le_refl _, Nat.zero_le _, fun _ => rfl, fun h => absurd h (by simp)⟩
theorem Shs.len (h : Shs w A c F) : F.length ≤ 9223372036854775807 := by
  have h1 := h.1; have h2 := h.2.1; unfold maxLen at h2; omega
theorem Shs.len' (h : Shs w A c F) : F.length ≤ maxLen := Nat.le_trans h.1 h.2.1
theorem Shs.alloc (h : Shs w A c F) (o : Obj) : Shs (w.alloc o) A c F := h.below ((Below.refl _ _).alloc (Nat.le_refl _) o)
theorem Shs.drew (h : Shs w A c F) : Shs w.drew A c F := h.below (Below.refl _ _).drew
theorem Shs.setCell (h : Shs w A c F) {p : Addr} (hp : ∀ a, A = some a → p.block ≠ a.block) (u : Value) : Shs (w.setCell p u) A c F :=
  ⟨h.1, h.2.1, h.2.2.1, fun hl => by
    obtain ⟨b, o, e, h1, h2⟩ := h.2.2.2 hl
    refine ⟨b, o, e, by simpa [World.setCell] using h1, fun i hi => ?_⟩
    have hne : b ≠ p.block := fun e2 => hp _ e e2.symm
    have hk : ∀ k, (w.setCell p u).cell? ⟨b, k, none⟩ = w.cell? ⟨b, k, none⟩ := fun k => World.cell?_of_block (w := w) (a := ⟨b, k, none⟩) (Below.heap_setCell w p u b hne)
    exact ⟨(hk _).trans (h2 i hi).1, (hk _).trans (h2 i hi).2⟩⟩
theorem Shs.take (h : Shs w A c F) (k : Nat) : Shs w A c (F.take k) :=
  ⟨by rw [List.length_take]; have := h.1; omega, h.2.1, h.2.2.1, fun h0 => by
    rw [List.length_take] at h0
    obtain ⟨b, o, e, ht⟩ := h.2.2.2 (by omega)
    refine ⟨b, o, e, ht.1, fun i hi => ?_⟩
    rw [List.length_take] at hi
    have e : gs (F.take k) i = gs F i := by unfold gs; rw [List.getD_eq_getElem?_getD, List.getElem?_take, if_pos (by omega), ← List.getD_eq_getElem?_getD]
    rw [e]
    exact ht.2 i (by omega)⟩
end
/-- A row of the call's own. -/
def OwnS (w : World) (base : Nat) (v : Value) (F : List Sh) : Prop := w.ownsRow base 81 2 v F.length (encSs F)
section
variable {w w' : World} {base p : Nat} {v : Value} {F : List Sh}
theorem shs_of_own (h : OwnS w base v F) : ∃ A c, v = .slice A F.length c ∧ Shs w A c F ∧ ∀ a, A = some a → base ≤ a.block := by
  rcases h.2 with ⟨rfl, h0⟩ | ⟨g, cap, cur, rfl, hb, hg, hn, hm, hs, ht⟩
  · have : F = [] := List.length_eq_zero_iff.1 h0
    subst this
    exact ⟨none, 0, rfl, Shs.none_ w, fun a e => by cases e⟩
  · refine ⟨_, cap, rfl, ⟨hn, hm, fun e => (by cases e), fun hl => ⟨g, 0, rfl, (Array.getElem?_eq_some_iff.1 hg).1, fun i hi => ?_⟩⟩, fun a e => by cases e; exact hb⟩
    obtain ⟨e1, e2⟩ := encSs_get F i hi
    rw [← ht, List.getElem?_take, if_pos (by omega)] at e1 e2
    rw [Nat.zero_add, cell_of_row w g _ _ _ (0, 0) hg, cell_of_row w g _ _ _ (0, 0) hg]
    exact ⟨by simpa using e1, by simpa using e2⟩
theorem OwnS.form (h : OwnS w base v F) (h0 : 0 < F.length) : ∃ g c, v = .slice (some ⟨g, 0, none⟩) F.length c ∧ base ≤ g := by
  rcases h.2 with ⟨rfl, h1⟩ | ⟨g, cap, cur, rfl, hb, hg, hn, hm, hs, ht⟩
  · omega
  · exact ⟨g, cap, rfl, hb⟩
theorem OwnS.alloc (h : OwnS w base v F) (o : Obj) : OwnS (w.alloc o) base v F := World.ownsRow.alloc h o
theorem OwnS.drew (h : OwnS w base v F) : OwnS w.drew base v F := h
theorem OwnS.set (h : OwnS w base v F) (hp : v.ownBlock ≠ some p) (j : Nat) (u : Value) : OwnS (w.setCell ⟨p, j, none⟩ u) base v F :=
  World.ownsRow.kept (row := some p) h ⟨rfl, rfl, rfl, by simp [World.setCell], fun k hk hne => Below.heap_setCell w ⟨p, j, none⟩ u k (fun e => hne (by rw [e]))⟩ (.inr hp)
theorem OwnS.cells {g c n i : Nat} (h : OwnS w base (.slice (some ⟨g, 0, none⟩) n c) F) (hn : n = F.length) (hi : i < F.length) :
    w.cell? ⟨g, i * 2, none⟩ = some (.string (gs F i).name) ∧ w.cell? ⟨g, i * 2 + 1, none⟩ = some (.int .i64 (gs F i).wt) ∧ w.frozen? ⟨g, i * 2, none⟩ = false ∧ w.frozen? ⟨g, i * 2 + 1, none⟩ = false := by
  subst hn
  obtain ⟨e1, e2⟩ := encSs_get F i hi
  exact ⟨(World.ownsRow.cellAt h _ (by omega)).trans e1, (World.ownsRow.cellAt h _ (by omega)).trans e2, World.ownsRow.frozenAt h _, World.ownsRow.frozenAt h _⟩
theorem OwnS.putU {g c n i : Nat} (h : OwnS w base (.slice (some ⟨g, 0, none⟩) n c) F) (hn : n = F.length) (hi : i < F.length) (b : Int) :
    OwnS (w.setCell ⟨g, i * 2 + 1, none⟩ (.int .i64 b)) base (.slice (some ⟨g, 0, none⟩) n c) (F.set i ⟨(gs F i).name, b⟩) := by
  subst hn
  have k := (World.ownsRow.stored h (i * 2 + 1) (.int .i64 b)).1
  rw [encSs_setU F b i hi] at k
  unfold OwnS
  rw [List.length_set]
  exact k
theorem OwnS.put {g c n i : Nat} (h : OwnS w base (.slice (some ⟨g, 0, none⟩) n c) F) (hn : n = F.length) (f : Sh) :
    OwnS ((w.setCell ⟨g, i * 2, none⟩ (.string f.name)).setCell ⟨g, i * 2 + 1, none⟩ (.int .i64 f.wt)) base (.slice (some ⟨g, 0, none⟩) n c) (F.set i f) := by
  subst hn
  have k := (World.ownsRow.stored (World.ownsRow.stored h (i * 2) (.string f.name)).1 (i * 2 + 1) (.int .i64 f.wt)).1
  rw [encSs_set F f i] at k
  unfold OwnS
  rw [List.length_set]
  exact k
end

theorem OwnS.below {w w' : World} {base : Nat} {v : Value} {F : List Sh} (h : OwnS w base v F) (hb : Below w.heap.size w w') : OwnS w' base v F :=
  World.ownsRow.kept (row := none) h ⟨hb.os, hb.tape, hb.output, hb.size, fun k hk _ => hb.block k hk⟩ (by cases v.ownBlock with | none => exact .inl rfl | some k => exact .inr (by simp))
theorem OwnS.nil (w : World) (base : Nat) : OwnS w base (.slice none 0 0) [] := World.ownsRow_nil _ _ _ _
theorem shs_cells {w : World} {b o : Nat} {F : List Sh} (h : ShAt w b o F) : ∀ j u, (encSs F)[j]? = some u → w.cell? ⟨b, o + j, none⟩ = some u := by
  intro j u hu
  have hl : j < F.length * 2 := by rw [← encSs_len]; exact (List.getElem?_eq_some_iff.1 hu).1
  obtain ⟨h1, h2⟩ := encSs_get F (j / 2) (by omega)
  obtain ⟨g1, g2⟩ := h.2 (j / 2) (by omega)
  rcases (by omega : j = j / 2 * 2 ∨ j = j / 2 * 2 + 1) with e | e
  · rw [← e] at h1 g1; rw [hu] at h1; rw [g1, h1]
  · rw [← e] at h2; rw [Nat.add_assoc, ← e] at g2; rw [hu] at h2; rw [g2, h2]
/-- Shard k of a slice. -/
theorem Shs.sh {w : World} {A : Option Addr} {c k : Nat} {F : List Sh} (h : Shs w A c F) (hk : k < F.length) : ∃ b o, A = some ⟨b, o, none⟩ ∧ w.cell? ⟨b, o + k * 2, none⟩ = some (.string (gs F k).name) ∧ w.cell? ⟨b, o + k * 2 + 1, none⟩ = some (.int .i64 (gs F k).wt) := by
  obtain ⟨b, o, e, ht⟩ := h.2.2.2 (by omega)
  exact ⟨b, o, e, (ht.2 k hk).1, (ht.2 k hk).2⟩
theorem Shs.drewN {w : World} {A : Option Addr} {c : Nat} {F : List Sh} (h : Shs w A c F) (n : Nat) : Shs (w.drewN n) A c F := h.below ⟨rfl, rfl, rfl, Nat.le_refl _, fun _ _ => rfl⟩

/-! ### A shard in a block of its own -/
/-- Block p holds a shard. -/
def Sb (w : World) (p : Nat) (b : Sh) : Prop := w.heap[p]? = some (.cells #[.string b.name, .int .i64 b.wt] 81 (0, 0))
section
variable {w w' : World} {p : Nat} {b : Sh}
theorem Sb.lt (k : Sb w p b) : p < w.heap.size := (Array.getElem?_eq_some_iff.1 k).1
theorem Sb.cells (k : Sb w p b) : w.cell? ⟨p, 0, none⟩ = some (.string b.name) ∧ w.cell? ⟨p, 1, none⟩ = some (.int .i64 b.wt) := by
  have k : w.heap[p]? = some (.cells #[.string b.name, .int .i64 b.wt] 81 (0, 0)) := k
  exact ⟨by rw [cell_of_row w p 0 _ _ (0, 0) k]; rfl, by rw [cell_of_row w p 1 _ _ (0, 0) k]; rfl⟩
theorem Sb.below (k : Sb w p b) (hb : Below w.heap.size w w') : Sb w' p b := (hb.block p k.lt).trans k
theorem Sb.belowB {B : Nat} (k : Sb w p b) (hb : Below B w w') (hp : p < B) : Sb w' p b := (hb.block p hp).trans k
theorem Sb.alloc (k : Sb w p b) (o : Obj) : Sb (w.alloc o) p b := k.below ((Below.refl _ _).alloc (Nat.le_refl _) o)
theorem Sb.drewN (k : Sb w p b) (n : Nat) : Sb (w.drewN n) p b := k
theorem Sb.new (w : World) (b : Sh) : Sb (w.alloc (fo b)) w.heap.size b := Array.getElem?_push_size
/-- As a slice of one shard. -/
theorem Sb.one (k : Sb w p b) : Shs w (some ⟨p, 0, none⟩) 1 [b] := by
  refine ⟨Nat.le_refl _, by unfold maxLen; decide, fun e => (by cases e), fun _ => ⟨p, 0, rfl, k.lt, fun i hi => ?_⟩⟩
  obtain rfl : i = 0 := by simp at hi; omega
  simpa [gs] using k.cells
end

/-! ### Names of keys -/
/-- A slice of strings that reads as S. -/
def Strs (w : World) (A : Option Addr) (c : Nat) (S : List ByteArray) : Prop :=
  S.length ≤ c ∧ c ≤ maxLen ∧ (0 < S.length → ∃ b o, A = some ⟨b, o, none⟩ ∧ b < w.heap.size ∧ ∀ i, i < S.length → w.cell? ⟨b, o + i, none⟩ = some (.string (S.getD i ByteArray.empty)))
theorem Strs.below {w w' : World} {A : Option Addr} {c : Nat} {S : List ByteArray} (h : Strs w A c S) (hb : Below w.heap.size w w') : Strs w' A c S :=
  ⟨h.1, h.2.1, fun hl => by
    obtain ⟨b, o, e, hlt, hc⟩ := h.2.2 hl
    exact ⟨b, o, e, Nat.lt_of_lt_of_le hlt hb.size, fun i hi => (hb.cell (p := ⟨b, _, none⟩) hlt).trans (hc i hi)⟩⟩
theorem Strs.str {w : World} {A : Option Addr} {c k : Nat} {S : List ByteArray} (h : Strs w A c S) (hk : k < S.length) : ∃ b o, A = some ⟨b, o, none⟩ ∧ w.cell? ⟨b, o + k, none⟩ = some (.string (S.getD k ByteArray.empty)) := by
  obtain ⟨b, o, e, _, ht⟩ := h.2.2 (by omega)
  exact ⟨b, o, e, ht k hk⟩

theorem bel_drewN {B : Nat} {w w' : World} (h : Below B w w') (n : Nat) : Below B w (w'.drewN n) := h.trans ⟨rfl, rfl, rfl, Nat.le_refl _, fun _ _ => rfl⟩
theorem bel_al {B : Nat} {w w' : World} (h : Below B w w') (hB : B ≤ w'.heap.size) (o : Obj) : Below B w (w'.alloc o) := h.alloc hB o
theorem bel_set {B : Nat} {w w' : World} (h : Below B w w') {a : Addr} (ha : B ≤ a.block) (u : Value) : Below B w (w'.setCell a u) :=
  h.trans ⟨rfl, rfl, rfl, by simp [World.setCell], fun k hk => Below.heap_setCell w' a u k (by omega)⟩
theorem fromAlloc {w w' : World} {o : Obj} (h : Below w.heap.size (w.alloc o) w') : Below w.heap.size w w' := ((Below.refl _ _).alloc (Nat.le_refl _) o).trans h
theorem ret_bool {a b : Bool} (h : a = b) : Ending.returned (.bool a) = .returned (.bool b) := by rw [h]
theorem ret_int {k : IntKind} {a b : Int} (h : a = b) : Ending.returned (.int k a) = .returned (.int k b) := by rw [h]

end Go.Proofs.Ytjmhemkbfephpaa.Shd
