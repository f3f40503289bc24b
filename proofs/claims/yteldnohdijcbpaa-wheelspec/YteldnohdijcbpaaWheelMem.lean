/-
  Timers, rows of timers and wheels in memory.
-/
import Derived.Test.YteldnohdijcbpaaWheelMath
import Derived.Test.YteldnohdijcbpaaChecked
import Derived.WalkKit
import Derived.Below
import Derived.Lib.Hide
import Derived.Deep.DeepCutAuto
import Derived.Deep.AppendLies
import Derived.Deep.RegionHeld3
import Derived.Laws.OwnMore
namespace Go.Proofs.Yteldnohdijcbpaa.Whl
open Go.RowKit
set_option linter.unusedVariables false

abbrev gt (L : List Tm) (i : Nat) : Tm := L.getD i ⟨0, 0⟩
abbrev gr (LL : List (List Tm)) (i : Nat) : List Tm := LL.getD i []
theorem gt_get {L : List Tm} {i : Nat} (h : i < L.length) : gt L i = L[i] := by unfold gt; rw [List.getD_eq_getElem?_getD, List.getElem?_eq_getElem h]; rfl
theorem gr_get {LL : List (List Tm)} {i : Nat} (h : i < LL.length) : gr LL i = LL[i] := by unfold gr; rw [List.getD_eq_getElem?_getD, List.getElem?_eq_getElem h]; rfl
theorem gt_mem {L : List Tm} {i : Nat} (h : i < L.length) : gt L i ∈ L := by rw [gt_get h]; exact List.getElem_mem h

abbrev tv (t : Tm) : Value := .agg #[.int .i64 t.id, .int .i64 t.tm]
abbrev tbo (t : Tm) : Obj := .cells #[.int .i64 t.id, .int .i64 t.tm] 26
def encT (t : Tm) : List Value := [.int .i64 t.id, .int .i64 t.tm]
def encTs (L : List Tm) : List Value := L.flatMap encT
theorem encTs_len (L : List Tm) : (encTs L).length = L.length * 2 := by
  induction L with
  | nil => rfl
  | cons x xs ih => simp only [encTs, List.flatMap_cons, List.length_append, List.length_cons] at *; rw [ih]; simp only [encT, List.length_cons, List.length_nil]; omega
theorem encTs_app (L M : List Tm) : encTs (L ++ M) = encTs L ++ encTs M := by simp [encTs]
theorem encTs_get (L : List Tm) : ∀ (i : Nat), i < L.length → (encTs L)[i * 2]? = some (.int .i64 (gt L i).id) ∧ (encTs L)[i * 2 + 1]? = some (.int .i64 (gt L i).tm) := by
  induction L with
  | nil => intro i hi; simp at hi
  | cons x xs ih =>
    intro i hi
    cases i with
    | zero => simp [encTs, encT, gt]
    | succ i =>
      have h := ih i (by simpa using hi)
      have e : encTs (x :: xs) = encT x ++ encTs xs := by simp [encTs]
      rw [e, List.getElem?_append_right (by simp [encT]; omega), List.getElem?_append_right (by simp [encT]; omega)]
      rw [show (i + 1) * 2 - (encT x).length = i * 2 by simp [encT]; omega, show (i + 1) * 2 + 1 - (encT x).length = i * 2 + 1 by simp [encT]; omega]
      simpa [gt] using h
theorem encTs_one (L : List Tm) : ∀ u ∈ encTs L, u.oneCell' = true := by
  intro u hu
  obtain ⟨s, _, hs⟩ := List.mem_flatMap.1 hu
  simp only [encT, List.mem_cons, List.not_mem_nil, or_false] at hs
  rcases hs with rfl | rfl <;> rfl

/-! ### rows of timers -/
def TmAt (w : World) (b o : Nat) (L : List Tm) : Prop :=
  b < w.heap.size ∧ ∀ i, i < L.length → w.cell? ⟨b, o + i * 2, none⟩ = some (.int .i64 (gt L i).id) ∧ w.cell? ⟨b, o + i * 2 + 1, none⟩ = some (.int .i64 (gt L i).tm)
/-- A slice of timers that reads as L. -/
def Tms (w : World) (A : Option Addr) (c : Nat) (L : List Tm) : Prop :=
  L.length ≤ c ∧ c ≤ maxLen ∧ (A = none → c = 0) ∧ (0 < L.length → ∃ b o, A = some ⟨b, o, none⟩ ∧ TmAt w b o L)
section
variable {w w' : World} {A : Option Addr} {c : Nat} {L : List Tm}
theorem TmAt.below {b o B : Nat} (h : TmAt w b o L) (hB : b < B) (hb : Below B w w') : TmAt w' b o L :=
  ⟨Nat.lt_of_lt_of_le h.1 hb.size, fun i hi => ⟨(hb.cell (p := ⟨b, _, none⟩) hB).trans (h.2 i hi).1, (hb.cell (p := ⟨b, _, none⟩) hB).trans (h.2 i hi).2⟩⟩
theorem Tms.below (h : Tms w A c L) (hb : Below w.heap.size w w') : Tms w' A c L :=
  ⟨h.1, h.2.1, h.2.2.1, fun hl => by obtain ⟨b, o, e, ht⟩ := h.2.2.2 hl; exact ⟨b, o, e, ht.below ht.1 hb⟩⟩
theorem Tms.none_ (w : World) : Tms w none 0 [] := ⟨Nat.le_refl _, Nat.zero_le _, fun _ => rfl, fun h => absurd h (by simp)⟩
theorem Tms.len (h : Tms w A c L) : L.length ≤ 9223372036854775807 := by
  have h1 := h.1; have h2 := h.2.1; unfold maxLen at h2; omega
theorem Tms.len' (h : Tms w A c L) : L.length ≤ maxLen := Nat.le_trans h.1 h.2.1
theorem Tms.alloc (h : Tms w A c L) (o : Obj) : Tms (w.alloc o) A c L := h.below ((Below.refl _ _).alloc (Nat.le_refl _) o)
theorem Tms.drew (h : Tms w A c L) : Tms w.drew A c L := h.below (Below.refl _ _).drew
theorem Tms.setCell (h : Tms w A c L) {p : Addr} (hp : ∀ a, A = some a → p.block ≠ a.block) (u : Value) : Tms (w.setCell p u) A c L :=
  ⟨h.1, h.2.1, h.2.2.1, fun hl => by
    obtain ⟨b, o, e, h1, h2⟩ := h.2.2.2 hl
    refine ⟨b, o, e, by simpa [World.setCell] using h1, fun i hi => ?_⟩
    have hne : b ≠ p.block := fun e2 => hp _ e e2.symm
    have hk : ∀ k, (w.setCell p u).cell? ⟨b, k, none⟩ = w.cell? ⟨b, k, none⟩ := fun k => World.cell?_of_block (w := w) (a := ⟨b, k, none⟩) (Below.heap_setCell w p u b hne)
    exact ⟨(hk _).trans (h2 i hi).1, (hk _).trans (h2 i hi).2⟩⟩
/-- A row of the call's own. -/
theorem tms_of_own {base : Nat} {v : Value} (h : w.ownsRow base 26 2 v L.length (encTs L)) : ∃ A c, v = .slice A L.length c ∧ Tms w A c L ∧ ∀ a, A = some a → base ≤ a.block := by
  rcases h.2 with ⟨rfl, h0⟩ | ⟨g, cap, cur, rfl, hb, hg, hn, hm, hs, ht⟩
  · have : L = [] := List.length_eq_zero_iff.1 h0
    subst this
    exact ⟨none, 0, rfl, Tms.none_ w, fun a e => by cases e⟩
  · refine ⟨_, cap, rfl, ⟨hn, hm, fun e => (by cases e), fun hl => ⟨g, 0, rfl, (Array.getElem?_eq_some_iff.1 hg).1, fun i hi => ?_⟩⟩, fun a e => by cases e; exact hb⟩
    obtain ⟨e1, e2⟩ := encTs_get L i hi
    rw [← ht, List.getElem?_take, if_pos (by omega)] at e1 e2
    rw [Nat.zero_add, cell_of_row w g _ _ _ (0, 0) hg, cell_of_row w g _ _ _ (0, 0) hg]
    exact ⟨by simpa using e1, by simpa using e2⟩
end

/-! ### slots -/
def GridAt (B : Nat) (w : World) (b o : Nat) (LL : List (List Tm)) : Prop :=
  b < w.heap.size ∧ B ≤ b ∧ ∀ i, i < LL.length → ∃ A c, w.cell? ⟨b, o + i, none⟩ = some (.slice A (gr LL i).length c) ∧ Tms w A c (gr LL i) ∧ ∀ a, A = some a → B ≤ a.block
/-- A slice of slices of timers that reads as LL; all of it lies from block B on. -/
def Grid (B : Nat) (w : World) (A : Option Addr) (c : Nat) (LL : List (List Tm)) : Prop :=
  LL.length ≤ c ∧ c ≤ maxLen ∧ (A = none → c = 0) ∧ (0 < LL.length → ∃ b o, A = some ⟨b, o, none⟩ ∧ GridAt B w b o LL)
section
variable {B : Nat} {w w' : World} {A : Option Addr} {c : Nat} {LL : List (List Tm)}
theorem GridAt.below {b o : Nat} (h : GridAt B w b o LL) (hb : Below w.heap.size w w') : GridAt B w' b o LL :=
  ⟨Nat.lt_of_lt_of_le h.1 hb.size, h.2.1, fun i hi => by
    obtain ⟨A, c, h1, h2, h3⟩ := h.2.2 i hi
    exact ⟨A, c, (hb.cell (p := ⟨b, _, none⟩) h.1).trans h1, h2.below hb, h3⟩⟩
theorem Grid.below (h : Grid B w A c LL) (hb : Below w.heap.size w w') : Grid B w' A c LL :=
  ⟨h.1, h.2.1, h.2.2.1, fun hl => by obtain ⟨b, o, e, ht⟩ := h.2.2.2 hl; exact ⟨b, o, e, ht.below hb⟩⟩
theorem Grid.mono {C : Nat} (h : Grid B w A c LL) (hC : C ≤ B) : Grid C w A c LL :=
  ⟨h.1, h.2.1, h.2.2.1, fun hl => by
    obtain ⟨b, o, e, h1, h2, h3⟩ := h.2.2.2 hl
    refine ⟨b, o, e, h1, by omega, fun i hi => ?_⟩
    obtain ⟨A, c, a1, a2, a3⟩ := h3 i hi
    exact ⟨A, c, a1, a2, fun a ha => Nat.le_trans hC (a3 a ha)⟩⟩
theorem Grid.none_ (B : Nat) (w : World) : Grid B w none 0 [] := ⟨Nat.le_refl _, Nat.zero_le _, fun _ => rfl, fun h => absurd h (by simp)⟩
theorem Grid.len (h : Grid B w A c LL) : LL.length ≤ 9223372036854775807 := by
  have h1 := h.1; have h2 := h.2.1; unfold maxLen at h2; omega
theorem Grid.alloc (h : Grid B w A c LL) (o : Obj) : Grid B (w.alloc o) A c LL := h.below ((Below.refl _ _).alloc (Nat.le_refl _) o)
theorem Grid.drew (h : Grid B w A c LL) : Grid B w.drew A c LL := h.below (Below.refl _ _).drew
theorem Grid.setCell (h : Grid B w A c LL) {p : Addr} (hp : p.block < B) (u : Value) : Grid B (w.setCell p u) A c LL :=
  ⟨h.1, h.2.1, h.2.2.1, fun hl => by
    obtain ⟨b, o, e, h1, h2, h3⟩ := h.2.2.2 hl
    refine ⟨b, o, e, by simpa [World.setCell] using h1, h2, fun i hi => ?_⟩
    obtain ⟨A, c, a1, a2, a3⟩ := h3 i hi
    refine ⟨A, c, ?_, a2.setCell (fun a ha => by have := a3 a ha; omega) u, a3⟩
    rw [World.cell?_of_block (w := w) (Below.heap_setCell w p u b (by omega))]
    exact a1⟩
end

/-- A wheel as a value, and in memory. -/
abbrev wv (W : Whl) (A : Option Addr) (c : Nat) : Value := .agg #[.int .i64 W.now, .slice A W.slots.length c]
abbrev wo (W : Whl) (A : Option Addr) (c : Nat) : Obj := .cells #[.int .i64 W.now, .slice A W.slots.length c] 24
/-- Block p holds a wheel. -/
def Bx (w : World) (p : Nat) (W : Whl) (A : Option Addr) (c : Nat) : Prop :=
  p < w.heap.size ∧ w.cell? ⟨p, 0, none⟩ = some (.int .i64 W.now) ∧ w.cell? ⟨p, 1, none⟩ = some (.slice A W.slots.length c) ∧ Grid 0 w A c W.slots
section
variable {w w' : World} {p : Nat} {W : Whl} {A : Option Addr} {c : Nat}
theorem Bx.below (h : Bx w p W A c) (hb : Below w.heap.size w w') : Bx w' p W A c :=
  ⟨Nat.lt_of_lt_of_le h.1 hb.size, (hb.cell h.1).trans h.2.1, (hb.cell h.1).trans h.2.2.1, h.2.2.2.below hb⟩
theorem Bx.new (h : Grid 0 w A c W.slots) : Bx (w.alloc (wo W A c)) w.heap.size W A c := ⟨by simp, by simp [go_sem], by simp [go_sem], h.alloc _⟩
theorem Bx.alloc (h : Bx w p W A c) (o : Obj) : Bx (w.alloc o) p W A c := h.below ((Below.refl _ _).alloc (Nat.le_refl _) o)
theorem Bx.grid (h : Bx w p W A c) : Grid 0 w A c W.slots := h.2.2.2
end

theorem ret_bool {a b : Bool} (h : a = b) : Ending.returned (.bool a) = .returned (.bool b) := by rw [h]
theorem ret_int {a b : Int} (h : a = b) : Ending.returned (.int .i64 a) = .returned (.int .i64 b) := by rw [h]
theorem fromAlloc {w w' : World} {o : Obj} (h : Below w.heap.size (w.alloc o) w') : Below w.heap.size w w' :=
  ((Below.refl _ _).alloc (Nat.le_refl _) o).trans h

end Go.Proofs.Yteldnohdijcbpaa.Whl
