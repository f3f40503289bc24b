/-
  Sketches in variables that are overwritten; empty sketches.
-/
import Derived.Test.YtmldjfbnljdamaaSketchOwn
namespace Go.Proofs.Ytmldjfbnljdamaa.Skt
open Go.RowKit
set_option linter.unusedVariables false
set_option maxRecDepth 100000

theorem addM_ok {S : Sk} {s : ByteArray} {n : Int} (h : errA S s n = 0) : addM S s n = addL S s n := by unfold addM; rw [if_pos h]
theorem good_addA {S : Sk} {s : ByteArray} {n : Int} (h : errA S s n = 0) : Good (addL S s n) := by
  obtain ⟨g, _, h1, _, hf⟩ := errA_ok h; exact good_add g s h1 hf
theorem tot_ok {S : Sk} (g : Good S) : totM S = sm (gl S.rows 0) := by unfold totM; rw [if_pos g.check]
theorem tot_add {S : Sk} {s : ByteArray} {n : Int} (h : errA S s n = 0) : totM (addL S s n) = totM S + n := by
  obtain ⟨g, _, _, _, _⟩ := errA_ok h
  rw [tot_ok (good_addA h), tot_ok g, sm_add g.toFine s n (by have := g.l1; omega)]
theorem gl_zeros {h m r : Nat} (hr : r < h) : gl (zeros h m) r = List.replicate m 0 := by
  rw [gl_get (by rw [zeros_len]; exact hr)]; simp [zeros]
theorem gi_zeros {m j : Nat} : gi (List.replicate m (0 : Int)) j = 0 := by
  unfold gi
  rw [List.getD_eq_getElem?_getD, List.getElem?_replicate]
  split <;> rfl
theorem sm_zeros (m : Nat) : sm (List.replicate m (0 : Int)) = 0 := by
  unfold sm
  have h := sig_bd (f := gi (List.replicate m (0 : Int))) (m := 0) (n := (List.replicate m (0 : Int)).length) (fun j _ => by rw [gi_zeros]; omega)
  omega
theorem plc_same {S T : Sk} (h : S.wide = T.wide) (s : ByteArray) (r : Nat) : plc S s r = plc T s r := by unfold plc; rw [h]
theorem gi_add {S : Sk} {s : ByteArray} {n : Int} {r j : Nat} (h : j < (gl S.rows r).length) : gi (gl (addL S s n).rows r) j = if j = plc S s r then gi (gl S.rows r) j + n else gi (gl S.rows r) j := by
  show gi (gl (chg (addF S s n) S.rows) r) j = _
  rw [gi_chg _ _ h]; rfl
theorem len_add (S : Sk) (s : ByteArray) (n : Int) (r : Nat) : (gl (addL S s n).rows r).length = (gl S.rows r).length := len_gl_chg _ _ _
theorem rows_add (S : Sk) (s : ByteArray) (n : Int) : (addL S s n).rows.length = S.rows.length := chg_len _ _
theorem cnt_le {G : Sk} (g : Good G) {r j : Nat} (hr : r < G.rows.length) (hj : j < (gl G.rows r).length) : gi (gl G.rows r) j ≤ totM G := by
  rw [tot_ok g, ← g.ev r hr]
  exact sig_ge (fun j hj => (g.bd r hr j hj).1) j hj
/-- A slice of slices of ints that keeps away from block p. -/
def GN (p : Nat) (w : World) (A : Option Addr) (c : Nat) (LL : List (List Int)) : Prop :=
  LL.length ≤ c ∧ c ≤ maxLen ∧ (A = none → c = 0) ∧ (0 < LL.length → ∃ b o, A = some ⟨b, o, none⟩ ∧ b < w.heap.size ∧ b ≠ p ∧
    ∀ i, i < LL.length → ∃ A' c', w.cell? ⟨b, o + i, none⟩ = some (.slice A' (gl LL i).length c') ∧ Ints w A' c' (gl LL i) ∧ (0 < (gl LL i).length → ∀ a, A' = some a → a.block ≠ p))
section
variable {p : Nat} {w w' : World} {A : Option Addr} {c : Nat} {LL : List (List Int)}
theorem GN.grid (h : GN p w A c LL) : Grid 0 w A c LL :=
  ⟨h.1, h.2.1, h.2.2.1, fun hl => by
    obtain ⟨b, o, e, h1, h2, h3⟩ := h.2.2.2 hl
    exact ⟨b, o, e, h1, Nat.zero_le _, fun i hi => by
      obtain ⟨A', c', a1, a2, _⟩ := h3 i hi
      exact ⟨A', c', a1, a2, fun _ _ => Nat.zero_le _⟩⟩⟩
theorem Grid.gn {B : Nat} (h : Grid B w A c LL) (hp : p < B) : GN p w A c LL :=
  ⟨h.1, h.2.1, h.2.2.1, fun hl => by
    obtain ⟨b, o, e, h1, h2, h3⟩ := h.2.2.2 hl
    exact ⟨b, o, e, h1, by omega, fun i hi => by
      obtain ⟨A', c', a1, a2, a3⟩ := h3 i hi
      exact ⟨A', c', a1, a2, fun _ a ha => by have := a3 a ha; omega⟩⟩⟩
theorem Grid.gn_new {B : Nat} (h : Grid B w A c LL) (o : Obj) : GN w.heap.size (w.alloc o) A c LL := by
  have h' := h.alloc o
  refine ⟨h.1, h.2.1, h.2.2.1, fun hl => ?_⟩
  obtain ⟨b, o', e, h1, h2, h3⟩ := h.2.2.2 hl
  obtain ⟨b2, o2, e', g1, g2, g3⟩ := h'.2.2.2 hl
  rw [e] at e'
  cases e'
  refine ⟨b, o', e, g1, by omega, fun i hi => ?_⟩
  obtain ⟨A', c', a1, a2, _⟩ := g3 i hi
  obtain ⟨A2, c2, b1, b2, _⟩ := h3 i hi
  have hb := ((Below.refl w.heap.size w).alloc (Nat.le_refl _) o).cell (p := ⟨b, o' + i, none⟩) h1
  rw [hb.trans b1] at a1
  simp only [Option.some.injEq, Value.slice.injEq, true_and] at a1
  obtain ⟨rfl, rfl⟩ := a1
  refine ⟨A2, c2, hb.trans b1, a2, fun hl a ha => ?_⟩
  obtain ⟨b4, o4, e4, t4⟩ := b2.2.2.2 hl
  rw [ha] at e4
  cases e4
  have := t4.1
  show b4 ≠ _
  omega
theorem GN.below (h : GN p w A c LL) (hb : Below w.heap.size w w') : GN p w' A c LL :=
  ⟨h.1, h.2.1, h.2.2.1, fun hl => by
    obtain ⟨b, o, e, h1, h2, h3⟩ := h.2.2.2 hl
    refine ⟨b, o, e, Nat.lt_of_lt_of_le h1 hb.size, h2, fun i hi => ?_⟩
    obtain ⟨A', c', a1, a2, a3⟩ := h3 i hi
    exact ⟨A', c', (hb.cell (p := ⟨b, _, none⟩) h1).trans a1, a2.below hb, a3⟩⟩
theorem GN.setCell (h : GN p w A c LL) (j : Nat) (u : Value) : GN p (w.setCell ⟨p, j, none⟩ u) A c LL :=
  ⟨h.1, h.2.1, h.2.2.1, fun hl => by
    obtain ⟨b, o, e, h1, h2, h3⟩ := h.2.2.2 hl
    refine ⟨b, o, e, by simpa [World.setCell] using h1, h2, fun i hi => ?_⟩
    obtain ⟨A', c', a1, a2, a3⟩ := h3 i hi
    refine ⟨A', c', (World.cell?_of_block (w := w) (Below.heap_setCell w ⟨p, j, none⟩ u b h2)).trans a1, ?_, a3⟩
    by_cases hz : 0 < (gl LL i).length
    · exact a2.setCell (a3 hz) u
    · exact ⟨a2.1, a2.2.1, a2.2.2.1, fun hl => absurd hl hz⟩⟩
end

/-- Block p holds the sketch G and can be written. -/
def VB (w : World) (p : Nat) (G : Sk) (A : Option Addr) (c : Nat) : Prop :=
  p < w.heap.size ∧ w.cell? ⟨p, 0, none⟩ = some (.int .i64 G.wide) ∧ w.cell? ⟨p, 1, none⟩ = some (.slice A G.rows.length c) ∧ w.frozen? ⟨p, 0, none⟩ = false ∧ w.frozen? ⟨p, 1, none⟩ = false ∧ GN p w A c G.rows
theorem VB.new {B : Nat} {w : World} {G : Sk} {A : Option Addr} {c : Nat} (h : Grid B w A c G.rows) : VB (w.alloc (so G A c)) w.heap.size G A c :=
  ⟨by simp, by simp [go_sem], by simp [go_sem], by simp [go_sem], by simp [go_sem], h.gn_new _⟩
theorem VB.below {w w' : World} {p : Nat} {G : Sk} {A : Option Addr} {c : Nat} (h : VB w p G A c) (hb : Below w.heap.size w w') : VB w' p G A c :=
  ⟨Nat.lt_of_lt_of_le h.1 hb.size, (hb.cell h.1).trans h.2.1, (hb.cell h.1).trans h.2.2.1, (hb.frozen h.1).trans h.2.2.2.1, (hb.frozen h.1).trans h.2.2.2.2.1, h.2.2.2.2.2.below hb⟩
theorem VB.put {B : Nat} {w : World} {p : Nat} {G H : Sk} {A A' : Option Addr} {c c' : Nat} (h : VB w p G A c) (hg : Grid B w A' c' H.rows) (hp : p < B) :
    VB ((w.setCell ⟨p, 0, none⟩ (.int .i64 H.wide)).setCell ⟨p, 1, none⟩ (.slice A' H.rows.length c')) p H A' c' := by
  obtain ⟨h0, h1, h2, h3, h4, h5⟩ := h
  exact ⟨by simpa [World.setCell] using h0, by simp [go_sem, h1], by simp [go_sem, h2], by simpa [go_sem] using h3, by simpa [go_sem] using h4, ((hg.gn hp).setCell 0 _).setCell 1 _⟩

abbrev z2 : Obj := .cells #[.int .i64 0, .slice none 0 0] 26
theorem new2 {w w' : World} (h : Below (w.alloc z2).heap.size (w.alloc z2) w') : w'.cell? ⟨w.heap.size, 0, none⟩ = some (.int .i64 0) ∧ w'.cell? ⟨w.heap.size, 1, none⟩ = some (.slice none 0 0) ∧
    w'.frozen? ⟨w.heap.size, 0, none⟩ = false ∧ w'.frozen? ⟨w.heap.size, 1, none⟩ = false :=
  ⟨(h.cell (by simp)).trans (by simp [go_sem]), (h.cell (by simp)).trans (by simp [go_sem]), (h.frozen (by simp)).trans (by simp [go_sem]), (h.frozen (by simp)).trans (by simp [go_sem])⟩
theorem str_ne {a b : ByteArray} (h : a ≠ b) : (a.toList == b.toList) = false := by
  rw [Bool.eq_false_iff]; intro hx; rw [beq_iff_eq, ByteArray.toList_eq, ByteArray.toList_eq] at hx; exact h (ByteArray.ext (Array.toList_inj.mp hx))
theorem str_eq {s t : ByteArray} (h : s = t) : (s.toList == t.toList) = true := by subst h; simp

end Go.Proofs.Ytmldjfbnljdamaa.Skt
