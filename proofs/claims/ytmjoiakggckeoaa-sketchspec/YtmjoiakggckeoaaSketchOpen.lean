/-
  A sketch that came in; a slice of strings that came in.
-/
import Derived.Test.YtmjoiakggckeoaaSketchBegun
import Derived.Lib.SmallJoins
import Derived.SliceStrings
namespace Go.Proofs.Ytmjoiakggckeoaa
open Go.ChangeShapes Go.WideShapes Go.RowKit Go.Joins Go.Deep Skt
set_option linter.unusedVariables false

theorem grid_read {H : Type} {enc : TypeId × Value → H} {W : World} {fuel : Nat} {v : Value} {x : DataW H × List MemPlace}
    (h : DataW.trod enc Try.prog W 0 (fun _ => true) true fuel 22 [v] = some x) : ∃ (A : Option Addr) (c : Nat) (LL : List (List Int)), v = .slice A LL.length c ∧ Grid 0 W A c LL := by
  rcases open_slice1 Try.underlying22 (by kernel_rfl) h with ⟨hcs, hx⟩ | ⟨a, len, cap, m, n, V, D, Pl, hcs, _, hl, hm, hmm, hx, hi⟩
  · simp only [List.cons.injEq, and_true] at hcs
    exact ⟨none, 0, [], hcs, Grid.none_ _ _⟩
  · simp only [List.cons.injEq, and_true] at hcs
    simp only [if_true] at hmm
    have key : ∀ i, i < len → ∃ (A : Option Addr) (c : Nat) (L : List Int), W.cell? (a.add i) = some (.slice A L.length c) ∧ Ints W A c L := fun i hil => by
      obtain ⟨h1, h2⟩ := hi i (by omega)
      obtain ⟨A, l, c, e⟩ : ∃ A l c, V i = .slice A l c := by
        rcases open_ints Try.underlying37 Try.underlying3 (by kernel_rfl) h2 with ⟨hcs, _⟩ | ⟨a, len', cap', zs, hcs, _⟩
        · simp only [List.cons.injEq, and_true] at hcs; exact ⟨_, _, _, hcs⟩
        · simp only [List.cons.injEq, and_true] at hcs; exact ⟨_, _, _, hcs⟩
      rw [e] at h1 h2
      obtain ⟨L, rfl, hL⟩ := ints_read h2
      exact ⟨A, c, L, h1, hL⟩
    have hex : ∃ f : Nat → List Int, ∀ i, i < len → ∃ (A : Option Addr) (c : Nat), W.cell? (a.add i) = some (.slice A (f i).length c) ∧ Ints W A c (f i) :=
      ⟨fun i => if h : i < len then (key i h).choose_spec.choose_spec.choose else [], fun i hil => by
        simp only [hil, dif_pos]
        exact ⟨_, _, (key i hil).choose_spec.choose_spec.choose_spec⟩⟩
    obtain ⟨f, hf⟩ := hex
    have hlen : ((List.range len).map f).length = len := by simp
    refine ⟨some a, cap, (List.range len).map f, by rw [hlen]; exact hcs, by rw [hlen]; exact hl, hm, fun e => (by cases e), fun h0 => ?_⟩
    rw [hlen] at h0
    obtain ⟨A0, c0, e0, _⟩ := hf 0 h0
    obtain ⟨hsp, hbl⟩ := cell_spot e0
    have ha : a = ⟨a.block, a.off, none⟩ := by simpa [Addr.add] using hsp
    refine ⟨a.block, a.off, by rw [← ha], by simpa [Addr.add] using hbl, Nat.zero_le _, fun i hil => ?_⟩
    rw [hlen] at hil
    obtain ⟨A1, c1, e1, i1⟩ := hf i hil
    have hg : gl ((List.range len).map f) i = f i := by rw [gl_get (by rw [hlen]; exact hil)]; simp
    rw [hg]
    rw [ha, add_none] at e1
    exact ⟨A1, c1, e1, i1, fun _ _ => Nat.zero_le _⟩

theorem sketch_open {H : Type} {enc : TypeId × Value → H} {W : World} {base : Nat} {r : Reach} {v : Value} {d : DataW H} {p : List MemPlace}
    (hv : Value.okWide Try.prog W r base 24 v) (h : DataW.Trod enc Try.prog W 0 (fun _ => true) true 24 v d p) :
    ∃ (S : Sk) (A : Option Addr) (c : Nat), v = sv S A c ∧ Grid 0 W A c S.rows := by
  obtain ⟨c0, c1, y0, y1, m, rfl, _, _, h0, h1⟩ := open_agg2 Try.underlying24 (by kernel_rfl) (by kernel_rfl) hv h
  obtain ⟨a, e0, _⟩ := DataW.trod_int Try.underlying3 h0
  simp only [List.cons.injEq, and_true] at e0
  subst e0
  obtain ⟨A, c, LL, rfl, hG⟩ := grid_read h1
  exact ⟨⟨a, LL⟩, A, c, rfl, hG⟩

/-- A slice of strings that reads as S. -/
def Strs (w : World) (A : Option Addr) (c : Nat) (S : List ByteArray) : Prop :=
  S.length ≤ maxLen ∧ (∀ s ∈ S, s.size ≤ maxLen) ∧ (0 < S.length → ∃ b o, A = some ⟨b, o, none⟩ ∧ b < w.heap.size ∧ ∀ i, i < S.length → w.cell? ⟨b, o + i, none⟩ = some (.string (S.getD i ByteArray.empty)))
theorem Strs.below {w w' : World} {A : Option Addr} {c : Nat} {S : List ByteArray} (h : Strs w A c S) (hb : Below w.heap.size w w') : Strs w' A c S :=
  ⟨h.1, h.2.1, fun hl => by
    obtain ⟨b, o, e, hlt, hc⟩ := h.2.2 hl
    exact ⟨b, o, e, Nat.lt_of_lt_of_le hlt hb.size, fun i hi => (hb.cell (p := ⟨b, _, none⟩) hlt).trans (hc i hi)⟩⟩

end Go.Proofs.Ytmjoiakggckeoaa
