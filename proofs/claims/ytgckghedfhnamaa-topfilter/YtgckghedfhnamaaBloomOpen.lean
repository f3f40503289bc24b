/-
  A filter that came in; a slice of strings that came in.
-/
import Derived.Test.YtgckghedfhnamaaBloomBegun
import Derived.Lib.SmallJoins
import Derived.SliceStrings
namespace Go.Proofs.Ytgckghedfhnamaa
open Go.ChangeShapes Go.WideShapes Go.RowKit Go.Joins
set_option linter.unusedVariables false

theorem filter_open {H : Type} {enc : TypeId × Value → H} {W : World} {base : Nat} {r : Reach} {v : Value} {d : DataW H} {p : List MemPlace}
    (hv : Value.okWide Try.prog W r base 26 v) (h : DataW.Trod enc Try.prog W 0 (fun _ => true) true 26 v d p) :
    ∃ (F : Fl) (A : Option Addr) (c : Nat), v = fv F A c ∧ Ints W A c F.set := by
  obtain ⟨c0, c1, c2, y0, y1, y2, m, rfl, _, _, h0, h1, h2⟩ := open_agg3 Try.underlying26 (by kernel_rfl) (by kernel_rfl) hv h
  obtain ⟨a, e0, _⟩ := DataW.trod_int Try.underlying3 h0
  obtain ⟨b, e1, _⟩ := DataW.trod_int Try.underlying3 h1
  simp only [List.cons.injEq, and_true] at e0 e1
  subst e0 e1
  obtain ⟨A, len, cap, rfl⟩ : ∃ A len cap, c2 = .slice A len cap := by
    rcases open_ints Try.underlying24 Try.underlying3 (by kernel_rfl) h2 with ⟨hcs, _⟩ | ⟨a, len', cap', zs, hcs, _⟩
    · simp only [List.cons.injEq, and_true] at hcs; exact ⟨_, _, _, hcs⟩
    · simp only [List.cons.injEq, and_true] at hcs; exact ⟨_, _, _, hcs⟩
  obtain ⟨L, rfl, hL⟩ := ints_read h2
  exact ⟨⟨a, b, L⟩, A, cap, rfl, hL⟩

/-- A slice of strings that reads as S. -/
def Strs (w : World) (A : Option Addr) (c : Nat) (S : List ByteArray) : Prop :=
  S.length ≤ maxLen ∧ (∀ s ∈ S, s.size ≤ maxLen) ∧ (0 < S.length → ∃ b o, A = some ⟨b, o, none⟩ ∧ b < w.heap.size ∧ ∀ i, i < S.length → w.cell? ⟨b, o + i, none⟩ = some (.string (S.getD i ByteArray.empty)))
theorem Strs.below {w w' : World} {A : Option Addr} {c : Nat} {S : List ByteArray} (h : Strs w A c S) (hb : Below w.heap.size w w') : Strs w' A c S :=
  ⟨h.1, h.2.1, fun hl => by
    obtain ⟨b, o, e, hlt, hc⟩ := h.2.2 hl
    exact ⟨b, o, e, Nat.lt_of_lt_of_le hlt hb.size, fun i hi => (hb.cell (p := ⟨b, _, none⟩) hlt).trans (hc i hi)⟩⟩

theorem strs_open {H : Type} {enc : TypeId × Value → H} {W : World} {base : Nat} {r : Reach} {v : Value} {d : DataW H} {p : List MemPlace}
    (hv : Value.okWide Try.prog W r base 22 v) (h : DataW.Trod enc Try.prog W 0 (fun _ => true) true 22 v d p) :
    ∃ (A : Option Addr) (c : Nat) (S : List ByteArray), v = .slice A S.length c ∧ Strs W A c S := by
  obtain ⟨A, len, cap, rfl⟩ := okWide_slice Try.underlying22 hv
  obtain ⟨fuel, hf⟩ := h
  rcases open_strings Try.underlying22 Try.underlying9 (by kernel_rfl) hf with ⟨hcs, hx⟩ | ⟨a, len', cap', ss, hcs, _, hl, hm, hz, hx, hcell, hws⟩
  · simp only [Value.cells, List.cons.injEq, Value.slice.injEq, and_true] at hcs
    obtain ⟨rfl, rfl, rfl⟩ := hcs
    exact ⟨none, 0, [], rfl, ⟨Nat.zero_le _, fun s hs => (by cases hs), fun h => absurd h (by simp)⟩⟩
  · simp only [Value.cells, List.cons.injEq, Value.slice.injEq, and_true] at hcs
    obtain ⟨rfl, rfl, rfl⟩ := hcs
    simp only [if_true] at hz
    have hlen : (ss.take len).length = len := by simp; omega
    refine ⟨some a, cap, ss.take len, by rw [hlen], by omega, fun s hs => hws s (List.mem_of_mem_take hs), fun h0 => ?_⟩
    obtain ⟨hsp, hbl⟩ := cell_spot (hcell 0 (by omega))
    have ha : a = ⟨a.block, a.off, none⟩ := by simpa [Addr.add] using hsp
    refine ⟨a.block, a.off, by rw [← ha], by simpa [Addr.add] using hbl, fun i hi => ?_⟩
    have hc := hcell i (by omega)
    rw [ha, add_none] at hc
    rw [hc, List.getD_eq_getElem?_getD, List.getD_eq_getElem?_getD, List.getElem?_take, if_pos (by omega)]

end Go.Proofs.Ytgckghedfhnamaa
