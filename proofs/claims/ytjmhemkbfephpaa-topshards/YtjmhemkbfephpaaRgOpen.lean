/-
  Points that came in.
-/
import Derived.Test.YtjmhemkbfephpaaRgMem
import Derived.Test.YtjmhemkbfephpaaOpen
import Derived.Lib.SmallJoins
namespace Go.Proofs.Ytjmhemkbfephpaa
open Go.ChangeShapes Go.WideShapes Go.RowKit Go.Joins Go.Deep Rng
set_option linter.unusedVariables false
set_option maxRecDepth 100000

def ptRead (w : World) (b o i : Nat) : Pt :=
  match w.cell? ⟨b, o + i * 2, none⟩, w.cell? ⟨b, o + i * 2 + 1, none⟩ with
  | some (.int _ x), some (.int _ y) => ⟨x, y⟩
  | _, _ => ⟨0, 0⟩

theorem points_open {H : Type} {enc : TypeId × Value → H} {W : World} {base : Nat} {r : Reach} {v : Value} {d : DataW H} {p : List MemPlace}
    (hv : Value.okWide Try.prog W r base 22 v) (h : DataW.Trod enc Try.prog W 0 (fun _ => true) true 22 v d p) :
    ∃ (A : Option Addr) (c : Nat) (L : List Pt), v = .slice A L.length c ∧ Pts W A c L := by
  obtain ⟨A, len, cap, rfl⟩ := okWide_slice Try.underlying22 hv
  obtain ⟨fuel, h⟩ := h
  rcases open_slice Try.underlying22 h with h0 | ⟨a, len, cap, m, n, D, Pl, hcs, hb, hl, hm, hmm, hx, hi⟩
  · have hcs := h0.1
    simp only [Value.cells, List.cons.injEq, and_true] at hcs
    exact ⟨none, 0, [], hcs, Pts.none_ _⟩
  · simp only [Value.cells, List.cons.injEq, and_true] at hcs
    rw [hcs] at h ⊢
    clear hcs
    rcases open_rows (K := 2) Try.underlying22 Try.underlying35 (by kernel_rfl) (by kernel_rfl) (by omega) rfl h with hcs | ⟨A', len', cap', hcs, hl', hr⟩
    · simp [Value.cells] at hcs
    · simp only [Value.cells, List.cons.injEq, Value.slice.injEq, and_true] at hcs
      obtain ⟨rfl, rfl, rfl⟩ := hcs
      by_cases h0 : 0 < len
      · obtain ⟨b, o, e, hbl, hi2⟩ := hr h0
        have key : ∀ i, i < len → gp ((List.range len).map (ptRead W b o)) i = ptRead W b o i ∧ W.cell? ⟨b, o + i * 2, none⟩ = some (.int .i64 (ptRead W b o i).at_) ∧ W.cell? ⟨b, o + i * 2 + 1, none⟩ = some (.int .i64 (ptRead W b o i).sh) := by
          intro i hil
          obtain ⟨vs, hvl, hvc, hvf⟩ := hi2 i hil
          obtain ⟨n0, v0, y0, e0, t0⟩ := hvf 0 _ rfl
          obtain ⟨n1, v1, y1, e1, t1⟩ := hvf 1 _ rfl
          obtain ⟨u0, hu0, _⟩ := DataW.trod_int Try.underlying3 t0
          obtain ⟨u1, hu1, _⟩ := DataW.trod_int Try.underlying3 t1
          simp only [List.cons.injEq, and_true] at hu0 hu1
          subst hu0 hu1
          have c0 := (hvc 0 (by omega)).trans e0
          have c1 := (hvc 1 (by omega)).trans e1
          have hs : ptRead W b o i = ⟨u0, u1⟩ := by
            unfold ptRead
            rw [show o + i * 2 = o + (i * 2 + 0) from rfl, c0, show o + (i * 2 + 0) + 1 = o + (i * 2 + 1) from rfl, c1]
          rw [hs]
          refine ⟨?_, c0, c1⟩
          rw [gp_get (by simpa using hil), List.getElem_map, List.getElem_range, hs]
        refine ⟨some a, cap, (List.range len).map (ptRead W b o), by simp, ⟨by simpa using hl, hm, fun e => (by cases e), fun _ => ⟨b, o, e, hbl, fun i hil => ?_⟩⟩⟩
        have hil : i < len := by simpa using hil
        obtain ⟨k1, k2, k3⟩ := key i hil
        rw [k1]
        exact ⟨k2, k3⟩
      · obtain rfl : len = 0 := by omega
        exact ⟨some a, cap, [], rfl, ⟨Nat.zero_le _, hm, fun e => (by cases e), fun h => absurd h (by simp)⟩⟩

end Go.Proofs.Ytjmhemkbfephpaa
