/-
  Shards and names that came in.
-/
import Derived.Test.YtjmhemkbfephpaaShMem
import Derived.Test.YtjmhemkbfephpaaShScore
import Derived.Test.YtjmhemkbfephpaaOpen
import Derived.Lib.SmallJoins
import Derived.SliceStrings
namespace Go.Proofs.Ytjmhemkbfephpaa
open Go.ChangeShapes Go.WideShapes Go.RowKit Go.Joins Go.Deep Shd
set_option linter.unusedVariables false
set_option maxRecDepth 100000

def shRead (w : World) (b o i : Nat) : Sh :=
  match w.cell? ⟨b, o + i * 2, none⟩, w.cell? ⟨b, o + i * 2 + 1, none⟩ with
  | some (.string x), some (.int _ y) => ⟨x, y⟩
  | _, _ => ⟨ByteArray.empty, 0⟩

theorem shards_open_s {H : Type} {enc : TypeId × Value → H} {W : World} {base : Nat} {r : Reach} {v : Value} {d : DataW H} {p : List MemPlace}
    (hv : Value.okWide Try.prog W r base 42 v) (h : DataW.Trod enc Try.prog W 0 (fun _ => true) true 42 v d p) :
    ∃ (A : Option Addr) (c : Nat) (L : List Sh), v = .slice A L.length c ∧ Shs W A c L ∧ Nms L ∧ (L.length = 0 ∨ ∃ el sp, d = .slice el sp ∧ el.length = L.length) := by
  obtain ⟨A, len, cap, rfl⟩ := okWide_slice Try.underlying42 hv
  obtain ⟨fuel, h⟩ := h
  rcases open_slice Try.underlying42 h with h0 | ⟨a, len, cap, m, n, D, Pl, hcs, hb, hl, hm, hmm, hx, hi⟩
  · have hcs := h0.1
    simp only [Value.cells, List.cons.injEq, and_true] at hcs
    exact ⟨none, 0, [], hcs, Shs.none_ _, fun i hi => absurd hi (by simp), .inl rfl⟩
  · simp only [Value.cells, List.cons.injEq, and_true] at hcs
    rw [hcs] at h ⊢
    clear hcs
    simp only [Prod.mk.injEq] at hx
    rcases open_rows (K := 2) Try.underlying42 Try.underlying81 (by kernel_rfl) (by kernel_rfl) (by omega) rfl h with hcs | ⟨A', len', cap', hcs, hl', hr⟩
    · simp [Value.cells] at hcs
    · simp only [Value.cells, List.cons.injEq, Value.slice.injEq, and_true] at hcs
      obtain ⟨rfl, rfl, rfl⟩ := hcs
      by_cases h0 : 0 < len
      · obtain ⟨b, o, e, hbl, hi2⟩ := hr h0
        have key : ∀ i, i < len → gs ((List.range len).map (shRead W b o)) i = shRead W b o i ∧ W.cell? ⟨b, o + i * 2, none⟩ = some (.string (shRead W b o i).name) ∧ W.cell? ⟨b, o + i * 2 + 1, none⟩ = some (.int .i64 (shRead W b o i).wt) ∧ (shRead W b o i).name.size ≤ maxLen := by
          intro i hil
          obtain ⟨vs, hvl, hvc, hvf⟩ := hi2 i hil
          obtain ⟨n0, v0, y0, e0, t0⟩ := hvf 0 _ rfl
          obtain ⟨n1, v1, y1, e1, t1⟩ := hvf 1 _ rfl
          obtain ⟨u0, hu0, _, hs0⟩ := DataW.trod_string Try.underlying9 t0
          obtain ⟨u1, hu1, _⟩ := DataW.trod_int Try.underlying3 t1
          simp only [List.cons.injEq, and_true] at hu0 hu1
          subst hu0 hu1
          have c0 := (hvc 0 (by omega)).trans e0
          have c1 := (hvc 1 (by omega)).trans e1
          have hs : shRead W b o i = ⟨u0, u1⟩ := by
            unfold shRead
            rw [show o + i * 2 = o + (i * 2 + 0) from rfl, c0, show o + (i * 2 + 0) + 1 = o + (i * 2 + 1) from rfl, c1]
          rw [hs]
          refine ⟨?_, c0, c1, hs0⟩
          rw [gs_get (by simpa using hil), List.getElem_map, List.getElem_range, hs]
        refine ⟨some a, cap, (List.range len).map (shRead W b o), by simp, ⟨by simpa using hl, hm, fun e => (by cases e), fun _ => ⟨b, o, e, hbl, fun i hil => ?_⟩⟩, fun i hil => ?_, .inr ⟨_, _, hx.1, by simp⟩⟩
        · have hil : i < len := by simpa using hil
          obtain ⟨k1, k2, k3, k4⟩ := key i hil
          rw [k1]
          exact ⟨k2, k3⟩
        · have hil : i < len := by simpa using hil
          obtain ⟨k1, k2, k3, k4⟩ := key i hil
          rw [k1]
          exact k4
      · obtain rfl : len = 0 := by omega
        exact ⟨some a, cap, [], rfl, ⟨Nat.zero_le _, hm, fun e => (by cases e), fun h => absurd h (by simp)⟩, fun i hi => absurd hi (by simp), .inl rfl⟩
theorem shards_open {H : Type} {enc : TypeId × Value → H} {W : World} {base : Nat} {r : Reach} {v : Value} {d : DataW H} {p : List MemPlace}
    (hv : Value.okWide Try.prog W r base 42 v) (h : DataW.Trod enc Try.prog W 0 (fun _ => true) true 42 v d p) :
    ∃ (A : Option Addr) (c : Nat) (L : List Sh), v = .slice A L.length c ∧ Shs W A c L ∧ Nms L := by
  obtain ⟨A, c, L, e, h1, h2, _⟩ := shards_open_s hv h
  exact ⟨A, c, L, e, h1, h2⟩

theorem names_open {H : Type} {enc : TypeId × Value → H} {W : World} {base : Nat} {r : Reach} {v : Value} {d : DataW H} {p : List MemPlace}
    (hv : Value.okWide Try.prog W r base 43 v) (h : DataW.Trod enc Try.prog W 0 (fun _ => true) true 43 v d p) :
    ∃ (A : Option Addr) (c : Nat) (S : List ByteArray), v = .slice A S.length c ∧ Strs W A c S ∧ (∀ i, i < S.length → (S.getD i ByteArray.empty).size ≤ maxLen) := by
  obtain ⟨A, len, cap, rfl⟩ := okWide_slice Try.underlying43 hv
  obtain ⟨fuel, hf⟩ := h
  rcases open_strings Try.underlying43 Try.underlying9 (by kernel_rfl) hf with ⟨hcs, hx⟩ | ⟨a, len', cap', ss, hcs, _, hl, hm, hz, hx, hcell, hws⟩
  · simp only [Value.cells, List.cons.injEq, Value.slice.injEq, and_true] at hcs
    obtain ⟨rfl, rfl, rfl⟩ := hcs
    exact ⟨none, 0, [], rfl, ⟨Nat.le_refl _, Nat.zero_le _, fun h => absurd h (by simp)⟩, fun i hi => absurd hi (by simp)⟩
  · simp only [Value.cells, List.cons.injEq, Value.slice.injEq, and_true] at hcs
    obtain ⟨rfl, rfl, rfl⟩ := hcs
    simp only [if_true] at hz
    have hlen : (ss.take len).length = len := by simp; omega
    refine ⟨some a, cap, ss.take len, by rw [hlen], ⟨by omega, hm, fun h0 => ?_⟩, fun i hi => ?_⟩
    · obtain ⟨hsp, hbl⟩ := cell_spot (hcell 0 (by omega))
      have ha : a = ⟨a.block, a.off, none⟩ := by simpa [Addr.add] using hsp
      refine ⟨a.block, a.off, by rw [← ha], by simpa [Addr.add] using hbl, fun i hi => ?_⟩
      have hc := hcell i (by omega)
      rw [ha, add_none] at hc
      rw [hc, List.getD_eq_getElem?_getD, List.getD_eq_getElem?_getD, List.getElem?_take, if_pos (by omega)]
    · rw [List.getD_eq_getElem?_getD, List.getElem?_eq_getElem hi]
      exact hws _ (List.mem_of_mem_take (List.getElem_mem hi))

end Go.Proofs.Ytjmhemkbfephpaa
