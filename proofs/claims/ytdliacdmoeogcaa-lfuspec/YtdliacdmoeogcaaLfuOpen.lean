/-
  A cache with counts that came in.
-/
import Derived.Test.YtdliacdmoeogcaaLfuMem
import Derived.Test.YtdliacdmoeogcaaOpen
import Derived.Test.YtdliacdmoeogcaaLruOpen
import Derived.Lib.SmallJoins
namespace Go.Proofs.Ytdliacdmoeogcaa
open Go.ChangeShapes Go.WideShapes Go.RowKit Go.Joins Go.Deep Lfu
set_option linter.unusedVariables false
set_option maxRecDepth 100000

def usRead (w : World) (b o i : Nat) : Us :=
  match w.cell? ⟨b, o + i * 2, none⟩, w.cell? ⟨b, o + i * 2 + 1, none⟩ with
  | some (.int _ x), some (.int _ y) => ⟨x, y⟩
  | _, _ => ⟨0, 0⟩

theorem uss_read {H : Type} {enc : TypeId × Value → H} {W : World} {fuel : Nat} {v : Value} {x : DataW H × List MemPlace}
    (h : DataW.trod enc Try.prog W 0 (fun _ => true) true fuel 22 [v] = some x) : ∃ (A : Option Addr) (c : Nat) (F : List Us), v = .slice A F.length c ∧ Uss W A c F := by
  rcases open_slice Try.underlying22 h with h0 | ⟨a, len, cap, m, n, D, Pl, hcs, hb, hl, hm, hmm, hx, hi⟩
  · have hcs := h0.1
    simp only [List.cons.injEq, and_true] at hcs
    exact ⟨none, 0, [], hcs, Uss.none_ _⟩
  · simp only [List.cons.injEq, and_true] at hcs
    subst hcs
    rcases open_rows (K := 2) Try.underlying22 Try.underlying42 (by kernel_rfl) (by kernel_rfl) (by omega) rfl h with hcs | ⟨A', len', cap', hcs, hl', hr⟩
    · simp at hcs
    · simp only [List.cons.injEq, Value.slice.injEq, and_true] at hcs
      obtain ⟨rfl, rfl, rfl⟩ := hcs
      by_cases h0 : 0 < len
      · obtain ⟨b, o, e, hbl, hi2⟩ := hr h0
        refine ⟨some a, cap, (List.range len).map (usRead W b o), by simp, by simpa using hl, hm, fun e => (by cases e), fun _ => ⟨b, o, e, hbl, fun i hil => ?_⟩⟩
        have hil : i < len := by simpa using hil
        obtain ⟨vs, hvl, hvc, hvf⟩ := hi2 i hil
        obtain ⟨n0, v0, y0, e0, t0⟩ := hvf 0 _ rfl
        obtain ⟨n1, v1, y1, e1, t1⟩ := hvf 1 _ rfl
        obtain ⟨u, hu, _⟩ := DataW.trod_int Try.underlying3 t0
        obtain ⟨k, hk, _⟩ := DataW.trod_int Try.underlying3 t1
        simp only [List.cons.injEq, and_true] at hu hk
        subst hu hk
        have c0 := (hvc 0 (by omega)).trans e0
        have c1 := (hvc 1 (by omega)).trans e1
        have hs : gu ((List.range len).map (usRead W b o)) i = ⟨u, k⟩ := by
          rw [gu_get (by simpa using hil), List.getElem_map, List.getElem_range]
          unfold usRead
          rw [show o + i * 2 = o + (i * 2 + 0) from rfl, c0, show o + (i * 2 + 0) + 1 = o + (i * 2 + 1) from rfl, c1]
        rw [hs]
        exact ⟨c0, c1⟩
      · obtain rfl : len = 0 := by omega
        exact ⟨some a, cap, [], rfl, ⟨Nat.zero_le _, hm, fun e => (by cases e), fun h => absurd h (by simp)⟩⟩

theorem uses_open {H : Type} {enc : TypeId × Value → H} {W : World} {base : Nat} {r : Reach} {v : Value} {d : DataW H} {p : List MemPlace}
    (hv : Value.okWide Try.prog W r base 24 v) (h : DataW.Trod enc Try.prog W 0 (fun _ => true) true 24 v d p) :
    ∃ (r : Int) (A : Option Addr) (c : Nat) (F : List Us), v = kv r (.slice A F.length c) ∧ Uss W A c F := by
  obtain ⟨c0, c1, y0, y1, m, rfl, _, _, h0, h1⟩ := open_agg2 Try.underlying24 (by kernel_rfl) (by kernel_rfl) hv h
  obtain ⟨a, e0, _⟩ := DataW.trod_int Try.underlying3 h0
  simp only [List.cons.injEq, and_true] at e0
  subst e0
  obtain ⟨A, c, F, rfl, hF⟩ := uss_read h1
  exact ⟨a, A, c, F, rfl, hF⟩

end Go.Proofs.Ytdliacdmoeogcaa
