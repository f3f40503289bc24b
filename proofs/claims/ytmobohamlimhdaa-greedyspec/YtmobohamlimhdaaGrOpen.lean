/-
  A cache of items, an item, items that came in.
-/
import Derived.Test.YtmobohamlimhdaaGrMem
import Derived.Test.YtmobohamlimhdaaOpen
import Derived.Test.YtmobohamlimhdaaLruOpen
import Derived.Lib.SmallJoins
namespace Go.Proofs.Ytmobohamlimhdaa
open Go.ChangeShapes Go.WideShapes Go.RowKit Go.Joins Go.Deep Grd
set_option linter.unusedVariables false
set_option maxRecDepth 100000

def itRead (w : World) (b o i : Nat) : It :=
  match w.cell? ⟨b, o + i * 4, none⟩, w.cell? ⟨b, o + i * 4 + 1, none⟩, w.cell? ⟨b, o + i * 4 + 2, none⟩, w.cell? ⟨b, o + i * 4 + 3, none⟩ with
  | some (.int _ x), some (.int _ y), some (.int _ z), some (.int _ u) => ⟨x, y, z, u⟩
  | _, _, _, _ => ⟨0, 0, 0, 0⟩

theorem tss_read {H : Type} {enc : TypeId × Value → H} {W : World} {fuel : Nat} {v : Value} {x : DataW H × List MemPlace}
    (h : DataW.trod enc Try.prog W 0 (fun _ => true) true fuel 22 [v] = some x) : ∃ (A : Option Addr) (c : Nat) (F : List It), v = .slice A F.length c ∧ Tss W A c F := by
  rcases open_slice Try.underlying22 h with h0 | ⟨a, len, cap, m, n, D, Pl, hcs, hb, hl, hm, hmm, hx, hi⟩
  · have hcs := h0.1
    simp only [List.cons.injEq, and_true] at hcs
    exact ⟨none, 0, [], hcs, Tss.none_ _⟩
  · simp only [List.cons.injEq, and_true] at hcs
    subst hcs
    rcases open_rows (K := 4) Try.underlying22 Try.underlying26 (by kernel_rfl) (by kernel_rfl) (by omega) rfl h with hcs | ⟨A', len', cap', hcs, hl', hr⟩
    · simp at hcs
    · simp only [List.cons.injEq, Value.slice.injEq, and_true] at hcs
      obtain ⟨rfl, rfl, rfl⟩ := hcs
      by_cases h0 : 0 < len
      · obtain ⟨b, o, e, hbl, hi2⟩ := hr h0
        refine ⟨some a, cap, (List.range len).map (itRead W b o), by simp, by simpa using hl, hm, fun e => (by cases e), fun _ => ⟨b, o, e, hbl, fun i hil => ?_⟩⟩
        have hil : i < len := by simpa using hil
        obtain ⟨vs, hvl, hvc, hvf⟩ := hi2 i hil
        obtain ⟨n0, v0, y0, e0, t0⟩ := hvf 0 _ rfl
        obtain ⟨n1, v1, y1, e1, t1⟩ := hvf 1 _ rfl
        obtain ⟨n2, v2, y2, e2, t2⟩ := hvf 2 _ rfl
        obtain ⟨n3, v3, y3, e3, t3⟩ := hvf 3 _ rfl
        obtain ⟨u0, hu0, _⟩ := DataW.trod_int Try.underlying3 t0
        obtain ⟨u1, hu1, _⟩ := DataW.trod_int Try.underlying3 t1
        obtain ⟨u2, hu2, _⟩ := DataW.trod_int Try.underlying3 t2
        obtain ⟨u3, hu3, _⟩ := DataW.trod_int Try.underlying3 t3
        simp only [List.cons.injEq, and_true] at hu0 hu1 hu2 hu3
        subst hu0 hu1 hu2 hu3
        have c0 := (hvc 0 (by omega)).trans e0
        have c1 := (hvc 1 (by omega)).trans e1
        have c2 := (hvc 2 (by omega)).trans e2
        have c3 := (hvc 3 (by omega)).trans e3
        have hs : gt ((List.range len).map (itRead W b o)) i = ⟨u0, u1, u2, u3⟩ := by
          rw [gt_get (by simpa using hil), List.getElem_map, List.getElem_range]
          unfold itRead
          rw [show o + i * 4 = o + (i * 4 + 0) from rfl, c0, show o + (i * 4 + 0) + 1 = o + (i * 4 + 1) from rfl, c1, show o + (i * 4 + 0) + 2 = o + (i * 4 + 2) from rfl, c2, show o + (i * 4 + 0) + 3 = o + (i * 4 + 3) from rfl, c3]
        rw [hs]
        exact ⟨c0, c1, c2, c3⟩
      · obtain rfl : len = 0 := by omega
        exact ⟨some a, cap, [], rfl, ⟨Nat.zero_le _, hm, fun e => (by cases e), fun h => absurd h (by simp)⟩⟩

theorem items_open {H : Type} {enc : TypeId × Value → H} {W : World} {base : Nat} {r : Reach} {v : Value} {d : DataW H} {p : List MemPlace}
    (hv : Value.okWide Try.prog W r base 22 v) (h : DataW.Trod enc Try.prog W 0 (fun _ => true) true 22 v d p) :
    ∃ (A : Option Addr) (c : Nat) (L : List It), v = .slice A L.length c ∧ Tss W A c L := by
  obtain ⟨A, len, cap, rfl⟩ := okWide_slice Try.underlying22 hv
  obtain ⟨fuel, hf⟩ := h
  exact tss_read hf

theorem greedy_open {H : Type} {enc : TypeId × Value → H} {W : World} {base : Nat} {r : Reach} {v : Value} {d : DataW H} {p : List MemPlace}
    (hv : Value.okWide Try.prog W r base 24 v) (h : DataW.Trod enc Try.prog W 0 (fun _ => true) true 24 v d p) :
    ∃ (r fl : Int) (A : Option Addr) (c : Nat) (F : List It), v = kv r fl (.slice A F.length c) ∧ Tss W A c F := by
  obtain ⟨c0, c1, c2, y0, y1, y2, m, rfl, _, _, h0, h1, h2⟩ := open_agg3 Try.underlying24 (by kernel_rfl) (by kernel_rfl) hv h
  obtain ⟨a, e0, _⟩ := DataW.trod_int Try.underlying3 h0
  obtain ⟨b, e1, _⟩ := DataW.trod_int Try.underlying3 h1
  simp only [List.cons.injEq, and_true] at e0 e1
  subst e0 e1
  obtain ⟨A, c, F, rfl, hF⟩ := tss_read h2
  exact ⟨a, b, A, c, F, rfl, hF⟩

theorem item_open {H : Type} {enc : TypeId × Value → H} {W : World} {base : Nat} {r : Reach} {v : Value} {d : DataW H} {p : List MemPlace}
    (hv : Value.okWide Try.prog W r base 26 v) (h : DataW.Trod enc Try.prog W 0 (fun _ => true) true 26 v d p) :
    ∃ (t : It), v = fv t := by
  obtain ⟨c0, c1, c2, c3, y0, y1, y2, y3, m, rfl, _, _, h0, h1, h2, h3⟩ := open_agg4 Try.underlying26 (by kernel_rfl) (by kernel_rfl) hv h
  obtain ⟨a0, e0, _⟩ := DataW.trod_int Try.underlying3 h0
  obtain ⟨a1, e1, _⟩ := DataW.trod_int Try.underlying3 h1
  obtain ⟨a2, e2, _⟩ := DataW.trod_int Try.underlying3 h2
  obtain ⟨a3, e3, _⟩ := DataW.trod_int Try.underlying3 h3
  simp only [List.cons.injEq, and_true] at e0 e1 e2 e3
  subst e0 e1 e2 e3
  exact ⟨⟨a0, a1, a2, a3⟩, rfl⟩

end Go.Proofs.Ytmobohamlimhdaa
