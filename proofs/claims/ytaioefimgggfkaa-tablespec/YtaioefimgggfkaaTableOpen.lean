/-
  A slice of slots that came in reads as a list of slots.
-/
import Derived.Test.YtaioefimgggfkaaOpen
import Derived.Test.YtaioefimgggfkaaTableWalks3
namespace Go.Proofs.Ytaioefimgggfkaa
open Go.ChangeShapes Go.WideShapes Go.Deep Go.RowKit

def slotRead (w : World) (b o i : Nat) : Sl :=
  match w.cell? ⟨b, o + i * 3, none⟩, w.cell? ⟨b, o + i * 3 + 1, none⟩, w.cell? ⟨b, o + i * 3 + 2, none⟩ with
  | some (.bool u), some (.string k), some (.int _ v) => ⟨u, k, v⟩
  | _, _, _ => Sl.no

theorem slots_open {H : Type} {enc : TypeId × Value → H} {W : World} {base : Nat} {r : Reach} {v : Value} {d : DataW H} {p : List MemPlace}
    (hv : Value.okWide Try.prog W r base 22 v) (h : DataW.Trod enc Try.prog W 0 (fun _ => true) true 22 v d p) :
    ∃ (A : Option Addr) (c : Nat) (L : List Sl), v = .slice A L.length c ∧ Tab W A c L := by
  obtain ⟨A, len, cap, rfl⟩ := okWide_slice Try.underlying22 hv
  obtain ⟨fuel, hf⟩ := h
  rcases open_rows (K := 3) Try.underlying22 Try.underlying33 (by kernel_rfl) (by kernel_rfl) (by omega) rfl hf with hcs | ⟨A', len', cap', hcs, hl, hr⟩
  · simp [Value.cells] at hcs
    obtain ⟨rfl, rfl, rfl⟩ := hcs
    exact ⟨none, 0, [], rfl, Tab.none_ _ _ _⟩
  · simp [Value.cells] at hcs
    obtain ⟨rfl, rfl, rfl⟩ := hcs
    by_cases h0 : 0 < len
    · obtain ⟨b, o, rfl, hb, hi⟩ := hr h0
      refine ⟨_, cap, (List.range len).map (slotRead W b o), by simp, by simpa using hl, fun _ => ⟨b, o, rfl, hb, fun i hil => ?_⟩⟩
      have hil : i < len := by simpa using hil
      obtain ⟨vs, hvl, hvc, hvf⟩ := hi i hil
      obtain ⟨n0, v0, y0, e0, t0⟩ := hvf 0 _ rfl
      obtain ⟨n1, v1, y1, e1, t1⟩ := hvf 1 _ rfl
      obtain ⟨n2, v2, y2, e2, t2⟩ := hvf 2 _ rfl
      obtain ⟨u, hu, _⟩ := DataW.trod_bool Try.underlying4 t0
      obtain ⟨k, hk, _⟩ := DataW.trod_string Try.underlying9 t1
      obtain ⟨x, hx, _⟩ := DataW.trod_int Try.underlying3 t2
      simp only [List.cons.injEq, and_true] at hu hk hx
      subst hu hk hx
      have c0 := (hvc 0 (by omega)).trans e0
      have c1 := (hvc 1 (by omega)).trans e1
      have c2 := (hvc 2 (by omega)).trans e2
      have hs : sl ((List.range len).map (slotRead W b o)) i = ⟨u, k, x⟩ := by
        unfold sl
        rw [List.getD_eq_getElem?_getD, List.getElem?_map, List.getElem?_range hil]
        show slotRead W b o i = _
        unfold slotRead
        rw [show o + i * 3 = o + (i * 3 + 0) from rfl, c0, show o + (i * 3 + 0) + 1 = o + (i * 3 + 1) from rfl, c1, show o + (i * 3 + 0) + 2 = o + (i * 3 + 2) from rfl, c2]
      rw [hs]
      exact ⟨c0, c1, c2⟩
    · obtain rfl : len = 0 := by omega
      exact ⟨A, cap, [], rfl, ⟨Nat.zero_le _, fun h => absurd h (by simp)⟩⟩

end Go.Proofs.Ytaioefimgggfkaa
