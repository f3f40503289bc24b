/-
  A wheel that came in; a timer that came in.
-/
import Derived.Test.YteldnohdijcbpaaWheelMem
import Derived.Test.YteldnohdijcbpaaOpen
import Derived.Lib.SmallJoins
namespace Go.Proofs.Yteldnohdijcbpaa
open Go.ChangeShapes Go.WideShapes Go.RowKit Go.Joins Go.Deep Whl
set_option linter.unusedVariables false

def tmRead (w : World) (b o i : Nat) : Tm :=
  match w.cell? ⟨b, o + i * 2, none⟩, w.cell? ⟨b, o + i * 2 + 1, none⟩ with
  | some (.int _ x), some (.int _ y) => ⟨x, y⟩
  | _, _ => ⟨0, 0⟩

theorem tms_read {H : Type} {enc : TypeId × Value → H} {W : World} {fuel : Nat} {v : Value} {x : DataW H × List MemPlace}
    (h : DataW.trod enc Try.prog W 0 (fun _ => true) true fuel 32 [v] = some x) : ∃ (A : Option Addr) (c : Nat) (L : List Tm), v = .slice A L.length c ∧ Tms W A c L := by
  rcases open_slice Try.underlying32 h with h0 | ⟨a, len, cap, m, n, D, Pl, hcs, hb, hl, hm, hmm, hx, hi⟩
  · have hcs := h0.1
    simp only [List.cons.injEq, and_true] at hcs
    exact ⟨none, 0, [], hcs, Tms.none_ _⟩
  · simp only [List.cons.injEq, and_true] at hcs
    subst hcs
    rcases open_rows (K := 2) Try.underlying32 Try.underlying26 (by kernel_rfl) (by kernel_rfl) (by omega) rfl h with hcs | ⟨A', len', cap', hcs, hl', hr⟩
    · simp at hcs
    · simp only [List.cons.injEq, Value.slice.injEq, and_true] at hcs
      obtain ⟨rfl, rfl, rfl⟩ := hcs
      by_cases h0 : 0 < len
      · obtain ⟨b, o, e, hbl, hi2⟩ := hr h0
        refine ⟨some a, cap, (List.range len).map (tmRead W b o), by simp, by simpa using hl, hm, fun e => (by cases e), fun _ => ⟨b, o, e, hbl, fun i hil => ?_⟩⟩
        have hil : i < len := by simpa using hil
        obtain ⟨vs, hvl, hvc, hvf⟩ := hi2 i hil
        obtain ⟨n0, v0, y0, e0, t0⟩ := hvf 0 _ rfl
        obtain ⟨n1, v1, y1, e1, t1⟩ := hvf 1 _ rfl
        obtain ⟨u, hu, _⟩ := DataW.trod_int Try.underlying3 t0
        obtain ⟨k, hk, _⟩ := DataW.trod_int Try.underlying3 t1
        simp only [List.cons.injEq, and_true] at hu hk
        subst hu hk
        have c0 := (hvc 0 (by omega)).trans e0
        have c1 := (hvc 1 (by omega)).trans e1
        have hs : gt ((List.range len).map (tmRead W b o)) i = ⟨u, k⟩ := by
          rw [gt_get (by simpa using hil), List.getElem_map, List.getElem_range]
          unfold tmRead
          rw [show o + i * 2 = o + (i * 2 + 0) from rfl, c0, show o + (i * 2 + 0) + 1 = o + (i * 2 + 1) from rfl, c1]
        rw [hs]
        exact ⟨c0, c1⟩
      · obtain rfl : len = 0 := by omega
        exact ⟨some a, cap, [], rfl, ⟨Nat.zero_le _, hm, fun e => (by cases e), fun h => absurd h (by simp)⟩⟩

theorem wgrid_read {H : Type} {enc : TypeId × Value → H} {W : World} {fuel : Nat} {v : Value} {x : DataW H × List MemPlace}
    (h : DataW.trod enc Try.prog W 0 (fun _ => true) true fuel 22 [v] = some x) : ∃ (A : Option Addr) (c : Nat) (LL : List (List Tm)), v = .slice A LL.length c ∧ Grid 0 W A c LL := by
  rcases open_slice1 Try.underlying22 (by kernel_rfl) h with ⟨hcs, hx⟩ | ⟨a, len, cap, m, n, V, D, Pl, hcs, _, hl, hm, hmm, hx, hi⟩
  · simp only [List.cons.injEq, and_true] at hcs
    exact ⟨none, 0, [], hcs, Grid.none_ _ _⟩
  · simp only [List.cons.injEq, and_true] at hcs
    simp only [if_true] at hmm
    have key : ∀ i, i < len → ∃ (A : Option Addr) (c : Nat) (L : List Tm), W.cell? (a.add i) = some (.slice A L.length c) ∧ Tms W A c L := fun i hil => by
      obtain ⟨h1, h2⟩ := hi i (by omega)
      obtain ⟨A, c, L, e, hL⟩ := tms_read h2
      rw [e] at h1
      exact ⟨A, c, L, h1, hL⟩
    have hex : ∃ f : Nat → List Tm, ∀ i, i < len → ∃ (A : Option Addr) (c : Nat), W.cell? (a.add i) = some (.slice A (f i).length c) ∧ Tms W A c (f i) :=
      ⟨fun i => if h : i < len then (key i h).choose_spec.choose_spec.choose else [], fun i hil => by
        simp only [hil, dif_pos]
        exact ⟨_, _, (key i hil).choose_spec.choose_spec.choose_spec⟩⟩
    obtain ⟨f, hf⟩ := hex
    have hlen : ((List.range len).map f).length = len := by simp
    refine ⟨some a, cap, (List.range len).map f, by rw [hlen]; exact hcs, by rw [hlen]; exact hl, hm, fun e => (by cases e), fun h0 => ?_⟩
    rw [hlen] at h0
    obtain ⟨A0, c0, e0, _⟩ := hf 0 h0
    obtain ⟨hsp, hbl⟩ := cell_spot e0
    have ha : a = ⟨a.block, a.off, none⟩ := by simpa [Addr.add] using hsp
    refine ⟨a.block, a.off, by rw [← ha], by simpa [Addr.add] using hbl, Nat.zero_le _, fun i hil => ?_⟩
    rw [hlen] at hil
    obtain ⟨A1, c1, e1, i1⟩ := hf i hil
    have hg : gr ((List.range len).map f) i = f i := by rw [gr_get (by rw [hlen]; exact hil)]; simp
    rw [hg]
    rw [ha, add_none] at e1
    exact ⟨A1, c1, e1, i1, fun _ _ => Nat.zero_le _⟩

theorem wheel_open {H : Type} {enc : TypeId × Value → H} {W : World} {base : Nat} {r : Reach} {v : Value} {d : DataW H} {p : List MemPlace}
    (hv : Value.okWide Try.prog W r base 24 v) (h : DataW.Trod enc Try.prog W 0 (fun _ => true) true 24 v d p) :
    ∃ (S : Whl.Whl) (A : Option Addr) (c : Nat), v = wv S A c ∧ Grid 0 W A c S.slots := by
  obtain ⟨c0, c1, y0, y1, m, rfl, _, _, h0, h1⟩ := open_agg2 Try.underlying24 (by kernel_rfl) (by kernel_rfl) hv h
  obtain ⟨a, e0, _⟩ := DataW.trod_int Try.underlying3 h0
  simp only [List.cons.injEq, and_true] at e0
  subst e0
  obtain ⟨A, c, LL, rfl, hG⟩ := wgrid_read h1
  exact ⟨⟨a, LL⟩, A, c, rfl, hG⟩

theorem timer_open {H : Type} {enc : TypeId × Value → H} {W : World} {base : Nat} {r : Reach} {v : Value} {d : DataW H} {p : List MemPlace}
    (hv : Value.okWide Try.prog W r base 26 v) (h : DataW.Trod enc Try.prog W 0 (fun _ => true) true 26 v d p) :
    ∃ (t : Tm), v = tv t := by
  obtain ⟨c0, c1, y0, y1, m, rfl, _, _, h0, h1⟩ := open_agg2 Try.underlying26 (by kernel_rfl) (by kernel_rfl) hv h
  obtain ⟨a, e0, _⟩ := DataW.trod_int Try.underlying3 h0
  obtain ⟨b, e1, _⟩ := DataW.trod_int Try.underlying3 h1
  simp only [List.cons.injEq, and_true] at e0 e1
  subst e0 e1
  exact ⟨⟨a, b⟩, rfl⟩

end Go.Proofs.Yteldnohdijcbpaa
