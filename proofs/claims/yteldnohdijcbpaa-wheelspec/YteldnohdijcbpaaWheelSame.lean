/-
  SameTimers and SameWheel of the reference at equal lists.
-/
import Derived.Test.YteldnohdijcbpaaWheelApi
namespace Go.Proofs.Yteldnohdijcbpaa.Whl
open Go.RowKit Go.Maps
set_option linter.unusedVariables false

set_option maxHeartbeats 4000000 in
theorem sameTimers_eq (A B : Option Addr) (c d : Nat) (L : List Tm) (w : World) (hA : Tms w A c L) (hB : Tms w B d L) :
    Calls Try.prog 18 #[.slice A L.length c, .slice B L.length d] w fun e w' => e = .returned (.bool true) ∧ Below w.heap.size w w' := by
  have HA := Lib.hid hA
  have HB := Lib.hid hB
  have hlen := hA.len
  clear hA hB
  obtain ⟨ln, hln⟩ : ∃ ln, L.length = ln := ⟨_, rfl⟩
  have HLN := Lib.hid hln
  rw [hln] at hlen ⊢
  clear hln
  go_enter Try.func18, Try.ntmps18
  go_wp2
  go_loopw [5] (fun x wr => ∃ k : Nat, k ≤ ln ∧ x = .int .i64 (k : Int) ∧ Below w.heap.size w wr) (fun x _ => ln - (intOf x).toNat)
  case atStart => exact ⟨0, by omega, rfl, Below.refl _ _⟩
  case round =>
    obtain ⟨k, hk, rfl, hb⟩ := hrel
    have HBl := Lib.hid hb
    by_cases hlt : k < ln
    · have hkn : (k : Int) < (ln : Int) := by omega
      obtain ⟨a1, o1, rfl, ht1⟩ := (HA.out.below hb).2.2.2 (by rw [HLN.out]; omega)
      obtain ⟨a2, o2, rfl, ht2⟩ := (HB.out.below hb).2.2.2 (by rw [HLN.out]; omega)
      obtain ⟨e1, e2⟩ := ht1.2 k (by rw [HLN.out]; exact hlt)
      obtain ⟨e3, e4⟩ := ht2.2 k (by rw [HLN.out]; exact hlt)
      clear ht1 ht2 hb
      generalize gt L k = t at *
      obtain ⟨ti, ta⟩ := t
      go_wp2
      go_quiet (fail)
      have HB2 : Hid (Below w.heap.size w (wr.drewN nq)) := Lib.hid (HBl.out.trans (below_drewN _ _ _))
      generalize wr.drewN nq = w2 at *
      go_wp2
      go_roundw
      case rel => exact ⟨k + 1, by omega, by go_num, HB2.out⟩
      case measure => simp [intOf]; omega
    · obtain rfl : k = ln := by omega
      clear hb
      go_wp2
      go_ret
      exact ⟨rfl, HBl.out⟩

/-- Two boxes of wheels, and one row of each. -/
abbrev S6 (n : Nat) (v1 v2 : Value) (a1 p1 a2 p2 : Nat) (r1 r2 : Value) (w w' : World) : Prop :=
  w'.cell? ⟨n, 1, none⟩ = some v1 ∧ w'.cell? ⟨n + 1, 1, none⟩ = some v2 ∧ w'.cell? ⟨a1, p1, none⟩ = some r1 ∧ w'.cell? ⟨a2, p2, none⟩ = some r2 ∧ Below w.heap.size w w'
theorem S6.next {n : Nat} {v1 v2 : Value} {a1 p1 a2 p2 : Nat} {r1 r2 : Value} {w w' w'' : World} (h : S6 n v1 v2 a1 p1 a2 p2 r1 r2 w w') (hn : n + 1 < w.heap.size) (h1 : a1 < w.heap.size) (h2 : a2 < w.heap.size) (hb : Below w'.heap.size w' w'') : S6 n v1 v2 a1 p1 a2 p2 r1 r2 w w'' := by
  obtain ⟨e1, e2, e3, e4, e5⟩ := h
  have hs := e5.size
  exact ⟨(hb.cell (p := ⟨n, 1, none⟩) (by show n < _; omega)).trans e1, (hb.cell (p := ⟨n + 1, 1, none⟩) (by show n + 1 < _; omega)).trans e2, (hb.cell (p := ⟨a1, p1, none⟩) (by show a1 < _; omega)).trans e3, (hb.cell (p := ⟨a2, p2, none⟩) (by show a2 < _; omega)).trans e4, e5.trans (hb.mono hs)⟩
theorem S6.drew {n : Nat} {v1 v2 : Value} {a1 p1 a2 p2 : Nat} {r1 r2 : Value} {w w' : World} (h : S6 n v1 v2 a1 p1 a2 p2 r1 r2 w w') : S6 n v1 v2 a1 p1 a2 p2 r1 r2 w w'.drew := ⟨h.1, h.2.1, h.2.2.1, h.2.2.2.1, h.2.2.2.2.drew⟩

set_option maxHeartbeats 8000000 in
theorem sameWheel_eq (A B : Option Addr) (c d : Nat) (W : Whl) (w : World) (hA : Grid 0 w A c W.slots) (hB : Grid 0 w B d W.slots) :
    Calls Try.prog 17 #[wv W A c, wv W B d] w fun e w' => e = .returned (.bool true) ∧ Below w.heap.size w w' := by
  obtain ⟨now, SL⟩ := W
  have X := (Bx.new (W := ⟨now, SL⟩) hA).alloc (wo ⟨now, SL⟩ B d)
  have Y := Bx.new (W := ⟨now, SL⟩) (hB.alloc (wo ⟨now, SL⟩ A c))
  have hB0 : Below w.heap.size w ((w.alloc (wo ⟨now, SL⟩ A c)).alloc (wo ⟨now, SL⟩ B d)) := ((Below.refl _ w).alloc (Nat.le_refl _) _).alloc (by simp) _
  rw [show (w.alloc (wo ⟨now, SL⟩ A c)).heap.size = w.heap.size + 1 by simp] at Y
  have HX := Lib.hid X
  have HY := Lib.hid Y
  have HB0 := Lib.hid hB0
  obtain ⟨-, x1, x2, -⟩ := X
  obtain ⟨-, y1, y2, -⟩ := Y
  simp only at x1 x2 y1 y2
  have hlen := hA.len
  simp only at hlen
  clear hA hB hB0
  obtain ⟨ln, hln⟩ : ∃ ln, SL.length = ln := ⟨_, rfl⟩
  have HLN := Lib.hid hln
  rw [hln] at hlen x2 y2
  show Calls _ _ #[.agg #[.int .i64 now, .slice A SL.length c], .agg #[.int .i64 now, .slice B SL.length d]] _ _
  have ew : (w.alloc (wo ⟨now, SL⟩ A c)).alloc (wo ⟨now, SL⟩ B d) = (w.alloc (.cells #[.int .i64 now, .slice A ln c] 24)).alloc (.cells #[.int .i64 now, .slice B ln d] 24) := by simp only [wo, hln]
  rw [ew] at HX HY HB0 x1 x2 y1 y2
  rw [hln]
  clear hln ew
  go_enter Try.func17, Try.ntmps17
  go_wp2
  generalize ((w.alloc (.cells #[.int .i64 now, .slice A ln c] 24)).alloc (.cells #[.int .i64 now, .slice B ln d] 24)) = w0 at *
  generalize hn : w.heap.size = n at *
  have HN := Lib.hid hn
  clear hn x1 x2 y1 y2
  go_loopw [5] (fun x wr => ∃ k : Nat, k ≤ ln ∧ x = .int .i64 (k : Int) ∧ Below w0.heap.size w0 wr) (fun x _ => ln - (intOf x).toNat)
  case atStart => exact ⟨0, by omega, rfl, Below.refl _ _⟩
  case round =>
    obtain ⟨k, hk, rfl, hb⟩ := hrel
    have HBl := Lib.hid hb
    have HX1 := Lib.hid (HX.out.below hb)
    have HY1 := Lib.hid (HY.out.below hb)
    have x2 : wr.cell? ⟨n, 1, none⟩ = some (.slice A ln c) := by have := HX1.out.2.2.1; rw [← HLN.out]; exact this
    have y2 : wr.cell? ⟨n + 1, 1, none⟩ = some (.slice B ln d) := by have := HY1.out.2.2.1; rw [← HLN.out]; exact this
    by_cases hlt : k < ln
    · have hkn : (k : Int) < (ln : Int) := by omega
      obtain ⟨a1, o1, rfl, hg1, -, hr1⟩ := HX1.out.grid.2.2.2 (by show 0 < SL.length; rw [HLN.out]; omega)
      obtain ⟨a2, o2, rfl, hg2, -, hr2⟩ := HY1.out.grid.2.2.2 (by show 0 < SL.length; rw [HLN.out]; omega)
      obtain ⟨A1, c1, e1, t1, -⟩ := hr1 k (by show k < SL.length; rw [HLN.out]; exact hlt)
      obtain ⟨A2, c2, e2, t2, -⟩ := hr2 k (by show k < SL.length; rw [HLN.out]; exact hlt)
      simp only at e1 e2 t1 t2
      generalize gr SL k = Lk at *
      have HS6 : Hid (S6 n (.slice (some ⟨a1, o1, none⟩) ln c) (.slice (some ⟨a2, o2, none⟩) ln d) a1 (o1 + k) a2 (o2 + k) (.slice A1 Lk.length c1) (.slice A2 Lk.length c2) wr wr) := Lib.hid ⟨x2, y2, e1, e2, Below.refl _ _⟩
      have HZ : Hid (n + 1 < wr.heap.size) := Lib.hid HY1.out.1
      have HG12 := Lib.hid (And.intro hg1 hg2)
      have HC := Lib.hid (sameTimers_eq A1 A2 c1 c2 Lk wr.drew t1.drew t2.drew)
      clear t1 t2 hr1 hr2 hb hg1 hg2
      go_wp2
      clear x2 y2 e1 e2
      go_region_held3 (fun w' => w'.cell? ⟨n, 1, none⟩ = some (.slice (some ⟨a1, o1, none⟩) ln c) ∧ w'.cell? ⟨n + 1, 1, none⟩ = some (.slice (some ⟨a2, o2, none⟩) ln d) ∧ w'.cell? ⟨a1, o1 + k, none⟩ = some (.slice A1 Lk.length c1) ∧ w'.cell? ⟨a2, o2 + k, none⟩ = some (.slice A2 Lk.length c2) ∧ Below wr.heap.size wr w')
        (first | exact S6.next (S6.drew HS6.out) HZ.out HG12.out.1 HG12.out.2 hb9 | exact S6.drew HS6.out)
        (first | (go_at_call 18; refine HC.out.mono ?_; rintro e w9 ⟨rfl, hb9⟩))
      rename_i hHH
      have HB2 : Hid (Below w0.heap.size w0 w9) := Lib.hid (HBl.out.trans (hHH.2.2.2.2.mono HBl.out.size))
      clear hHH hb9
      go_wp2
      go_roundw
      case rel => exact ⟨k + 1, by omega, by go_num, HB2.out⟩
      case measure => simp [intOf]; omega
    · obtain rfl : k = ln := by omega
      have HBe : Hid (Below n w wr) := Lib.hid (HB0.out.trans (hb.mono (by have := HY.out.1; omega)))
      clear hb
      go_wp2
      go_ret
      exact ⟨rfl, by rw [HN.out]; exact HBe.out⟩

end Go.Proofs.Yteldnohdijcbpaa.Whl
