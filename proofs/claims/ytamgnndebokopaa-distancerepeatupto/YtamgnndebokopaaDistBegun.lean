/-
  What must be in any case.
-/
import Derived.Test.YtamgnndebokopaaDistApi3
import Derived.Test.YtamgnndebokopaaLruBegun
namespace Go.Proofs.Ytamgnndebokopaa.Dst
open Go.RowKit
open Lru (isRm isK traceE trace_zero ints_lit same_lit)
open Two
set_option linter.unusedVariables false
set_option maxRecDepth 100000

def b6 : List Int := [1, 2, 1, 1, 3, 2]
theorem bg1 : dsL b6 = [0, 0, 2, 1, 0, 3] ∧ traceE b6 = 0 := by decide
theorem bg2 : (hsL b6).length = 40 ∧ gi (hsL b6) 0 = 1 ∧ gi (hsL b6) 1 = 2 ∧ gi (hsL b6) 2 = 3 ∧ gi (hsL b6) 39 = 3 := by decide
theorem bg3 : rmV b6 50 = 3 ∧ rmE b6 50 = 0 ∧ rmE [1] 1 = 5 := by decide
theorem fromLit {w w' : World} {o : Obj} (h : Below (w.alloc o).heap.size (w.alloc o) w') : Below w.heap.size w w' := (bel_al (Below.refl _ _) (Nat.le_refl _) o).trans (h.mono (by simp))

set_option maxHeartbeats 4000000 in
theorem begun_any (w : World) : Calls Try.prog 14 #[] w fun e w' => e = .returned (.bool true) ∧ Below w.heap.size w w' := by
  have HD : Hid (∀ W : World, Calls Try.prog 7 #[.slice (some ⟨W.heap.size, 0, none⟩) 6 6] (W.alloc (.cells #[.int .i64 1, .int .i64 2, .int .i64 1, .int .i64 1, .int .i64 3, .int .i64 2] 3)) fun e w' => ∃ A c, e = .returned (.tuple #[.slice A 6 c, .int .i64 0]) ∧ Ints w' A c [0, 0, 2, 1, 0, 3] ∧ Below W.heap.size W w') := Lib.hid (fun W => by
    refine (Distances_any _ 6 b6 _ (ints_lit W b6 (by unfold maxLen; decide))).mono ?_
    rintro e w' ⟨v, rfl, ho, hb⟩
    rw [bg1.1] at ho
    rw [bg1.2]
    obtain ⟨A, c, rfl, hI⟩ := ints_of_own ho
    exact ⟨A, c, rfl, hI, fromLit hb⟩)
  have HH : Hid (∀ W : World, Calls Try.prog 8 #[.slice (some ⟨W.heap.size, 0, none⟩) 6 6] (W.alloc (.cells #[.int .i64 1, .int .i64 2, .int .i64 1, .int .i64 1, .int .i64 3, .int .i64 2] 3)) fun e w' => ∃ b o c, e = .returned (.tuple #[.slice (some ⟨b, o, none⟩) 40 c, .int .i64 0]) ∧ b < w'.heap.size ∧ w'.cell? ⟨b, o + 0, none⟩ = some (.int .i64 1) ∧ w'.cell? ⟨b, o + 1, none⟩ = some (.int .i64 2) ∧ w'.cell? ⟨b, o + 2, none⟩ = some (.int .i64 3) ∧ w'.cell? ⟨b, o + 39, none⟩ = some (.int .i64 3) ∧ Below W.heap.size W w') := Lib.hid (fun W => by
    refine (Hits_any _ 6 b6 _ (ints_lit W b6 (by unfold maxLen; decide))).mono ?_
    rintro e w' ⟨v, rfl, ho, hb⟩
    obtain ⟨h1, h2, h3, h4, h5⟩ := bg2
    rw [bg1.2]
    obtain ⟨A, c, rfl, hI⟩ := ints_of_own ho
    obtain ⟨b, o, rfl, ht⟩ := hI.2.2.2 (by rw [h1]; decide)
    have k1 := ht.2 0 (by rw [h1]; decide)
    have k2 := ht.2 1 (by rw [h1]; decide)
    have k3 := ht.2 2 (by rw [h1]; decide)
    have k4 := ht.2 39 (by rw [h1]; decide)
    rw [h2] at k1
    rw [h3] at k2
    rw [h4] at k3
    rw [h5] at k4
    exact ⟨b, o, c, by rw [h1], ht.1, k1, k2, k3, k4, fromLit hb⟩)
  have HR : Hid (∀ W : World, Calls Try.prog 10 #[.slice (some ⟨W.heap.size, 0, none⟩) 6 6, .int .i64 50] (W.alloc (.cells #[.int .i64 1, .int .i64 2, .int .i64 1, .int .i64 1, .int .i64 3, .int .i64 2] 3)) fun e w' => e = .returned (.tuple #[.int .i64 3, .int .i64 0]) ∧ Below W.heap.size W w') := Lib.hid (fun W => by
    refine (Room_any _ 6 b6 50 _ (ints_lit W b6 (by unfold maxLen; decide))).mono ?_
    rintro e w' ⟨rfl, hb⟩
    rw [bg3.1, bg3.2.1]
    exact ⟨rfl, fromLit hb⟩)
  have HR1 : Hid (∀ W : World, Calls Try.prog 10 #[.slice (some ⟨W.heap.size, 0, none⟩) 1 1, .int .i64 1] (W.alloc (.cells #[.int .i64 1] 3)) fun e w' => ∃ x, e = .returned (.tuple #[.int .i64 x, .int .i64 5]) ∧ Below W.heap.size W w') := Lib.hid (fun W => by
    refine (Room_any _ 1 [1] 1 _ (ints_lit W [1] (by unfold maxLen; decide))).mono ?_
    rintro e w' ⟨rfl, hb⟩
    rw [bg3.2.2]
    exact ⟨_, rfl, fromLit hb⟩)
  have HS : Hid (∀ (A : Option Addr) (c : Nat) (W : World), Ints W A c [0, 0, 2, 1, 0, 3] → Calls Try.prog 15 #[.slice A 6 c, .slice (some ⟨W.heap.size, 0, none⟩) 6 6] (W.alloc (.cells #[.int .i64 0, .int .i64 0, .int .i64 2, .int .i64 1, .int .i64 0, .int .i64 3] 3)) fun e w' => e = .returned (.bool true) ∧ Below W.heap.size W w') := Lib.hid (fun A c W h =>
    same_lit A c 6 W.heap.size [0, 0, 2, 1, 0, 3] [0, 0, 2, 1, 0, 3] true W rfl h rfl (by unfold maxLen; decide) (by simp))
  go_enter Try.func14, Try.ntmps14
  go_wp2_with fail
  refine (HD.out w).mono ?_
  rintro e w1 ⟨A1, c1, rfl, hI1, hb1⟩
  have HI1 := Lib.hid hI1
  have HB1 := Lib.hid hb1
  clear hI1 hb1
  go_wp2_with fail
  refine (HH.out w1).mono ?_
  rintro e w2 ⟨b2, o2, c2, rfl, hl2, k1, k2, k3, k4, hb2⟩
  have HI2 := Lib.hid (HI1.out.below hb2)
  have HB2 : Hid (Below w.heap.size w w2) := Lib.hid (HB1.out.trans (hb2.mono HB1.out.size))
  have HK2 := Lib.hid (And.intro hl2 (And.intro k1 (And.intro k2 (And.intro k3 k4))))
  clear hb2 hl2 k1 k2 k3 k4
  go_wp2_with fail
  refine (HR.out w2).mono ?_
  rintro e w3 ⟨rfl, hb3⟩
  have HI3 := Lib.hid (HI2.out.below hb3)
  have HB3 : Hid (Below w.heap.size w w3) := Lib.hid (HB2.out.trans (hb3.mono HB2.out.size))
  have HC3 := Lib.hid hb3
  clear hb3
  go_wp2_with fail
  refine (HR1.out w3).mono ?_
  rintro e w4 ⟨x4, rfl, hb4⟩
  have HI4 := Lib.hid (HI3.out.below hb4)
  have HB4 : Hid (Below w.heap.size w w4) := Lib.hid (HB3.out.trans (hb4.mono HB3.out.size))
  have HC4 : Hid (Below w2.heap.size w2 w4) := Lib.hid (HC3.out.trans (hb4.mono HC3.out.size))
  clear hb4
  go_wp2_with fail
  refine (HS.out A1 c1 w4 HI4.out).mono ?_
  rintro e w5 ⟨rfl, hb5⟩
  have HB5 : Hid (Below w.heap.size w w5) := Lib.hid (HB4.out.trans (hb5.mono HB4.out.size))
  have hc := HC4.out.trans (hb5.mono HC4.out.size)
  obtain ⟨hl2, k1, k2, k3, k4⟩ := HK2.out
  have c1 := (hc.cell (p := ⟨b2, _, none⟩) hl2).trans k1
  have c2 := (hc.cell (p := ⟨b2, _, none⟩) hl2).trans k2
  have c3 := (hc.cell (p := ⟨b2, _, none⟩) hl2).trans k3
  have c4 := (hc.cell (p := ⟨b2, _, none⟩) hl2).trans k4
  rw [Nat.add_zero] at c1
  clear hc hb5 hl2 k1 k2 k3 k4
  go_wp2
  go_ret
  exact ⟨rfl, HB5.out⟩

end Go.Proofs.Ytamgnndebokopaa.Dst
