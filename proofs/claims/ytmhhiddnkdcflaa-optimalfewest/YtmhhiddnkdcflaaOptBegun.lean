/-
  What must be in any case.
-/
import Derived.Test.YtmhhiddnkdcflaaOptEv
import Derived.Test.YtmhhiddnkdcflaaLruBegun
namespace Go.Proofs.Ytmhhiddnkdcflaa.Opt
open Go.RowKit
open Bst
open Lru (isRm isK keysE keysE_zero traceE trace_zero bel belady_any)
set_option linter.unusedVariables false
set_option maxRecDepth 100000

theorem bg1 : evE 3 bel = 0 ∧ evm 3 bel = 7 ∧ (evs 3 bel).length = 12 ∧ gi (evs 3 bel) 3 = 3 := by decide
theorem bg2 : nxV bel 0 = 4 ∧ nxE bel 0 = 0 := by decide
theorem bg3 : bndV 10 4 2 = 17 ∧ bndE 10 4 2 = 0 ∧ bndV 1 1 2 = 0 ∧ bndE 1 1 2 = 4 := by decide

set_option maxHeartbeats 2000000 in
theorem begun_any (w : World) : Calls Try.prog 13 #[] w fun e w' => e = .returned (.bool true) ∧ Below w.heap.size w w' := by
  have HEv : Hid (∀ (B : Option Addr) (d : Nat) (W : World), Ints W B d bel → Calls Try.prog 7 #[.slice B 12 d, .int .i64 3] W fun e w' => ∃ (b o c : Nat), e = .returned (.tuple #[.slice (some ⟨b, o, none⟩) 12 c, .int .i64 7, .int .i64 0]) ∧ b < w'.heap.size ∧ w'.cell? ⟨b, o + 3, none⟩ = some (.int .i64 3) ∧ Below W.heap.size W w') := Lib.hid (fun B d W h => by
    refine (Evictions_any B d bel 3 W h).mono ?_
    rintro e w' ⟨A, c, rfl, hI, hb⟩
    obtain ⟨h1, h2, h3, h4⟩ := bg1
    obtain ⟨b, o, rfl, ht⟩ := hI.2.2.2 (by rw [h3]; decide)
    have := ht.2 3 (by rw [h3]; decide)
    rw [h4] at this
    exact ⟨b, o, c, by rw [h1, h2, h3]; rfl, ht.1, this, hb⟩)
  have HNx : Hid (∀ (B : Option Addr) (d : Nat) (W : World), Ints W B d bel → Calls Try.prog 8 #[.slice B 12 d, .int .i64 0] W fun e w' => e = .returned (.tuple #[.int .i64 4, .int .i64 0]) ∧ Below W.heap.size W w') := Lib.hid (fun B d W h => by
    have := Next_any B d bel 0 W h
    rwa [bg2.1, bg2.2] at this)
  have HB1 : Hid (∀ W : World, Calls Try.prog 9 #[.int .i64 10, .int .i64 4, .int .i64 2] W fun e w' => e = .returned (.tuple #[.int .i64 17, .int .i64 0]) ∧ W = w') := Lib.hid (fun W => by
    have := Bound_any 10 4 2 W
    rwa [bg3.1, bg3.2.1] at this)
  have HB2 : Hid (∀ W : World, Calls Try.prog 9 #[.int .i64 1, .int .i64 1, .int .i64 2] W fun e w' => e = .returned (.tuple #[.int .i64 0, .int .i64 4]) ∧ W = w') := Lib.hid (fun W => by
    have := Bound_any 1 1 2 W
    rwa [bg3.2.2.1, bg3.2.2.2] at this)
  go_enter Try.func13, Try.ntmps13
  go_wp2_with fail
  refine (belady_any _).mono ?_
  rintro e w1 ⟨A1, c1, rfl, hI1, hb1⟩
  go_wp2_with fail
  refine (HEv.out A1 c1 w1 hI1).mono ?_
  rintro e w2 ⟨b2, o2, c2, rfl, hl2, hc2, hb2⟩
  have HB2' : Hid (Below w.heap.size w w2) := Lib.hid (hb1.trans (hb2.mono hb1.size))
  clear hI1 hb1 hb2
  go_wp2_with fail
  refine (belady_any _).mono ?_
  rintro e w3 ⟨A3, c3, rfl, hI3, hb3⟩
  go_wp2_with fail
  refine (HNx.out A3 c3 w3 hI3).mono ?_
  rintro e w4 ⟨rfl, hb4⟩
  have hb24 := hb3.trans (hb4.mono hb3.size)
  have HB4 : Hid (Below w.heap.size w w4) := Lib.hid (HB2'.out.trans (hb24.mono HB2'.out.size))
  have hc4 := (hb24.cell (p := ⟨b2, _, none⟩) hl2).trans hc2
  clear hI3 hb3 hb4 hb24 hc2 hl2
  go_wp2_with fail
  refine (HB1.out w4).mono ?_
  rintro e w5 ⟨rfl, rfl⟩
  go_wp2_with fail
  refine (HB2.out w4).mono ?_
  rintro e w5 ⟨rfl, rfl⟩
  go_wp2
  go_ret
  exact ⟨rfl, HB4.out⟩

end Go.Proofs.Ytmhhiddnkdcflaa.Opt
