/-
  The walk of the law on short traces.
-/
import Derived.Test.YtmhhiddnkdcflaaOptRef3
import Derived.Test.YtmhhiddnkdcflaaOptBegun
namespace Go.Proofs.Ytmhhiddnkdcflaa.Opt
open Go.RowKit
open Bst
open Lru (isRm isK keysE keysE_zero traceE trace_zero)
set_option linter.unusedVariables false
set_option maxRecDepth 100000

theorem few_facts {r : Int} {l : List Int} (h : evE r l = 0) : isRm r ∧ evm r l = missB r.toNat [] l := by
  have hr : isRm r := by
    unfold evE at h
    by_cases h1 : traceE l = 0
    · rw [if_pos h1] at h
      by_cases h2 : isRm r
      · exact h2
      · rw [if_neg h2] at h; cases h
    · rw [if_neg h1] at h; exact absurd h h1
  exact ⟨hr, by unfold evm; rw [if_pos h]; exact mI_end (by have := hr.1; omega) l⟩

set_option maxHeartbeats 4000000 in
theorem optimalFewest_walk (A : Option Addr) (c : Nat) (xs : List Int) (r : Int) (w : World) (hI : Ints w A c xs) :
    Calls Try.prog 5 #[.slice A xs.length c, .int .i64 r] w fun e w' => e = .returned (.bool true) ∧ Below w.heap.size w w' := by
  obtain ⟨k, hk⟩ : ∃ k, k = min xs.length 9 := ⟨_, rfl⟩
  obtain ⟨A1, hsl, hI1, -⟩ := Lru.slice_upto hI (k := k) (by omega)
  obtain ⟨L, hL⟩ : ∃ L, L = xs.take k := ⟨_, rfl⟩
  have hl : L.length = k := by rw [hL, List.length_take]; omega
  rw [← hL] at hsl hI1
  rw [hl] at hsl
  have hmin : min (xs.length : Int) 9 = (k : Int) := by omega
  have hkn : (k : Int) ≤ (xs.length : Int) := by omega
  have HI := Lib.hid hI1
  have HEv := Lib.hid (fun (W : World) (h : Ints W A1 c L) => Evictions_any A1 c L r W h)
  have HBf := Lib.hid (fun (hr : isRm r) (W : World) (h : Ints W A1 c L) => bestFewest_any r hr A1 c L W h (by omega))
  unfold ER at HEv
  have HG := Lib.hid (fun h : evE r L = 0 => few_facts h)
  have HZ := Lib.hid (fun h : ¬ evE r L = 0 => show evm r L = 0 by unfold evm; rw [if_neg h])
  simp only [hl] at HEv HBf
  generalize evs r L = V at *
  generalize evm r L = n0 at *
  generalize evE r L = e0 at *
  generalize missB r.toNat [] L = m0 at *
  generalize xs.length = n at *
  clear hI hI1 hk hL hl
  go_enter Try.func5, Try.ntmps5
  go_wp2_with fail
  refine (HEv.out w HI.out).mono ?_
  rintro e w1 ⟨A2, c2, rfl, -, hb1⟩
  have HB1 := Lib.hid hb1
  clear hb1
  go_wp2_with fail
  refine (begun_any _).mono ?_
  rintro e w2 ⟨rfl, hb2⟩
  have HB2 : Hid (Below w.heap.size w w2) := Lib.hid (HB1.out.trans (hb2.mono HB1.out.size))
  clear hb2
  by_cases q0 : e0 = 0
  · have d0 : (e0 != 0) = false := by simp [q0]
    obtain ⟨hr, rfl⟩ := HG.out q0
    have HC := Lib.hid (HBf.out hr w2 (HI.out.below HB2.out))
    clear q0 hr
    go_wp2_with fail
    refine HC.out.mono ?_
    rintro e w3 ⟨rfl, hb3⟩
    have HB3 : Hid (Below w.heap.size w w3) := Lib.hid (HB2.out.trans (hb3.mono HB2.out.size))
    clear hb3
    go_wp2
    go_ret
    exact ⟨rfl, HB3.out⟩
  · have d0 : (e0 != 0) = true := by simpa using q0
    have z := HZ.out q0
    subst z
    clear q0
    go_wp2
    go_ret
    exact ⟨rfl, HB2.out⟩

end Go.Proofs.Ytmhhiddnkdcflaa.Opt
