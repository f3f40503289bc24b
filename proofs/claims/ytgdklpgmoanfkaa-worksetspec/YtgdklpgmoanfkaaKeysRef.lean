/-
  Of the reference: KeysOnce, TraceCheck.
-/
import Derived.Test.YtgdklpgmoanfkaaLruWalks
namespace Go.Proofs.Ytgdklpgmoanfkaa.Kr
open Go.RowKit Go.Maps
open Lru (isRm isK keysE keysE_zero keysE_at traceE trace_zero ret_int slice_upto)
set_option linter.unusedVariables false
set_option maxRecDepth 100000

theorem hasInt_b (A : Option Addr) (c : Nat) (L : List Int) (n : Int) (b : Bool) (w : World) (ha : Ints w A c L) (hb : decide (n ∈ L) = b) :
    Calls Try.prog 18 #[.slice A L.length c, .int .i64 n] w fun e w' => e = .returned (.bool b) ∧ w' = w := by
  subst hb
  exact (hasInt_any A c L n w ha).mono (fun e w' ⟨h1, h2⟩ => ⟨h1, h2.symm⟩)
theorem betweenK (x : Int) (b : Bool) (w : World) (hb : decide (isK x) = b) : Calls Try.prog 29 #[.int .i64 x, .int .i64 0, .int .i64 1048576] w fun e w' => e = .returned (.bool b) ∧ w = w' := by
  subst hb
  exact between_any x 0 1048576 w
theorem betweenR (x : Int) (b : Bool) (w : World) (hb : decide (isRm x) = b) : Calls Try.prog 29 #[.int .i64 x, .int .i64 1, .int .i64 40] w fun e w' => e = .returned (.bool b) ∧ w = w' := by
  subst hb
  exact between_any x 1 40 w

set_option maxHeartbeats 1000000 in
theorem traceCheck_any (A : Option Addr) (c : Nat) (L : List Int) (w : World) (hI : Ints w A c L) :
    Calls Try.prog 28 #[.slice A L.length c] w fun e w' => e = .returned (.int .i64 (traceE L)) ∧ w = w' := by
  have hlen := hI.len
  by_cases h1 : 200 < L.length
  · have HE : Hid (traceE L = 2) := Lib.hid (by unfold traceE; rw [if_pos h1])
    have p1 : decide (200 < (L.length : Int)) = true := by simp; omega
    clear h1 hI
    go_enter Try.func28, Try.ntmps28
    go_wp2
    go_ret
    exact ⟨ret_int HE.out.symm, rfl⟩
  · have p1 : decide (200 < (L.length : Int)) = false := by simp; omega
    have H1 := Lib.hid h1
    clear h1
    have HI := Lib.hid hI
    clear hI
    go_enter Try.func28, Try.ntmps28
    go_wp2
    go_loop [3] (fun i => ∃ k : Nat, k ≤ L.length ∧ i = .int .i64 (k : Int) ∧ Hid (∀ j, j < k → isK (gi L j))) (fun i => L.length - (intOf i).toNat)
    case atStart => exact ⟨0, by omega, rfl, Lib.hid (fun j hj => by omega)⟩
    case round =>
      obtain ⟨k, hk, rfl, HA⟩ := hrel
      by_cases hlt : k < L.length
      · obtain ⟨b, o, rfl, ht⟩ := HI.out.2.2.2 (by omega)
        have e1 := ht.2 k hlt
        clear ht
        by_cases q1 : isK (gi L k)
        · have HIs := Lib.hid (betweenK (gi L k) true w (by simpa using q1))
          have HQ := Lib.hid q1
          clear q1
          go_wp2_with fail
          refine HIs.out.mono ?_
          rintro e w' ⟨rfl, rfl⟩
          go_wp2
          go_round
          case rel => exact ⟨k + 1, by omega, by go_num, Lib.hid (fun j hj => by
            by_cases x : j = k
            · subst x; exact HQ.out
            · exact HA.out j (by omega))⟩
          case measure => simp [intOf]; omega
        · have HIs := Lib.hid (betweenK (gi L k) false w (by simpa using q1))
          have HE : Hid (traceE L = 3) := Lib.hid (by unfold traceE; rw [if_neg H1.out, if_neg (fun h => q1 (h _ (gi_mem hlt)))])
          clear q1
          go_wp2_with fail
          refine HIs.out.mono ?_
          rintro e w' ⟨rfl, rfl⟩
          go_wp2
          go_ret
          exact ⟨ret_int HE.out.symm, rfl⟩
      · obtain rfl : k = L.length := by omega
        have HE : Hid (traceE L = 0) := Lib.hid (by
          rw [trace_zero]
          refine ⟨by have := H1.out; omega, fun x hx => ?_⟩
          obtain ⟨i, hi, e⟩ := List.getElem_of_mem hx
          have := HA.out i hi
          rwa [gi_get hi, e] at this)
        go_wp2
        go_ret
        exact ⟨ret_int HE.out.symm, rfl⟩

end Go.Proofs.Ytgdklpgmoanfkaa.Kr
