/-
  The walk of the law on the optimal policy, LRU and working sets.
-/
import Derived.Test.YtgdklpgmoanfkaaTopBase
import Derived.Test.YtgdklpgmoanfkaaWsApi2
import Derived.Test.YtgdklpgmoanfkaaOptEv
import Derived.Test.YtgdklpgmoanfkaaBestPol
import Derived.Test.YtgdklpgmoanfkaaLruApi2
namespace Go.Proofs.Ytgdklpgmoanfkaa.Top
open Go.RowKit
open Bst
open Opt (ER evs evm evE mI_end mI_le Evictions_any)
open Wst (wkE wkE_zero flV isN flt_le Faults_any)
open Dst (fltK misses_flt)
open Lru (isRm isK traceE trace_zero checkC check_zero rnE rnH rnL rnR hitsM)
set_option linter.unusedVariables false
set_option maxRecDepth 100000

theorem ev_zero {r : Int} {l : List Int} : evE r l = 0 ↔ traceE l = 0 ∧ isRm r := by
  unfold evE
  by_cases h : traceE l = 0
  · rw [if_pos h]
    by_cases h2 : isRm r
    · rw [if_pos h2]; exact ⟨fun _ => ⟨h, h2⟩, fun _ => rfl⟩
    · rw [if_neg h2]; exact ⟨fun e => (by cases e), fun k => absurd k.2 h2⟩
  · rw [if_neg h]; exact ⟨fun e => absurd e h, fun k => absurd k.1 h⟩
theorem sets_ok {r : Int} {l : List Int} (h : evE r l = 0) :
    wkE l r = 0 ∧ rnE r [] l = 0 ∧ 0 ≤ rnH r [] l ∧ rnH r [] l ≤ 200 ∧ l.length ≤ 200 ∧ (evm r l : Int) ≤ (l.length : Int) - rnH r [] l ∧ (l.length : Int) - rnH r [] l ≤ (flV l r : Int) := by
  obtain ⟨h1, h2⟩ := ev_zero.1 h
  have h3 := (trace_zero.1 h1).1
  have hw : wkE l r = 0 := wkE_zero.2 ⟨h1, ⟨h2.1, by have := h2.2; omega⟩⟩
  have hc : checkC r [] = 0 := check_zero.2 ⟨h2, by simp; have := h2.1; omega, by simp, List.nodup_nil⟩
  have e1 : rnE r [] l = 0 := by unfold rnE; rw [if_pos hc, h1]
  have e2 : rnH r [] l = (hitsM r [] l : Int) := by unfold rnH; rw [if_pos e1]
  have e3 : evm r l = missB r.toNat [] l := by unfold evm; rw [if_pos h]; exact mI_end (by have := h2.1; omega) l
  have e4 : flV l r = fltK l r.toNat l.length := by unfold flV; rw [if_pos hw]
  have hb := lru_best h2.1 l
  have hl := Lru.hitsM_le r [] l
  have hf := misses_flt h2.1 (l := l) (Nat.le_refl _)
  rw [List.take_length] at hf
  rw [e2, e3, e4]
  exact ⟨hw, e1, by omega, by omega, h3, by omega, by omega⟩

set_option maxHeartbeats 8000000 in
theorem topSets_walk (x : Int) (A : Option Addr) (c : Nat) (xs : List Int) (w : World) (hI : Ints w A c xs) :
    Calls Try.prog 7 #[.int .i64 x, .slice A xs.length c] w fun e w' => e = .returned (.bool true) ∧ Below w.heap.size w w' := by
  have HI := Lib.hid hI
  have HF := Lib.hid (fun (W : World) (h : Ints W A c xs) => Faults_any A c xs x W h)
  have HR := Lib.hid (fun (W : World) (h : Ints W A c xs) => Lru.run_any x none A 0 c [] xs W (Ints.none_ _) h)
  have HE := Lib.hid (fun (W : World) (h : Ints W A c xs) => Evictions_any A c xs x W h)
  unfold ER at HE
  unfold Lru.NR at HR
  have HG := Lib.hid (fun (h : evE x xs = 0) => sets_ok h)
  clear hI
  generalize rnR x [] xs = R1 at *
  generalize rnL x [] xs = M1 at *
  generalize rnH x [] xs = h1 at *
  generalize rnE x [] xs = e1 at *
  generalize wkE xs x = ef at *
  generalize flV xs x = fv at *
  generalize evs x xs = V at *
  generalize evm x xs = m0 at *
  generalize evE x xs = e0 at *
  generalize xs.length = n at *
  go_enter Try.func7, Try.ntmps7
  go_wp2_with fail
  refine (begun_any _).mono ?_
  rintro e w1 ⟨rfl, hb1⟩
  have HB1 := Lib.hid hb1
  clear hb1
  go_wp2_with fail
  refine (HF.out w1 (HI.out.below HB1.out)).mono ?_
  rintro e w2 ⟨rfl, rfl⟩
  go_wp2_with fail
  refine (HR.out w1 (HI.out.below HB1.out)).mono ?_
  rintro e w2 ⟨A2, c2, rfl, -, -, hb2⟩
  have HB2 : Hid (Below w.heap.size w (w2.alloc (Lru.co R1 A2 c2 M1))) := Lib.hid ((HB1.out.trans (hb2.mono HB1.out.size)).alloc (Nat.le_trans HB1.out.size hb2.size) _)
  clear hb2
  go_wp2_with fail
  refine (HE.out _ (HI.out.below HB2.out)).mono ?_
  rintro e w3 ⟨A3, c3, rfl, -, hb3⟩
  have HB3 : Hid (Below w.heap.size w w3) := Lib.hid (HB2.out.trans (hb3.mono HB2.out.size))
  clear hb3
  generalize V.length = vl at *
  by_cases q0 : ef = 0
  · have d0 : (ef != 0) = false := by simp [q0]
    by_cases q1 : e1 = 0
    · have d1 : (e1 != 0) = false := by simp [q1]
      by_cases q2 : e0 = 0
      · have d2 : (e0 != 0) = false := by simp [q2]
        obtain ⟨-, -, g1, g2, g3, g4, g5⟩ := HG.out q2
        have hw : IntKind.i64.wrap ((n : Int) - h1) = (n : Int) - h1 := by rw [IntKind.wrap_i64]; omega
        have d3 : decide ((m0 : Int) ≤ (n : Int) - h1) = true := by simpa using g4
        have d4 : decide ((n : Int) - h1 ≤ (fv : Int)) = true := by simpa using g5
        clear q0 q1 q2 g1 g2 g3 g4 g5
        go_wp2
        go_ret
        exact ⟨rfl, HB3.out⟩
      · have d2 : (e0 != 0) = true := by simp [q2]
        clear q0 q1 q2
        go_wp2
        go_ret
        exact ⟨rfl, HB3.out⟩
    · have d1 : (e1 != 0) = true := by simp [q1]
      clear q0 q1
      go_wp2
      go_ret
      exact ⟨rfl, HB3.out⟩
  · have d0 : (ef != 0) = true := by simp [q0]
    clear q0
    go_wp2
    go_ret
    exact ⟨rfl, HB3.out⟩

end Go.Proofs.Ytgdklpgmoanfkaa.Top
