/-
  The walk of the law that no policy has fewer misses.
-/
import Derived.Test.YtmhhiddnkdcflaaOptBegun
import Derived.Test.YtmhhiddnkdcflaaBestPol
import Derived.Test.YtmhhiddnkdcflaaClockApi2
import Derived.Test.YtmhhiddnkdcflaaLfuApi3
namespace Go.Proofs.Ytmhhiddnkdcflaa.Opt
open Go.RowKit
open Bst
open Lru (isRm isK keysE keysE_zero traceE trace_zero)
set_option linter.unusedVariables false
set_option maxRecDepth 100000

theorem evE_zero {r : Int} {l : List Int} : evE r l = 0 ↔ traceE l = 0 ∧ isRm r := by
  unfold evE
  by_cases h : traceE l = 0
  · rw [if_pos h]
    by_cases h2 : isRm r
    · rw [if_pos h2]; exact ⟨fun _ => ⟨h, h2⟩, fun _ => rfl⟩
    · rw [if_neg h2]; exact ⟨fun e => (by cases e), fun k => absurd k.2 h2⟩
  · rw [if_neg h]; exact ⟨fun e => absurd e h, fun k => absurd k.1 h⟩
theorem evm_eq {r : Int} {l : List Int} (h : evE r l = 0) : evm r l = missB r.toNat [] l := by
  unfold evm; rw [if_pos h]; exact mI_end (by have := (evE_zero.1 h).2.1; omega) l
theorem evm_bad {r : Int} {l : List Int} (h : ¬ evE r l = 0) : evm r l = 0 := by unfold evm; rw [if_neg h]
theorem lruE_zero {r : Int} {l : List Int} : Lru.rnE r [] l = 0 ↔ traceE l = 0 ∧ isRm r := by
  unfold Lru.rnE
  by_cases h : isRm r
  · have hc : Lru.checkC r [] = 0 := Lru.check_zero.2 ⟨h, by simp; have := h.1; omega, by simp, List.nodup_nil⟩
    rw [if_pos hc]; exact ⟨fun k => ⟨k, h⟩, fun k => k.1⟩
  · have hc : ¬ Lru.checkC r [] = 0 := fun e => h (Lru.check_zero.1 e).room
    rw [if_neg hc]; exact ⟨fun k => absurd k hc, fun k => absurd k.2 h⟩
/-- What the hits of a policy must be. -/
def HitOk (r : Int) (l : List Int) (h : Int) : Prop := 0 ≤ h ∧ h ≤ 200 ∧ (evm r l : Int) ≤ (l.length : Int) - h
theorem lru_ok {r : Int} {l : List Int} (h : evE r l = 0) : Lru.rnE r [] l = 0 ∧ HitOk r l (Lru.rnH r [] l) := by
  obtain ⟨h1, h2⟩ := evE_zero.1 h
  have h3 := trace_zero.1 h1
  have e := lruE_zero.2 ⟨h1, h2⟩
  have hb := lru_best h2.1 l
  have hl := Lru.hitsM_le r [] l
  refine ⟨e, ?_⟩
  unfold HitOk Lru.rnH
  rw [if_pos e, evm_eq h]
  omega
theorem clock_ok {r : Int} {l : List Int} (h : evE r l = 0) : Clk.rnE r 0 [] l = 0 ∧ HitOk r l (Clk.rnH r 0 [] l) := by
  obtain ⟨h1, h2⟩ := evE_zero.1 h
  have h3 := trace_zero.1 h1
  have hc : Clk.checkK r 0 [] = 0 := Clk.check_zero.2 ⟨h2, by simp; have := h2.1; omega, by simp [Clk.keys], by simp [Clk.keys], by decide⟩
  have e : Clk.rnE r 0 [] l = 0 := by unfold Clk.rnE; rw [if_pos hc, h1]
  have hb := clock_best h2 h3.2
  have hl := Clk.hitsC_le r (0, []) l
  refine ⟨e, ?_⟩
  unfold HitOk Clk.rnH
  rw [if_pos e, evm_eq h]
  show _ ∧ ((Clk.hitsC r (0, []) l : Nat) : Int) ≤ 200 ∧ _
  have h4 := h3.1
  refine ⟨Int.natCast_nonneg _, by omega, ?_⟩
  show _ ≤ (l.length : Int) - ((Clk.hitsC r (0, []) l : Nat) : Int)
  omega
theorem lfu_ok {r : Int} {l : List Int} (h : evE r l = 0) : Lfu.rnE r [] l = 0 ∧ HitOk r l (Lfu.rnH r [] l) := by
  obtain ⟨h1, h2⟩ := evE_zero.1 h
  have h3 := trace_zero.1 h1
  have hc : Lfu.checkK r [] = 0 := Lfu.check_zero.2 ⟨h2, by simp; have := h2.1; omega, by simp [Lfu.keys], by simp [Lfu.keys], by simp⟩
  have e : Lfu.rnE r [] l = 0 := by unfold Lfu.rnE; rw [if_pos hc, h1]
  have hb := lfu_best h2 h3.2
  have hl := Lfu.hitsU_le r [] l
  refine ⟨e, ?_⟩
  unfold HitOk Lfu.rnH
  rw [if_pos e, evm_eq h]
  have h4 := h3.1
  omega
theorem evm_le {r : Int} {l : List Int} : evm r l ≤ l.length := by
  unfold evm
  split
  · exact mI_le _ _ _
  · exact Nat.zero_le _

set_option maxHeartbeats 8000000 in
theorem optimalBeats_walk (A : Option Addr) (c : Nat) (xs : List Int) (r : Int) (w : World) (hI : Ints w A c xs) :
    Calls Try.prog 4 #[.slice A xs.length c, .int .i64 r] w fun e w' => e = .returned (.bool true) ∧ Below w.heap.size w w' := by
  have HI := Lib.hid hI
  have HRo := Lib.hid (fun (W : World) (h : Ints W A c xs) => Evictions_any A c xs r W h)
  have HRl := Lib.hid (fun (W : World) (h : Ints W A c xs) => Lru.run_any r none A 0 c [] xs W (Ints.none_ _) h)
  have HRc := Lib.hid (fun (W : World) (h : Ints W A c xs) => Clk.run_any r 0 none 0 [] A c xs W (Clk.Frs.none_ _) h)
  have HRu := Lib.hid (fun (W : World) (h : Ints W A c xs) => Lfu.run_any r none 0 [] A c xs W (Lfu.Uss.none_ _) h)
  unfold ER at HRo
  unfold Lru.NR at HRl
  unfold Clk.NR at HRc
  unfold Lfu.NR at HRu
  have HG := Lib.hid (fun h : evE r xs = 0 => And.intro (lru_ok h) (And.intro (clock_ok h) (And.intro (lfu_ok h) (trace_zero.1 (evE_zero.1 h).1).1)))
  have HZ := Lib.hid (fun h : ¬ evE r xs = 0 => evm_bad h)
  unfold HitOk at HG
  clear hI
  generalize Lru.rnR r [] xs = R1 at *
  generalize Lru.rnL r [] xs = M1 at *
  generalize Lru.rnH r [] xs = h1 at *
  generalize Lru.rnE r [] xs = e1 at *
  generalize Clk.rnR r 0 [] xs = R2 at *
  generalize Clk.rnP r 0 [] xs = P2 at *
  generalize Clk.rnF r 0 [] xs = M2 at *
  generalize Clk.rnH r 0 [] xs = h2 at *
  generalize Clk.rnE r 0 [] xs = e2 at *
  generalize Lfu.rnR r [] xs = R3 at *
  generalize Lfu.rnF r [] xs = M3 at *
  generalize Lfu.rnH r [] xs = h3 at *
  generalize Lfu.rnE r [] xs = e3 at *
  generalize evs r xs = V at *
  generalize evm r xs = n0 at *
  generalize evE r xs = e0 at *
  generalize xs.length = ln at *
  go_enter Try.func4, Try.ntmps4
  go_wp2_with fail
  refine (HRo.out w HI.out).mono ?_
  rintro e w1 ⟨A1, c1, rfl, -, hb1⟩
  have HB1 := Lib.hid hb1
  clear hb1
  go_wp2_with fail
  refine (HRl.out w1 (HI.out.below HB1.out)).mono ?_
  rintro e w2 ⟨A2, c2, rfl, -, -, hb2⟩
  have HB2 : Hid (Below w.heap.size w (w2.alloc (Lru.co R1 A2 c2 M1))) := Lib.hid (bel_al (HB1.out.trans (hb2.mono HB1.out.size)) (Nat.le_trans HB1.out.size hb2.size) _)
  clear hb2
  go_wp2_with fail
  refine (HRc.out _ (HI.out.below HB2.out)).mono ?_
  rintro e w3 ⟨A3, c3, rfl, -, -, hb3⟩
  have HB3 : Hid (Below w.heap.size w (w3.alloc (Clk.ko R2 P2 (.slice A3 M2.length c3)))) := Lib.hid (bel_al (HB2.out.trans (hb3.mono HB2.out.size)) (Nat.le_trans HB2.out.size hb3.size) _)
  clear hb3
  go_wp2_with fail
  refine (HRu.out _ (HI.out.below HB3.out)).mono ?_
  rintro e w4 ⟨A4, c4, rfl, -, -, hb4⟩
  have HB4 : Hid (Below w.heap.size w (w4.alloc (Lfu.ko R3 (.slice A4 M3.length c4)))) := Lib.hid (bel_al (HB3.out.trans (hb4.mono HB3.out.size)) (Nat.le_trans HB3.out.size hb4.size) _)
  clear hb4
  go_wp2_with fail
  refine (begun_any _).mono ?_
  rintro e w5 ⟨rfl, hb5⟩
  have HB5 : Hid (Below w.heap.size w w5) := Lib.hid (HB4.out.trans (hb5.mono HB4.out.size))
  clear hb5
  by_cases q0 : e0 = 0
  · obtain ⟨⟨rfl, a1, a2, a3⟩, ⟨rfl, b1, b2, b3⟩, ⟨rfl, c1', c2', c3'⟩, hl⟩ := HG.out q0
    subst q0
    have w1 : IntKind.i64.wrap ((ln : Int) - h1) = (ln : Int) - h1 := by rw [IntKind.wrap_i64]; omega
    have w2 : IntKind.i64.wrap ((ln : Int) - h2) = (ln : Int) - h2 := by rw [IntKind.wrap_i64]; omega
    have w3 : IntKind.i64.wrap ((ln : Int) - h3) = (ln : Int) - h3 := by rw [IntKind.wrap_i64]; omega
    have d1 : decide ((n0 : Int) ≤ (ln : Int) - h1) = true := by simpa using a3
    have d2 : decide ((n0 : Int) ≤ (ln : Int) - h2) = true := by simpa using b3
    have d3 : decide ((n0 : Int) ≤ (ln : Int) - h3) = true := by simpa using c3'
    clear a1 a2 a3 b1 b2 b3 c1' c2' c3' hl
    go_wp2
    go_ret
    exact ⟨rfl, HB5.out⟩
  · have d0 : (e0 != 0) = true := by simpa using q0
    have z := HZ.out q0
    subst z
    clear q0
    go_wp2
    go_ret
    exact ⟨rfl, HB5.out⟩

end Go.Proofs.Ytmhhiddnkdcflaa.Opt
