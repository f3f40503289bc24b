/-
  Package optimal: Next, Bound.
-/
import Derived.Test.YtmhhiddnkdcflaaOptUse
namespace Go.Proofs.Ytmhhiddnkdcflaa.Opt
open Go.RowKit
open Bst
open Lfu (Us gu gu_get gu_mem gu_set keys keys_len keys_get keys_mem)
open Lru (isRm isK keysE keysE_zero traceE trace_zero)
set_option linter.unusedVariables false
set_option maxRecDepth 100000

def nxE (L : List Int) (i : Int) : Int := if traceE L = 0 then (if 0 ≤ i ∧ i < (L.length : Int) then 0 else 3) else traceE L
def nxV (L : List Int) (i : Int) : Int := if nxE L i = 0 then (again L (i.toNat + 1) (gi L i.toNat) : Int) else 0
set_option maxHeartbeats 2000000 in
theorem Next_any (A : Option Addr) (c : Nat) (L : List Int) (i : Int) (w : World) (hI : Ints w A c L) :
    Calls Try.prog 8 #[.slice A L.length c, .int .i64 i] w fun e w' => e = .returned (.tuple #[.int .i64 (nxV L i), .int .i64 (nxE L i)]) ∧ Below w.heap.size w w' := by
  have HC := Lib.hid (Lru.checkTrace_any A c L w hI)
  have HI := Lib.hid hI
  clear hI
  by_cases h0 : traceE L = 0
  · have hl200 := (trace_zero.1 h0).1
    by_cases h1 : i < 0
    · have HE : Hid (nxE L i = 3) := Lib.hid (by unfold nxE; rw [if_pos h0, if_neg (by omega)])
      have HV : Hid (nxV L i = 0) := Lib.hid (by unfold nxV; rw [if_neg (by rw [HE.out]; decide)])
      have d1 : decide (i < 0) = true := by simpa using h1
      rw [HE.out, HV.out]
      rw [h0] at HC
      clear h0 h1 HE HV hl200
      generalize L.length = n at *
      go_enter Try.func8, Try.ntmps8
      go_wp2_with fail
      refine HC.out.mono ?_
      rintro e w2 ⟨rfl, rfl⟩
      go_wp2
      refine bodyPost_ret (v := .tuple #[.int .i64 0, .int .i64 3]) (by simp [results, Try.results8, go_sem]) rfl ?_
      exact ⟨rfl, Below.refl _ _⟩
    · have d1 : decide (i < 0) = false := by simpa using h1
      by_cases h2 : i < (L.length : Int)
      · have HE : Hid (nxE L i = 0) := Lib.hid (by unfold nxE; rw [if_pos h0, if_pos ⟨by omega, h2⟩])
        obtain ⟨k, rfl⟩ : ∃ k : Nat, i = (k : Int) := ⟨i.toNat, by omega⟩
        have HV : Hid (nxV L k = (again L (k + 1) (gi L k) : Int)) := Lib.hid (by unfold nxV; rw [if_pos HE.out, Int.toNat_natCast])
        have HN := Lib.hid (next_any A c L k w HI.out (by omega) (by omega))
        rw [HE.out, HV.out]
        rw [h0] at HC
        have d2 : decide ((L.length : Int) ≤ (k : Int)) = false := by simp; omega
        have d3 : decide (L.length ≤ k) = false := by simp; omega
        clear h0 h1 h2 HE HV hl200
        generalize again L (k + 1) (gi L k) = q at *
        generalize L.length = n at *
        go_enter Try.func8, Try.ntmps8
        go_wp2_with fail
        refine HC.out.mono ?_
        rintro e w2 ⟨rfl, rfl⟩
        go_wp2_with fail
        refine HN.out.mono ?_
        rintro e w3 ⟨rfl, hb3⟩
        have HB3 := Lib.hid hb3
        clear hb3
        go_wp2
        refine bodyPost_ret (v := .tuple #[.int .i64 q, .int .i64 0]) (by simp [results, Try.results8, go_sem]) rfl ?_
        exact ⟨rfl, HB3.out⟩
      · have HE : Hid (nxE L i = 3) := Lib.hid (by unfold nxE; rw [if_pos h0, if_neg (by omega)])
        have HV : Hid (nxV L i = 0) := Lib.hid (by unfold nxV; rw [if_neg (by rw [HE.out]; decide)])
        have d2 : decide ((L.length : Int) ≤ i) = true := by simp; omega
        rw [HE.out, HV.out]
        rw [h0] at HC
        clear h0 h1 h2 HE HV hl200
        generalize L.length = n at *
        go_enter Try.func8, Try.ntmps8
        go_wp2_with fail
        refine HC.out.mono ?_
        rintro e w2 ⟨rfl, rfl⟩
        go_wp2
        refine bodyPost_ret (v := .tuple #[.int .i64 0, .int .i64 3]) (by simp [results, Try.results8, go_sem]) rfl ?_
        exact ⟨rfl, Below.refl _ _⟩
  · have HE : Hid (nxE L i = traceE L) := Lib.hid (by unfold nxE; rw [if_neg h0])
    have HV : Hid (nxV L i = 0) := Lib.hid (by unfold nxV; rw [if_neg (by rw [HE.out]; exact h0)])
    have q : (traceE L != 0) = true := by simpa using h0
    rw [HE.out, HV.out]
    clear h0 HE HV
    generalize traceE L = t at *
    generalize L.length = n at *
    go_enter Try.func8, Try.ntmps8
    go_wp2_with fail
    refine HC.out.mono ?_
    rintro e w2 ⟨rfl, rfl⟩
    go_wp2
    refine bodyPost_ret (v := .tuple #[.int .i64 0, .int .i64 t]) (by simp [results, Try.results8, go_sem]) rfl ?_
    exact ⟨rfl, Below.refl _ _⟩

def bndE (m r l : Int) : Int := if 0 ≤ m ∧ m ≤ 200 ∧ isRm r ∧ isRm l then (if r < l then 4 else 0) else 3
def bndV (m r l : Int) : Int := if bndE m r l = 0 then r * m / (r - l + 1) + r else 0
set_option maxHeartbeats 2000000 in
theorem Bound_any (m r l : Int) (w : World) :
    Calls Try.prog 9 #[.int .i64 m, .int .i64 r, .int .i64 l] w fun e w' => e = .returned (.tuple #[.int .i64 (bndV m r l), .int .i64 (bndE m r l)]) ∧ w = w' := by
  have HCr := Lib.hid (isRoom_any r w)
  have HCl := Lib.hid (isRoom_any l w)
  by_cases h : 0 ≤ m ∧ m ≤ 200 ∧ isRm r ∧ isRm l
  · obtain ⟨h1, h2, h3, h4⟩ := h
    have d1 : decide (m < 0) = false := by simp; omega
    have d2 : decide (200 < m) = false := by simp; omega
    have d3 : decide (isRm r) = true := by simpa using h3
    have d4 : decide (isRm l) = true := by simpa using h4
    rw [d3] at HCr
    rw [d4] at HCl
    by_cases h5 : r < l
    · have HE : Hid (bndE m r l = 4) := Lib.hid (by unfold bndE; rw [if_pos ⟨h1, h2, h3, h4⟩, if_pos h5])
      have HV : Hid (bndV m r l = 0) := Lib.hid (by unfold bndV; rw [if_neg (by rw [HE.out]; decide)])
      have d5 : decide (r < l) = true := by simpa using h5
      rw [HE.out, HV.out]
      clear h1 h2 h3 h4 h5 d3 d4 HE HV
      go_enter Try.func9, Try.ntmps9
      go_wp2_with fail
      refine HCr.out.mono ?_
      rintro e w2 ⟨rfl, rfl⟩
      go_wp2_with fail
      refine HCl.out.mono ?_
      rintro e w2 ⟨rfl, rfl⟩
      go_wp2
      refine bodyPost_ret (v := .tuple #[.int .i64 0, .int .i64 4]) (by simp [results, Try.results9, go_sem]) rfl ?_
      exact ⟨rfl, rfl⟩
    · have HE : Hid (bndE m r l = 0) := Lib.hid (by unfold bndE; rw [if_pos ⟨h1, h2, h3, h4⟩, if_neg h5])
      have HV : Hid (bndV m r l = r * m / (r - l + 1) + r) := Lib.hid (by unfold bndV; rw [if_pos HE.out])
      have d5 : decide (r < l) = false := by simpa using h5
      rw [HE.out, HV.out]
      unfold isRm at h3 h4
      have k1 : 0 ≤ r * m := Int.mul_nonneg (by omega) h1
      have k2 : r * m ≤ 8000 := by
        have a1 : r * m ≤ 40 * m := Int.mul_le_mul_of_nonneg_right (by omega) h1
        omega
      have k3 : 0 ≤ r * m / (r - l + 1) := Int.ediv_nonneg k1 (by omega)
      have k4 : r * m / (r - l + 1) ≤ r * m := Int.ediv_le_self _ k1
      have w1 : IntKind.i64.wrap (r * m) = r * m := by rw [IntKind.wrap_i64]; omega
      have w2 : IntKind.i64.wrap (r - l) = r - l := by rw [IntKind.wrap_i64]; omega
      have w3 : IntKind.i64.wrap (r - l + 1) = r - l + 1 := by rw [IntKind.wrap_i64]; omega
      have n1 : ¬ r - l + 1 = 0 := by omega
      have n2 : ((r - l + 1) == 0) = false := by simpa using n1
      have t1 : (r * m).tdiv (r - l + 1) = r * m / (r - l + 1) := Int.tdiv_eq_ediv_of_nonneg k1
      have w4 : IntKind.i64.wrap (r * m / (r - l + 1)) = r * m / (r - l + 1) := by rw [IntKind.wrap_i64]; omega
      have w5 : IntKind.i64.wrap (r * m / (r - l + 1) + r) = r * m / (r - l + 1) + r := by rw [IntKind.wrap_i64]; omega
      generalize r * m / (r - l + 1) = q at *
      clear h1 h2 h3 h4 h5 d3 d4 HE HV k1 k2 k3 k4
      go_enter Try.func9, Try.ntmps9
      go_wp2_with fail
      refine HCr.out.mono ?_
      rintro e w2 ⟨rfl, rfl⟩
      go_wp2_with fail
      refine HCl.out.mono ?_
      rintro e w2 ⟨rfl, rfl⟩
      go_wp2
      refine bodyPost_ret (v := .tuple #[.int .i64 (q + r), .int .i64 0]) (by simp [results, Try.results9, go_sem]) rfl ?_
      exact ⟨rfl, rfl⟩
  · have HE : Hid (bndE m r l = 3) := Lib.hid (by unfold bndE; rw [if_neg h])
    have HV : Hid (bndV m r l = 0) := Lib.hid (by unfold bndV; rw [if_neg (by rw [HE.out]; decide)])
    rw [HE.out, HV.out]
    clear HE HV
    by_cases h1 : m < 0
    · have d1 : decide (m < 0) = true := by simpa using h1
      clear h h1
      go_enter Try.func9, Try.ntmps9
      go_wp2
      refine bodyPost_ret (v := .tuple #[.int .i64 0, .int .i64 3]) (by simp [results, Try.results9, go_sem]) rfl ?_
      exact ⟨rfl, rfl⟩
    · have d1 : decide (m < 0) = false := by simpa using h1
      by_cases h2 : 200 < m
      · have d2 : decide (200 < m) = true := by simpa using h2
        clear h h1 h2
        go_enter Try.func9, Try.ntmps9
        go_wp2
        refine bodyPost_ret (v := .tuple #[.int .i64 0, .int .i64 3]) (by simp [results, Try.results9, go_sem]) rfl ?_
        exact ⟨rfl, rfl⟩
      · have d2 : decide (200 < m) = false := by simpa using h2
        by_cases h3 : isRm r
        · have h4 : ¬ isRm l := fun k => h ⟨by omega, by omega, h3, k⟩
          have d3 : decide (isRm r) = true := by simpa using h3
          have d4 : decide (isRm l) = false := by simpa using h4
          rw [d3] at HCr
          rw [d4] at HCl
          clear h h1 h2 h3 h4 d3 d4
          go_enter Try.func9, Try.ntmps9
          go_wp2_with fail
          refine HCr.out.mono ?_
          rintro e w2 ⟨rfl, rfl⟩
          go_wp2_with fail
          refine HCl.out.mono ?_
          rintro e w2 ⟨rfl, rfl⟩
          go_wp2
          refine bodyPost_ret (v := .tuple #[.int .i64 0, .int .i64 3]) (by simp [results, Try.results9, go_sem]) rfl ?_
          exact ⟨rfl, rfl⟩
        · have d3 : decide (isRm r) = false := by simpa using h3
          rw [d3] at HCr
          clear h h1 h2 h3 d3
          go_enter Try.func9, Try.ntmps9
          go_wp2_with fail
          refine HCr.out.mono ?_
          rintro e w2 ⟨rfl, rfl⟩
          go_wp2
          refine bodyPost_ret (v := .tuple #[.int .i64 0, .int .i64 3]) (by simp [results, Try.results9, go_sem]) rfl ?_
          exact ⟨rfl, rfl⟩

end Go.Proofs.Ytmhhiddnkdcflaa.Opt
