/-
  The walk of the law on larger windows.
-/
import Derived.Test.YtgdklpgmoanfkaaWsBegun
import Derived.Test.YtgdklpgmoanfkaaKeysRef
namespace Go.Proofs.Ytgdklpgmoanfkaa.Wst
open Go.RowKit
open Lru (isRm isK traceE trace_zero)
open Dst (win fltK row flt_more)
open Two
set_option linter.unusedVariables false
set_option maxRecDepth 100000

theorem grows_faults {l : List Int} {a b : Int} (ha : wkE l a = 0) (hb : wkE l b = 0) (h : a ≤ b) : flV l b ≤ flV l a := by
  unfold flV
  rw [if_pos ha, if_pos hb]
  exact flt_more (by omega) (Nat.le_refl _)
theorem grows_err {l : List Int} {i a b : Int} (ha : wkE l a = 0) (hb : wkE l b = 0) : (stE l i a = 0 ∧ stE l i b = 0 ∧ 0 ≤ i ∧ i < (l.length : Int)) ∨ (stE l i a = 3 ∧ stE l i b = 3) := by
  by_cases h : 0 ≤ i ∧ i < (l.length : Int)
  · exact .inl ⟨stE_zero.2 ⟨ha, h⟩, stE_zero.2 ⟨hb, h⟩, h⟩
  · refine .inr ⟨?_, ?_⟩
    · unfold stE; rw [if_pos ha, if_neg h]
    · unfold stE; rw [if_pos hb, if_neg h]
theorem st_val {l : List Int} {i a : Int} (h : stE l i a = 0) : stV l i a = wset l a.toNat i.toNat ∧ 0 ≤ i ∧ i < (l.length : Int) ∧ 1 ≤ a ∧ a ≤ 200 := by
  obtain ⟨h1, h2, h3⟩ := stE_zero.1 h
  obtain ⟨h4, h5⟩ := wkE_zero.1 h1
  exact ⟨by unfold stV; rw [if_pos h], h2, h3, h5.1, h5.2⟩
theorem st_len {l : List Int} {i a : Int} (h : stE l i a = 0) : ((stV l i a).length : Int) ≤ a := by
  obtain ⟨e, h1, h2, h3, h4⟩ := st_val h
  rw [e]
  have := wset_len l a.toNat i.toNat
  omega
theorem st_self {l : List Int} {i a : Int} (h : stE l i a = 0) : gi l i.toNat ∈ stV l i a := by
  obtain ⟨e, h1, h2, h3, h4⟩ := st_val h
  rw [e]
  exact self_wset (by omega) (by omega)
theorem st_more {l : List Int} {i a b : Int} (h : stE l i a = 0) (k : stE l i b = 0) (hab : a ≤ b) {x : Int} (hx : x ∈ stV l i a) : x ∈ stV l i b := by
  obtain ⟨e, h1, h2, h3, h4⟩ := st_val h
  obtain ⟨e2, _⟩ := st_val k
  rw [e] at hx
  rw [e2]
  exact wset_more (by omega) (by omega) hx

set_option maxHeartbeats 8000000 in
theorem worksetGrows_walk (A : Option Addr) (c : Nat) (xs : List Int) (i a b : Int) (w : World) (hI : Ints w A c xs) :
    Calls Try.prog 4 #[.slice A xs.length c, .int .i64 i, .int .i64 a, .int .i64 b] w fun e w' => e = .returned (.bool true) ∧ Below w.heap.size w w' := by
  have HI := Lib.hid hI
  have HS := Lib.hid (fun (x : Int) (W : World) (h : Ints W A c xs) => Set_any A c xs i x W h)
  have HFl := Lib.hid (fun (x : Int) (W : World) (h : Ints W A c xs) => Faults_any A c xs x W h)
  unfold RE at HS
  have HG1 := Lib.hid (fun (ha : wkE xs a = 0) (hb : wkE xs b = 0) (h : a ≤ b) => grows_faults ha hb h)
  have HG2 := Lib.hid (fun (ha : wkE xs a = 0) (hb : wkE xs b = 0) => grows_err (i := i) ha hb)
  have HG3 := Lib.hid (fun (h : stE xs i a = 0) => st_len h)
  have HG4 := Lib.hid (fun (h : stE xs i b = 0) => st_len h)
  have HG7 := Lib.hid (fun (h : stE xs i a = 0) => (st_val h).2.2.2.2)
  have HG5 := Lib.hid (fun (h : stE xs i a = 0) => st_self h)
  have HG6 := Lib.hid (fun (h : stE xs i a = 0) (k : stE xs i b = 0) (hab : a ≤ b) (x : Int) (hx : x ∈ stV xs i a) => st_more h k hab hx)
  have HSa := Lib.hid (HS.out a)
  have HSb := Lib.hid (HS.out b)
  have HFa := Lib.hid (HFl.out a)
  have HFb := Lib.hid (HFl.out b)
  clear hI HS HFl
  generalize stV xs i a = X at *
  generalize stV xs i b = Y at *
  generalize stE xs i a = sa at *
  generalize stE xs i b = sb at *
  generalize wkE xs a = ea at *
  generalize wkE xs b = eb at *
  generalize flV xs a = fa at *
  generalize flV xs b = fb at *
  obtain ⟨n, hn⟩ : ∃ n, xs.length = n := ⟨_, rfl⟩
  have HN := Lib.hid hn
  rw [hn] at HSa HSb HFa HFb HG2 ⊢
  clear hn
  obtain ⟨xl, hxl⟩ : ∃ xl, X.length = xl := ⟨_, rfl⟩
  obtain ⟨yl, hyl⟩ : ∃ yl, Y.length = yl := ⟨_, rfl⟩
  have HXL := Lib.hid hxl
  have HYL := Lib.hid hyl
  rw [hxl] at HSa HG3
  rw [hyl] at HSb HG4
  clear hxl hyl
  go_enter Try.func4, Try.ntmps4
  go_wp2_with fail
  refine (HSa.out w HI.out).mono ?_
  rintro e w1 ⟨A1, c1, rfl, hI1, hb1⟩
  have HB1 := Lib.hid hb1
  have HJ1 := Lib.hid hI1
  clear hb1 hI1
  go_wp2_with fail
  refine (HSb.out w1 (HI.out.below HB1.out)).mono ?_
  rintro e w2 ⟨A2, c2, rfl, hI2, hb2⟩
  have HB2 : Hid (Below w.heap.size w w2) := Lib.hid (HB1.out.trans (hb2.mono HB1.out.size))
  have HJ2 := Lib.hid (HJ1.out.below hb2)
  have HK2 := Lib.hid hI2
  clear hb2 hI2
  go_wp2_with fail
  refine (HFa.out w2 (HI.out.below HB2.out)).mono ?_
  rintro e w3 ⟨rfl, rfl⟩
  go_wp2_with fail
  refine (HFb.out w2 (HI.out.below HB2.out)).mono ?_
  rintro e w3 ⟨rfl, rfl⟩
  go_wp2_with fail
  refine (begun_any _).mono ?_
  rintro e w4 ⟨rfl, hb4⟩
  have HB4 : Hid (Below w.heap.size w w4) := Lib.hid (HB2.out.trans (hb4.mono HB2.out.size))
  have HJ4 := Lib.hid (HJ2.out.below hb4)
  have HK4 := Lib.hid (HK2.out.below hb4)
  clear hb4
  by_cases q0 : ea = 0
  · have d0 : (ea != 0) = false := by simp [q0]
    by_cases q1 : eb = 0
    · have d1 : (eb != 0) = false := by simp [q1]
      by_cases q2 : b < a
      · have d2 : decide (b < a) = true := by simpa using q2
        clear q0 q1 q2
        go_wp2
        go_ret
        exact ⟨rfl, HB4.out⟩
      · have d2 : decide (b < a) = false := by simpa using q2
        have hff := HG1.out q0 q1 (by omega)
        have d3 : decide ((fa : Int) < (fb : Int)) = false := by simp; omega
        have d3' : decide (fa < fb) = false := by simp; omega
        rcases HG2.out q0 q1 with ⟨rfl, rfl, h1, h2⟩ | ⟨rfl, rfl⟩
        · have HSub := Lib.hid (HG6.out rfl rfl (by omega))
          have hx3 := HG3.out rfl
          have hx200 : xl ≤ 200 := by have := HG7.out rfl; omega
          have hx4 := HG4.out rfl
          have hx5 := HG5.out rfl
          obtain ⟨j, rfl⟩ := nat_of h1
          rw [show ((j : Int)).toNat = j from rfl] at hx5
          have d4 : decide ((xl : Int) ≤ a) = true := by simpa using hx3
          have d5 : decide ((yl : Int) ≤ b) = true := by simpa using hx4
          have d6 : decide ((0 : Int) ≤ (j : Int)) = true := by simp
          have d7 : decide ((j : Int) < (n : Int)) = true := by simpa using h2
          have d7' : decide (j < n) = true := by simp; omega
          have hjn : j < n := by omega
          have HHs := Lib.hid (Kr.hasInt_b A1 c1 X (gi xs j) true w4 HJ4.out (decide_eq_true hx5))
          rw [HXL.out] at HHs
          have HHy := Lib.hid (fun (k : Nat) (hk : k < xl) => Kr.hasInt_b A2 c2 Y (gi X k) true w4 HK4.out (decide_eq_true (HSub.out _ (gi_mem (by rw [HXL.out]; exact hk)))))
          rw [HYL.out] at HHy
          clear q0 q1 q2 hff h1 hx3 hx4 hx5
          go_wp2
          go_loop [17] (fun s17 => ∃ k : Nat, k ≤ xl ∧ s17 = .int .i64 (k : Int)) (fun i => xl - (intOf i).toNat)
          case atStart => exact ⟨0, by omega, rfl⟩
          case round =>
            obtain ⟨k, hk, rfl⟩ := hrel
            by_cases hlt : k < xl
            · have hin : (k : Int) < (xl : Int) := by omega
              have hiB : (0 : Int) ≤ (k : Int) := by omega
              obtain ⟨b1, o1, rfl, ht⟩ := HJ4.out.2.2.2 (by rw [HXL.out]; omega)
              have e1 := ht.2 k (by rw [HXL.out]; exact hlt)
              have HH := Lib.hid (HHy.out k hlt)
              clear ht
              generalize gi X k = x at *
              go_wp2_with fail
              refine HH.out.mono ?_
              rintro e w5 ⟨rfl, rfl⟩
              go_wp2
              go_round
              case rel => exact ⟨k + 1, by omega, by go_num⟩
              case measure => simp [intOf]; omega
            · obtain rfl : k = xl := by omega
              obtain ⟨b1, o1, rfl, ht⟩ := (HI.out.below HB4.out).2.2.2 (by rw [HN.out]; omega)
              have e1 := ht.2 j (by rw [HN.out]; exact hjn)
              have i1 : (j : Int) < (n : Int) := by omega
              have i2 : (0 : Int) ≤ (j : Int) := by omega
              clear ht hlt
              generalize gi xs j = x at *
              go_wp2_with fail
              refine HHs.out.mono ?_
              rintro e w5 ⟨rfl, rfl⟩
              go_wp2
              go_ret
              exact ⟨rfl, HB4.out⟩
        · clear q0 q1 q2 hff
          go_wp2
          go_ret
          exact ⟨rfl, HB4.out⟩
    · have d1 : (eb != 0) = true := by simp [q1]
      clear q0 q1
      go_wp2
      go_ret
      exact ⟨rfl, HB4.out⟩
  · have d0 : (ea != 0) = true := by simp [q0]
    clear q0
    go_wp2
    go_ret
    exact ⟨rfl, HB4.out⟩

end Go.Proofs.Ytgdklpgmoanfkaa.Wst
