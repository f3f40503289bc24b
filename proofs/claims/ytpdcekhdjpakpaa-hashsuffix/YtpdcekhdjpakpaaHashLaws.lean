/-
  The four statements on package hash return true: each is walked with the contracts of the functions that it calls.
  Conditions: none beyond the types of the arguments.
-/
import Derived.Test.YtpdcekhdjpakpaaHashWalks
namespace Go.Proofs.Ytpdcekhdjpakpaa
open Go.RowKit

theorem beq_refl_int (a : Int) : (a == a) = true := by simp

set_option maxHeartbeats 1000000 in
theorem hashInverse_walk (a0 a1 : Int) (w0 : (Lit.int .u64 a0).wf = true) (w1 : (Lit.int .u64 a1).wf = true) (w : World) :
    Calls Try.prog 4 #[.int .u64 a0, .int .u64 a1] w fun e w' => e = .returned (.bool true) ∧ w = w' := by
  obtain ⟨x, rfl⟩ := nv_of w0
  obtain ⟨y, rfl⟩ := nv_of w1
  clear w0 w1
  have HE : Hid ((nv (mixB x) == nv (mixB y)) = (nv x == nv y)) := Lib.hid (by rw [nv_beq, nv_beq, mix_beq])
  go_enter Try.func4, Try.ntmps4
  go_wp2_with fail
  refine (mix_any x _).mono ?_
  rintro e w' ⟨rfl, rfl⟩
  go_wp2_with fail
  refine (mix_any y _).mono ?_
  rintro e w' ⟨rfl, rfl⟩
  go_wp2_with fail
  refine (begun_any _).mono ?_
  rintro e w' ⟨rfl, rfl⟩
  go_wp2_with fail
  refine (unmix_any _ _).mono ?_
  rintro e w' ⟨rfl, rfl⟩
  rw [unmix_mix]
  go_wp2_with fail
  refine (unmix_any _ _).mono ?_
  rintro e w' ⟨rfl, rfl⟩
  go_wp2_with fail
  refine (mix_any _ _).mono ?_
  rintro e w' ⟨rfl, rfl⟩
  rw [mix_unmix]
  go_wp2
  go_ret
  refine ⟨?_, rfl⟩
  simp [HE.out]

theorem reduce_zero (m : Int) (w : World) (h1 : 1 ≤ m) (h2 : m ≤ 1048576) :
    Calls Try.prog 8 #[.int .u64 0, .int .i64 m] w fun e w' => e = .returned (.tuple #[.int .i64 0, .int .i64 0]) ∧ w = w' := by
  have h := reduce_any 0#64 m w h1 h2
  rwa [redI_low, show nv 0#64 = 0 from rfl] at h
theorem reduce_top (m : Int) (w : World) (h1 : 1 ≤ m) (h2 : m ≤ 1048576) :
    Calls Try.prog 8 #[.int .u64 18446744073709551615, .int .i64 m] w fun e w' => e = .returned (.tuple #[.int .i64 (m - 1), .int .i64 0]) ∧ w = w' := by
  have h := reduce_any 18446744073709551615#64 m w h1 h2
  rwa [redI_high m h1 h2, show nv 18446744073709551615#64 = 18446744073709551615 from rfl] at h

set_option maxRecDepth 100000 in
set_option maxHeartbeats 1000000 in
theorem hashReduce_walk (a0 a1 a2 : Int) (w0 : (Lit.int .u64 a0).wf = true) (w1 : (Lit.int .u64 a1).wf = true) (w : World) :
    Calls Try.prog 5 #[.int .u64 a0, .int .u64 a1, .int .i64 a2] w fun e w' => e = .returned (.bool true) ∧ w = w' := by
  obtain ⟨x, rfl⟩ := nv_of w0
  obtain ⟨y, rfl⟩ := nv_of w1
  clear w0 w1
  by_cases hr : a2 < 1 ∨ 1048576 < a2
  · have HR := Lib.hid hr
    clear hr
    go_enter Try.func5, Try.ntmps5
    go_wp2_with fail
    refine (reduce_no x a2 _ HR.out).mono ?_
    rintro e w' ⟨rfl, rfl⟩
    go_wp2_with fail
    refine (reduce_no y a2 _ HR.out).mono ?_
    rintro e w' ⟨rfl, rfl⟩
    go_wp2_with fail
    refine (begun_any _).mono ?_
    rintro e w' ⟨rfl, rfl⟩
    go_wp2
    go_ret
    exact ⟨rfl, rfl⟩
  · have h1 : 1 ≤ a2 := by omega
    have h2 : a2 ≤ 1048576 := by omega
    clear hr
    obtain ⟨b0, b1⟩ := redI_bd x a2 h1
    obtain ⟨c0, c1⟩ := redI_bd y a2 h1
    have HM : Hid (nv x ≤ nv y → redI x a2 ≤ redI y a2) := Lib.hid (redI_mono x y a2 h1)
    have HT : Hid (redI x (2 * a2) / 2 = redI x a2) := Lib.hid (redI_twice x a2)
    by_cases hd : 2 * a2 ≤ 1048576
    · obtain ⟨d0, d1⟩ := redI_bd x (2 * a2) (by omega)
      go_enter Try.func5, Try.ntmps5
      go_wp2_with fail
      refine (reduce_any x a2 _ h1 h2).mono ?_
      rintro e w' ⟨rfl, rfl⟩
      go_wp2_with fail
      refine (reduce_any y a2 _ h1 h2).mono ?_
      rintro e w' ⟨rfl, rfl⟩
      go_wp2_with fail
      refine (begun_any _).mono ?_
      rintro e w' ⟨rfl, rfl⟩
      go_wp2_with fail
      refine (reduce_any x (2 * a2) _ (by omega) hd).mono ?_
      rintro e w' ⟨rfl, rfl⟩
      go_wp2_with fail
      refine (reduce_zero a2 _ h1 h2).mono ?_
      rintro e w' ⟨rfl, rfl⟩
      go_wp2_with fail
      refine (reduce_top a2 _ h1 h2).mono ?_
      rintro e w' ⟨rfl, rfl⟩
      by_cases hg : nv y < nv x
      · have e1 : (redI x (2 * a2) / 2 == redI x a2) = true := by rw [HT.out]; simp
        go_wp2
        go_ret
        exact ⟨rfl, rfl⟩
      · have e1 : (redI x (2 * a2) / 2 == redI x a2) = true := by rw [HT.out]; simp
        have e2 : decide (nv y < nv x) = false := by simp; omega
        have e3 : redI x a2 ≤ redI y a2 := HM.out (by omega)
        go_wp2
        go_ret
        exact ⟨rfl, rfl⟩
    · go_enter Try.func5, Try.ntmps5
      go_wp2_with fail
      refine (reduce_any x a2 _ h1 h2).mono ?_
      rintro e w' ⟨rfl, rfl⟩
      go_wp2_with fail
      refine (reduce_any y a2 _ h1 h2).mono ?_
      rintro e w' ⟨rfl, rfl⟩
      go_wp2_with fail
      refine (begun_any _).mono ?_
      rintro e w' ⟨rfl, rfl⟩
      go_wp2_with fail
      refine (reduce_no x (2 * a2) _ (.inr (by omega))).mono ?_
      rintro e w' ⟨rfl, rfl⟩
      go_wp2_with fail
      refine (reduce_zero a2 _ h1 h2).mono ?_
      rintro e w' ⟨rfl, rfl⟩
      go_wp2_with fail
      refine (reduce_top a2 _ h1 h2).mono ?_
      rintro e w' ⟨rfl, rfl⟩
      by_cases hg : nv y < nv x
      · go_wp2
        go_ret
        exact ⟨rfl, rfl⟩
      · have e2 : decide (nv y < nv x) = false := by simp; omega
        have e3 : redI x a2 ≤ redI y a2 := HM.out (by omega)
        go_wp2
        go_ret
        exact ⟨rfl, rfl⟩

set_option maxRecDepth 100000 in
set_option maxHeartbeats 1000000 in
theorem hashSpec_walk (s : ByteArray) (a1 a2 a3 : Int) (z0 : s.size ≤ 140737488351232) (w1 : (Lit.int .u64 a1).wf = true) (w2 : (Lit.int .u64 a2).wf = true) (w : World) :
    Calls Try.prog 3 #[.string s, .int .u64 a1, .int .u64 a2, .int .i64 a3] w fun e w' => e = .returned (.bool true) ∧ w = w' := by
  obtain ⟨x, rfl⟩ := nv_of w1
  obtain ⟨y, rfl⟩ := nv_of w2
  clear w1 w2
  have w0 : s.size ≤ maxLen := by unfold maxLen; omega
  by_cases hs : s.size ≤ 40
  · have hb : decide ((40 : Int) < (s.size : Int)) = false := by simp; omega
    by_cases hr : a3 < 1 ∨ 1048576 < a3
    · have HR := Lib.hid hr
      rcases hr with hr | hr
      · have hc : decide (a3 < 1) = true := by simp; omega
        go_enter Try.func3, Try.ntmps3
        go_wp2_with fail
        refine (sum_any s _ hs).mono ?_
        rintro e w' ⟨rfl, rfl⟩
        go_wp2_with fail
        refine (reduce_no x a3 _ HR.out).mono ?_
        rintro e w' ⟨rfl, rfl⟩
        go_wp2_with fail
        refine (salted_any s y _ hs).mono ?_
        rintro e w' ⟨rfl, rfl⟩
        go_wp2_with fail
        refine (refSum_any s _ hs).mono ?_
        rintro e w' ⟨rfl, rfl⟩
        go_wp2_with fail
        rw [nv_xor]
        refine (refOf_any _ _).mono ?_
        rintro e w' ⟨rfl, rfl⟩
        go_wp2_with fail
        refine (begun_any _).mono ?_
        rintro e w' ⟨rfl, rfl⟩
        go_wp2_with fail
        refine (mix_any x _).mono ?_
        rintro e w' ⟨rfl, rfl⟩
        go_wp2_with fail
        refine (refOf_any x _).mono ?_
        rintro e w' ⟨rfl, rfl⟩
        go_wp2
        go_ret
        exact ⟨by simp, rfl⟩
      · have hc : decide (a3 < 1) = false := by simp; omega
        have hd : decide (1048576 < a3) = true := by simp; omega
        go_enter Try.func3, Try.ntmps3
        go_wp2_with fail
        refine (sum_any s _ hs).mono ?_
        rintro e w' ⟨rfl, rfl⟩
        go_wp2_with fail
        refine (reduce_no x a3 _ HR.out).mono ?_
        rintro e w' ⟨rfl, rfl⟩
        go_wp2_with fail
        refine (salted_any s y _ hs).mono ?_
        rintro e w' ⟨rfl, rfl⟩
        go_wp2_with fail
        refine (refSum_any s _ hs).mono ?_
        rintro e w' ⟨rfl, rfl⟩
        go_wp2_with fail
        rw [nv_xor]
        refine (refOf_any _ _).mono ?_
        rintro e w' ⟨rfl, rfl⟩
        go_wp2_with fail
        refine (begun_any _).mono ?_
        rintro e w' ⟨rfl, rfl⟩
        go_wp2_with fail
        refine (mix_any x _).mono ?_
        rintro e w' ⟨rfl, rfl⟩
        go_wp2_with fail
        refine (refOf_any x _).mono ?_
        rintro e w' ⟨rfl, rfl⟩
        go_wp2
        go_ret
        exact ⟨by simp, rfl⟩
    · have h1 : 1 ≤ a3 := by omega
      have h2 : a3 ≤ 1048576 := by omega
      clear hr
      obtain ⟨a3n, rfl⟩ := Int.eq_ofNat_of_zero_le (show 0 ≤ a3 by omega)
      have hc : decide ((a3n : Int) < 1) = false := by simp; omega
      have hd : decide (1048576 < (a3n : Int)) = false := by simp; omega
      go_enter Try.func3, Try.ntmps3
      go_wp2_with fail
      refine (sum_any s _ hs).mono ?_
      rintro e w' ⟨rfl, rfl⟩
      go_wp2_with fail
      refine (reduce_any x (a3n : Int) _ h1 h2).mono ?_
      rintro e w' ⟨rfl, rfl⟩
      go_wp2_with fail
      refine (salted_any s y _ hs).mono ?_
      rintro e w' ⟨rfl, rfl⟩
      go_wp2_with fail
      refine (refSum_any s _ hs).mono ?_
      rintro e w' ⟨rfl, rfl⟩
      go_wp2_with fail
      rw [nv_xor]
      refine (refOf_any _ _).mono ?_
      rintro e w' ⟨rfl, rfl⟩
      go_wp2_with fail
      refine (refFold_any x a3n (by omega) (by omega) _).mono ?_
      rintro e w' ⟨rfl, rfl⟩
      go_wp2_with fail
      refine (begun_any _).mono ?_
      rintro e w' ⟨rfl, rfl⟩
      go_wp2_with fail
      refine (mix_any x _).mono ?_
      rintro e w' ⟨rfl, rfl⟩
      go_wp2_with fail
      refine (refOf_any x _).mono ?_
      rintro e w' ⟨rfl, rfl⟩
      go_wp2
      go_ret
      exact ⟨by simp, rfl⟩
  · have hs : 40 < s.size := by omega
    have hb : decide ((40 : Int) < (s.size : Int)) = true := by simp; omega
    by_cases hr : a3 < 1 ∨ 1048576 < a3
    · have HR := Lib.hid hr
      rcases hr with hr | hr
      · have hc : decide (a3 < 1) = true := by simp; omega
        go_enter Try.func3, Try.ntmps3
        go_wp2_with fail
        refine (sum_long s _ w0 hs).mono ?_
        rintro e w' ⟨rfl, rfl⟩
        go_wp2_with fail
        refine (reduce_no x a3 _ HR.out).mono ?_
        rintro e w' ⟨rfl, rfl⟩
        go_wp2_with fail
        refine (salted_long s y _ w0 hs).mono ?_
        rintro e w' ⟨rfl, rfl⟩
        go_wp2_with fail
        refine (begun_any _).mono ?_
        rintro e w' ⟨rfl, rfl⟩
        go_wp2_with fail
        refine (mix_any x _).mono ?_
        rintro e w' ⟨rfl, rfl⟩
        go_wp2_with fail
        refine (refOf_any x _).mono ?_
        rintro e w' ⟨rfl, rfl⟩
        go_wp2
        go_ret
        exact ⟨by simp, rfl⟩
      · have hc : decide (a3 < 1) = false := by simp; omega
        have hd : decide (1048576 < a3) = true := by simp; omega
        go_enter Try.func3, Try.ntmps3
        go_wp2_with fail
        refine (sum_long s _ w0 hs).mono ?_
        rintro e w' ⟨rfl, rfl⟩
        go_wp2_with fail
        refine (reduce_no x a3 _ HR.out).mono ?_
        rintro e w' ⟨rfl, rfl⟩
        go_wp2_with fail
        refine (salted_long s y _ w0 hs).mono ?_
        rintro e w' ⟨rfl, rfl⟩
        go_wp2_with fail
        refine (begun_any _).mono ?_
        rintro e w' ⟨rfl, rfl⟩
        go_wp2_with fail
        refine (mix_any x _).mono ?_
        rintro e w' ⟨rfl, rfl⟩
        go_wp2_with fail
        refine (refOf_any x _).mono ?_
        rintro e w' ⟨rfl, rfl⟩
        go_wp2
        go_ret
        exact ⟨by simp, rfl⟩
    · have h1 : 1 ≤ a3 := by omega
      have h2 : a3 ≤ 1048576 := by omega
      clear hr
      obtain ⟨a3n, rfl⟩ := Int.eq_ofNat_of_zero_le (show 0 ≤ a3 by omega)
      have hc : decide ((a3n : Int) < 1) = false := by simp; omega
      have hd : decide (1048576 < (a3n : Int)) = false := by simp; omega
      go_enter Try.func3, Try.ntmps3
      go_wp2_with fail
      refine (sum_long s _ w0 hs).mono ?_
      rintro e w' ⟨rfl, rfl⟩
      go_wp2_with fail
      refine (reduce_any x (a3n : Int) _ h1 h2).mono ?_
      rintro e w' ⟨rfl, rfl⟩
      go_wp2_with fail
      refine (salted_long s y _ w0 hs).mono ?_
      rintro e w' ⟨rfl, rfl⟩
      go_wp2_with fail
      refine (refFold_any x a3n (by omega) (by omega) _).mono ?_
      rintro e w' ⟨rfl, rfl⟩
      go_wp2_with fail
      refine (begun_any _).mono ?_
      rintro e w' ⟨rfl, rfl⟩
      go_wp2_with fail
      refine (mix_any x _).mono ?_
      rintro e w' ⟨rfl, rfl⟩
      go_wp2_with fail
      refine (refOf_any x _).mono ?_
      rintro e w' ⟨rfl, rfl⟩
      go_wp2
      go_ret
      exact ⟨by simp, rfl⟩

/-- What Sum returns, of whatever string. -/
def sumV (s : ByteArray) : Int := if s.size ≤ 40 then nv (fnv s.data.toList) else 0
def sumE (s : ByteArray) : Int := if s.size ≤ 40 then 0 else 2
theorem sum_gen (s : ByteArray) (w : World) (hs : s.size ≤ maxLen) :
    Calls Try.prog 7 #[.string s] w fun e w' => e = .returned (.tuple #[.int .u64 (sumV s), .int .i64 (sumE s)]) ∧ w = w' := by
  unfold sumV sumE
  by_cases h : s.size ≤ 40
  · rw [if_pos h, if_pos h]; exact sum_any s w h
  · rw [if_neg h, if_neg h]; exact sum_long s w hs (by omega)
theorem sumE_bad {s : ByteArray} (h : 40 < s.size) : (sumE s != 0) = true := by
  rw [sumE, if_neg (by omega)]; rfl
theorem sumE_good {s : ByteArray} (h : s.size ≤ 40) : sumE s = 0 := by
  rw [sumE, if_pos h]
theorem sumV_good {s : ByteArray} (h : s.size ≤ 40) : sumV s = nv (fnv s.data.toList) := by
  rw [sumV, if_pos h]

theorem suffix_eq (s t m : ByteArray) (hs : s.size ≤ 40) (ht : t.size ≤ 40) (hsm : (s ++ m).size ≤ 40) (htm : (t ++ m).size ≤ 40) :
    ((sumV s == sumV t) == (sumV (s ++ m) == sumV (t ++ m))) = true := by
  rw [sumV_good hs, sumV_good ht, sumV_good hsm, sumV_good htm, nv_beq, nv_beq, ByteArray.data_append, ByteArray.data_append, Array.toList_append, Array.toList_append, ← fnv_suffix]
  simp
theorem single_ne (s t : ByteArray) (hs : s.size = 1) (ht : t.size = 1) (h : ¬ s.toList = t.toList) : (sumV s != sumV t) = true := by
  rw [sumV_good (by omega), sumV_good (by omega), bne_iff_ne, Ne, nv_inj]
  refine fnv_single (by simpa using hs) (by simpa using ht) ?_
  rwa [Ne, ← ByteArray.toList_eq, ← ByteArray.toList_eq]

set_option maxRecDepth 100000 in
set_option maxHeartbeats 1000000 in
theorem hashSuffix_walk (s t m : ByteArray) (w0 : s.size ≤ 140737488351232) (w1 : t.size ≤ 140737488351232) (w2 : m.size ≤ 140737488351232) (w : World) :
    Calls Try.prog 6 #[.string s, .string t, .string m] w fun e w' => e = .returned (.bool true) ∧ w = w' := by
  have z0 : s.size ≤ maxLen := by unfold maxLen; omega
  have z1 : t.size ≤ maxLen := by unfold maxLen; omega
  have z2 : (s ++ m).size ≤ maxLen := by rw [ByteArray.size_append]; unfold maxLen; omega
  have z3 : (t ++ m).size ≤ maxLen := by rw [ByteArray.size_append]; unfold maxLen; omega
  have z4 : (s ++ m).size = s.size + m.size := ByteArray.size_append
  have z5 : (t ++ m).size = t.size + m.size := ByteArray.size_append
  have Z4 := Lib.hid z4
  have Z5 := Lib.hid z5
  clear z4 z5
  go_enter Try.func6, Try.ntmps6
  go_wp2_with fail
  refine (sum_gen s _ z0).mono ?_
  rintro e w' ⟨rfl, rfl⟩
  go_wp2_with fail
  refine (sum_gen t _ z1).mono ?_
  rintro e w' ⟨rfl, rfl⟩
  go_wp2_with fail
  refine (sum_gen (s ++ m) _ z2).mono ?_
  rintro e w' ⟨rfl, rfl⟩
  go_wp2_with fail
  refine (sum_gen (t ++ m) _ z3).mono ?_
  rintro e w' ⟨rfl, rfl⟩
  go_wp2_with fail
  refine (begun_any _).mono ?_
  rintro e w' ⟨rfl, rfl⟩
  clear z0 z1 z2 z3
  by_cases h1 : s.size ≤ 40
  · by_cases h2 : t.size ≤ 40
    · by_cases h3 : (s ++ m).size ≤ 40
      · by_cases h4 : (t ++ m).size ≤ 40
        · rw [sumE_good h1, sumE_good h2, sumE_good h3, sumE_good h4]
          have HE := suffix_eq s t m h1 h2 h3 h4
          have HN := Lib.hid (single_ne s t)
          clear h1 h2 h3 h4
          by_cases g1 : s.size = 1
          · have g1b : (((s.size : Nat) : Int) != 1) = false := by simp; omega
            by_cases g2 : t.size = 1
            · have g2b : (((t.size : Nat) : Int) != 1) = false := by simp; omega
              by_cases g3 : s.toList = t.toList
              · have g3b : (s.toList == t.toList) = true := by simp [g3]
                clear g1 g2 g3
                go_wp2
                go_ret
                exact ⟨rfl, rfl⟩
              · have g3b : (s.toList == t.toList) = false := by simp [g3]
                have g4 := HN.out g1 g2 g3
                clear g1 g2 g3
                go_wp2
                go_ret
                exact ⟨rfl, rfl⟩
            · have g2b : (((t.size : Nat) : Int) != 1) = true := by simp; omega
              clear g1 g2
              go_wp2
              go_ret
              exact ⟨rfl, rfl⟩
          · have g1b : (((s.size : Nat) : Int) != 1) = true := by simp; omega
            go_wp2
            go_ret
            exact ⟨rfl, rfl⟩
        · have hb := sumE_bad (show 40 < (t ++ m).size by omega)
          rw [sumE_good h1, sumE_good h2, sumE_good h3]
          go_wp2
          go_ret
          exact ⟨rfl, rfl⟩
      · have hb := sumE_bad (show 40 < (s ++ m).size by omega)
        rw [sumE_good h1, sumE_good h2]
        go_wp2
        go_ret
        exact ⟨rfl, rfl⟩
    · have hb := sumE_bad (show 40 < t.size by omega)
      rw [sumE_good h1]
      go_wp2
      go_ret
      exact ⟨rfl, rfl⟩
  · have hb := sumE_bad (show 40 < s.size by omega)
    go_wp2
    go_ret
    exact ⟨rfl, rfl⟩

end Go.Proofs.Ytpdcekhdjpakpaa
