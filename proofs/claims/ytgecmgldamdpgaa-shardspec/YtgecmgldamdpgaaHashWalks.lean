/-
  What each function of package hash (Sum, Mix, Unmix, Reduce, Salted) and each function of its reference returns, over words of 64 bits.
  Conditions: none beyond the types of the arguments.
-/
import Derived.Test.YtgecmgldamdpgaaRows
import Derived.Test.YtgecmgldamdpgaaHashMath
import Derived.WalkSpells
import Derived.WalkLawsBesides
import Derived.Lib.Hide
namespace Go.Proofs.Ytgecmgldamdpgaa
open Go.RowKit

theorem ret_int {k : IntKind} {a b : Int} (h : a = b) : Ending.returned (.int k a) = .returned (.int k b) := by rw [h]
theorem ret_two {k : IntKind} {a b c : Int} (h : a = b) : Ending.returned (.tuple #[.int k a, .int .i64 c]) = .returned (.tuple #[.int k b, .int .i64 c]) := by rw [h]

theorem mix_eq (x : BitVec 64) :
    bits .xor .u64 (IntKind.u64.wrap (bits .xor .u64 (IntKind.u64.wrap (bits .xor .u64 (nv x) (nv x / 1073741824) * 13787848793156543929)) (IntKind.u64.wrap (bits .xor .u64 (nv x) (nv x / 1073741824) * 13787848793156543929) / 134217728) * 10723151780598845931))
      (IntKind.u64.wrap (bits .xor .u64 (IntKind.u64.wrap (bits .xor .u64 (nv x) (nv x / 1073741824) * 13787848793156543929)) (IntKind.u64.wrap (bits .xor .u64 (nv x) (nv x / 1073741824) * 13787848793156543929) / 134217728) * 10723151780598845931) / 2147483648)
      = nv (mixB x) := by
  have s30 : ∀ y : BitVec 64, nv y / (1073741824 : Int) = nv (y >>> 30) := fun y => by rw [← nv_shr y 30]; rfl
  have s27 : ∀ y : BitVec 64, nv y / (134217728 : Int) = nv (y >>> 27) := fun y => by rw [← nv_shr y 27]; rfl
  have s31 : ∀ y : BitVec 64, nv y / (2147483648 : Int) = nv (y >>> 31) := fun y => by rw [← nv_shr y 31]; rfl
  have m1 : ∀ y : BitVec 64, IntKind.u64.wrap (nv y * 13787848793156543929) = nv (y * 13787848793156543929#64) := fun y => by
    rw [← nv_mul]; rfl
  have m2 : ∀ y : BitVec 64, IntKind.u64.wrap (nv y * 10723151780598845931) = nv (y * 10723151780598845931#64) := fun y => by
    rw [← nv_mul]; rfl
  simp only [s30, nv_xor, m1, s27, m2, s31]
  rfl

set_option maxHeartbeats 400000 in
theorem mix_any (x : BitVec 64) (w : World) :
    Calls Try.prog 39 #[.int .u64 (nv x)] w fun e w' => e = .returned (.int .u64 (nv (mixB x))) ∧ w = w' := by
  have h0 := nv_nonneg x
  go_enter Try.func39, Try.ntmps39
  go_wp2
  go_ret
  exact ⟨ret_int (mix_eq x), rfl⟩

theorem nv_mulc (x : BitVec 64) (n : Nat) (h : n < 18446744073709551616) : IntKind.u64.wrap (nv x * (n : Int)) = nv (x * BitVec.ofNat 64 n) := by
  rw [← nv_lit n h, nv_mul]

/-! ### Sum -/
theorem take_snoc (s : ByteArray) (k : Nat) (h : k < s.size) : s.data.toList.take (k + 1) = s.data.toList.take k ++ [s[k]] := by
  rw [List.take_succ_eq_append_getElem (by simpa using h)]; rfl

theorem nv_byte (c : UInt8) : (c.toNat : Int) = nv (BitVec.ofNat 64 c.toNat) := by
  have := c.toNat_lt
  rw [nv_lit _ (by omega)]

set_option maxHeartbeats 400000 in
theorem sum_long (s : ByteArray) (w : World) (hs : s.size ≤ maxLen) (h : 40 < s.size) :
    Calls Try.prog 31 #[.string s] w fun e w' => e = .returned (.tuple #[.int .u64 0, .int .i64 2]) ∧ w = w' := by
  unfold maxLen at hs
  go_enter Try.func31, Try.ntmps31
  go_wp2
  go_ret2
  exact ⟨rfl, rfl⟩

theorem fnv_step_eq (l : List UInt8) (c : UInt8) : IntKind.u64.wrap (bits .xor .u64 (nv (fnv l)) (IntKind.u64.wrap (c.toNat : Int)) * 1099511628211) = nv (fnv (l ++ [c])) := by
  have hw : IntKind.u64.wrap (c.toNat : Int) = (c.toNat : Int) := by
    have := c.toNat_lt
    rw [IntKind.wrap_u64]
    omega
  rw [hw, nv_byte, nv_xor, show (1099511628211 : Int) = ((1099511628211 : Nat) : Int) from rfl, nv_mulc _ _ (by omega), fnv_snoc]
  rfl

set_option maxHeartbeats 400000 in
theorem sum_any (s : ByteArray) (w : World) (h : s.size ≤ 40) :
    Calls Try.prog 31 #[.string s] w fun e w' => e = .returned (.tuple #[.int .u64 (nv (fnv s.data.toList)), .int .i64 0]) ∧ w = w' := by
  have e0 : (14695981039346656037 : Int) = nv (fnv []) := (nv_lit 14695981039346656037 (by omega)).symm
  have H0 := Lib.hid e0
  clear e0
  have hb : decide ((40 : Int) < (s.size : Int)) = false := by simp; omega
  go_enter Try.func31, Try.ntmps31
  go_wp2
  go_loop [4, 11] (fun n i => ∃ k : Nat, k ≤ s.size ∧ i = .int .i64 k ∧ n = .int .u64 (nv (fnv (s.data.toList.take k)))) (fun _ i => s.size - (intOf i).toNat)
  case atStart => exact ⟨0, Nat.zero_le _, rfl, by rw [H0.out]; rfl⟩
  case round =>
    obtain ⟨k, hk, rfl, rfl⟩ := hrel
    have hn := nv_nonneg (fnv (s.data.toList.take k))
    by_cases hlt : k < s.size
    · have HT := Lib.hid (take_snoc s k hlt)
      go_wp2
      go_round
      case rel => exact ⟨k + 1, by omega, by go_num, by rw [HT.out, ← fnv_step_eq]⟩
      case measure => simp [intOf]; omega
    · go_wp2
      go_ret2
      exact ⟨ret_two (by rw [List.take_of_length_le (by simp; omega)]), rfl⟩

/-! ### Reduce -/
theorem reduce_eq (x : BitVec 64) (m : Int) (h1 : 1 ≤ m) (h2 : m ≤ 1048576) : wrap64 (IntKind.u64.wrap (nv x / 4294967296 * m) / 4294967296) = redI x m := by
  obtain ⟨a0, a1⟩ := hi_bd x
  unfold redI
  generalize nv x / 4294967296 = t at *
  have b0 : 0 ≤ t * m := Int.mul_nonneg a0 (by omega)
  have b1 : t * m ≤ 4294967296 * m := Int.mul_le_mul_of_nonneg_right (by omega) (by omega)
  generalize t * m = q at *
  rw [IntKind.wrap_u64, Int.emod_eq_of_lt b0 (by omega), IntWalk.wrap64_in _ ⟨by omega, by omega⟩]

/-! ### The reference: times, half, MixSum, MixOf, MixFold -/
set_option maxHeartbeats 400000 in
theorem times_any (x y : BitVec 64) (w : World) :
    Calls Try.prog 35 #[.int .u64 (nv x), .int .u64 (nv y)] w fun e w' => e = .returned (.int .u64 (nv (x * y))) ∧ w = w' := by
  have HX : Hid (nv y = ((y.toNat : Nat) : Int)) := Lib.hid rfl
  have HY := y.isLt
  go_enter Try.func35, Try.ntmps35
  go_wp2
  go_loop [0, 1, 5] (fun a b s => ∃ (A S : BitVec 64) (n : Nat), Hid (S + A * BitVec.ofNat 64 n = x * y) ∧ n ≤ y.toNat ∧ a = .int .u64 (nv A) ∧ b = .int .u64 (n : Int) ∧ s = .int .u64 (nv S)) (fun _ b _ => (intOf b).toNat)
  case atStart => exact ⟨x, 0#64, y.toNat, Lib.hid (by simp), Nat.le_refl _, rfl, rfl, rfl⟩
  case round =>
    obtain ⟨A, S, n, hS, hn, rfl, rfl, rfl⟩ := hrel
    have a0 := nv_nonneg A
    have s0 := nv_nonneg S
    by_cases hlt : 0 < n
    · by_cases ho : n % 2 = 1
      · have hb : (((n : Int) % 2) == 1) = true := by simp; omega
        go_wp2
        go_round
        case rel => exact ⟨A + A, S + A, n / 2, Lib.hid (by rw [← hS.out, times_step S A n, if_pos ho]), by omega, by rw [nv_add], by go_num, by rw [nv_add]⟩
        case measure => simp [intOf]; omega
      · have hb : (((n : Int) % 2) == 1) = false := by simp; omega
        go_wp2
        go_round
        case rel => exact ⟨A + A, S, n / 2, Lib.hid (by rw [← hS.out, times_step S A n, if_neg ho]), by omega, by rw [nv_add], by go_num, rfl⟩
        case measure => simp [intOf]; omega
    · go_wp2
      go_ret
      exact ⟨ret_int (by have := hS.out; rw [show n = 0 by omega] at this; rw [← this]; simp), rfl⟩

set_option maxHeartbeats 400000 in
theorem half_any (x : BitVec 64) (m : Nat) (hm : m ≤ 64) (w : World) :
    Calls Try.prog 36 #[.int .u64 (nv x), .int .i64 (m : Int)] w fun e w' => e = .returned (.int .u64 (nv (x >>> m))) ∧ w = w' := by
  go_enter Try.func36, Try.ntmps36
  go_wp2
  go_loop [0, 5] (fun n i => ∃ k : Nat, k ≤ m ∧ n = .int .u64 (nv (x >>> k)) ∧ i = .int .i64 (k : Int)) (fun _ i => m - (intOf i).toNat)
  case atStart => exact ⟨0, by omega, by simp, rfl⟩
  case round =>
    obtain ⟨k, hk, rfl, rfl⟩ := hrel
    have h0 := nv_nonneg (x >>> k)
    have h1 := nv_lt (x >>> k)
    have HS := Lib.hid (half_step x k)
    by_cases hlt : k < m
    · go_wp2
      go_round
      case rel => exact ⟨k + 1, by omega, by rw [HS.out], by go_num⟩
      case measure => simp [intOf]; omega
    · obtain rfl : k = m := by omega
      go_wp2
      go_ret
      exact ⟨rfl, rfl⟩

set_option maxHeartbeats 400000 in
theorem refOf_any (x : BitVec 64) (w : World) :
    Calls Try.prog 27 #[.int .u64 (nv x)] w fun e w' => e = .returned (.int .u64 (nv (mixB x))) ∧ w = w' := by
  have h0 := nv_nonneg x
  have H1 : Hid ((13787848793156543929 : Int) = nv 13787848793156543929#64) := Lib.hid rfl
  have H2 : Hid ((10723151780598845931 : Int) = nv 10723151780598845931#64) := Lib.hid rfl
  go_enter Try.func27, Try.ntmps27
  go_wp2_with fail
  refine (half_any x 30 (by omega) _).mono ?_
  rintro e w' ⟨rfl, rfl⟩
  go_wp2_with fail
  rw [nv_xor, H1.out]
  refine (times_any _ _ _).mono ?_
  rintro e w' ⟨rfl, rfl⟩
  go_wp2_with fail
  refine (half_any _ 27 (by omega) _).mono ?_
  rintro e w' ⟨rfl, rfl⟩
  go_wp2_with fail
  rw [nv_xor, H2.out]
  refine (times_any _ _ _).mono ?_
  rintro e w' ⟨rfl, rfl⟩
  go_wp2_with fail
  refine (half_any _ 31 (by omega) _).mono ?_
  rintro e w' ⟨rfl, rfl⟩
  go_wp2
  go_ret
  exact ⟨ret_int (by rw [nv_xor]; rfl), rfl⟩

set_option maxHeartbeats 400000 in
theorem refSum_any (s : ByteArray) (w : World) (h : s.size ≤ 40) :
    Calls Try.prog 28 #[.string s] w fun e w' => e = .returned (.int .u64 (nv (fnv s.data.toList))) ∧ w = w' := by
  have H0 : Hid ((14695981039346656037 : Int) = nv (fnv [])) := Lib.hid (nv_lit 14695981039346656037 (by omega)).symm
  have H1 : Hid ((1099511628211 : Int) = nv 1099511628211#64) := Lib.hid rfl
  have HW : Hid (∀ c : UInt8, IntKind.u64.wrap (c.toNat : Int) = nv (BitVec.ofNat 64 c.toNat)) := Lib.hid (fun c => by
    have := c.toNat_lt
    rw [IntKind.wrap_u64, nv_lit _ (by omega)]
    omega)
  go_enter Try.func28, Try.ntmps28
  go_wp2
  go_loop [3, 4] (fun n i => ∃ k : Nat, k ≤ s.size ∧ i = .int .i64 k ∧ n = .int .u64 (nv (fnv (s.data.toList.take k)))) (fun _ i => s.size - (intOf i).toNat)
  case atStart => exact ⟨0, Nat.zero_le _, rfl, by rw [H0.out]; rfl⟩
  case round =>
    obtain ⟨k, hk, rfl, rfl⟩ := hrel
    have hn := nv_nonneg (fnv (s.data.toList.take k))
    by_cases hlt : k < s.size
    · have HT := Lib.hid (take_snoc s k hlt)
      go_wp2_with fail
      rw [HW.out, nv_xor, H1.out]
      refine (times_any _ _ _).mono ?_
      rintro e w' ⟨rfl, rfl⟩
      go_wp2
      go_round
      case rel => exact ⟨k + 1, by omega, by go_num, by rw [HT.out, fnv_snoc]; rfl⟩
      case measure => simp [intOf]; omega
    · go_wp2
      go_ret
      exact ⟨ret_int (by rw [List.take_of_length_le (by simp; omega)]), rfl⟩

end Go.Proofs.Ytgecmgldamdpgaa
