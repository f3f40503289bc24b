/-
  What each function of package hash (Sum, Mix, Unmix, Reduce, Salted) and each function of its reference returns, over words of 64 bits.
  Conditions: none beyond the types of the arguments.
-/
import Derived.Test.YtjmhemkbfephpaaRows
import Derived.Test.YtjmhemkbfephpaaHashMath
import Derived.WalkSpells
import Derived.WalkLawsBesides
import Derived.Lib.Hide
namespace Go.Proofs.Ytjmhemkbfephpaa
open Go.RowKit

theorem ret_int {k : IntKind} {a b : Int} (h : a = b) : Ending.returned (.int k a) = .returned (.int k b) := by rw [h]
theorem ret_two {k : IntKind} {a b c : Int} (h : a = b) : Ending.returned (.tuple #[.int k a, .int .i64 c]) = .returned (.tuple #[.int k b, .int .i64 c]) := by rw [h]

theorem mix_eq (x : BitVec 64) :
    bits .xor .u64 (IntKind.u64.wrap (bits .xor .u64 (IntKind.u64.wrap (bits .xor .u64 (nv x) (nv x / 1073741824) * 13787848793156543929)) (IntKind.u64.wrap (bits .xor .u64 (nv x) (nv x / 1073741824) * 13787848793156543929) / 134217728) * 10723151780598845931))
      (IntKind.u64.wrap (bits .xor .u64 (IntKind.u64.wrap (bits .xor .u64 (nv x) (nv x / 1073741824) * 13787848793156543929)) (IntKind.u64.wrap (bits .xor .u64 (nv x) (nv x / 1073741824) * 13787848793156543929) / 134217728) * 10723151780598845931) / 2147483648)
      = nv (mixB x) := by
  have s30 : ∀ y : BitVec 64, nv y / (1073741824 : Int) = nv (y >>> 30) := fun y => by rw [← nv_shr y 30]; rfl
  have s27 : ∀ y : BitVec 64, nv y / (134217728 : Int) = nv (y >>> 27) := fun y => by rw [← nv_shr y 27]; rfl
  have s31 : ∀ y : BitVec 64, nv y / (2147483648 : Int) = nv (y >>> 31) := fun y => by rw [← nv_shr y 31]; rfl
  have m1 : ∀ y : BitVec 64, IntKind.u64.wrap (nv y * 13787848793156543929) = nv (y * 13787848793156543929#64) := fun y => by
    rw [← nv_mul]; rfl
  have m2 : ∀ y : BitVec 64, IntKind.u64.wrap (nv y * 10723151780598845931) = nv (y * 10723151780598845931#64) := fun y => by
    rw [← nv_mul]; rfl
  simp only [s30, nv_xor, m1, s27, m2, s31]
  rfl

set_option maxHeartbeats 400000 in
theorem mix_any (x : BitVec 64) (w : World) :
    Calls Try.prog 64 #[.int .u64 (nv x)] w fun e w' => e = .returned (.int .u64 (nv (mixB x))) ∧ w = w' := by
  have h0 := nv_nonneg x
  go_enter Try.func64, Try.ntmps64
  go_wp2
  go_ret
  exact ⟨ret_int (mix_eq x), rfl⟩

theorem nv_mulc (x : BitVec 64) (n : Nat) (h : n < 18446744073709551616) : IntKind.u64.wrap (nv x * (n : Int)) = nv (x * BitVec.ofNat 64 n) := by
  rw [← nv_lit n h, nv_mul]

/-! ### Sum -/
theorem take_snoc (s : ByteArray) (k : Nat) (h : k < s.size) : s.data.toList.take (k + 1) = s.data.toList.take k ++ [s[k]] := by
  rw [List.take_succ_eq_append_getElem (by simpa using h)]; rfl

theorem nv_byte (c : UInt8) : (c.toNat : Int) = nv (BitVec.ofNat 64 c.toNat) := by
  have := c.toNat_lt
  rw [nv_lit _ (by omega)]

set_option maxHeartbeats 400000 in
theorem sum_long (s : ByteArray) (w : World) (hs : s.size ≤ maxLen) (h : 40 < s.size) :
    Calls Try.prog 46 #[.string s] w fun e w' => e = .returned (.tuple #[.int .u64 0, .int .i64 2]) ∧ w = w' := by
  unfold maxLen at hs
  go_enter Try.func46, Try.ntmps46
  go_wp2
  go_ret2
  exact ⟨rfl, rfl⟩

theorem fnv_step_eq (l : List UInt8) (c : UInt8) : IntKind.u64.wrap (bits .xor .u64 (nv (fnv l)) (IntKind.u64.wrap (c.toNat : Int)) * 1099511628211) = nv (fnv (l ++ [c])) := by
  have hw : IntKind.u64.wrap (c.toNat : Int) = (c.toNat : Int) := by
    have := c.toNat_lt
    rw [IntKind.wrap_u64]
    omega
  rw [hw, nv_byte, nv_xor, show (1099511628211 : Int) = ((1099511628211 : Nat) : Int) from rfl, nv_mulc _ _ (by omega), fnv_snoc]
  rfl

set_option maxHeartbeats 400000 in
theorem sum_any (s : ByteArray) (w : World) (h : s.size ≤ 40) :
    Calls Try.prog 46 #[.string s] w fun e w' => e = .returned (.tuple #[.int .u64 (nv (fnv s.data.toList)), .int .i64 0]) ∧ w = w' := by
  have e0 : (14695981039346656037 : Int) = nv (fnv []) := (nv_lit 14695981039346656037 (by omega)).symm
  have H0 := Lib.hid e0
  clear e0
  have hb : decide ((40 : Int) < (s.size : Int)) = false := by simp; omega
  go_enter Try.func46, Try.ntmps46
  go_wp2
  go_loop [4, 11] (fun n i => ∃ k : Nat, k ≤ s.size ∧ i = .int .i64 k ∧ n = .int .u64 (nv (fnv (s.data.toList.take k)))) (fun _ i => s.size - (intOf i).toNat)
  case atStart => exact ⟨0, Nat.zero_le _, rfl, by rw [H0.out]; rfl⟩
  case round =>
    obtain ⟨k, hk, rfl, rfl⟩ := hrel
    have hn := nv_nonneg (fnv (s.data.toList.take k))
    by_cases hlt : k < s.size
    · have HT := Lib.hid (take_snoc s k hlt)
      go_wp2
      go_round
      case rel => exact ⟨k + 1, by omega, by go_num, by rw [HT.out, ← fnv_step_eq]⟩
      case measure => simp [intOf]; omega
    · go_wp2
      go_ret2
      exact ⟨ret_two (by rw [List.take_of_length_le (by simp; omega)]), rfl⟩

/-! ### Reduce -/
theorem reduce_eq (x : BitVec 64) (m : Int) (h1 : 1 ≤ m) (h2 : m ≤ 1048576) : wrap64 (IntKind.u64.wrap (nv x / 4294967296 * m) / 4294967296) = redI x m := by
  obtain ⟨a0, a1⟩ := hi_bd x
  unfold redI
  generalize nv x / 4294967296 = t at *
  have b0 : 0 ≤ t * m := Int.mul_nonneg a0 (by omega)
  have b1 : t * m ≤ 4294967296 * m := Int.mul_le_mul_of_nonneg_right (by omega) (by omega)
  generalize t * m = q at *
  rw [IntKind.wrap_u64, Int.emod_eq_of_lt b0 (by omega), IntWalk.wrap64_in _ ⟨by omega, by omega⟩]

end Go.Proofs.Ytjmhemkbfephpaa
