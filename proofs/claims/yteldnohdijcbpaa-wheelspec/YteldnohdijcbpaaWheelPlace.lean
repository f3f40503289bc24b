/-
  What place of package wheel returns.
-/
import Derived.Test.YteldnohdijcbpaaWheelWalks
import Derived.Test.YteldnohdijcbpaaShelf
import Derived.Laws.BitsAllLaws
namespace Go.Proofs.Yteldnohdijcbpaa.Whl
open Go.RowKit
set_option linter.unusedVariables false

theorem bitLen_log : ∀ (n x : Nat), x ≤ n → x ≠ 0 → x < 2 ^ 64 → Lib.bitLen x = x.log2 + 1 := by
  intro n
  induction n with
  | zero => intro x h h0; omega
  | succ n ih =>
    intro x h h0 h64
    rw [Lib.bitLen_half x h0 h64]
    rw [Nat.log2_def]
    by_cases h2 : 2 ≤ x
    · rw [if_pos h2, ih (x / 2) (by omega) (by omega) (by omega)]; omega
    · obtain rfl : x = 1 := by omega
      rfl

theorem len_any (x : Nat) (w : World) (h0 : x ≠ 0) (h1 : x < 262144) :
    Calls Try.prog 42 #[.int .u64 (x : Int)] w fun e w' => e = .returned (.int .i64 ((x.log2 + 1 : Nat) : Int)) ∧ w = w' := by
  have c := Any.bits_Len Try.bitsLen (x : Int) w (by omega) (by omega)
  rw [Int.toNat_natCast, bitLen_log x x (Nat.le_refl _) h0 (by omega)] at c
  exact c.mono (fun e w' ⟨h, h'⟩ => ⟨h, h'.symm⟩)

theorem i64_xor_nat (a b : Nat) (ha : a < 262144) (hb : b < 262144) : bits .xor .i64 (a : Int) (b : Int) = ((a ^^^ b : Nat) : Int) := by
  have hx : a ^^^ b < 2 ^ 18 := Nat.xor_lt_two_pow (by omega) (by omega)
  show IntKind.i64.wrap ((BitVec.ofInt 64 (a : Int) ^^^ BitVec.ofInt 64 (b : Int)).toNat : Int) = _
  rw [BitVec.toNat_xor, ofInt_u64 a (by omega), ofInt_u64 b (by omega), IntKind.wrap_i64]
  omega

set_option maxHeartbeats 1000000 in
theorem place_any (n a : Nat) (w : World) (hn : n < 262144) (ha : a < 262144) (hlt : n < a) :
    Calls Try.prog 33 #[.int .i64 (n : Int), .int .i64 (a : Int)] w fun e w' => e = .returned (.int .i64 (slotN n a : Int)) ∧ w = w' := by
  have hX := i64_xor_nat n a hn ha
  have hne : n ≠ a := by omega
  have hx0 : n ^^^ a ≠ 0 := fun e => hne (xor_zero e)
  have hx1 : n ^^^ a < 262144 := Nat.xor_lt_two_pow (n := 18) (by omega) (by omega)
  have hlev := lev_lt hne hn ha
  have hS : slotN n a = lev n a * 8 + a / 8 ^ lev n a % 8 := rfl
  have hL : (n ^^^ a).log2 / 3 = lev n a := rfl
  generalize hx : n ^^^ a = x at *
  have HC := Lib.hid (len_any x · hx0 hx1)
  generalize lev n a = l at *
  generalize hg : x.log2 = g at *
  have HS := Lib.hid hS
  clear hx hg hx0 hne hS
  go_enter Try.func33, Try.ntmps33
  go_wp2_with fail
  refine (HC.out _).mono ?_
  rintro e w' ⟨rfl, rfl⟩
  go_wp2
  go_ret
  refine ⟨ret_int ?_, rfl⟩
  have e1 : (a : Int) / 2 ^ (l * 3) = ((a / 8 ^ l : Nat) : Int) := by
    rw [Int.natCast_ediv, show (8 : Nat) ^ l = 2 ^ (l * 3) by rw [Nat.mul_comm, Nat.pow_mul]]
    simp
  have e2 : (((a / 8 ^ l : Nat) : Int)).tmod 8 = ((a / 8 ^ l % 8 : Nat) : Int) := rfl
  rw [HS.out, e1, e2, IntWalk.wrap64_in _ ⟨by omega, by omega⟩]
  omega

end Go.Proofs.Yteldnohdijcbpaa.Whl
