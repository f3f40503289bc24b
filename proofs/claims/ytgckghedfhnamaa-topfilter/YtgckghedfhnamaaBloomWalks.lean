/-
  What the functions of package bloom return.
-/
import Derived.Test.YtgckghedfhnamaaIntsLib2
import Derived.StillTailTactics
import Derived.Deep.RegionHeld3
namespace Go.Proofs.Ytgckghedfhnamaa
open Go.RowKit Go.Shelf
set_option linter.unusedVariables false

/-- A filter as a value. -/
abbrev fv (F : Fl) (A : Option Addr) (c : Nat) : Value := .agg #[.int .i64 F.size, .int .i64 F.hashes, .slice A F.set.length c]
abbrev fo (F : Fl) (A : Option Addr) (c : Nat) : Obj := .cells #[.int .i64 F.size, .int .i64 F.hashes, .slice A F.set.length c] 26

theorem headE_3 {F : Fl} (h : F.size < 1 ∨ 1024 < F.size ∨ F.hashes < 1 ∨ 8 < F.hashes) : checkF F = 3 := by
  have : headE F = 3 := by unfold headE; rw [if_pos h]
  unfold checkF; rw [this]; rfl
theorem headE_2 {F : Fl} (h : ¬ (F.size < 1 ∨ 1024 < F.size ∨ F.hashes < 1 ∨ 8 < F.hashes)) (h2 : F.size < (F.set.length : Int)) : checkF F = 2 := by
  have : headE F = 2 := by unfold headE; rw [if_neg h, if_pos h2]
  unfold checkF; rw [this]; rfl
theorem headE_0 {F : Fl} (h : ¬ (F.size < 1 ∨ 1024 < F.size ∨ F.hashes < 1 ∨ 8 < F.hashes)) (h2 : ¬ F.size < (F.set.length : Int)) : checkF F = nz (bitE F) F.set.length := by
  have : headE F = 0 := by unfold headE; rw [if_neg h, if_neg h2]
  unfold checkF; rw [if_pos this]

set_option maxHeartbeats 1000000 in
theorem check_any (F : Fl) (A : Option Addr) (c : Nat) (w : World) (ha : Ints w A c F.set) :
    Calls Try.prog 16 #[fv F A c] w fun e w' => e = .returned (.int .i64 (checkF F)) ∧ Below w.heap.size w w' := by
  have HW : ∀ o, Below w.heap.size w (w.alloc o) := fun o => (Below.refl _ _).alloc (Nat.le_refl _) o
  by_cases a1 : F.size < 1
  · rw [headE_3 (.inl a1)]
    have q1 : decide (F.size < 1) = true := by simpa using a1
    go_enter Try.func16, Try.ntmps16
    go_wp2
    go_ret
    exact ⟨rfl, HW _⟩
  have q1 : decide (F.size < 1) = false := by simpa using a1
  by_cases a2 : 1024 < F.size
  · rw [headE_3 (.inr (.inl a2))]
    have q2 : decide (1024 < F.size) = true := by simpa using a2
    go_enter Try.func16, Try.ntmps16
    go_wp2
    go_ret
    exact ⟨rfl, HW _⟩
  have q2 : decide (1024 < F.size) = false := by simpa using a2
  by_cases a3 : F.hashes < 1
  · rw [headE_3 (.inr (.inr (.inl a3)))]
    have q3 : decide (F.hashes < 1) = true := by simpa using a3
    go_enter Try.func16, Try.ntmps16
    go_wp2
    go_ret
    exact ⟨rfl, HW _⟩
  have q3 : decide (F.hashes < 1) = false := by simpa using a3
  by_cases a4 : 8 < F.hashes
  · rw [headE_3 (.inr (.inr (.inr a4)))]
    have q4 : decide (8 < F.hashes) = true := by simpa using a4
    go_enter Try.func16, Try.ntmps16
    go_wp2
    go_ret
    exact ⟨rfl, HW _⟩
  have q4 : decide (8 < F.hashes) = false := by simpa using a4
  have hh : ¬ (F.size < 1 ∨ 1024 < F.size ∨ F.hashes < 1 ∨ 8 < F.hashes) := by omega
  by_cases a5 : F.size < (F.set.length : Int)
  · rw [headE_2 hh a5]
    have q5 : decide (F.size < (F.set.length : Int)) = true := by simpa using a5
    clear hh
    go_enter Try.func16, Try.ntmps16
    go_wp2
    go_ret
    exact ⟨rfl, HW _⟩
  have q5 : decide (F.size < (F.set.length : Int)) = false := by simpa using a5
  rw [headE_0 hh a5]
  have hlen : F.set.length ≤ 1024 := by omega
  clear hh
  go_enter Try.func16, Try.ntmps16
  go_wp2
  go_loop [32] (fun i => ∃ k : Nat, k ≤ F.set.length ∧ i = .int .i64 (k : Int) ∧ Hid (∀ j, j < k → bitE F j = 0)) (fun i => F.set.length - (intOf i).toNat)
  case atStart => exact ⟨0, by omega, rfl, Lib.hid (fun j hj => by omega)⟩
  case round =>
    obtain ⟨k, hk, rfl, HA⟩ := hrel
    by_cases hlt : k < F.set.length
    · obtain ⟨b, o, rfl, ht⟩ := (ha.below (HW (fo F A c))).2.2.2 (by omega)
      have c1 := ht.2 k hlt
      have hne : b < w.heap.size := by
        obtain ⟨b', o', e, ht'⟩ := ha.2.2.2 (by omega)
        cases e; exact ht'.1
      by_cases b1 : gi F.set k < 0
      · have p1 : decide (gi F.set k < 0) = true := by simpa using b1
        have HR : Hid (nz (bitE F) F.set.length = 3) := Lib.hid (by
          have e : bitE F k = 3 := by unfold bitE; rw [if_pos (.inl b1)]
          rw [nz_hit HA.out hlt (by omega), e])
        clear b1
        go_wp2
        go_ret
        exact ⟨ret_int HR.out.symm, HW _⟩
      have p1 : decide (gi F.set k < 0) = false := by simpa using b1
      by_cases b2 : F.size ≤ gi F.set k
      · have p2 : decide (F.size ≤ gi F.set k) = true := by simpa using b2
        have HR : Hid (nz (bitE F) F.set.length = 3) := Lib.hid (by
          have e : bitE F k = 3 := by unfold bitE; rw [if_pos (.inr b2)]
          rw [nz_hit HA.out hlt (by omega), e])
        clear b1 b2
        go_wp2
        go_ret
        exact ⟨ret_int HR.out.symm, HW _⟩
      have p2 : decide (F.size ≤ gi F.set k) = false := by simpa using b2
      by_cases b3 : 0 < k
      · have c2 := ht.2 (k - 1) (by omega)
        have p3 : decide ((0 : Int) < (k : Int)) = true := by simp; omega
        by_cases b4 : gi F.set k ≤ gi F.set (k - 1)
        · have p4 : decide (gi F.set k ≤ gi F.set (k - 1)) = true := by simpa using b4
          have HR : Hid (nz (bitE F) F.set.length = 4) := Lib.hid (by
            have e : bitE F k = 4 := by unfold bitE; rw [if_neg (by omega), if_pos ⟨b3, b4⟩]
            rw [nz_hit HA.out hlt (by omega), e])
          clear b1 b2 b4
          go_wp2
          go_ret
          exact ⟨ret_int HR.out.symm, HW _⟩
        · have p4 : decide (gi F.set k ≤ gi F.set (k - 1)) = false := by simpa using b4
          have HE : Hid (bitE F k = 0) := Lib.hid (by unfold bitE; rw [if_neg (by omega), if_neg (by omega)])
          clear b1 b2 b4
          go_wp2
          go_round
          case rel => exact ⟨k + 1, by omega, by go_num, Lib.hid (fun j hj => by
            by_cases x : j = k
            · subst x; exact HE.out
            · exact HA.out j (by omega))⟩
          case measure => simp [intOf]; omega
      · obtain rfl : k = 0 := by omega
        rw [Nat.add_zero] at c1
        have p3 : decide ((0 : Int) < ((0 : Nat) : Int)) = false := by simp
        have HE : Hid (bitE F 0 = 0) := Lib.hid (by unfold bitE; rw [if_neg (by omega), if_neg (by omega)])
        clear b1 b2
        go_wp2
        go_round
        case rel => exact ⟨1, by omega, by go_num, Lib.hid (fun j hj => by
          obtain rfl : j = 0 := by omega
          exact HE.out)⟩
        case measure => simp [intOf]; omega
    · obtain rfl : k = F.set.length := by omega
      have HR := Lib.hid (nz_zero HA.out)
      go_wp2
      go_ret
      exact ⟨ret_int HR.out.symm, HW _⟩

end Go.Proofs.Ytgckghedfhnamaa
