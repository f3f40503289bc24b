/-
  What the reference of package bloom returns.
-/
import Derived.Test.YtnnnjmelbnnnjaaBloomFoldLaw
import Derived.WalkSmall
namespace Go.Proofs.Ytnnnjmelbnnnjaa
open Go.RowKit Go.Shelf
set_option linter.unusedVariables false

theorem w_swap {P : Program} {f : Nat} {args : Array Value} {w : World} {Q : Ending → Prop} (h : Calls P f args w fun e w' => Q e ∧ w = w') : Calls P f args w fun e w' => Q e ∧ w' = w := h.mono fun e w' ⟨a, b⟩ => ⟨a, b.symm⟩

set_option maxHeartbeats 2000000 in
theorem refCheck_any (F : Fl) (A : Option Addr) (c : Nat) (w : World) (ha : Ints w A c F.set) :
    Calls Try.prog 12 #[fv F A c] w fun e w' => e = .returned (.int .i64 (checkF F)) ∧ Below w.heap.size w w' := by
  have HW : ∀ o, Below w.heap.size w (w.alloc o) := fun o => (Below.refl _ _).alloc (Nat.le_refl _) o
  by_cases a1 : 1 ≤ F.size ∧ F.size ≤ 1024
  · have q1 : decide (1 ≤ F.size ∧ F.size ≤ 1024) = true := by simpa using a1
    by_cases a2 : 1 ≤ F.hashes ∧ F.hashes ≤ 8
    · have q2 : decide (1 ≤ F.hashes ∧ F.hashes ≤ 8) = true := by simpa using a2
      have hh : ¬ (F.size < 1 ∨ 1024 < F.size ∨ F.hashes < 1 ∨ 8 < F.hashes) := by omega
      have s1 := a1.1
      have s2 := a1.2
      by_cases a5 : F.size < (F.set.length : Int)
      · rw [headE_2 hh a5]
        have q5 : decide (F.size < (F.set.length : Int)) = true := by simpa using a5
        clear hh a1 a2
        go_enter Try.func12, Try.ntmps12
        go_wp2_with fail
        refine (between_any _ _ _ _).mono ?_
        rintro e w1 ⟨rfl, rfl⟩
        rw [q1]
        go_wp2_with fail
        refine (between_any _ _ _ _).mono ?_
        rintro e w1 ⟨rfl, rfl⟩
        rw [q2]
        go_wp2
        go_ret
        exact ⟨rfl, HW _⟩
      have q5 : decide (F.size < (F.set.length : Int)) = false := by simpa using a5
      rw [headE_0 hh a5]
      have hlen : F.set.length ≤ 1024 := by omega
      clear hh a1 a2
      go_enter Try.func12, Try.ntmps12
      go_wp2_with fail
      refine (between_any _ _ _ _).mono ?_
      rintro e w1 ⟨rfl, rfl⟩
      rw [q1]
      go_wp2_with fail
      refine (between_any _ _ _ _).mono ?_
      rintro e w1 ⟨rfl, rfl⟩
      rw [q2]
      have X0 := Bx.new ha
      generalize hW1 : w.alloc (fo F A c) = w1 at *
      have HB1 : Below w.heap.size w w1 := by rw [← hW1]; exact HW _
      clear hW1 HW
      obtain ⟨x0, x1, x2, x3, xi⟩ := id X0
      go_wp2
      clear x1 x2 x3
      go_loopw [3] (fun i wr => ∃ k : Nat, k ≤ F.set.length ∧ i = .int .i64 (k : Int) ∧ Hid (∀ j, j < k → bitE F j = 0) ∧ Below w1.heap.size w1 wr) (fun i _ => F.set.length - (intOf i).toNat)
      case atStart => exact ⟨0, by omega, rfl, Lib.hid (fun j hj => by omega), Below.refl _ _⟩
      case round =>
        obtain ⟨k, hk, rfl, HA, HB⟩ := hrel
        have Xr := X0.below HB
        obtain ⟨x0r, x1, x2, x3, xir⟩ := id Xr
        have HBr := HB1.trans (HB.mono HB1.size)
        by_cases hlt : k < F.set.length
        · obtain ⟨b, o, rfl, ht⟩ := xir.2.2.2 (by omega)
          have c1 := ht.2 k hlt
          have l1 : (k : Int) < (F.set.length : Int) := by omega
          by_cases b1 : 0 ≤ gi F.set k ∧ gi F.set k ≤ F.size - 1
          · have p1 : decide (0 ≤ gi F.set k ∧ gi F.set k ≤ F.size - 1) = true := by simpa using b1
            by_cases b3 : 0 < k
            · have c2 := ht.2 (k - 1) (by omega)
              have p3 : decide ((0 : Int) < (k : Int)) = true := by simp; omega
              have l2 : ((k : Int) - 1) < (F.set.length : Int) := by omega
              have l3 : (0 : Int) ≤ ((k : Int) - 1) := by omega
              by_cases b4 : gi F.set k ≤ gi F.set (k - 1)
              · have p4 : decide (gi F.set k ≤ gi F.set (k - 1)) = true := by simpa using b4
                have HR : Hid (nz (bitE F) F.set.length = 4) := Lib.hid (by
                  have e : bitE F k = 4 := by unfold bitE; rw [if_neg (by omega), if_pos ⟨b3, b4⟩]
                  rw [nz_hit HA.out hlt (by omega), e])
                clear b1 b4
                go_wp2
                go_quiet (first | (go_at_call 25; exact Calls.quiet_of_same (w_swap (between_any _ _ _ _))))
                rw [p1]
                go_wp2
                go_quiet (fail)
                go_wp2
                go_ret
                exact ⟨ret_int HR.out.symm, below_drewN (below_drewN HBr _) _⟩
              · have p4 : decide (gi F.set k ≤ gi F.set (k - 1)) = false := by simpa using b4
                have HE : Hid (bitE F k = 0) := Lib.hid (by unfold bitE; rw [if_neg (by omega), if_neg (by omega)])
                clear b1 b4
                go_wp2
                go_quiet (first | (go_at_call 25; exact Calls.quiet_of_same (w_swap (between_any _ _ _ _))))
                rw [p1]
                go_wp2
                go_quiet (fail)
                go_wp2
                go_roundw
                case rel => exact ⟨k + 1, by omega, by go_num, Lib.hid (fun j hj => by
                  by_cases x : j = k
                  · subst x; exact HE.out
                  · exact HA.out j (by omega)), below_drewN HB _⟩
                case measure => simp [intOf]; omega
            · obtain rfl : k = 0 := by omega
              rw [Nat.add_zero] at c1
              have p3 : decide ((0 : Int) < ((0 : Nat) : Int)) = false := by simp
              have HE : Hid (bitE F 0 = 0) := Lib.hid (by unfold bitE; rw [if_neg (by omega), if_neg (by omega)])
              clear b1
              go_wp2
              go_quiet (first | (go_at_call 25; exact Calls.quiet_of_same (w_swap (between_any _ _ _ _))))
              rw [p1]
              go_wp2
              go_quiet (fail)
              go_wp2
              go_roundw
              case rel => exact ⟨1, by omega, by go_num, Lib.hid (fun j hj => by
                obtain rfl : j = 0 := by omega
                exact HE.out), below_drewN HB _⟩
              case measure => simp [intOf]; omega
          · have p1 : decide (0 ≤ gi F.set k ∧ gi F.set k ≤ F.size - 1) = false := by simpa using b1
            have HR : Hid (nz (bitE F) F.set.length = 3) := Lib.hid (by
              have e : bitE F k = 3 := by unfold bitE; rw [if_pos (by omega)]
              rw [nz_hit HA.out hlt (by omega), e])
            clear b1
            go_wp2
            go_quiet (first | (go_at_call 25; exact Calls.quiet_of_same (w_swap (between_any _ _ _ _))))
            rw [p1]
            go_wp2
            go_ret
            exact ⟨ret_int HR.out.symm, below_drewN HBr _⟩
        · obtain rfl : k = F.set.length := by omega
          have HR := Lib.hid (nz_zero HA.out)
          go_wp2
          go_ret
          exact ⟨ret_int HR.out.symm, HBr⟩
    · rw [headE_3 (by omega)]
      have q2 : decide (1 ≤ F.hashes ∧ F.hashes ≤ 8) = false := by simpa using a2
      clear a1 a2
      go_enter Try.func12, Try.ntmps12
      go_wp2_with fail
      refine (between_any _ _ _ _).mono ?_
      rintro e w1 ⟨rfl, rfl⟩
      rw [q1]
      go_wp2_with fail
      refine (between_any _ _ _ _).mono ?_
      rintro e w1 ⟨rfl, rfl⟩
      rw [q2]
      go_wp2
      go_ret
      exact ⟨rfl, HW _⟩
  · rw [headE_3 (by omega)]
    have q1 : decide (1 ≤ F.size ∧ F.size ≤ 1024) = false := by simpa using a1
    clear a1
    go_enter Try.func12, Try.ntmps12
    go_wp2_with fail
    refine (between_any _ _ _ _).mono ?_
    rintro e w1 ⟨rfl, rfl⟩
    rw [q1]
    go_wp2
    go_ret
    exact ⟨rfl, HW _⟩

end Go.Proofs.Ytnnnjmelbnnnjaa
