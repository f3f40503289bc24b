/-
  The reference: comesAgain, BestNext.
-/
import Derived.Test.YtmhhiddnkdcflaaOptMath
import Derived.Test.YtmhhiddnkdcflaaTwoRows
import Derived.BigQuiet
namespace Go.Proofs.Ytmhhiddnkdcflaa.Opt
open Go.RowKit
open Bst
open Two (bel_drewN dnI)
set_option linter.unusedVariables false
set_option maxRecDepth 100000

theorem comes_any (A : Option Addr) (c : Nat) (L : List Int) (i : Nat) (y : Int) (w : World) (hI : Ints w A c L) (hi : i ≤ L.length) :
    Calls Try.prog 27 #[.slice A L.length c, .int .i64 (i : Int), .int .i64 y] w fun e w' => e = .returned (.int .i64 (again L i y : Int)) ∧ w' = w := by
  have HI := Lib.hid hI
  have hl := hI.len
  obtain ⟨n, hn⟩ : ∃ n, L.length = n := ⟨_, rfl⟩
  have HN := Lib.hid hn
  rw [hn] at hl hi ⊢
  clear hI hn
  go_enter Try.func27, Try.ntmps27
  go_wp2
  go_loop [7] (fun s7 => ∃ k : Nat, k ≤ n ∧ s7 = .int .i64 (k : Int) ∧ Hid (again L i y = again L k y)) (fun s7 => n - (intOf s7).toNat)
  case atStart => exact ⟨i, hi, rfl, Lib.hid rfl⟩
  case round =>
    obtain ⟨k, hk, rfl, HA⟩ := hrel
    by_cases hlt : k < n
    · have hin : (k : Int) < (n : Int) := by omega
      have hiB : (0 : Int) ≤ (k : Int) := by omega
      have hkL : k < L.length := by rw [HN.out]; exact hlt
      obtain ⟨b, o, rfl, ht⟩ := HI.out.2.2.2 (by omega)
      have e1 := ht.2 k hkL
      clear ht
      by_cases h : gi L k = y
      · have q : (gi L k == y) = true := by simpa using h
        have HE : Hid (again L k y = k) := Lib.hid (by rw [← h]; exact again_hit hkL)
        clear h hkL
        generalize gi L k = x at *
        go_wp2
        go_ret
        exact ⟨Lru.ret_int (by rw [HA.out, HE.out]), rfl⟩
      · have q : (gi L k == y) = false := by simpa using h
        have HE : Hid (again L k y = again L (k + 1) y) := Lib.hid (again_miss hkL h)
        clear h hkL
        generalize gi L k = x at *
        go_wp2
        go_round
        case rel => exact ⟨k + 1, by omega, by go_num, Lib.hid (HA.out.trans HE.out)⟩
        case measure => simp [intOf]; omega
    · obtain rfl : k = n := by omega
      have HE : Hid (again L i y = k) := Lib.hid (by rw [HA.out, ← HN.out]; exact again_end)
      go_wp2
      go_ret
      exact ⟨Lru.ret_int (by rw [HE.out]), rfl⟩

set_option maxHeartbeats 2000000 in
theorem bestNext_any (A : Option Addr) (c : Nat) (L : List Int) (i : Nat) (w : World) (hI : Ints w A c L) (hi : i < L.length) :
    Calls Try.prog 12 #[.slice A L.length c, .int .i64 (i : Int)] w fun e w' => e = .returned (.int .i64 (again L (i + 1) (gi L i) : Int)) ∧ Below w.heap.size w w' := by
  have hl := hI.len
  obtain ⟨b, o, rfl, ht⟩ := hI.2.2.2 (by omega)
  have HI := Lib.hid hI
  have HBl := Lib.hid ht.1
  obtain ⟨y, hy⟩ : ∃ y, y = gi L i := ⟨_, rfl⟩
  have HY := Lib.hid hy
  have hciy := ht.2 i hi
  rw [← hy] at hciy ⊢
  have HCi := Lib.hid hciy
  obtain ⟨n, hn⟩ : ∃ n, L.length = n := ⟨_, rfl⟩
  have HN := Lib.hid hn
  rw [hn] at hl hi ⊢
  clear hI hn ht hy hciy
  have hii : (i : Int) < (n : Int) := by omega
  have hi0 : (0 : Int) ≤ (i : Int) := by omega
  go_enter Try.func12, Try.ntmps12
  go_wp2
  go_loopw [5] (fun s5 wr => ∃ k : Nat, k ≤ n ∧ s5 = .int .i64 (k : Int) ∧ Hid (again L (i + 1) y = again L k y) ∧ Hid (Below w.heap.size w wr)) (fun s5 _ => n - (intOf s5).toNat)
  case atStart => exact ⟨i + 1, hi, by go_num, Lib.hid rfl, Lib.hid (Below.refl _ _)⟩
  case round =>
    obtain ⟨k, hk, rfl, HA, HB⟩ := hrel
    by_cases hlt : k < n
    · have hin : (k : Int) < (n : Int) := by omega
      have hiB : (0 : Int) ≤ (k : Int) := by omega
      have hkL : k < L.length := by rw [HN.out]; exact hlt
      have e2 : wr.cell? ⟨b, o + i, none⟩ = some (.int .i64 y) := (HB.out.cell (p := ⟨b, _, none⟩) HBl.out).trans HCi.out
      have e1 : wr.cell? ⟨b, o + k, none⟩ = some (.int .i64 (gi L k)) := by
        obtain ⟨b', o', e, ht⟩ := (HI.out.below HB.out).2.2.2 (by omega)
        cases e
        exact ht.2 k hkL
      have HBn := Lib.hid (fun q => bel_drewN HB.out q)
      by_cases h : gi L k = y
      · have q : (gi L k == y) = true := by simpa using h
        have HE : Hid (again L k y = k) := Lib.hid (by rw [← h]; exact again_hit hkL)
        clear h hkL
        generalize gi L k = x at *
        go_wp2
        go_quiet (fail)
        go_wp2
        go_ret
        exact ⟨Lru.ret_int (by rw [HA.out, HE.out]), HBn.out _⟩
      · have q : (gi L k == y) = false := by simpa using h
        have HE : Hid (again L k y = again L (k + 1) y) := Lib.hid (again_miss hkL h)
        clear h hkL
        generalize gi L k = x at *
        go_wp2
        go_quiet (fail)
        go_wp2
        go_roundw
        case rel => exact ⟨k + 1, by omega, by go_num, Lib.hid (HA.out.trans HE.out), Lib.hid (HBn.out _)⟩
        case measure => simp [intOf]; omega
    · obtain rfl : k = n := by omega
      have HE : Hid (again L (i + 1) y = k) := Lib.hid (by rw [HA.out, ← HN.out]; exact again_end)
      go_wp2
      go_ret
      exact ⟨Lru.ret_int (by rw [HE.out]), HB.out⟩

end Go.Proofs.Ytmhhiddnkdcflaa.Opt
