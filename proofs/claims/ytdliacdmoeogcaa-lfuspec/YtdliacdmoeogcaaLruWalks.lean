/-
  Package lru: a cache in memory; isRoom, isKey, Check, CheckTrace.
-/
import Derived.Test.YtdliacdmoeogcaaLruLib
import Derived.Deep.RegionHeld3
namespace Go.Proofs.Ytdliacdmoeogcaa.Lru
open Go.RowKit
set_option linter.unusedVariables false

/-! ### Parts of a row -/
theorem gi_drop (L : List Int) (k i : Nat) : gi (L.drop k) i = gi L (k + i) := by simp [gi, List.getD_eq_getElem?_getD]
theorem gi_take {L : List Int} {k i : Nat} (h : i < k) : gi (L.take k) i = gi L i := by simp [gi, List.getD_eq_getElem?_getD, h]
theorem elemI : Try.prog.underlying 25 = some (.slice (Try.prog.elem 25)) := by kernel_rfl
theorem sizeI (w : World) : (sizeOf (Try.prog.elem 25)).run Try.prog w = .ok 1 w := by kernel_rfl
theorem slice_upto {A : Option Addr} {c : Nat} {L : List Int} {k : Nat} {w : World} (hT : Ints w A c L) (hk : k ≤ L.length) :
    ∃ A', (∀ W : World, (Instr.slice 25 (.slice A L.length c) none (some (.int .i64 (k : Int))) none).run Try.prog W = .ok (.slice A' (L.take k).length c) W) ∧ Ints w A' c (L.take k) ∧ (∀ a, A' = some a → ∃ a0, A = some a0 ∧ a.block = a0.block) := by
  have hc := hT.1
  have hl : (L.take k).length = k := by rw [List.length_take]; omega
  refine ⟨if c = 0 then A else A.map (·.add 0), fun W => ?_, ?_, ?_⟩
  · rw [run_slice_h W _ A L.length c elemI .i64 (k : Int) (by omega) (by omega), sizeI, hl]
    simp [sliced]
  · refine ⟨by omega, hT.2.1, fun e => ?_, fun h0 => ?_⟩
    · split at e
      · assumption
      · exact hT.2.2.1 (by cases A with | none => rfl | some a => simp at e)
    · obtain ⟨b, o, rfl, ht⟩ := hT.2.2.2 (by omega)
      rw [if_neg (by omega)]
      refine ⟨b, o, by simp [Addr.add_lit], ht.1, fun i hi => ?_⟩
      rw [hl] at hi
      rw [gi_take hi]
      exact ht.2 i (by omega)
  · intro a ha
    split at ha
    · exact ⟨a, ha, rfl⟩
    · cases A with
      | none => simp at ha
      | some a0 =>
        refine ⟨a0, rfl, ?_⟩
        simp only [Option.map_some, Option.some.injEq] at ha
        rw [← ha]
        unfold Addr.add
        split <;> rfl
theorem slice_from {A : Option Addr} {c : Nat} {L : List Int} {k : Nat} {w : World} (hT : Ints w A c L) (hk : k ≤ L.length) :
    ∃ A' c', (∀ W : World, (Instr.slice 25 (.slice A L.length c) (some (.int .i64 (k : Int))) none none).run Try.prog W = .ok (.slice A' (L.drop k).length c') W) ∧ Ints w A' c' (L.drop k) := by
  have hc := hT.1
  refine ⟨if c = k then A else A.map (·.add (k * 1)), c - k, fun W => ?_, ?_⟩
  · rw [run_slice_l W _ A L.length c elemI .i64 (k : Int) (by omega) (by omega), sizeI]
    simp [sliced]
  · refine ⟨by rw [List.length_drop]; omega, by have := hT.2.1; omega, fun e => ?_, fun h0 => ?_⟩
    · split at e
      · omega
      · cases A with
        | none => have := hT.2.2.1 rfl; omega
        | some a => simp at e
    · rw [List.length_drop] at h0
      obtain ⟨b, o, rfl, ht⟩ := hT.2.2.2 (by omega)
      rw [if_neg (by omega)]
      refine ⟨b, o + k, by simp [Addr.add_lit], ht.1, fun i hi => ?_⟩
      rw [List.length_drop] at hi
      rw [gi_drop, Nat.add_assoc]
      exact ht.2 (k + i) (by omega)

theorem isKey_any (n : Int) (w : World) : Calls Try.prog 30 #[.int .i64 n] w fun e w' => e = .returned (.bool (decide (isK n))) ∧ w = w' := by
  by_cases h : 0 ≤ n
  · have hd : decide (0 ≤ n) = true := by simpa using h
    have HE : Hid (decide (isK n) = decide (n ≤ 1048576)) := Lib.hid (by simp [isK, h])
    clear h
    go_enter Try.func30, Try.ntmps30
    go_wp2
    go_ret
    exact ⟨ret_bool HE.out.symm, rfl⟩
  · have hd : decide (0 ≤ n) = false := by simpa using h
    have HE : Hid (decide (isK n) = false) := Lib.hid (decide_eq_false (fun hh => h hh.1))
    clear h
    go_enter Try.func30, Try.ntmps30
    go_wp2
    go_ret
    exact ⟨ret_bool HE.out.symm, rfl⟩

/-! ### Check, CheckTrace -/
theorem ret_int {a b : Int} (h : a = b) : Ending.returned (.int .i64 a) = .returned (.int .i64 b) := by rw [h]
theorem keysE_at {L : List Int} {k : Nat} (hk : k < L.length) : keysE (L.take k) (L.drop k) = if isK (gi L k) then (if gi L k ∈ L.take k then 6 else keysE (L.take (k + 1)) (L.drop (k + 1))) else 3 := by
  rw [List.drop_eq_getElem_cons hk, ← gi_get hk]
  have : L.take (k + 1) = L.take k ++ [gi L k] := by rw [List.take_add_one, List.getElem?_eq_getElem hk, gi_get hk]; rfl
  rw [this]
  rfl

set_option maxHeartbeats 1000000 in
theorem checkTrace_any (A : Option Addr) (c : Nat) (L : List Int) (w : World) (hI : Ints w A c L) :
    Calls Try.prog 23 #[.slice A L.length c] w fun e w' => e = .returned (.int .i64 (traceE L)) ∧ w = w' := by
  have hlen := hI.len
  by_cases h1 : 200 < L.length
  · have HE : Hid (traceE L = 2) := Lib.hid (by unfold traceE; rw [if_pos h1])
    have p1 : decide (200 < (L.length : Int)) = true := by simp; omega
    clear h1 hI
    go_enter Try.func23, Try.ntmps23
    go_wp2
    go_ret
    exact ⟨ret_int HE.out.symm, rfl⟩
  · have p1 : decide (200 < (L.length : Int)) = false := by simp; omega
    have H1 := Lib.hid h1
    clear h1
    have HI := Lib.hid hI
    clear hI
    go_enter Try.func23, Try.ntmps23
    go_wp2
    go_loop [10] (fun i => ∃ k : Nat, k ≤ L.length ∧ i = .int .i64 (k : Int) ∧ Hid (∀ j, j < k → isK (gi L j))) (fun i => L.length - (intOf i).toNat)
    case atStart => exact ⟨0, by omega, rfl, Lib.hid (fun j hj => by omega)⟩
    case round =>
      obtain ⟨k, hk, rfl, HA⟩ := hrel
      by_cases hlt : k < L.length
      · obtain ⟨b, o, rfl, ht⟩ := HI.out.2.2.2 (by omega)
        have e1 := ht.2 k hlt
        clear ht
        have HIs := Lib.hid (isKey_any (gi L k) w)
        by_cases q1 : isK (gi L k)
        · rw [show decide (isK (gi L k)) = true by simpa using q1] at HIs
          have HQ := Lib.hid q1
          clear q1
          go_wp2_with fail
          refine HIs.out.mono ?_
          rintro e w' ⟨rfl, rfl⟩
          go_wp2
          go_round
          case rel => exact ⟨k + 1, by omega, by go_num, Lib.hid (fun j hj => by
            by_cases x : j = k
            · subst x; exact HQ.out
            · exact HA.out j (by omega))⟩
          case measure => simp [intOf]; omega
        · rw [show decide (isK (gi L k)) = false by simpa using q1] at HIs
          have HE : Hid (traceE L = 3) := Lib.hid (by unfold traceE; rw [if_neg H1.out, if_neg (fun h => q1 (h _ (gi_mem hlt)))])
          clear q1
          go_wp2_with fail
          refine HIs.out.mono ?_
          rintro e w' ⟨rfl, rfl⟩
          go_wp2
          go_ret
          exact ⟨ret_int HE.out.symm, rfl⟩
      · obtain rfl : k = L.length := by omega
        have HE : Hid (traceE L = 0) := Lib.hid (by
          rw [trace_zero]
          refine ⟨by have := H1.out; omega, fun x hx => ?_⟩
          obtain ⟨i, hi, e⟩ := List.getElem_of_mem hx
          have := HA.out i hi
          rwa [gi_get hi, e] at this)
        go_wp2
        go_ret
        exact ⟨ret_int HE.out.symm, rfl⟩

end Go.Proofs.Ytdliacdmoeogcaa.Lru
