/-
  Package lru: a cache in memory; isRoom, isKey, Check, CheckTrace.
-/
import Derived.Test.YtgecmgldamdpgaaLruLib
import Derived.Deep.RegionHeld3
namespace Go.Proofs.Ytgecmgldamdpgaa.Lru
open Go.RowKit
set_option linter.unusedVariables false

/-! ### Parts of a row -/
theorem gi_drop (L : List Int) (k i : Nat) : gi (L.drop k) i = gi L (k + i) := by simp [gi, List.getD_eq_getElem?_getD]
theorem gi_take {L : List Int} {k i : Nat} (h : i < k) : gi (L.take k) i = gi L i := by simp [gi, List.getD_eq_getElem?_getD, h]
theorem elemI : Try.prog.underlying 26 = some (.slice (Try.prog.elem 26)) := by kernel_rfl
theorem sizeI (w : World) : (sizeOf (Try.prog.elem 26)).run Try.prog w = .ok 1 w := by kernel_rfl
theorem slice_upto {A : Option Addr} {c : Nat} {L : List Int} {k : Nat} {w : World} (hT : Ints w A c L) (hk : k ≤ L.length) :
    ∃ A', (∀ W : World, (Instr.slice 26 (.slice A L.length c) none (some (.int .i64 (k : Int))) none).run Try.prog W = .ok (.slice A' (L.take k).length c) W) ∧ Ints w A' c (L.take k) ∧ (∀ a, A' = some a → ∃ a0, A = some a0 ∧ a.block = a0.block) := by
  have hc := hT.1
  have hl : (L.take k).length = k := by rw [List.length_take]; omega
  refine ⟨if c = 0 then A else A.map (·.add 0), fun W => ?_, ?_, ?_⟩
  · rw [run_slice_h W _ A L.length c elemI .i64 (k : Int) (by omega) (by omega), sizeI, hl]
    simp [sliced]
  · refine ⟨by omega, hT.2.1, fun e => ?_, fun h0 => ?_⟩
    · split at e
      · assumption
      · exact hT.2.2.1 (by cases A with | none => rfl | some a => simp at e)
    · obtain ⟨b, o, rfl, ht⟩ := hT.2.2.2 (by omega)
      rw [if_neg (by omega)]
      refine ⟨b, o, by simp [Addr.add_lit], ht.1, fun i hi => ?_⟩
      rw [hl] at hi
      rw [gi_take hi]
      exact ht.2 i (by omega)
  · intro a ha
    split at ha
    · exact ⟨a, ha, rfl⟩
    · cases A with
      | none => simp at ha
      | some a0 =>
        refine ⟨a0, rfl, ?_⟩
        simp only [Option.map_some, Option.some.injEq] at ha
        rw [← ha]
        unfold Addr.add
        split <;> rfl
theorem slice_from {A : Option Addr} {c : Nat} {L : List Int} {k : Nat} {w : World} (hT : Ints w A c L) (hk : k ≤ L.length) :
    ∃ A' c', (∀ W : World, (Instr.slice 26 (.slice A L.length c) (some (.int .i64 (k : Int))) none none).run Try.prog W = .ok (.slice A' (L.drop k).length c') W) ∧ Ints w A' c' (L.drop k) := by
  have hc := hT.1
  refine ⟨if c = k then A else A.map (·.add (k * 1)), c - k, fun W => ?_, ?_⟩
  · rw [run_slice_l W _ A L.length c elemI .i64 (k : Int) (by omega) (by omega), sizeI]
    simp [sliced]
  · refine ⟨by rw [List.length_drop]; omega, by have := hT.2.1; omega, fun e => ?_, fun h0 => ?_⟩
    · split at e
      · omega
      · cases A with
        | none => have := hT.2.2.1 rfl; omega
        | some a => simp at e
    · rw [List.length_drop] at h0
      obtain ⟨b, o, rfl, ht⟩ := hT.2.2.2 (by omega)
      rw [if_neg (by omega)]
      refine ⟨b, o + k, by simp [Addr.add_lit], ht.1, fun i hi => ?_⟩
      rw [List.length_drop] at hi
      rw [gi_drop, Nat.add_assoc]
      exact ht.2 (k + i) (by omega)

/-! ### Check, CheckTrace -/
theorem ret_int {a b : Int} (h : a = b) : Ending.returned (.int .i64 a) = .returned (.int .i64 b) := by rw [h]
theorem keysE_at {L : List Int} {k : Nat} (hk : k < L.length) : keysE (L.take k) (L.drop k) = if isK (gi L k) then (if gi L k ∈ L.take k then 6 else keysE (L.take (k + 1)) (L.drop (k + 1))) else 3 := by
  rw [List.drop_eq_getElem_cons hk, ← gi_get hk]
  have : L.take (k + 1) = L.take k ++ [gi L k] := by rw [List.take_add_one, List.getElem?_eq_getElem hk, gi_get hk]; rfl
  rw [this]
  rfl

end Go.Proofs.Ytgecmgldamdpgaa.Lru
