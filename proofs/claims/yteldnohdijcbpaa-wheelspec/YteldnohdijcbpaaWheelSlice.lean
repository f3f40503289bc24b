/-
  Parts of a row of timers: list[k:] and list[:k].
-/
import Derived.Test.YteldnohdijcbpaaWheelApi
namespace Go.Proofs.Yteldnohdijcbpaa.Whl
open Go.RowKit Go.Maps
set_option linter.unusedVariables false

theorem gt_drop (L : List Tm) (k i : Nat) : gt (L.drop k) i = gt L (k + i) := by simp [gt, List.getD_eq_getElem?_getD]
theorem gt_take {L : List Tm} {k i : Nat} (h : i < k) : gt (L.take k) i = gt L i := by simp [gt, List.getD_eq_getElem?_getD, h]
theorem elemT : Try.prog.underlying 32 = some (.slice (Try.prog.elem 32)) := by kernel_rfl
theorem sizeT (w : World) : (sizeOf (Try.prog.elem 32)).run Try.prog w = .ok 2 w := by kernel_rfl

theorem slice_from {A : Option Addr} {c : Nat} {L : List Tm} {k : Nat} {w : World} (hT : Tms w A c L) (hk : k ≤ L.length) :
    ∃ A' c', (∀ W : World, (Instr.slice 32 (.slice A L.length c) (some (.int .i64 (k : Int))) none none).run Try.prog W = .ok (.slice A' (L.drop k).length c') W) ∧
      Tms w A' c' (L.drop k) ∧ (∀ a, A' = some a → ∃ a0, A = some a0 ∧ a.block = a0.block) := by
  have hc := hT.1
  refine ⟨if c = k then A else A.map (·.add (k * 2)), c - k, fun W => ?_, ?_, ?_⟩
  · rw [run_slice_l W _ A L.length c elemT .i64 (k : Int) (by omega) (by omega), sizeT]
    simp [sliced]
  · refine ⟨by rw [List.length_drop]; omega, by have := hT.2.1; omega, fun e => ?_, fun h0 => ?_⟩
    · split at e
      · omega
      · cases A with
        | none => have := hT.2.2.1 rfl; omega
        | some a => simp at e
    · rw [List.length_drop] at h0
      obtain ⟨b, o, rfl, ht⟩ := hT.2.2.2 (by omega)
      rw [if_neg (by omega)]
      refine ⟨b, o + k * 2, by simp [Addr.add_lit], ht.1, fun i hi => ?_⟩
      rw [List.length_drop] at hi
      rw [gt_drop]
      have := ht.2 (k + i) (by omega)
      rw [show o + k * 2 + i * 2 = o + (k + i) * 2 by omega]
      exact this
  · intro a ha
    split at ha
    · exact ⟨a, ha, rfl⟩
    · cases A with
      | none => simp at ha
      | some a0 =>
        refine ⟨a0, rfl, ?_⟩
        simp only [Option.map_some, Option.some.injEq] at ha
        rw [← ha]
        unfold Addr.add
        split <;> rfl
theorem slice_upto {A : Option Addr} {c : Nat} {L : List Tm} {k : Nat} {w : World} (hT : Tms w A c L) (hk : k ≤ L.length) (hA : ∀ a, A = some a → a.spot = none) :
    (∀ W : World, (Instr.slice 32 (.slice A L.length c) none (some (.int .i64 (k : Int))) none).run Try.prog W = .ok (.slice A (L.take k).length c) W) ∧ Tms w A c (L.take k) := by
  have hc := hT.1
  have hl : (L.take k).length = k := by rw [List.length_take]; omega
  refine ⟨fun W => ?_, ?_⟩
  · rw [run_slice_h W _ A L.length c elemT .i64 (k : Int) (by omega) (by omega), sizeT, hl]
    have e : A.map (fun x => x.add 0) = A := by
      cases A with
      | none => rfl
      | some a =>
        obtain ⟨b, o, s⟩ := a
        obtain rfl : s = none := hA _ rfl
        simp [Addr.add_lit]
    simp [sliced, e]
  · refine ⟨by omega, hT.2.1, hT.2.2.1, fun h0 => ?_⟩
    obtain ⟨b, o, e, ht⟩ := hT.2.2.2 (by omega)
    refine ⟨b, o, e, ht.1, fun i hi => ?_⟩
    rw [hl] at hi
    rw [gt_take hi]
    exact ht.2 i (by omega)

end Go.Proofs.Yteldnohdijcbpaa.Whl
