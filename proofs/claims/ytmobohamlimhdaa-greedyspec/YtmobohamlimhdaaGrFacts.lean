/-
  What Access's answers are, told by its error; what it does to an item.
-/
import Derived.Test.YtmobohamlimhdaaGrBegun
namespace Go.Proofs.Ytmobohamlimhdaa.Grd
open Go.RowKit
open Lru (isK)
set_option linter.unusedVariables false
set_option maxRecDepth 100000

theorem acE_zero {r fl : Int} {L : List It} {t : It} : acE r fl L t = 0 ↔ Good r fl L ∧ okI t := by
  unfold acE
  by_cases h : checkG 8 r fl L = 0
  · rw [if_pos h]
    have g := (check_zero (full := 8) (by decide)).1 h
    by_cases h2 : okI t
    · rw [if_pos h2]; exact ⟨fun _ => ⟨g, h2⟩, fun _ => rfl⟩
    · rw [if_neg h2]; exact ⟨fun e => (by cases e), fun e => absurd e.2 h2⟩
  · rw [if_neg h]; exact ⟨fun e => absurd e h, fun e => absurd ((check_zero (full := 8) (by decide)).2 e.1) h⟩
theorem ac_bad {r fl : Int} {L : List It} {t : It} (h : ¬ acE r fl L t = 0) : acR r fl L t = 0 ∧ acF r fl L t = 0 ∧ acL r fl L t = [] ∧ acH r fl L t = false ∧ acG r fl L t = [] := by
  unfold acR acF acL acH acG
  simp only [if_neg h, and_self]
theorem ac_good {r fl : Int} {L : List It} {t : It} (h : acE r fl L t = 0) : acR r fl L t = r ∧ acF r fl L t = (tch r fl L t).floor ∧ acL r fl L t = (tch r fl L t).left ∧ acH r fl L t = decide (t.key ∈ keys L) ∧ acG r fl L t = keys (tch r fl L t).gone := by
  unfold acR acF acL acH acG
  simp only [if_pos h, and_self]
theorem tch_there {r fl : Int} {L : List It} {t : It} : t.key ∈ keys (tch r fl L t).left ↔ t.key ∈ keys L ∨ t.size ≤ r := by
  unfold tch
  by_cases h1 : t.key ∈ keys L
  · rw [if_pos h1]
    obtain ⟨hk, -⟩ := hit_at h1
    show t.key ∈ keys (L.set _ _) ↔ _
    rw [keys_set hk (by rfl)]
    exact ⟨fun _ => .inl h1, fun _ => h1⟩
  · rw [if_neg h1]
    by_cases h2 : r < t.size
    · rw [if_pos h2]; exact ⟨fun h => .inl h, fun h => h.elim id (fun h => absurd h (by omega))⟩
    · rw [if_neg h2]; exact ⟨fun _ => .inr (by omega), fun _ => by simp [keys]⟩
theorem tch_hit {r fl : Int} {L : List It} {t : It} (h : t.key ∈ keys L) : (tch r fl L t).gone = [] := by unfold tch; rw [if_pos h]
theorem keys_at {M : List It} {j : Nat} (h : j < M.length) : keys (M.take (j + 1)) = keys (M.take j) ++ [(gt M j).key] := by
  unfold keys
  rw [List.take_add_one, List.getElem?_eq_getElem h, Option.toList_some, List.map_append, gt_get h]; rfl
theorem mem_at {M : List It} {j : Nat} {x : Int} (h : j < M.length) : decide (x ∈ keys (M.take (j + 1))) = (decide (x ∈ keys (M.take j)) || decide ((gt M j).key = x)) := by
  rw [keys_at h]
  generalize (gt M j).key = y
  by_cases a : x ∈ keys (M.take j)
  · simp [a]
  · by_cases b : y = x
    · simp [b]
    · have b' : ¬ x = y := fun e => b e.symm
      simp [a, b, b']
theorem VK.bel {w w' : World} {p : Nat} {r fl : Int} {A : Option Addr} {n c : Nat} {L : List It} (h : VK w p r fl A n c L) {B : Nat} (hb : Below B w w') (hB : w.heap.size ≤ B) : VK w' p r fl A n c L := h.below (hb.mono hB)
theorem Ints.set3' {w : World} {A : Option Addr} {c p : Nat} {L : List Int} (h : Ints w A c L) (hp : ∀ a, A = some a → p ≠ a.block) (x y z : Value) : Ints (((w.setCell ⟨p, 0, none⟩ x).setCell ⟨p, 1, none⟩ y).setCell ⟨p, 2, none⟩ z) A c L :=
  ((h.setCell (p := ⟨p, 0, none⟩) (fun a ha e => hp a ha e.symm) x).setCell (p := ⟨p, 1, none⟩) (fun a ha e => hp a ha e.symm) y).setCell (p := ⟨p, 2, none⟩) (fun a ha e => hp a ha e.symm) z

end Go.Proofs.Ytmobohamlimhdaa.Grd
