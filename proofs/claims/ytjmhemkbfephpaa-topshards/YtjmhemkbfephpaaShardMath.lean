/-
  Rendezvous hashing: who has the greatest score.
-/
import Derived.Test.YtjmhemkbfephpaaLruMath
namespace Go.Proofs.Ytjmhemkbfephpaa.Shd
set_option linter.unusedVariables false

/-- i is the first of the greatest among those below n that are in question. -/
def IsBest (f : Nat → Nat) (ok : Nat → Prop) (n i : Nat) : Prop := i < n ∧ ok i ∧ ∀ j, j < n → ok j → f j ≤ f i ∧ (j < i → f j < f i)
section
variable {f g : Nat → Nat} {ok : Nat → Prop} {n i j : Nat}
theorem best_uniq (h : IsBest f ok n i) (k : IsBest f ok n j) : i = j := by
  obtain ⟨h1, h2, h3⟩ := h
  obtain ⟨k1, k2, k3⟩ := k
  have a := h3 j k1 k2
  have b := k3 i h1 h2
  by_cases c : i < j
  · have := b.2 c; omega
  · by_cases d : j < i
    · have := a.2 d; omega
    · omega
/-- The next one is looked at: it is not in question. -/
theorem best_skip (h : IsBest f ok n i) (hn : ¬ ok n) : IsBest f ok (n + 1) i := by
  obtain ⟨h1, h2, h3⟩ := h
  refine ⟨by omega, h2, fun j hj hk => ?_⟩
  by_cases e : j = n
  · subst e; exact absurd hk hn
  · exact h3 j (by omega) hk
theorem best_keep (h : IsBest f ok n i) (hn : ¬ f i < f n) : IsBest f ok (n + 1) i := by
  obtain ⟨h1, h2, h3⟩ := h
  refine ⟨by omega, h2, fun j hj hk => ?_⟩
  by_cases e : j = n
  · subst e; exact ⟨by omega, fun h => by omega⟩
  · exact h3 j (by omega) hk
theorem best_take (h : IsBest f ok n i) (hk : ok n) (hn : f i < f n) : IsBest f ok (n + 1) n := by
  obtain ⟨h1, h2, h3⟩ := h
  refine ⟨by omega, hk, fun j hj hk => ?_⟩
  by_cases e : j = n
  · subst e; exact ⟨Nat.le_refl _, fun h => by omega⟩
  · have := (h3 j (by omega) hk).1
    exact ⟨by omega, fun _ => by omega⟩
theorem best_first (h : ∀ j, j < n → ¬ ok j) (hk : ok n) : IsBest f ok (n + 1) n :=
  ⟨by omega, hk, fun j hj hkj => by
    by_cases e : j = n
    · subst e; exact ⟨Nat.le_refl _, fun h => by omega⟩
    · exact absurd hkj (h j (by omega))⟩
end
theorem best_exists {f : Nat → Nat} {ok : Nat → Prop} [DecidablePred ok] : ∀ (n : Nat), (∀ j, j < n → ¬ ok j) ∨ ∃ i, IsBest f ok n i
  | 0 => .inl (fun j h => by omega)
  | n + 1 => by
    by_cases hk : ok n
    · rcases best_exists (f := f) (ok := ok) n with h | ⟨i, h⟩
      · exact .inr ⟨n, best_first h hk⟩
      · by_cases hf : f i < f n
        · exact .inr ⟨n, best_take h hk hf⟩
        · exact .inr ⟨i, best_keep h hf⟩
    · rcases best_exists (f := f) (ok := ok) n with h | ⟨i, h⟩
      · refine .inl (fun j hj => ?_)
        by_cases e : j = n
        · subst e; exact hk
        · exact h j (by omega)
      · exact .inr ⟨i, best_skip h hk⟩

/-! ### One shard less -/
/-- The place of j when place a has been taken out. -/
def shift (a j : Nat) : Nat := if j < a then j else j - 1
/-- The place that stands at k when place a has been taken out. -/
def back (a k : Nat) : Nat := if k < a then k else k + 1
theorem back_shift {a j : Nat} (h : j ≠ a) : back a (shift a j) = j := by
  unfold back shift
  by_cases h1 : j < a
  · rw [if_pos h1, if_pos h1]
  · rw [if_neg h1]
    split <;> omega
theorem back_ne (a k : Nat) : back a k ≠ a := by unfold back; split <;> omega
theorem back_lt {a k n : Nat} (ha : a < n + 1) (h : k < n) : back a k < n + 1 := by unfold back; split <;> omega
theorem shift_lt {a j n : Nat} (ha : a < n + 1) (h : j < n + 1) (hne : j ≠ a) : shift a j < n := by unfold shift; split <;> omega
theorem back_mono {a i j : Nat} (h : i < j) : back a i < back a j := by unfold back; split <;> split <;> omega
theorem shift_mono {a i j : Nat} (hi : i ≠ a) (hj : j ≠ a) (h : i < j) : shift a i < shift a j := by unfold shift; split <;> split <;> omega
/-- The best of those that are left is the best but a. -/
theorem best_less {f : Nat → Nat} {a n i : Nat} (ha : a < n + 1) (h : IsBest f (fun j => j ≠ a) (n + 1) i) : IsBest (fun k => f (back a k)) (fun _ => True) n (shift a i) := by
  obtain ⟨h1, h2, h3⟩ := h
  refine ⟨shift_lt ha h1 h2, trivial, fun k hk _ => ?_⟩
  have := h3 (back a k) (back_lt ha hk) (back_ne a k)
  show f (back a k) ≤ f (back a (shift a i)) ∧ (k < shift a i → f (back a k) < f (back a (shift a i)))
  rw [back_shift h2]
  refine ⟨this.1, fun hlt => this.2 ?_⟩
  have := back_mono (a := a) hlt
  rwa [back_shift h2] at this
/-- Without a, the best is the best of all, if that is not a, and the second one, if it is. -/
theorem best_but {f : Nat → Nat} {a n i j : Nat} (h : IsBest f (fun _ => True) n i) (k : IsBest f (fun x => x ≠ i) n j) : IsBest f (fun x => x ≠ a) n (if i = a then j else i) := by
  by_cases e : i = a
  · subst e; rw [if_pos rfl]; exact k
  · rw [if_neg e]
    exact ⟨h.1, e, fun x hx _ => h.2.2 x hx trivial⟩

/-! ### A greater weight -/
theorem best_more {f g : Nat → Nat} {a n i j : Nat} (h : IsBest f (fun _ => True) n i) (k : IsBest g (fun _ => True) n j) (hg : ∀ x, x ≠ a → g x = f x) (ha : f a ≤ g a) : (i = a → j = a) ∧ (j ≠ a → i = j) := by
  have key : j ≠ a → i = j := fun hj => by
    refine best_uniq h ⟨k.1, trivial, fun x hx _ => ?_⟩
    have h1 := k.2.2 x hx trivial
    rw [hg j hj] at h1
    by_cases e : x = a
    · subst e
      exact ⟨by omega, fun hl => by have := h1.2 hl; omega⟩
    · rw [hg x e] at h1; exact h1
  refine ⟨fun hi => ?_, key⟩
  by_cases e : j = a
  · exact e
  · have := key e; omega
/-- The greatest of the first k numbers. -/
def top (h : Nat → Nat) : Nat → Nat
  | 0 => 0
  | k + 1 => if top h k < h k then h k else top h k
theorem top_mono (h : Nat → Nat) (k : Nat) : top h k ≤ top h (k + 1) := by show _ ≤ (if _ then _ else _); split <;> omega

end Go.Proofs.Ytjmhemkbfephpaa.Shd
