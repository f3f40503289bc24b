/-
  The policy that knows the future, place by place of the trace; the reference's choices; the fewest misses by looking through all.
-/
import Derived.Test.YtgdklpgmoanfkaaBestMath
namespace Go.Proofs.Ytgdklpgmoanfkaa.Bst
set_option linter.unusedVariables false

/-! ### Place by place -/
theorem drop_at {l : List Int} {k : Nat} (h : k < l.length) : l.drop k = gi l k :: l.drop (k + 1) := by
  rw [gi_get h]; exact List.drop_eq_getElem_cons h
/-- The keys ahead of access k. -/
def stK (r : Nat) (l : List Int) : Nat → List Int
  | 0 => []
  | k + 1 => stB r (stK r l k) (gi l k) (l.drop (k + 1))
def gK (r : Nat) (l : List Int) (k : Nat) : Int := if gi l k ∈ stK r l k then -1 else if (stK r l k).length < r then -1 else vic (l.drop (k + 1)) (stK r l k)
/-- Misses so far. -/
def mK (r : Nat) (l : List Int) : Nat → Nat
  | 0 => 0
  | k + 1 => mK r l k + (if gi l k ∈ stK r l k then 0 else 1)
def gsK (r : Nat) (l : List Int) : Nat → List Int
  | 0 => []
  | k + 1 => gsK r l k ++ [gK r l k]
theorem stK_nodup (r : Nat) (l : List Int) : ∀ k, (stK r l k).Nodup
  | 0 => List.nodup_nil
  | k + 1 => stB_nodup (stK_nodup r l k)
theorem stK_len {r : Nat} (hr : 0 < r) (l : List Int) : ∀ k, (stK r l k).length ≤ r
  | 0 => Nat.zero_le _
  | k + 1 => stB_len hr (stK_len hr l k)
theorem missB_cons (r : Nat) (S : List Int) (x : Int) (xs : List Int) : missB r S (x :: xs) = (if x ∈ S then 0 else 1) + missB r (stB r S x xs) xs := rfl
theorem mK_all (r : Nat) (l : List Int) : ∀ k, k ≤ l.length → mK r l k + missB r (stK r l k) (l.drop k) = missB r [] l
  | 0, _ => by show 0 + missB r [] (l.drop 0) = _; simp
  | k + 1, h => by
    have ih := mK_all r l k (by omega)
    rw [drop_at (by omega)] at ih
    show mK r l k + (if gi l k ∈ stK r l k then 0 else 1) + missB r (stB r (stK r l k) (gi l k) (l.drop (k + 1))) (l.drop (k + 1)) = _
    rw [missB_cons] at ih
    omega
theorem mK_end (r : Nat) (l : List Int) : mK r l l.length = missB r [] l := by
  have := mK_all r l l.length (Nat.le_refl _)
  rw [List.drop_length] at this
  simpa [missB] using this
theorem mK_le (r : Nat) (l : List Int) : ∀ k, mK r l k ≤ k
  | 0 => Nat.le_refl _
  | k + 1 => by have := mK_le r l k; unfold mK; split <;> omega
theorem gsK_all (r : Nat) (l : List Int) : ∀ k, k ≤ l.length → gsK r l k ++ goneB r (stK r l k) (l.drop k) = goneB r [] l
  | 0, _ => by show [] ++ goneB r [] (l.drop 0) = _; simp
  | k + 1, h => by
    have ih := gsK_all r l k (by omega)
    rw [drop_at (by omega)] at ih
    show gsK r l k ++ [gK r l k] ++ goneB r (stB r (stK r l k) (gi l k) (l.drop (k + 1))) (l.drop (k + 1)) = _
    rw [List.append_assoc]
    exact ih
theorem gsK_end (r : Nat) (l : List Int) : gsK r l l.length = goneB r [] l := by
  have := gsK_all r l l.length (Nat.le_refl _)
  rw [List.drop_length] at this
  simpa [goneB] using this
theorem gsK_len (r : Nat) (l : List Int) : ∀ k, (gsK r l k).length = k
  | 0 => rfl
  | k + 1 => by unfold gsK; simp [gsK_len r l k]
theorem goneB_len (r : Nat) : ∀ (S l : List Int), (goneB r S l).length = l.length
  | _, [] => rfl
  | S, x :: xs => by unfold goneB; simp only [List.length_cons, goneB_len r]

/-! ### When a key comes again -/
/-- The first place from i on that holds y, or the length. -/
def again (l : List Int) (i : Nat) (y : Int) : Nat := i + nx (l.drop i) y
theorem again_hit {l : List Int} {i : Nat} (h : i < l.length) : again l i (gi l i) = i := by
  unfold again; rw [drop_at h, nx_self]; rfl
theorem again_miss {l : List Int} {i : Nat} {y : Int} (h : i < l.length) (hne : gi l i ≠ y) : again l i y = again l (i + 1) y := by
  unfold again; rw [drop_at h, nx_ne _ hne]; omega
theorem again_end {l : List Int} {y : Int} : again l l.length y = l.length := by
  unfold again; rw [List.drop_length]; rfl
theorem again_le {l : List Int} {i : Nat} {y : Int} (h : i ≤ l.length) : again l i y ≤ l.length := by
  have := nx_le (l.drop i) y
  rw [List.length_drop] at this
  unfold again
  omega
theorem later_again {l : List Int} {i : Nat} {a b : Int} : Later (l.drop i) a b ↔ (again l i b < again l i a ∨ (again l i a = again l i b ∧ a < b)) := by
  unfold Later again; omega

/-- The reference's choice: the place of who goes, among the first k + 1. -/
def bestI (xs S : List Int) : Nat → Nat
  | 0 => 0
  | k + 1 => if Later xs (gi S (k + 1)) (gi S (bestI xs S k)) then k + 1 else bestI xs S k
theorem bestI_le (xs S : List Int) : ∀ k, bestI xs S k ≤ k
  | 0 => Nat.le_refl _
  | k + 1 => by
    have := bestI_le xs S k
    unfold bestI
    split <;> omega
theorem gi_inj {S : List Int} (h : S.Nodup) {i j : Nat} (hi : i < S.length) (hj : j < S.length) (e : gi S i = gi S j) : i = j := by
  rw [gi_get hi, gi_get hj] at e
  exact (List.getElem_inj h).1 e
theorem bestI_spec {xs S : List Int} (hS : S.Nodup) : ∀ k, k < S.length → ∀ j, j ≤ k → j ≠ bestI xs S k → Later xs (gi S (bestI xs S k)) (gi S j)
  | 0, _, j, hj, hne => absurd (by unfold bestI; omega) hne
  | k + 1, hk, j, hj, hne => by
    have ih := bestI_spec (xs := xs) hS k (by omega)
    have hb := bestI_le xs S k
    unfold bestI at hne ⊢
    by_cases h : Later xs (gi S (k + 1)) (gi S (bestI xs S k))
    · rw [if_pos h] at hne ⊢
      by_cases e : j = bestI xs S k
      · rw [e]; exact h
      · exact later_trans h (ih j (by omega) e)
    · rw [if_neg h] at hne ⊢
      by_cases e : j = k + 1
      · subst e
        have hne2 : gi S (k + 1) ≠ gi S (bestI xs S k) := fun e2 => by
          have := gi_inj hS hk (by omega) e2
          omega
        exact (later_or hne2).resolve_left h
      · exact ih j (by omega) hne
theorem bestI_vic {xs S : List Int} (hS : S.Nodup) {n : Nat} (hn : S.length = n + 1) : IsVic xs S (gi S (bestI xs S n)) := by
  have hb := bestI_le xs S n
  refine ⟨gi_mem (by omega), fun y hy hne => ?_⟩
  obtain ⟨j, hj, e⟩ := List.getElem_of_mem hy
  rw [← gi_get hj] at e
  subst e
  exact bestI_spec hS n (by omega) j (by omega) (fun e => hne (by rw [e]))

/-! ### The fewest misses, by looking through all -/
def minK (f : Nat → Nat) (b : Nat) : Nat → Nat
  | 0 => b
  | k + 1 => if f k < minK f b k then f k else minK f b k
theorem minK_le (f : Nat → Nat) (b n : Nat) : ∀ k, minK f b k ≤ n ↔ b ≤ n ∨ ∃ j, j < k ∧ f j ≤ n
  | 0 => by simp [minK]
  | k + 1 => by
    have ih := minK_le f b n k
    unfold minK
    constructor
    · intro h
      by_cases h1 : f k < minK f b k
      · rw [if_pos h1] at h; exact .inr ⟨k, by omega, h⟩
      · rw [if_neg h1] at h
        rcases ih.1 h with h | ⟨j, hj, h⟩
        · exact .inl h
        · exact .inr ⟨j, by omega, h⟩
    · intro h
      by_cases h2 : minK f b k ≤ n
      · by_cases h1 : f k < minK f b k
        · rw [if_pos h1]; omega
        · rw [if_neg h1]; exact h2
      · have h3 : f k ≤ n := by
          rcases h with h | ⟨j, hj, h⟩
          · exact absurd (ih.2 (.inl h)) h2
          · by_cases e : j = k
            · subst e; exact h
            · exact absurd (ih.2 (.inr ⟨j, by omega, h⟩)) h2
        rw [if_pos (by omega)]; exact h3
/-- fewest of the reference: b more than any answer. -/
def few (r b : Nat) : List Int → List Int → Nat
  | _, [] => 0
  | S, x :: xs => if x ∈ S then few r b S xs else if S.length < r then 1 + few r b (S ++ [x]) xs else minK (fun k => 1 + few r b (S.set k x) xs) b S.length
theorem set_perm' {L : List Int} {k : Nat} {x : Int} (hn : L.Nodup) (h : k < L.length) : (L.set k x).Perm (x :: L.erase L[k]) := by
  have hs : L = L.take k ++ L[k] :: L.drop (k + 1) := by rw [← List.drop_eq_getElem_cons h, List.take_append_drop]
  have h1 : L[k] ∉ L.take k := fun m => by
    rw [hs, List.nodup_append] at hn
    exact hn.2.2 _ m _ (List.mem_cons_self ..) rfl
  have e : L.erase L[k] = L.take k ++ L.drop (k + 1) := by
    generalize L[k] = z at *
    conv => lhs; rw [hs]
    rw [List.erase_append_right _ h1, List.erase_cons_head]
  rw [e, List.set_eq_take_append_cons_drop, if_pos h]
  exact List.perm_middle
theorem can_few {r b : Nat} (hr : 0 < r) : ∀ {xs S : List Int} {n : Nat}, S.Nodup → S.length ≤ r → xs.length < b → (Can r S xs n ↔ few r b S xs ≤ n)
  | [], S, n, _, _, _ => by simp [Can, few]
  | x :: xs, S, n, hS, hl, hb => by
    simp only [List.length_cons] at hb
    unfold few
    by_cases h1 : x ∈ S
    · rw [can_hit h1, if_pos h1]
      exact can_few hr hS hl (by omega)
    · rw [if_neg h1]
      by_cases h2 : S.length < r
      · rw [can_fill h1 h2, if_pos h2]
        have hp : (S ++ [x]).Perm (x :: S) := List.perm_append_comm
        have ih := fun m => can_few hr (b := b) (xs := xs) (S := S ++ [x]) (n := m) (hp.nodup_iff.2 (List.nodup_cons.2 ⟨h1, hS⟩)) (by simp; omega) (by omega)
        constructor
        · rintro ⟨m, rfl, hk⟩; have := (ih m).1 (can_perm hp.symm hk); omega
        · intro h; exact ⟨n - 1, by omega, can_perm hp ((ih _).2 (by omega))⟩
      · rw [can_full h1 h2, if_neg h2, minK_le]
        have ih := fun k (hk : k < S.length) m => can_few hr (b := b) (xs := xs) (S := S.set k x) (n := m) ((set_perm' hS hk).nodup_iff.2 (nodup_swap hS h1)) (by simp; omega) (by omega)
        constructor
        · rintro ⟨m, rfl, z, hz, hk⟩
          obtain ⟨j, hj, e⟩ := List.getElem_of_mem hz
          subst e
          exact .inr ⟨j, hj, by have := (ih j hj m).1 (can_perm (set_perm' hS hj).symm hk); omega⟩
        · rintro (h | ⟨j, hj, h⟩)
          · have h3 : 0 < S.length := by omega
            have hc := (can_missB hr (xs := xs) (S := x :: S.erase S[0]) (n := xs.length) (nodup_swap hS h1)).2 missB_le
            exact ⟨n - 1, by omega, S[0], List.getElem_mem h3, can_mono (by omega) hc⟩
          · exact ⟨n - 1, by omega, S[j], List.getElem_mem hj, can_perm (set_perm' hS hj) ((ih j hj _).2 (by omega))⟩
theorem few_eq {r b : Nat} (hr : 0 < r) {xs : List Int} (hb : xs.length < b) : few r b [] xs = missB r [] xs := by
  have h1 := (can_few hr (xs := xs) List.nodup_nil (Nat.zero_le _) hb).1 ((can_missB hr List.nodup_nil).2 (Nat.le_refl _))
  have h2 := (can_missB hr List.nodup_nil).1 ((can_few (b := b) hr (xs := xs) List.nodup_nil (Nat.zero_le _) hb).2 (Nat.le_refl _))
  omega

end Go.Proofs.Ytgdklpgmoanfkaa.Bst
