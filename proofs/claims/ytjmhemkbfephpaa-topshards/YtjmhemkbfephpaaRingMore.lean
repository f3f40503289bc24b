/-
  The reference's choice of the next point; a share is not empty where a point stands; keys dealt out over caches.
-/
import Derived.Test.YtjmhemkbfephpaaRingMath
namespace Go.Proofs.Ytjmhemkbfephpaa.Rng
set_option linter.unusedVariables false

/-! ### The least point behind a place -/
/-- Point j of the first i is the least that lies behind 'last'. -/
def Least (all : List Pt) (last : Int) (i j : Nat) : Prop := j < i ∧ last < (gp all j).at_ ∧ ∀ k, k < i → last < (gp all k).at_ → (gp all j).at_ ≤ (gp all k).at_
section
variable {all S : List Pt} {last : Int} {i j : Nat}
theorem least_skip (h : Least all last i j) (hn : ¬ last < (gp all i).at_) : Least all last (i + 1) j := by
  obtain ⟨h1, h2, h3⟩ := h
  refine ⟨by omega, h2, fun k hk hl => ?_⟩
  by_cases e : k = i
  · subst e; exact absurd hl hn
  · exact h3 k (by omega) hl
theorem least_keep (h : Least all last i j) (hn : ¬ (gp all i).at_ < (gp all j).at_) : Least all last (i + 1) j := by
  obtain ⟨h1, h2, h3⟩ := h
  refine ⟨by omega, h2, fun k hk hl => ?_⟩
  by_cases e : k = i
  · subst e; omega
  · exact h3 k (by omega) hl
theorem least_take (h : Least all last i j) (hl : last < (gp all i).at_) (hn : (gp all i).at_ < (gp all j).at_) : Least all last (i + 1) i := by
  obtain ⟨h1, h2, h3⟩ := h
  refine ⟨by omega, hl, fun k hk hk2 => ?_⟩
  by_cases e : k = i
  · subst e; omega
  · have := h3 k (by omega) hk2; omega
theorem least_first (h : ∀ k, k < i → ¬ last < (gp all k).at_) (hl : last < (gp all i).at_) : Least all last (i + 1) i :=
  ⟨by omega, hl, fun k hk hk2 => by
    by_cases e : k = i
    · subst e; exact Int.le_refl _
    · exact absurd hk2 (h k (by omega))⟩
/-- The place that lies before point q of an ascending list. -/
def befAt (S : List Pt) (q : Nat) : Int := if q = 0 then -1 else (gp S (q - 1)).at_
theorem asc_lt (hA : Asc S) {a b : Nat} (hab : a < b) (hb : b < S.length) : (gp S a).at_ < (gp S b).at_ := by
  rw [gp_get (by omega), gp_get hb]
  exact (List.pairwise_iff_getElem.1 hA) a b (by omega) hb hab
/-- The least behind the points that have been taken is the next one. -/
theorem least_next (hA : Asc S) (hm : ∀ p, p ∈ all ↔ p ∈ S) (h0 : ∀ p ∈ S, 0 ≤ p.at_) {q : Nat} (hq : q < S.length) (h : Least all (befAt S q) all.length j) : gp all j = gp S q := by
  obtain ⟨h1, h2, h3⟩ := h
  have hj : gp all j ∈ S := (hm _).1 (gp_mem h1)
  obtain ⟨b, hb, e⟩ := List.mem_iff_getElem.1 hj
  rw [← gp_get hb] at e
  obtain ⟨k, hk, e2⟩ := List.mem_iff_getElem.1 ((hm _).2 (gp_mem hq))
  rw [← gp_get hk] at e2
  have hbq : q ≤ b := by
    rw [← e] at h2
    unfold befAt at h2
    by_cases hz : q = 0
    · omega
    · rw [if_neg hz] at h2
      refine Classical.byContradiction fun hc => ?_
      have : b ≤ q - 1 := by omega
      by_cases hc2 : b = q - 1
      · rw [hc2] at h2; omega
      · have := asc_lt hA (a := b) (b := q - 1) (by omega) (by omega); omega
  have hlk : befAt S q < (gp all k).at_ := by
    rw [e2]
    unfold befAt
    by_cases hz : q = 0
    · rw [if_pos hz]; have := h0 _ (gp_mem hq); omega
    · rw [if_neg hz]; exact asc_lt hA (by omega) hq
  have h4 := h3 k hk hlk
  rw [e2, ← e] at h4
  by_cases hbe : b = q
  · rw [← e, hbe]
  · have := asc_lt hA (a := q) (b := b) (by omega) hb; omega
/-- There is one as long as not all have been taken. -/
theorem least_some (hA : Asc S) (hm : ∀ p, p ∈ all ↔ p ∈ S) (h0 : ∀ p ∈ S, 0 ≤ p.at_) {q : Nat} (hq : q < S.length) : ¬ ∀ k, k < all.length → ¬ befAt S q < (gp all k).at_ := by
  intro h
  obtain ⟨k, hk, e2⟩ := List.mem_iff_getElem.1 ((hm _).2 (gp_mem hq))
  rw [← gp_get hk] at e2
  refine h k hk ?_
  rw [e2]
  unfold befAt
  by_cases hz : q = 0
  · rw [if_pos hz]; have := h0 _ (gp_mem hq); omega
  · rw [if_neg hz]; exact asc_lt hA (by omega) hq
end

/-! ### A shard that has a point has places -/
theorem cnt_pos {f : Int → Int} {i : Int} : ∀ {n : Nat} {a x : Int}, a ≤ x → x < a + n → f x = i → 0 < cnt f i a n
  | 0, a, x, h1, h2, _ => by omega
  | n + 1, a, x, h1, h2, h3 => by
    unfold cnt
    by_cases e : x = a
    · subst e; rw [if_pos h3]; omega
    · have := cnt_pos (n := n) (a := a + 1) (x := x) (by omega) (by omega) h3
      omega
theorem share_pos {L : List Pt} (h : Good L) {p : Pt} (hp : p ∈ L) : 0 < share L p.sh := by
  have := (h.ok p hp).2
  exact cnt_pos (x := p.at_) (by omega) (by omega) (own_self h.asc hp)

/-! ### Keys dealt out over caches -/
section
variable (r : Int) (ow : Nat → Nat) (fi : Nat → Int)
/-- What comes to cache o of the first i keys. -/
def prt (o i : Nat) : List Int := ((List.range i).filter (fun k => decide (ow k = o))).map fi
theorem prt_zero (o : Nat) : prt ow fi o 0 = [] := rfl
theorem prt_succ (o i : Nat) : prt ow fi o (i + 1) = if ow i = o then prt ow fi o i ++ [fi i] else prt ow fi o i := by
  unfold prt
  rw [List.range_succ, List.filter_append, List.map_append]
  have e : [i].filter (fun k => decide (ow k = o)) = if ow i = o then [i] else [] := by
    rw [List.filter_cons]
    by_cases h : ow i = o
    · simp [h]
    · simp [h]
  rw [e]
  split
  · rfl
  · simp
theorem prt_len (o i : Nat) : (prt ow fi o i).length ≤ i := by
  unfold prt
  rw [List.length_map]
  exact Nat.le_trans (List.length_filter_le _ _) (by simp)
theorem prt_mem {o i : Nat} {x : Int} (h : x ∈ prt ow fi o i) : ∃ k, k < i ∧ x = fi k := by
  unfold prt at h
  obtain ⟨k, hk, e⟩ := List.mem_map.1 h
  exact ⟨k, by simpa using (List.mem_filter.1 hk).1, e.symm⟩
/-- The hits of the first i keys. -/
def hitA : Nat → Nat
  | 0 => 0
  | i + 1 => hitA i + (if fi i ∈ Lru.runL r [] (prt ow fi (ow i) i) then 1 else 0)
/-- The hits of the first k caches. -/
def sumN (f : Nat → Nat) : Nat → Nat
  | 0 => 0
  | k + 1 => sumN f k + f k
theorem sumN_congr {f g : Nat → Nat} : ∀ {k : Nat}, (∀ o, o < k → f o = g o) → sumN f k = sumN g k
  | 0, _ => rfl
  | k + 1, h => by unfold sumN; rw [sumN_congr (fun o ho => h o (by omega)), h k (by omega)]
theorem sumN_bump {f g : Nat → Nat} {a c : Nat} (ha : g a = f a + c) (hg : ∀ o, o ≠ a → g o = f o) : ∀ {k : Nat}, sumN g k = sumN f k + (if a < k then c else 0)
  | 0 => by simp [sumN]
  | k + 1 => by
    unfold sumN
    rw [sumN_bump ha hg]
    by_cases e : k = a
    · subst e; rw [ha, if_neg (by omega), if_pos (by omega)]; omega
    · rw [hg k e]
      by_cases h : a < k
      · rw [if_pos h, if_pos (by omega)]; omega
      · rw [if_neg h, if_neg (by omega)]; omega
theorem hitA_sum {m : Nat} : ∀ {n : Nat}, (∀ k, k < n → ow k < m) → hitA r ow fi n = sumN (fun o => Lru.hitsM r [] (prt ow fi o n)) m
  | 0, _ => by
    have : ∀ k, sumN (fun o => Lru.hitsM r [] (prt ow fi o 0)) k = 0 := fun k => by
      induction k with
      | zero => rfl
      | succ k ih => unfold sumN; rw [ih]; rfl
    exact (this m).symm
  | n + 1, h => by
    unfold hitA
    rw [hitA_sum (fun k hk => h k (by omega))]
    have hb := sumN_bump (f := fun o => Lru.hitsM r [] (prt ow fi o n)) (g := fun o => Lru.hitsM r [] (prt ow fi o (n + 1))) (a := ow n) (c := if fi n ∈ Lru.runL r [] (prt ow fi (ow n) n) then 1 else 0)
      (by show Lru.hitsM r [] (prt ow fi (ow n) (n + 1)) = _; rw [prt_succ, if_pos rfl, Lru.hitsM_snoc])
      (fun o ho => by show Lru.hitsM r [] (prt ow fi o (n + 1)) = _; rw [prt_succ, if_neg (fun e => ho e.symm)]) (k := m)
    rw [hb, if_pos (h n (by omega))]
end

end Go.Proofs.Ytjmhemkbfephpaa.Rng
