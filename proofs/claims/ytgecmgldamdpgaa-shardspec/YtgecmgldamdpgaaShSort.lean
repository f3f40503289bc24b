/-
  Insertion sort of the places 0, 1, .. by their scores is stable: what it leaves names the best one again and again.
-/
import Derived.Test.YtgecmgldamdpgaaShMath
import Derived.Sort.LotA
import Derived.Lib.Small
import Derived.Shelf.SlSortCmp.Insertion
namespace Go.Proofs.Ytgecmgldamdpgaa.Shd
open Go.Sort
set_option linter.unusedVariables false

section
variable {m : Nat} (f : Nat → Nat)
/-- What the code compares by. -/
def cfS (x y : Fin (m + 1)) : Int := Lib.compareInt ((f y.val : Nat) : Int) ((f x.val : Nat) : Int)
/-- The greater score first, and of equal ones the earlier place. -/
def ltT (x y : Fin (m + 1)) : Bool := decide (f y.val < f x.val ∨ (f x.val = f y.val ∧ x.val < y.val))
theorem ltS_eq (x y : Fin (m + 1)) : ltOf (cfS f) x y = decide (f y.val < f x.val) := by
  unfold ltOf cfS Lib.compareInt
  by_cases h1 : f y.val < f x.val
  · simp [h1]
  · by_cases h2 : f x.val < f y.val
    · have e1 : ¬ ((f y.val : Nat) : Int) < ((f x.val : Nat) : Int) := by omega
      have e2 : ((f y.val : Nat) : Int) > ((f x.val : Nat) : Int) := by omega
      rw [if_neg e1, if_pos e2]; simp; omega
    · have e1 : ¬ ((f y.val : Nat) : Int) < ((f x.val : Nat) : Int) := by omega
      have e2 : ¬ ((f y.val : Nat) : Int) > ((f x.val : Nat) : Int) := by omega
      rw [if_neg e1, if_neg e2]; simp; omega
theorem lt_same {x y : Fin (m + 1)} (h : y.val < x.val) : ltOf (cfS f) x y = ltT f x y := by
  rw [ltS_eq]; unfold ltT
  by_cases h1 : f y.val < f x.val
  · simp [h1]
  · have : ¬ (f y.val < f x.val ∨ (f x.val = f y.val ∧ x.val < y.val)) := by omega
    exact (decide_eq_false h1).trans (decide_eq_false this).symm
theorem ltT_iff {x y : Fin (m + 1)} : ltT f x y = true ↔ (f y.val < f x.val ∨ (f x.val = f y.val ∧ x.val < y.val)) := by unfold ltT; rw [decide_eq_true_iff]
theorem swoT : SWO (ltT f (m := m)) where
  irrefl x := by unfold ltT; simp
  trans x y z h1 h2 := by rw [ltT_iff] at *; omega
  ntrans x y z h1 h2 := by
    rw [← Bool.not_eq_true, ltT_iff] at *; omega
theorem totT {x y : Fin (m + 1)} (h1 : ltT f x y = false) (h2 : x ≠ y) : ltT f y x = true := by
  rw [← Bool.not_eq_true, ltT_iff] at h1
  rw [ltT_iff]
  have : x.val ≠ y.val := fun e => h2 (Fin.ext e)
  omega

theorem inner_same (a : Nat) : ∀ (j : Nat) (d : Array (Fin (m + 1))), j < d.size → (∀ k, k < j → (d[k]!).val < (d[j]!).val) → insInner (ltOf (cfS f)) a j d = insInner (ltT f) a j d
  | 0, d, _, _ => rfl
  | j + 1, d, hj, h => by
    unfold insInner
    rw [lt_same f (h j (by omega))]
    split
    · have g := swp_get d hj (show j < d.size by omega)
      refine inner_same a j (swp d (j + 1) j) (by rw [swp_size]; omega) (fun k hk => ?_)
      rw [g, g, if_neg (by omega), if_neg (by omega), if_pos rfl]
      exact h k (by omega)
    · rfl
theorem inner_keep (lt : Fin (m + 1) → Fin (m + 1) → Bool) (a : Nat) : ∀ (j : Nat) (d : Array (Fin (m + 1))), j < d.size →
    (insInner lt a j d).size = d.size ∧ (∀ k, j < k → (insInner lt a j d)[k]! = d[k]!) ∧ (∀ P : Fin (m + 1) → Prop, (∀ k, k ≤ j → P d[k]!) → ∀ k, k ≤ j → P (insInner lt a j d)[k]!)
  | 0, d, _ => ⟨rfl, fun k _ => rfl, fun P h k hk => h k hk⟩
  | j + 1, d, hj => by
    unfold insInner
    split
    · have g := swp_get d hj (show j < d.size by omega)
      obtain ⟨h1, h2, h3⟩ := inner_keep lt a j (swp d (j + 1) j) (by rw [swp_size]; omega)
      refine ⟨by rw [h1, swp_size], fun k hk => ?_, fun P h k hk => ?_⟩
      · rw [h2 k (by omega), g, if_neg (by omega), if_neg (by omega)]
      · by_cases e : k = j + 1
        · rw [h2 k (by omega), g, if_neg (by omega), if_pos e]; exact h j (by omega)
        · refine h3 P (fun i hi => ?_) k (by omega)
          rw [g]
          by_cases e1 : i = j
          · rw [if_pos e1]; exact h (j + 1) (Nat.le_refl _)
          · rw [if_neg e1, if_neg (by omega)]; exact h i (by omega)
    · exact ⟨rfl, fun k _ => rfl, fun P h k hk => h k hk⟩
theorem outer_go (lt : Fin (m + 1) → Fin (m + 1) → Bool) (a : Nat) {b i : Nat} (d : Array (Fin (m + 1))) (h : i < b) : insOuter lt a b i d = insOuter lt a b (i + 1) (insInner lt a i d) := by
  rw [insOuter, if_pos h]
theorem outer_stop (lt : Fin (m + 1) → Fin (m + 1) → Bool) (a : Nat) {b i : Nat} (d : Array (Fin (m + 1))) (h : ¬ i < b) : insOuter lt a b i d = d := by
  rw [insOuter, if_neg h]
theorem outer_same (a b : Nat) : ∀ (r i : Nat) (d : Array (Fin (m + 1))), b - i = r → b ≤ d.size → (∀ k, i ≤ k → k < b → (d[k]!).val = k) → (∀ k, k < i → k < b → (d[k]!).val < i) → insOuter (ltOf (cfS f)) a b i d = insOuter (ltT f) a b i d
  | 0, i, d, hr, _, _, _ => by
    rw [outer_stop _ a d (by omega), outer_stop _ a d (by omega)]
  | r + 1, i, d, hr, hb, hi, hk => by
    have hib : i < b := by omega
    rw [outer_go _ a d hib, outer_go _ a d hib]
    have e1 : insInner (ltOf (cfS f)) a i d = insInner (ltT f) a i d := inner_same f a i d (by omega) (fun k hki => by
      rw [hi i (Nat.le_refl _) hib]; exact hk k hki (by omega))
    rw [e1]
    obtain ⟨h1, h2, h3⟩ := inner_keep (ltT f) a i d (by omega)
    refine outer_same a b r (i + 1) _ (by omega) (by rw [h1]; exact hb) (fun k hik hkb => ?_) (fun k hki hkb => ?_)
    · rw [h2 k (by omega)]; exact hi k (by omega) hkb
    · refine h3 (fun x => x.val < i + 1) (fun q hq => ?_) k (by omega)
      by_cases e : q = i
      · show (d[q]!).val < i + 1
        rw [e, hi i (Nat.le_refl _) hib]; omega
      · have := hk q (by omega) (by omega); show (d[q]!).val < i + 1; omega

theorem outer_size (lt : Fin (m + 1) → Fin (m + 1) → Bool) (a b : Nat) : ∀ (r i : Nat) (d : Array (Fin (m + 1))), b - i = r → b ≤ d.size → (insOuter lt a b i d).size = d.size
  | 0, i, d, hr, _ => by rw [outer_stop _ a d (by omega)]
  | r + 1, i, d, hr, hb => by
    have h1 := (inner_keep lt a i d (by omega)).1
    rw [outer_go _ a d (by omega), outer_size lt a b r (i + 1) _ (by omega) (by rw [h1]; exact hb), h1]
theorem sort_size (lt : Fin (m + 1) → Fin (m + 1) → Bool) (d : Array (Fin (m + 1))) (a b : Nat) (hb : b ≤ d.size) : (insertionSort lt d a b).size = d.size := outer_size lt a b _ (a + 1) d rfl hb
/-- 0, 1, .., m. -/
def ids (m : Nat) : Array (Fin (m + 1)) := (List.finRange (m + 1)).toArray
theorem ids_size : (ids m).size = m + 1 := by simp [ids]
theorem ids_get {k : Nat} (h : k < m + 1) : ((ids m)[k]!).val = k := by
  rw [getElem!_pos _ k (by rw [ids_size]; exact h)]; simp [ids]
theorem sort_ids : insertionSort (ltOf (cfS f)) (ids m) 0 (m + 1) = insertionSort (ltT f) (ids m) 0 (m + 1) :=
  outer_same f 0 (m + 1) _ 1 (ids m) rfl (by rw [ids_size]; omega) (fun k _ hk => ids_get hk) (fun k hk _ => by
    rw [ids_get (by omega)]; omega)
/-- The places in the order of the sort. -/
def srtd (f : Nat → Nat) (m : Nat) : Array (Fin (m + 1)) := insertionSort (ltOf (cfS f)) (ids m) 0 (m + 1)
def ord (f : Nat → Nat) (m : Nat) : List Nat := (srtd f m).toList.map (·.val)
theorem srtd_size : (srtd f m).size = m + 1 := by
  unfold srtd
  rw [sort_ids, ((insertionSort_holds (swoT f)) (ids m) 0 (m + 1) (by omega) (by rw [ids_size]; omega)).1.1, ids_size]
theorem ord_len : (ord f m).length = m + 1 := by unfold ord; rw [List.length_map, Array.length_toList, srtd_size]
theorem ord_chain : Chain f (m + 1) (ord f m) := by
  obtain ⟨⟨h1, _, hp⟩, hs⟩ := (insertionSort_holds (swoT f)) (ids m) 0 (m + 1) (by omega) (by rw [ids_size]; omega)
  rw [← sort_ids] at h1 hp hs
  have hsz : (srtd f m).size = m + 1 := srtd_size f
  have hp' : (srtd f m).toList.Perm (List.finRange (m + 1)) := by
    have e1 : ((srtd f m).extract 0 (m + 1)) = srtd f m := by
      have h := Array.extract_size (xs := srtd f m)
      rwa [hsz] at h
    have e2 : ((ids m).extract 0 (m + 1)) = ids m := by
      have h := Array.extract_size (xs := ids m)
      rwa [ids_size] at h
    have : ((srtd f m).extract 0 (m + 1)).toList.Perm ((ids m).extract 0 (m + 1)).toList := hp
    rw [e1, e2] at this
    exact this
  have hnd : (srtd f m).toList.Nodup := hp'.nodup_iff.2 (List.nodup_finRange _)
  have hget : ∀ i (hi : i < m + 1), (srtd f m)[i]! = (srtd f m).toList[i]'(by rw [Array.length_toList, hsz]; exact hi) := fun i hi => by
    rw [getElem!_pos _ i (by rw [hsz]; exact hi), Array.getElem_toList]
  have hlt : ∀ i j, i < j → j < m + 1 → ltT f (srtd f m)[i]! (srtd f m)[j]! = true := by
    intro i j hij hj
    refine totT f (hs i j (Nat.zero_le _) hij hj) (fun e => ?_)
    rw [hget i (by omega), hget j hj] at e
    have := (List.getElem_inj hnd).1 e
    omega
  have hD : ∀ i (hi : i < m + 1), (ord f m).getD i 0 = ((srtd f m)[i]!).val := fun i hi => by
    rw [List.getD_eq_getElem?_getD, List.getElem?_eq_getElem (by rw [ord_len]; exact hi), hget i hi]; simp [ord]
  intro k hk
  rw [ord_len] at hk
  rw [hD k hk]
  refine ⟨((srtd f m)[k]!).isLt, fun hm => ?_, fun j hj hnj => ?_⟩
  · obtain ⟨q, hq, e⟩ := List.mem_iff_getElem.1 hm
    rw [List.length_take, ord_len] at hq
    have hq' : q < k := by omega
    rw [List.getElem_take] at e
    have e2 : ((srtd f m)[q]!).val = ((srtd f m)[k]!).val := by
      rw [← hD q (by omega), List.getD_eq_getElem?_getD, List.getElem?_eq_getElem (by rw [ord_len]; omega)]; exact e
    have e3 := hlt q k hq' hk
    rw [ltT_iff] at e3
    rw [e2] at e3
    omega
  · have hmem : (⟨j, hj⟩ : Fin (m + 1)) ∈ (srtd f m).toList := hp'.mem_iff.2 (List.mem_finRange _)
    obtain ⟨p, hpl, e⟩ := List.mem_iff_getElem.1 hmem
    rw [Array.length_toList, hsz] at hpl
    have ej : ((srtd f m)[p]!).val = j := by rw [hget p hpl, e]
    by_cases hpk : p < k
    · exact absurd (List.mem_iff_getElem.2 ⟨p, by rw [List.length_take, ord_len]; omega, by
        have := hD p hpl
        rw [List.getD_eq_getElem?_getD, List.getElem?_eq_getElem (by rw [ord_len]; omega), ej] at this
        rw [List.getElem_take]; exact this⟩) hnj
    · by_cases hpe : p = k
      · subst hpe; rw [ej]; exact ⟨Nat.le_refl _, fun h => by omega⟩
      · have h3 := hlt k p (by omega) hpl
        rw [ltT_iff, ej] at h3
        omega
end

end Go.Proofs.Ytgecmgldamdpgaa.Shd
