/-
  What Add, Cancel, Advance, Next and New of package wheel return, as plain functions.
-/
import Derived.Test.YteldnohdijcbpaaWheelMem
import Derived.Test.YteldnohdijcbpaaWheelCheckM
namespace Go.Proofs.Yteldnohdijcbpaa.Whl
set_option linter.unusedVariables false

/-! ### lists that are parted at a place -/
theorem filter_take {p : Tm → Bool} {L : List Tm} {k : Nat} (hk : k ≤ L.length) (h1 : ∀ a, a < k → p (gt L a) = true) (h2 : ∀ a, k ≤ a → a < L.length → p (gt L a) = false) : L.filter p = L.take k := by
  conv => lhs; rw [← List.take_append_drop k L, List.filter_append]
  rw [List.filter_eq_self.2, List.filter_eq_nil_iff.2, List.append_nil]
  · intro t ht
    obtain ⟨j, hj, rfl⟩ := List.getElem_of_mem ht
    rw [List.length_drop] at hj
    rw [List.getElem_drop]
    have := h2 (k + j) (by omega) (by omega)
    rw [gt_get (by omega)] at this
    simp [this]
  · intro t ht
    obtain ⟨j, hj, rfl⟩ := List.getElem_of_mem ht
    rw [List.length_take] at hj
    rw [List.getElem_take]
    have := h1 j (by omega)
    rwa [gt_get (by omega)] at this
theorem filter_drop {p : Tm → Bool} {L : List Tm} {k : Nat} (hk : k ≤ L.length) (h1 : ∀ a, a < k → p (gt L a) = false) (h2 : ∀ a, k ≤ a → a < L.length → p (gt L a) = true) : L.filter p = L.drop k := by
  conv => lhs; rw [← List.take_append_drop k L, List.filter_append]
  rw [List.filter_eq_nil_iff.2, List.filter_eq_self.2, List.nil_append]
  · intro t ht
    obtain ⟨j, hj, rfl⟩ := List.getElem_of_mem ht
    rw [List.length_drop] at hj
    rw [List.getElem_drop]
    have := h2 (k + j) (by omega) (by omega)
    rwa [gt_get (by omega)] at this
  · intro t ht
    obtain ⟨j, hj, rfl⟩ := List.getElem_of_mem ht
    rw [List.length_take] at hj
    rw [List.getElem_take]
    have := h1 j (by omega)
    rw [gt_get (by omega)] at this
    simp [this]

/-! ### Add -/
def hasId (L : List Tm) (id : Int) : Prop := ∃ u ∈ L, u.id = id
instance (L : List Tm) (id : Int) : Decidable (hasId L id) := by unfold hasId; infer_instance
/-- A timer put into its place. -/
def insT (L : List Tm) (t : Tm) : List Tm := L.filter (fun u => decide (ltT u t)) ++ t :: L.filter (fun u => !decide (ltT u t))
theorem insT_at {L : List Tm} {t : Tm} {p : Nat} (hp : p ≤ L.length) (h1 : ∀ a, a < p → ltT (gt L a) t) (h2 : ∀ a, p ≤ a → a < L.length → ¬ ltT (gt L a) t) : L.take p ++ t :: L.drop p = insT L t := by
  unfold insT
  rw [filter_take hp (fun a ha => by simpa using h1 a ha) (fun a ha hb => by simpa using h2 a ha hb), filter_drop hp (fun a ha => by simpa using h1 a ha) (fun a ha hb => by simpa using h2 a ha hb)]
theorem mem_insT {L : List Tm} {t u : Tm} : u ∈ insT L t ↔ u = t ∨ u ∈ L := by
  unfold insT
  rw [List.mem_append, List.mem_cons, List.mem_filter, List.mem_filter]
  by_cases h : ltT u t <;> simp [h]
  · constructor
    · rintro (h1 | h1)
      · exact .inr h1
      · exact .inl h1
    · rintro (h1 | h1)
      · exact .inr h1
      · exact .inl h1
theorem insT_len (L : List Tm) (t : Tm) : (insT L t).length = L.length + 1 := by
  unfold insT
  rw [List.length_append, List.length_cons]
  have h : ∀ M : List Tm, (M.filter (fun u => decide (ltT u t))).length + (M.filter (fun u => !decide (ltT u t))).length = M.length := by
    intro M
    induction M with
    | nil => rfl
    | cons a M ih =>
      by_cases ha : ltT a t <;> simp [ha] <;> omega
  have := h L
  omega
theorem insT_sorted {L : List Tm} {t : Tm} (hs : Sorted L) (hn : t ∉ L) : Sorted (insT L t) := by
  unfold insT Sorted
  rw [List.pairwise_append, List.pairwise_cons]
  refine ⟨List.Pairwise.filter _ hs, ⟨fun u hu => ?_, List.Pairwise.filter _ hs⟩, fun a ha b hb => ?_⟩
  · rw [List.mem_filter] at hu
    have h1 : ¬ ltT u t := by simpa using hu.2
    rcases Decidable.em (ltT t u) with h | h
    · exact h
    · exact absurd (ltT_tri h h1 ▸ hu.1) hn
  · rw [List.mem_filter] at ha
    have ha2 : ltT a t := by simpa using ha.2
    rcases List.mem_cons.1 hb with rfl | hb
    · exact ha2
    · rw [List.mem_filter] at hb
      have h1 : ¬ ltT b t := by simpa using hb.2
      rcases Decidable.em (ltT t b) with h | h
      · exact ltT_trans ha2 h
      · have := ltT_tri h h1; subst this; exact ha2
theorem perm_insT (L : List Tm) (t : Tm) : (insT L t).Perm (t :: L) := by
  unfold insT
  refine List.perm_middle.trans (List.Perm.cons t ?_)
  exact List.filter_append_perm _ L
theorem insT_ids {L : List Tm} {t : Tm} (h : (L.map Tm.id).Nodup) (hn : ¬ hasId L t.id) : ((insT L t).map Tm.id).Nodup := by
  rw [((perm_insT L t).map Tm.id).nodup_iff, List.map_cons, List.nodup_cons]
  refine ⟨fun hm => ?_, h⟩
  obtain ⟨u, hu, e⟩ := List.mem_map.1 hm
  exact hn ⟨u, hu, e⟩

def errA (W : Whl) (t : Tm) : Int := if checkW W = 0 then (if okT W.now t then (if hasId W.all t.id then 6 else if 60 ≤ W.all.length then 8 else 0) else 3) else checkW W
def addM (W : Whl) (t : Tm) : Whl := if errA W t = 0 then wheelOf W.now (insT W.all t) else Whl.no

/-! ### Cancel -/
def delT (L : List Tm) (id : Int) : List Tm := L.filter (fun u => u.id != id)
theorem delT_at {L : List Tm} {id : Int} {k : Nat} (hk : k < L.length) (hi : (gt L k).id = id) (hn : (L.map Tm.id).Nodup) : L.take k ++ L.drop (k + 1) = delT L id := by
  have hne : ∀ j, j < L.length → j ≠ k → (gt L j).id ≠ id := fun j hj hjk e => hjk (by
    rcases Nat.lt_trichotomy j k with h | h | h
    · have := List.pairwise_iff_getElem.1 hn j k (by simpa using hj) (by simpa using hk) h
      rw [List.getElem_map, List.getElem_map, ← gt_get hj, ← gt_get hk, e, hi] at this
      exact absurd rfl this
    · exact h
    · have := List.pairwise_iff_getElem.1 hn k j (by simpa using hk) (by simpa using hj) h
      rw [List.getElem_map, List.getElem_map, ← gt_get hj, ← gt_get hk, e, hi] at this
      exact absurd rfl this)
  unfold delT
  conv => rhs; rw [← List.take_append_drop k L, List.filter_append, List.drop_eq_getElem_cons hk, List.filter_cons]
  rw [if_neg (by rw [← gt_get hk, hi]; simp), List.filter_eq_self.2, List.filter_eq_self.2]
  · intro t ht
    obtain ⟨j, hj, rfl⟩ := List.getElem_of_mem ht
    rw [List.length_drop] at hj
    rw [List.getElem_drop]
    have := hne (k + 1 + j) (by omega) (by omega)
    rw [gt_get (by omega)] at this
    simpa using this
  · intro t ht
    obtain ⟨j, hj, rfl⟩ := List.getElem_of_mem ht
    rw [List.length_take] at hj
    rw [List.getElem_take]
    have := hne j (by omega) (by omega)
    rw [gt_get (by omega)] at this
    simpa using this
def errC (W : Whl) (id : Int) : Int := if checkW W = 0 then (if hasId W.all id then 0 else 5) else checkW W
def canM (W : Whl) (id : Int) : Whl := if errC W id = 0 then wheelOf W.now (delT W.all id) else Whl.no

/-! ### Advance, Next, New -/
def lateT (L : List Tm) (tq : Int) : List Tm := L.filter (fun u => decide (tq < u.tm))
def goneT (L : List Tm) (tq : Int) : List Tm := L.filter (fun u => decide (u.tm ≤ tq))
def errV (W : Whl) (tq : Int) : Int := if checkW W = 0 then (if isT tq then (if tq < W.now then 4 else 0) else 3) else checkW W
def advM (W : Whl) (tq : Int) : Whl := if errV W tq = 0 then wheelOf tq (lateT W.all tq) else Whl.no
def advG (W : Whl) (tq : Int) : List Tm := if errV W tq = 0 then goneT W.all tq else []
theorem parts_at {L : List Tm} {tq : Int} {k : Nat} (hs : Sorted L) (hk : k ≤ L.length) (h1 : ∀ a, a < k → (gt L a).tm ≤ tq) (h2 : k < L.length → tq < (gt L k).tm) : goneT L tq = L.take k ∧ lateT L tq = L.drop k := by
  have h3 : ∀ a, k ≤ a → a < L.length → tq < (gt L a).tm := fun a ha hb => by
    have h4 := h2 (by omega)
    rcases Nat.lt_or_eq_of_le ha with h | h
    · have := List.pairwise_iff_getElem.1 hs k a (by omega) hb h
      rw [← gt_get (by omega), ← gt_get hb] at this
      unfold ltT at this
      omega
    · subst h; exact h4
  refine ⟨filter_take hk (fun a ha => by simpa using h1 a ha) (fun a ha hb => decide_eq_false (by have := h3 a ha hb; omega)), filter_drop hk (fun a ha => decide_eq_false (by have := h1 a ha; omega)) (fun a ha hb => by simpa using h3 a ha hb)⟩
def errN (W : Whl) : Int := if checkW W = 0 then (if W.all.length = 0 then 5 else 0) else checkW W
def nextM (W : Whl) : Int := if errN W = 0 then (gt W.all 0).tm else 0
def errW (n : Int) : Int := if isT n then 0 else 3
def newM (n : Int) : Whl := if isT n then wheelOf n [] else Whl.no

/-! ### what they are good for -/
theorem good_late {now tq : Int} {L : List Tm} (h : Good now L) (ht : isT tq) : Good tq (lateT L tq) := by
  refine ⟨ht, fun t hm => ?_, List.Pairwise.filter _ h.sorted, ?_, Nat.le_trans (List.length_filter_le _ _) h.few⟩
  · unfold lateT at hm
    rw [List.mem_filter] at hm
    obtain ⟨a1, a2, a3, a4⟩ := h.ok t hm.1
    exact ⟨a1, a2, a3, by simpa using hm.2⟩
  · exact List.Nodup.sublist (List.Sublist.map _ List.filter_sublist) h.ids
theorem good_del {now id : Int} {L : List Tm} (h : Good now L) : Good now (delT L id) :=
  ⟨h.time, fun t hm => h.ok t (List.mem_filter.1 hm).1, List.Pairwise.filter _ h.sorted, List.Nodup.sublist (List.Sublist.map _ List.filter_sublist) h.ids, Nat.le_trans (List.length_filter_le _ _) h.few⟩
theorem good_ins {now : Int} {L : List Tm} {t : Tm} (h : Good now L) (ht : okT now t) (hn : ¬ hasId L t.id) (hl : L.length < 60) : Good now (insT L t) :=
  ⟨h.time, fun u hm => by
    rcases mem_insT.1 hm with rfl | m
    · exact ht
    · exact h.ok u m, insT_sorted h.sorted (fun m => hn ⟨t, m, rfl⟩), insT_ids h.ids hn, by rw [insT_len]; omega⟩
theorem good_nil {now : Int} (h : isT now) : Good now [] := ⟨h, fun t ht => (by simp at ht), List.Pairwise.nil, List.nodup_nil, by simp⟩
theorem all_of {now : Int} {L : List Tm} (h : Good now L) : (wheelOf now L).all = L := spread_all h.time h.ok h.sorted

end Go.Proofs.Yteldnohdijcbpaa.Whl
