/-
  The greedy dual size policy: plain functions on lists of items.
-/
import Derived.Test.YtmobohamlimhdaaLruMath
namespace Go.Proofs.Ytmobohamlimhdaa.Grd
open Lru (isK)
set_option linter.unusedVariables false

structure It where
  key : Int
  size : Int
  cost : Int
  worth : Int
instance : DecidableEq It := fun a b =>
  if h : a.key = b.key ∧ a.size = b.size ∧ a.cost = b.cost ∧ a.worth = b.worth then isTrue (by cases a; cases b; simp_all) else isFalse (fun e => h (by subst e; exact ⟨rfl, rfl, rfl, rfl⟩))
abbrev gt (L : List It) (i : Nat) : It := L.getD i ⟨0, 0, 0, 0⟩
theorem gt_get {L : List It} {i : Nat} (h : i < L.length) : gt L i = L[i] := by simp [gt, List.getD_eq_getElem?_getD, h]
theorem gt_mem {L : List It} {i : Nat} (h : i < L.length) : gt L i ∈ L := by rw [gt_get h]; exact List.getElem_mem h
def keys (L : List It) : List Int := L.map It.key
def sizes : List It → Int
  | [] => 0
  | t :: L => t.size + sizes L
def costs : List It → Int
  | [] => 0
  | t :: L => t.cost + costs L
def isSz (n : Int) : Prop := 1 ≤ n ∧ n ≤ 1048576
def isCs (n : Int) : Prop := 0 ≤ n ∧ n ≤ 1048576
def isWo (n : Int) : Prop := 0 ≤ n ∧ n ≤ 1125899906842624
instance (n : Int) : Decidable (isSz n) := by unfold isSz; infer_instance
instance (n : Int) : Decidable (isCs n) := by unfold isCs; infer_instance
instance (n : Int) : Decidable (isWo n) := by unfold isWo; infer_instance
/-- An item whose key, size and cost pass. -/
def okI (t : It) : Prop := isK t.key ∧ isSz t.size ∧ isCs t.cost
instance (t : It) : Decidable (okI t) := by unfold okI; infer_instance
/-- What is wrong with the items behind others. -/
def itE (fl : Int) : List It → List It → Int
  | _, [] => 0
  | pre, t :: L => if okI t ∧ fl ≤ t.worth ∧ t.worth ≤ 1125899906842624 then (if t.key ∈ keys pre then 6 else itE fl (pre ++ [t]) L) else 3
def checkG (full r fl : Int) (L : List It) : Int :=
  if isSz r ∧ isWo fl then (if 40 < L.length then 2 else (if itE fl [] L = 0 then (if r < sizes L then full else 0) else itE fl [] L)) else 3
theorem itE_zero {fl : Int} : ∀ {pre L : List It}, itE fl pre L = 0 ↔ (∀ t ∈ L, okI t ∧ fl ≤ t.worth ∧ t.worth ≤ 1125899906842624) ∧ (keys L).Nodup ∧ ∀ t ∈ L, t.key ∉ keys pre
  | pre, [] => by simp [itE, keys]
  | pre, t :: L => by
    unfold itE
    by_cases h1 : okI t ∧ fl ≤ t.worth ∧ t.worth ≤ 1125899906842624
    · by_cases h2 : t.key ∈ keys pre
      · rw [if_pos h1, if_pos h2]
        exact ⟨fun h => (by cases h), fun h => absurd h2 (h.2.2 t (by simp))⟩
      · rw [if_pos h1, if_neg h2, itE_zero]
        show _ ↔ _ ∧ (t.key :: keys L).Nodup ∧ _
        rw [List.nodup_cons]
        have hk : ∀ y : Int, y ∈ keys (pre ++ [t]) ↔ y ∈ keys pre ∨ y = t.key := fun y => by simp [keys]
        constructor
        · rintro ⟨a, b, c⟩
          refine ⟨fun u hu => ?_, ⟨fun hm => ?_, b⟩, fun u hu => ?_⟩
          · rcases List.mem_cons.1 hu with e | m
            · rw [e]; exact h1
            · exact a u m
          · obtain ⟨u, hu, e⟩ := List.mem_map.1 hm
            exact c u hu ((hk _).2 (.inr e))
          · rcases List.mem_cons.1 hu with e | m
            · rw [e]; exact h2
            · exact fun hp => c u m ((hk _).2 (.inl hp))
        · rintro ⟨a, ⟨b1, b2⟩, c⟩
          refine ⟨fun u hu => a u (by simp [hu]), b2, fun u hu hm => ?_⟩
          rcases (hk _).1 hm with m | m
          · exact c u (by simp [hu]) m
          · exact b1 (List.mem_map.2 ⟨u, hu, m⟩)
    · rw [if_neg h1]
      exact ⟨fun h => (by cases h), fun h => absurd (h.1 t (by simp)) h1⟩
/-- A cache that passes. -/
structure Good (r fl : Int) (L : List It) : Prop where
  room : isSz r
  floor : isWo fl
  few : L.length ≤ 40
  items : ∀ t ∈ L, okI t ∧ fl ≤ t.worth ∧ t.worth ≤ 1125899906842624
  once : (keys L).Nodup
  fits : sizes L ≤ r
theorem check_zero {full r fl : Int} {L : List It} (hf : full ≠ 0) : checkG full r fl L = 0 ↔ Good r fl L := by
  unfold checkG
  by_cases h1 : isSz r ∧ isWo fl
  · rw [if_pos h1]
    by_cases h2 : 40 < L.length
    · rw [if_pos h2]; exact ⟨fun h => (by cases h), fun h => absurd h.few (by omega)⟩
    · rw [if_neg h2]
      by_cases h3 : itE fl [] L = 0
      · rw [if_pos h3]
        have k := itE_zero.1 h3
        by_cases h4 : r < sizes L
        · rw [if_pos h4]; exact ⟨fun h => absurd h hf, fun h => absurd h.fits (by omega)⟩
        · rw [if_neg h4]; exact ⟨fun _ => ⟨h1.1, h1.2, by omega, k.1, k.2.1, by omega⟩, fun _ => rfl⟩
      · rw [if_neg h3]; exact ⟨fun e => absurd e h3, fun g => absurd (itE_zero.2 ⟨g.items, g.once, fun _ _ => by simp [keys]⟩) h3⟩
  · rw [if_neg h1]; exact ⟨fun h => (by cases h), fun h => absurd ⟨h.room, h.floor⟩ h1⟩

/-! ### The least worth -/
/-- The place of the first of the least worth, among the first k + 1. -/
def lst (L : List It) : Nat → Nat
  | 0 => 0
  | k + 1 => if (gt L (k + 1)).worth < (gt L (lst L k)).worth then k + 1 else lst L k
theorem lst_le (L : List It) : ∀ k, lst L k ≤ k
  | 0 => Nat.le_refl _
  | k + 1 => by have := lst_le L k; unfold lst; split <;> omega
theorem lst_spec (L : List It) : ∀ k j, j ≤ k → (gt L (lst L k)).worth ≤ (gt L j).worth ∧ (j < lst L k → (gt L (lst L k)).worth < (gt L j).worth)
  | 0, j, h => by
    have e : j = 0 := by omega
    subst e
    exact ⟨Int.le_refl _, fun h => absurd h (Nat.not_lt_zero _)⟩
  | k + 1, j, h => by
    have hb := lst_le L k
    unfold lst
    by_cases h1 : (gt L (k + 1)).worth < (gt L (lst L k)).worth
    · rw [if_pos h1]
      by_cases e : j = k + 1
      · subst e; exact ⟨Int.le_refl _, fun h => by omega⟩
      · have := (lst_spec L k j (by omega)).1
        exact ⟨by omega, fun _ => by omega⟩
    · rw [if_neg h1]
      by_cases e : j = k + 1
      · subst e; exact ⟨by omega, fun h => by omega⟩
      · exact lst_spec L k j (by omega)
abbrev lstN (L : List It) : Nat := lst L (L.length - 1)
theorem lstN_lt {L : List It} (h : 0 < L.length) : lstN L < L.length := by have := lst_le L (L.length - 1); show lst L _ < _; omega
theorem lstN_min {L : List It} {t : It} (h : t ∈ L) : (gt L (lstN L)).worth ≤ t.worth := by
  obtain ⟨j, hj, e⟩ := List.getElem_of_mem h
  have := (lst_spec L (L.length - 1) j (by omega)).1
  rw [gt_get hj, e] at this
  exact this
/-- It is the only place of which this is so. -/
theorem lstN_uniq {L : List It} {i : Nat} (hi : i < L.length) (h : ∀ j, j < L.length → (gt L i).worth ≤ (gt L j).worth ∧ (j < i → (gt L i).worth < (gt L j).worth)) : i = lstN L := by
  have hl := lstN_lt (L := L) (by omega)
  have h1 : (gt L (lstN L)).worth ≤ (gt L i).worth ∧ (i < lstN L → (gt L (lstN L)).worth < (gt L i).worth) := lst_spec L (L.length - 1) i (by omega)
  have h2 := h (lstN L) hl
  by_cases a : i < lstN L
  · have := h1.2 a; have := h2.1; omega
  · by_cases b : lstN L < i
    · have := h2.2 b; have := h1.1; omega
    · omega

/-! ### One element less -/
def rem (L : List It) (k : Nat) : List It := L.take k ++ L.drop (k + 1)
theorem rem_len {L : List It} {k : Nat} (h : k < L.length) : (rem L k).length = L.length - 1 := by unfold rem; simp; omega
theorem rem_sub (L : List It) (k : Nat) : List.Sublist (rem L k) L := by unfold rem; rw [← List.eraseIdx_eq_take_drop_succ]; exact List.eraseIdx_sublist L k
theorem rem_split {L : List It} {k : Nat} (h : k < L.length) : L = L.take k ++ gt L k :: L.drop (k + 1) := by
  rw [gt_get h, ← List.drop_eq_getElem_cons h, List.take_append_drop]
theorem sizes_app : ∀ (A B : List It), sizes (A ++ B) = sizes A + sizes B
  | [], B => by simp [sizes]
  | t :: A, B => by show t.size + sizes (A ++ B) = t.size + sizes A + sizes B; rw [sizes_app]; omega
theorem sizes_rem {L : List It} {k : Nat} (h : k < L.length) : sizes (rem L k) = sizes L - (gt L k).size := by
  conv => rhs; rw [rem_split h]
  unfold rem
  rw [sizes_app, sizes_app]
  show _ = sizes _ + ((gt L k).size + sizes _) - (gt (L.take k ++ gt L k :: L.drop (k + 1)) k).size
  rw [← rem_split h]
  omega
theorem keys_rem {L : List It} {k : Nat} (h : k < L.length) (hn : (keys L).Nodup) : (gt L k).key ∉ keys (rem L k) ∧ (keys (rem L k)).Nodup ∧ ∀ y, y ∈ keys L ↔ y = (gt L k).key ∨ y ∈ keys (rem L k) := by
  have e := rem_split h
  have e2 : keys L = keys (L.take k) ++ (gt L k).key :: keys (L.drop (k + 1)) := by
    conv => lhs; rw [e]
    simp [keys]
  have e3 : keys (rem L k) = keys (L.take k) ++ keys (L.drop (k + 1)) := by simp [keys, rem]
  refine ⟨?_, hn.sublist ((rem_sub L k).map _), fun y => ?_⟩
  · rw [e2, List.nodup_append] at hn
    obtain ⟨h1, h2, h3⟩ := hn
    rw [List.nodup_cons] at h2
    rw [e3]
    intro m
    rcases List.mem_append.1 m with a | a
    · exact h3 _ a _ (by simp) rfl
    · exact h2.1 a
  · rw [e2, e3]
    simp only [List.mem_append, List.mem_cons]
    constructor
    · rintro (h | h | h)
      · exact .inr (.inl h)
      · exact .inl h
      · exact .inr (.inr h)
    · rintro (h | h | h)
      · exact .inr (.inl h)
      · exact .inl h
      · exact .inr (.inr h)

/-! ### The evictions -/
structure Ev where
  floor : Int
  left : List It
  gone : List It
/-- Whether the next one must go. -/
def must (r z : Int) (L : List It) : Prop := r < sizes L + z ∨ L.length = 40
instance (r z : Int) (L : List It) : Decidable (must r z L) := by unfold must; infer_instance
def evs (r z : Int) : Nat → Int → List It → Ev
  | 0, fl, L => ⟨fl, L, []⟩
  | f + 1, fl, L => if must r z L then (let e := evs r z f (gt L (lstN L)).worth (rem L (lstN L)); ⟨e.floor, e.left, gt L (lstN L) :: e.gone⟩) else ⟨fl, L, []⟩
theorem must_pos {r z : Int} {L : List It} (hz : z ≤ r) (h : must r z L) : 0 < L.length := by
  rcases Nat.eq_zero_or_pos L.length with e | e
  · have e2 := List.length_eq_zero_iff.1 e
    subst e2
    rcases h with h | h
    · simp [sizes] at h; omega
    · simp at h
  · exact e
theorem evs_go {r z fl : Int} {f : Nat} {L : List It} (h : must r z L) : evs r z (f + 1) fl L = ⟨(evs r z f (gt L (lstN L)).worth (rem L (lstN L))).floor, (evs r z f (gt L (lstN L)).worth (rem L (lstN L))).left, gt L (lstN L) :: (evs r z f (gt L (lstN L)).worth (rem L (lstN L))).gone⟩ := by
  show (if must r z L then _ else _) = _
  rw [if_pos h]
theorem evs_stop {r z fl : Int} {f : Nat} {L : List It} (h : ¬ must r z L) : evs r z f fl L = ⟨fl, L, []⟩ := by
  cases f with
  | zero => rfl
  | succ f => show (if must r z L then _ else _) = _; rw [if_neg h]
theorem good_rem {r fl : Int} {L : List It} (g : Good r fl L) (h : 0 < L.length) : Good r (gt L (lstN L)).worth (rem L (lstN L)) ∧ fl ≤ (gt L (lstN L)).worth := by
  have hl := lstN_lt h
  have hi := g.items _ (gt_mem hl)
  refine ⟨⟨g.room, ⟨by have := g.floor.1; omega, hi.2.2⟩, by rw [rem_len hl]; have := g.few; omega, fun t ht => ?_, (keys_rem hl g.once).2.1, ?_⟩, hi.2.1⟩
  · have hm := (rem_sub L (lstN L)).mem ht
    exact ⟨(g.items t hm).1, lstN_min hm, (g.items t hm).2.2⟩
  · rw [sizes_rem hl]
    have := hi.1.2.1.1
    have := g.fits
    omega
/-- Increasing worths, from a on. -/
def up : Int → List It → Prop
  | _, [] => True
  | a, t :: L => a ≤ t.worth ∧ up t.worth L
/-- The last worth of a list, or a. -/
def lastW : Int → List It → Int
  | a, [] => a
  | _, t :: L => lastW t.worth L
theorem evs_spec {r z : Int} (hz : z ≤ r) : ∀ {f : Nat} {fl : Int} {L : List It}, L.length ≤ f → Good r fl L →
    Good r (evs r z f fl L).floor (evs r z f fl L).left ∧ ¬ must r z (evs r z f fl L).left ∧ fl ≤ (evs r z f fl L).floor ∧ up fl (evs r z f fl L).gone ∧ (evs r z f fl L).floor = lastW fl (evs r z f fl L).gone ∧
    List.Sublist (evs r z f fl L).left L ∧ (∀ y, y ∈ keys L ↔ y ∈ keys (evs r z f fl L).gone ∨ y ∈ keys (evs r z f fl L).left) ∧ (∀ y ∈ keys (evs r z f fl L).gone, y ∉ keys (evs r z f fl L).left) ∧ (∀ t ∈ (evs r z f fl L).gone, t ∈ L) ∧ (evs r z f fl L).gone.length + (evs r z f fl L).left.length = L.length
  | 0, fl, L, hl, g => by
    have e : L = [] := List.length_eq_zero_iff.1 (by omega)
    subst e
    refine ⟨g, fun h => absurd (must_pos hz h) (Nat.lt_irrefl 0), Int.le_refl _, trivial, rfl, List.Sublist.refl _, fun y => by simp [evs, keys], by simp [evs, keys], by simp [evs], rfl⟩
  | f + 1, fl, L, hl, g => by
    by_cases h : must r z L
    · have hp := must_pos hz h
      obtain ⟨g2, hfl⟩ := good_rem g hp
      have hlt := lstN_lt hp
      obtain ⟨a1, a2, a3, a4, a5, a6, a7, a8, a9, a10⟩ := evs_spec (r := r) (z := z) hz (f := f) (fl := (gt L (lstN L)).worth) (L := rem L (lstN L)) (by rw [rem_len hlt]; omega) g2
      obtain ⟨k1, k2, k3⟩ := keys_rem hlt g.once
      rw [evs_go h]
      generalize evs r z f (gt L (lstN L)).worth (rem L (lstN L)) = E at *
      refine ⟨a1, a2, Int.le_trans hfl a3, ⟨hfl, a4⟩, a5, a6.trans (rem_sub _ _), fun y => ?_, fun y hy => ?_, fun t ht => ?_, ?_⟩
      · rw [k3, a7]
        show _ ↔ y ∈ (gt L (lstN L)).key :: keys E.gone ∨ _
        rw [List.mem_cons, or_assoc]
      · have hy : y ∈ (gt L (lstN L)).key :: keys E.gone := hy
        rcases List.mem_cons.1 hy with e | m
        · subst e; exact fun hm => k1 (((a6.map It.key).mem hm))
        · exact a8 y m
      · have ht : t ∈ gt L (lstN L) :: E.gone := ht
        rcases List.mem_cons.1 ht with e | m
        · rw [e]; exact gt_mem hlt
        · exact (rem_sub _ _).mem (a9 t m)
      · show (E.gone.length + 1) + E.left.length = L.length
        rw [rem_len hlt] at a10
        omega
    · rw [evs_stop h]
      exact ⟨g, h, Int.le_refl _, trivial, rfl, List.Sublist.refl _, fun y => by simp [keys], by simp [keys], by simp, by simp⟩

/-! ### One access -/
def fresh (fl size cost : Int) : Int := min (fl + 1024 * cost / size) 1125899906842624
theorem fresh_ok {fl size cost : Int} (h1 : isWo fl) (h2 : isSz size) (h3 : isCs cost) : fl ≤ fresh fl size cost ∧ fresh fl size cost ≤ 1125899906842624 := by
  have : 0 ≤ 1024 * cost / size := Int.ediv_nonneg (by have := h3.1; omega) (by have := h2.1; omega)
  have := h1.2
  unfold fresh
  omega
def hitAt (L : List It) (k : Int) : Nat := (keys L).idxOf k
/-- The floor, the items, who went. -/
def tch (r fl : Int) (L : List It) (t : It) : Ev :=
  if t.key ∈ keys L then ⟨fl, L.set (hitAt L t.key) ⟨(gt L (hitAt L t.key)).key, (gt L (hitAt L t.key)).size, (gt L (hitAt L t.key)).cost, fresh fl (gt L (hitAt L t.key)).size (gt L (hitAt L t.key)).cost⟩, []⟩
  else if r < t.size then ⟨fl, L, []⟩
  else ⟨(evs r t.size L.length fl L).floor, (evs r t.size L.length fl L).left ++ [⟨t.key, t.size, t.cost, fresh (evs r t.size L.length fl L).floor t.size t.cost⟩], (evs r t.size L.length fl L).gone⟩
theorem hit_at {L : List It} {k : Int} (h : k ∈ keys L) : hitAt L k < L.length ∧ (gt L (hitAt L k)).key = k := by
  have h1 := List.idxOf_lt_length_of_mem h
  have h2 : hitAt L k < L.length := by unfold hitAt; simpa [keys] using h1
  refine ⟨h2, ?_⟩
  rw [gt_get h2]
  have e : (keys L)[(keys L).idxOf k]'h1 = k := List.getElem_idxOf h1
  have e2 : (keys L)[(keys L).idxOf k]'h1 = (L[hitAt L k]'h2).key := by
    unfold hitAt
    exact List.getElem_map It.key
  rw [← e2]
  exact e
theorem sizes_set {L : List It} {k : Nat} {u : It} (h : k < L.length) (hs : u.size = (gt L k).size) : sizes (L.set k u) = sizes L := by
  rw [List.set_eq_take_append_cons_drop, if_pos h, sizes_app]
  conv => rhs; rw [rem_split h, sizes_app]
  show _ + (u.size + _) = _ + ((gt L k).size + _)
  rw [hs]
theorem keys_set {L : List It} {k : Nat} {u : It} (h : k < L.length) (hs : u.key = (gt L k).key) : keys (L.set k u) = keys L := by
  unfold keys
  rw [List.map_set, hs, gt_get h]
  have : (L.map It.key)[k]'(by simpa using h) = L[k].key := by simp
  rw [← this, List.set_getElem_self]
theorem tch_good {r fl : Int} {L : List It} {t : It} (g : Good r fl L) (ht : okI t) : Good r (tch r fl L t).floor (tch r fl L t).left ∧ fl ≤ (tch r fl L t).floor := by
  unfold tch
  by_cases h1 : t.key ∈ keys L
  · rw [if_pos h1]
    obtain ⟨hk, -⟩ := hit_at h1
    have hi := g.items _ (gt_mem hk)
    have hf := fresh_ok g.floor hi.1.2.1 hi.1.2.2
    refine ⟨⟨g.room, g.floor, by simpa using g.few, fun u hu => ?_, by rw [keys_set hk (by rfl)]; exact g.once, by rw [sizes_set hk (by rfl)]; exact g.fits⟩, Int.le_refl _⟩
    rcases List.mem_or_eq_of_mem_set hu with m | e
    · exact g.items u m
    · rw [e]; exact ⟨hi.1, hf.1, hf.2⟩
  · rw [if_neg h1]
    by_cases h2 : r < t.size
    · rw [if_pos h2]; exact ⟨g, Int.le_refl _⟩
    · rw [if_neg h2]
      obtain ⟨a1, a2, a3, a4, a5, a6, a7, a8, a9, a10⟩ := evs_spec (r := r) (z := t.size) (by omega) (f := L.length) (fl := fl) (Nat.le_refl _) g
      generalize evs r t.size L.length fl L = E at *
      have hf := fresh_ok a1.floor ht.2.1 ht.2.2
      have hm : ¬ r < sizes E.left + t.size ∧ E.left.length ≠ 40 := ⟨fun h => a2 (.inl h), fun h => a2 (.inr h)⟩
      refine ⟨⟨g.room, a1.floor, by have := a1.few; simp; omega, fun u hu => ?_, ?_, ?_⟩, a3⟩
      · rcases List.mem_append.1 hu with m | m
        · exact a1.items u m
        · simp only [List.mem_singleton] at m
          rw [m]; exact ⟨ht, hf.1, hf.2⟩
      · show (keys (E.left ++ [_])).Nodup
        unfold keys
        rw [List.map_append, List.nodup_append]
        refine ⟨a1.once, by simp, fun a ha b hb e => ?_⟩
        simp only [List.map_cons, List.map_nil, List.mem_singleton] at hb
        subst hb; subst e
        exact h1 ((a7 _).2 (.inr ha))
      · show sizes (E.left ++ [_]) ≤ r
        rw [sizes_app]
        simp only [sizes]
        omega

end Go.Proofs.Ytmobohamlimhdaa.Grd
