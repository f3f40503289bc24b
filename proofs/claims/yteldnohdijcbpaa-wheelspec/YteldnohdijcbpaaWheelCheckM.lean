/-
  What Check of package wheel means.
-/
import Derived.Test.YteldnohdijcbpaaWheelMath
namespace Go.Proofs.Yteldnohdijcbpaa.Whl
set_option linter.unusedVariables false

theorem nodup_le : ∀ (N : Nat) (l : List Int), l.Nodup → (∀ x ∈ l, 0 ≤ x ∧ x < (N : Int)) → l.length ≤ N := by
  intro N
  induction N with
  | zero =>
    intro l _ h
    cases l with
    | nil => simp
    | cons a l => have := h a (by simp); omega
  | succ N ih =>
    intro l hn h
    by_cases hm : (N : Int) ∈ l
    · have h1 := ih (l.erase (N : Int)) (hn.erase _) (fun x hx => by
        have h2 := (hn.mem_erase_iff).1 hx
        have h3 := h x h2.2
        have := h2.1
        omega)
      rw [List.length_erase_of_mem hm] at h1
      omega
    · have := ih l hn (fun x hx => by
        have h3 := h x hx
        have : x ≠ (N : Int) := fun e => hm (e ▸ hx)
        omega)
      omega

/-- Is a timer behind the one before? -/
def ahead (p : Option Tm) (t : Tm) : Prop := match p with | none => True | some q => ltT q t
instance (p : Option Tm) (t : Tm) : Decidable (ahead p t) := by unfold ahead; split <;> infer_instance
/-- One slot, from a timer on: the error, and the ids seen. -/
def chk (now : Int) (i : Nat) : List Tm → Option Tm → List Int → Int × List Int
  | [], _, ids => (0, ids)
  | t :: ts, p, ids => if okT now t then (if slot now t = i ∧ ahead p t then (if t.id ∈ ids then (6, ids) else chk now i ts (some t) (ids ++ [t.id])) else (4, ids)) else (3, ids)
def chkAll (now : Int) : Nat → List (List Tm) → List Int → Int × List Int
  | _, [], ids => (0, ids)
  | i, L :: LL, ids => if (chk now i L none ids).1 ≠ 0 then ((chk now i L none ids).1, ids) else chkAll now (i + 1) LL (chk now i L none ids).2
/-- Check's answer. -/
def checkW (W : Whl) : Int :=
  if isT W.now then (if W.slots.length = 48 then (if (chkAll W.now 0 W.slots []).1 ≠ 0 then (chkAll W.now 0 W.slots []).1 else if 60 < (chkAll W.now 0 W.slots []).2.length then 2 else 0) else 1) else 3

theorem chk_ok {now : Int} {i : Nat} : ∀ (L : List Tm) (p : Option Tm) (ids : List Int), (chk now i L p ids).1 = 0 →
    (∀ t ∈ L, okT now t ∧ slot now t = i) ∧ Sorted L ∧ (∀ t ∈ L, ahead p t) ∧ (∀ t ∈ L, t.id ∉ ids) ∧ (L.map Tm.id).Nodup ∧ (chk now i L p ids).2 = ids ++ L.map Tm.id := by
  intro L
  induction L with
  | nil => intro p ids _; simp [chk, Sorted]
  | cons t ts ih =>
    intro p ids h
    unfold chk at h ⊢
    by_cases h1 : okT now t
    · rw [if_pos h1] at h ⊢
      by_cases h2 : slot now t = i ∧ ahead p t
      · rw [if_pos h2] at h ⊢
        by_cases h3 : t.id ∈ ids
        · rw [if_pos h3] at h; simp at h
        · rw [if_neg h3] at h ⊢
          obtain ⟨g1, g2, g3, g4, g5, g6⟩ := ih (some t) (ids ++ [t.id]) h
          refine ⟨fun u hu => ?_, List.pairwise_cons.2 ⟨fun u hu => g3 u hu, g2⟩, fun u hu => ?_, fun u hu => ?_, ?_, ?_⟩
          · rcases List.mem_cons.1 hu with rfl | m
            · exact ⟨h1, h2.1⟩
            · exact g1 u m
          · rcases List.mem_cons.1 hu with rfl | m
            · exact h2.2
            · have h4 : ltT t u := g3 u m
              have h5 := h2.2
              unfold ahead at h5 ⊢
              split
              · trivial
              · exact ltT_trans h5 h4
          · rcases List.mem_cons.1 hu with rfl | m
            · exact h3
            · intro hx; exact g4 u m (List.mem_append_left _ hx)
          · rw [List.map_cons, List.nodup_cons]
            refine ⟨fun hx => ?_, g5⟩
            obtain ⟨u, hu, e⟩ := List.mem_map.1 hx
            exact g4 u hu (by rw [e]; simp)
          · rw [g6]; simp
      · rw [if_neg h2] at h; simp at h
    · rw [if_neg h1] at h; simp at h
theorem chk_of {now : Int} {i : Nat} : ∀ (L : List Tm) (p : Option Tm) (ids : List Int), (∀ t ∈ L, okT now t ∧ slot now t = i) → Sorted L → (∀ t ∈ L, ahead p t) → (∀ t ∈ L, t.id ∉ ids) → (L.map Tm.id).Nodup →
    chk now i L p ids = (0, ids ++ L.map Tm.id) := by
  intro L
  induction L with
  | nil => intro p ids _ _ _ _ _; simp [chk]
  | cons t ts ih =>
    intro p ids h1 h2 h3 h4 h5
    unfold chk
    unfold Sorted at h2
    rw [List.pairwise_cons] at h2
    rw [List.map_cons, List.nodup_cons] at h5
    rw [if_pos (h1 t (by simp)).1, if_pos ⟨(h1 t (by simp)).2, h3 t (by simp)⟩, if_neg (h4 t (by simp))]
    rw [ih (some t) (ids ++ [t.id]) (fun u hu => h1 u (by simp [hu])) h2.2 (fun u hu => h2.1 u hu) (fun u hu hx => ?_) h5.2]
    · simp
    · rcases List.mem_append.1 hx with m | m
      · exact h4 u (by simp [hu]) m
      · exact h5.1 (List.mem_map.2 ⟨u, hu, by simpa using m⟩)

theorem chkAll_ok {now : Int} : ∀ (LL : List (List Tm)) (k : Nat) (ids : List Int), (chkAll now k LL ids).1 = 0 →
    (∀ i L, LL[i]? = some L → (∀ t ∈ L, okT now t ∧ slot now t = k + i) ∧ Sorted L) ∧ (∀ t ∈ LL.flatten, t.id ∉ ids) ∧ (LL.flatten.map Tm.id).Nodup ∧ (chkAll now k LL ids).2 = ids ++ LL.flatten.map Tm.id := by
  intro LL
  induction LL with
  | nil => intro k ids _; simp [chkAll]
  | cons L LL ih =>
    intro k ids h
    unfold chkAll at h ⊢
    by_cases h0 : (chk now k L none ids).1 ≠ 0
    · rw [if_pos h0] at h; exact absurd h h0
    · rw [if_neg h0] at h ⊢
      obtain ⟨a1, a2, a3, a4, a5, a6⟩ := chk_ok L none ids (by simpa using h0)
      rw [a6] at h ⊢
      obtain ⟨b1, b2, b3, b4⟩ := ih (k + 1) (ids ++ L.map Tm.id) h
      refine ⟨fun i M hM => ?_, fun t ht => ?_, ?_, ?_⟩
      · cases i with
        | zero =>
          simp only [List.getElem?_cons_zero, Option.some.injEq] at hM
          subst hM
          exact ⟨fun t ht => ⟨(a1 t ht).1, by have := (a1 t ht).2; omega⟩, a2⟩
        | succ i =>
          obtain ⟨c1, c2⟩ := b1 i M (by simpa using hM)
          exact ⟨fun t ht => ⟨(c1 t ht).1, by have := (c1 t ht).2; omega⟩, c2⟩
      · rw [List.flatten_cons, List.mem_append] at ht
        rcases ht with m | m
        · exact a4 t m
        · exact fun hx => b2 t m (List.mem_append_left _ hx)
      · rw [List.flatten_cons, List.map_append, List.nodup_append]
        refine ⟨a5, b3, fun x hx y hy e => ?_⟩
        subst e
        obtain ⟨u, hu, e⟩ := List.mem_map.1 hy
        exact b2 u hu (List.mem_append_right _ (by rw [e]; exact hx))
      · rw [b4]; simp
theorem chkAll_of {now : Int} : ∀ (LL : List (List Tm)) (k : Nat) (ids : List Int), (∀ i L, LL[i]? = some L → (∀ t ∈ L, okT now t ∧ slot now t = k + i) ∧ Sorted L) → (∀ t ∈ LL.flatten, t.id ∉ ids) → (LL.flatten.map Tm.id).Nodup →
    chkAll now k LL ids = (0, ids ++ LL.flatten.map Tm.id) := by
  intro LL
  induction LL with
  | nil => intro k ids _ _ _; simp [chkAll]
  | cons L LL ih =>
    intro k ids h1 h2 h3
    rw [List.flatten_cons, List.map_append, List.nodup_append] at h3
    have e0 := chk_of (now := now) (i := k) L none ids (fun t ht => (h1 0 L rfl).1 t ht) (h1 0 L rfl).2 (fun t _ => trivial) (fun t ht => h2 t (by simp [ht])) h3.1
    unfold chkAll
    rw [e0]
    rw [if_neg (by simp)]
    rw [ih (k + 1) (ids ++ L.map Tm.id) (fun i M hM => ?_) (fun t ht hx => ?_) h3.2.1]
    · simp
    · obtain ⟨c1, c2⟩ := h1 (i + 1) M (by simpa using hM)
      exact ⟨fun t ht => ⟨(c1 t ht).1, by have := (c1 t ht).2; omega⟩, c2⟩
    · rcases List.mem_append.1 hx with m | m
      · exact h2 t (by rw [List.flatten_cons, List.mem_append]; exact .inr ht) m
      · exact h3.2.2 _ m _ (List.mem_map.2 ⟨t, ht, rfl⟩) rfl

/-- A wheel passes Check just if it is the wheel of its timers in order. -/
theorem check_good {W : Whl} (h : checkW W = 0) : Good W.now W.slots.flatten ∧ W.slots = spread W.now W.slots.flatten := by
  unfold checkW at h
  by_cases h1 : isT W.now
  · rw [if_pos h1] at h
    by_cases h2 : W.slots.length = 48
    · rw [if_pos h2] at h
      by_cases h3 : (chkAll W.now 0 W.slots []).1 ≠ 0
      · rw [if_pos h3] at h; exact absurd h h3
      · rw [if_neg h3] at h
        obtain ⟨a1, a2, a3, a4⟩ := chkAll_ok W.slots 0 [] (by simpa using h3)
        by_cases h4 : 60 < (chkAll W.now 0 W.slots []).2.length
        · rw [if_pos h4] at h; exact absurd h (by decide)
        · rw [a4] at h4
          have hs : ∀ L ∈ W.slots, Sorted L := fun L hL => by
            obtain ⟨i, hi⟩ := List.getElem?_of_mem hL
            exact (a1 i L hi).2
          refine ⟨⟨h1, fun t ht => ?_, flat_sorted h1 0 hs (fun i L hL t ht => (a1 i L hL).1 t ht), a3, by rw [List.nil_append, List.length_map] at h4; omega⟩, ?_⟩
          · obtain ⟨M, hM, htM⟩ := List.mem_flatten.1 ht
            obtain ⟨i, hi⟩ := List.getElem?_of_mem hM
            exact ((a1 i M hi).1 t htM).1
          · apply List.ext_getElem?
            intro i
            by_cases hi : i < 48
            · have e := flat_filter (now := W.now) 0 (fun i L hL t ht => ((a1 i L hL).1 t ht).2) i (by omega)
              rw [spread_get hi]
              rw [Nat.zero_add] at e
              rw [e, List.getD_eq_getElem?_getD, List.getElem?_eq_getElem (by omega)]
              rfl
            · rw [List.getElem?_eq_none (by omega), List.getElem?_eq_none (by rw [spread_len]; omega)]
    · rw [if_neg h2] at h; exact absurd h (by decide)
  · rw [if_neg h1] at h; exact absurd h (by decide)
theorem good_check {now : Int} {L : List Tm} (h : Good now L) : checkW (wheelOf now L) = 0 := by
  unfold checkW
  show (if isT now then (if (spread now L).length = 48 then (if (chkAll now 0 (spread now L) []).1 ≠ 0 then (chkAll now 0 (spread now L) []).1 else if 60 < (chkAll now 0 (spread now L) []).2.length then 2 else 0) else 1) else 3) = (0 : Int)
  rw [if_pos h.time, if_pos (spread_len _ _)]
  have hf := spread_all h.time h.ok h.sorted
  have e := chkAll_of (now := now) (spread now L) 0 [] (fun i M hM => by
    have hi : i < 48 := by have := (List.getElem?_eq_some_iff.1 hM).1; rwa [spread_len] at this
    rw [spread_get hi] at hM
    have hM := Option.some.inj hM
    subst hM
    refine ⟨fun t ht => ?_, List.Pairwise.filter _ h.sorted⟩
    rw [List.mem_filter] at ht
    exact ⟨h.ok t ht.1, by have := ht.2; simp at this; omega⟩) (fun t _ => by simp) (by rw [hf]; exact h.ids)
  rw [e, hf]
  have := h.few
  rw [if_neg (by simp), if_neg (by simp; omega)]

end Go.Proofs.Yteldnohdijcbpaa.Whl
