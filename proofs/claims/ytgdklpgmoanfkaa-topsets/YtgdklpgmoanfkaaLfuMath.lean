/-
  Least frequently used: plain functions on lists of keys with their counts.
-/
import Derived.Test.YtgdklpgmoanfkaaLruMath
namespace Go.Proofs.Ytgdklpgmoanfkaa.Lfu
open Lru (isRm isK keysE keysE_zero traceE trace_zero)
set_option linter.unusedVariables false

structure Us where
  key : Int
  cnt : Int
instance : DecidableEq Us := fun a b =>
  if h : a.key = b.key ∧ a.cnt = b.cnt then isTrue (by cases a; cases b; simp_all) else isFalse (fun e => h (by rw [e]; exact ⟨rfl, rfl⟩))
instance : Inhabited Us := ⟨⟨0, 0⟩⟩
abbrev gu (L : List Us) (i : Nat) : Us := L.getD i ⟨0, 0⟩
theorem gu_get {L : List Us} {i : Nat} (h : i < L.length) : gu L i = L[i] := by unfold gu; rw [List.getD_eq_getElem?_getD, List.getElem?_eq_getElem h]; rfl
theorem gu_mem {L : List Us} {i : Nat} (h : i < L.length) : gu L i ∈ L := by rw [gu_get h]; exact List.getElem_mem h
theorem gu_set {L : List Us} {i j : Nat} {f : Us} (h : i < L.length) : gu (L.set i f) j = if i = j then f else gu L j := by
  unfold gu
  rw [List.getD_eq_getElem?_getD, List.getElem?_set, List.getD_eq_getElem?_getD]
  by_cases e : i = j
  · subst e; rw [if_pos rfl, if_pos rfl, if_pos h]; rfl
  · rw [if_neg e, if_neg e]
def keys (L : List Us) : List Int := L.map Us.key
theorem keys_len (L : List Us) : (keys L).length = L.length := by simp [keys]
theorem keys_get {L : List Us} {i : Nat} (h : i < L.length) : (keys L)[i]'(by rw [keys_len]; exact h) = (gu L i).key := by
  rw [gu_get h]; simp [keys]
theorem keys_mem {L : List Us} {i : Nat} (h : i < L.length) : (gu L i).key ∈ keys L := by rw [← keys_get h]; exact List.getElem_mem _
theorem keys_cons (u : Us) (L : List Us) : keys (u :: L) = u.key :: keys L := by simp [keys]
theorem keys_take (L : List Us) (k : Nat) : keys (L.take k) = (keys L).take k := by unfold keys; rw [List.map_take]
theorem keys_app (L M : List Us) : keys (L ++ M) = keys L ++ keys M := by simp [keys]
theorem mem_keys {L : List Us} {x : Int} : x ∈ keys L ↔ ∃ u ∈ L, u.key = x := by simp [keys]

def okC (c : Int) : Prop := 1 ≤ c ∧ c ≤ 1099511627776
instance (c : Int) : Decidable (okC c) := by unfold okC; infer_instance
def checkK (r : Int) (L : List Us) : Int :=
  if isRm r then (if r < (L.length : Int) then 2 else if keysE [] (keys L) = 0 then (if (∀ u ∈ L, okC u.cnt) then 0 else 3) else keysE [] (keys L)) else 3
/-- A cache that passes. -/
structure Good (r : Int) (L : List Us) : Prop where
  room : isRm r
  few : (L.length : Int) ≤ r
  keys : ∀ x ∈ keys L, isK x
  once : (Lfu.keys L).Nodup
  cnts : ∀ u ∈ L, okC u.cnt
theorem check_zero {r : Int} {L : List Us} : checkK r L = 0 ↔ Good r L := by
  unfold checkK
  by_cases h1 : isRm r
  · by_cases h2 : r < (L.length : Int)
    · rw [if_pos h1, if_pos h2]
      exact ⟨fun h => (by cases h), fun h => absurd h.few (by omega)⟩
    · rw [if_pos h1, if_neg h2]
      by_cases h3 : keysE [] (keys L) = 0
      · rw [if_pos h3]
        have k := keysE_zero.1 h3
        by_cases h4 : ∀ u ∈ L, okC u.cnt
        · rw [if_pos h4]; exact ⟨fun _ => ⟨h1, by omega, k.1, k.2.1, h4⟩, fun _ => rfl⟩
        · rw [if_neg h4]; exact ⟨fun e => (by cases e), fun g => absurd g.cnts h4⟩
      · rw [if_neg h3]; exact ⟨fun e => absurd e h3, fun g => absurd (keysE_zero.2 ⟨g.keys, g.once, fun _ _ => by simp⟩) h3⟩
  · rw [if_neg h1]
    exact ⟨fun h => (by cases h), fun h => absurd h.room h1⟩

/-- One element taken out. -/
def rem (L : List Us) (k : Nat) : List Us := L.take k ++ L.drop (k + 1)
theorem rem_len {L : List Us} {k : Nat} (h : k < L.length) : (rem L k).length = L.length - 1 := by unfold rem; simp; omega
theorem rem_eq (L : List Us) (k : Nat) : rem L k = L.eraseIdx k := (List.eraseIdx_eq_take_drop_succ L k).symm
theorem rem_sub (L : List Us) (k : Nat) : List.Sublist (rem L k) L := by rw [rem_eq]; exact List.eraseIdx_sublist L k
theorem rem_mem {L : List Us} {k : Nat} {u : Us} (h : u ∈ rem L k) : u ∈ L := (rem_sub L k).mem h
theorem rem_split {L : List Us} {k : Nat} (h : k < L.length) : L = L.take k ++ gu L k :: L.drop (k + 1) := by
  rw [gu_get h, ← List.drop_eq_getElem_cons h, List.take_append_drop]
theorem rem_keys {L : List Us} {k : Nat} (h : k < L.length) (hn : (keys L).Nodup) : (gu L k).key ∉ keys (rem L k) := by
  rw [rem_split h, keys_app, keys_cons, List.nodup_append] at hn
  obtain ⟨h1, h2, h3⟩ := hn
  rw [List.nodup_cons] at h2
  unfold rem
  rw [keys_app]
  intro m
  rcases List.mem_append.1 m with a | a
  · exact h3 _ a _ (by simp) rfl
  · exact h2.1 a
theorem rem_nodup {L : List Us} {k : Nat} (hn : (keys L).Nodup) : (keys (rem L k)).Nodup := hn.sublist ((rem_sub L k).map _)
theorem rem_filter {L : List Us} {k : Nat} (h : k < L.length) (hn : (keys L).Nodup) : rem L k = L.filter (fun u => u.key != (gu L k).key) := by
  have h1 := rem_keys h hn
  generalize hx : (gu L k).key = x at *
  conv => rhs; rw [rem_split h]
  rw [List.filter_append, List.filter_cons, if_neg (by rw [hx]; simp)]
  unfold rem at *
  rw [keys_app] at h1
  have e1 : (L.take k).filter (fun u => u.key != x) = L.take k := List.filter_eq_self.2 (fun u hu => by
    have : u.key ≠ x := fun e => h1 (List.mem_append.2 (.inl (mem_keys.2 ⟨u, hu, e⟩)))
    simpa using this)
  have e2 : (L.drop (k + 1)).filter (fun u => u.key != x) = L.drop (k + 1) := List.filter_eq_self.2 (fun u hu => by
    have : u.key ≠ x := fun e => h1 (List.mem_append.2 (.inr (mem_keys.2 ⟨u, hu, e⟩)))
    simpa using this)
  rw [e1, e2]

/-- The place of the smallest count among the first k, the last of several. -/
def vic (L : List Us) : Nat → Nat
  | 0 => 0
  | k + 1 => if (gu L k).cnt ≤ (gu L (vic L k)).cnt then k else vic L k
theorem vic_lt (L : List Us) : ∀ k, 0 < k → vic L k < k
  | 0, h => by omega
  | k + 1, _ => by
    unfold vic
    split
    · omega
    · rcases Nat.eq_zero_or_pos k with e | e
      · subst e; unfold vic; omega
      · have := vic_lt L k e; omega
theorem vic_le (L : List Us) : ∀ k i, i < k → (gu L (vic L k)).cnt ≤ (gu L i).cnt
  | 0, i, h => by omega
  | k + 1, i, h => by
    unfold vic
    split
    · rename_i h2
      rcases Nat.lt_or_ge i k with e | e
      · exact Int.le_trans h2 (vic_le L k i e)
      · obtain rfl : i = k := by omega
        exact Int.le_refl _
    · rename_i h2
      rcases Nat.lt_or_ge i k with e | e
      · exact vic_le L k i e
      · obtain rfl : i = k := by omega
        omega
theorem vic_last (L : List Us) : ∀ k i, i < k → vic L k < i → (gu L (vic L k)).cnt < (gu L i).cnt
  | 0, i, h, _ => by omega
  | k + 1, i, h, h3 => by
    unfold vic at h3 ⊢
    split
    · rename_i h2
      rw [if_pos h2] at h3
      omega
    · rename_i h2
      rw [if_neg h2] at h3
      rcases Nat.lt_or_ge i k with e | e
      · exact vic_last L k i e h3
      · obtain rfl : i = k := by omega
        omega
abbrev vicN (L : List Us) : Nat := vic L L.length
theorem vicN_lt {L : List Us} (h : 0 < L.length) : vicN L < L.length := vic_lt L _ h

/-- One more, up to the greatest count. -/
def inc (c : Int) : Int := min (c + 1) 1099511627776
theorem inc_ok {c : Int} (h : okC c) : okC (inc c) := by unfold okC inc at *; omega

/-- A key is accessed. -/
def tch (r : Int) (L : List Us) (x : Int) : List Us :=
  if x ∈ keys L then ⟨x, inc (gu L ((keys L).idxOf x)).cnt⟩ :: rem L ((keys L).idxOf x) else if (L.length : Int) = r then ⟨x, 1⟩ :: rem L (vicN L) else ⟨x, 1⟩ :: L
def gone (r : Int) (L : List Us) (x : Int) : Int := if x ∈ keys L then -1 else if (L.length : Int) = r then (gu L (vicN L)).key else -1
def runU (r : Int) (L : List Us) (xs : List Int) : List Us := xs.foldl (tch r) L
def hitsU (r : Int) (L : List Us) : List Int → Nat
  | [] => 0
  | x :: xs => (if x ∈ keys L then 1 else 0) + hitsU r (tch r L x) xs
theorem runU_snoc (r : Int) (L : List Us) (xs : List Int) (x : Int) : runU r L (xs ++ [x]) = tch r (runU r L xs) x := by unfold runU; rw [List.foldl_append]; rfl
theorem runU_append (r : Int) (L : List Us) (xs ys : List Int) : runU r L (xs ++ ys) = runU r (runU r L xs) ys := by unfold runU; rw [List.foldl_append]
theorem hitsU_append (r : Int) : ∀ (L : List Us) (xs ys : List Int), hitsU r L (xs ++ ys) = hitsU r L xs + hitsU r (runU r L xs) ys
  | L, [], ys => by simp [hitsU, runU]
  | L, x :: xs, ys => by
    show (if x ∈ keys L then 1 else 0) + hitsU r (tch r L x) (xs ++ ys) = (if x ∈ keys L then 1 else 0) + hitsU r (tch r L x) xs + hitsU r (runU r (tch r L x) xs) ys
    rw [hitsU_append r (tch r L x) xs ys, Nat.add_assoc]
theorem hitsU_snoc (r : Int) (L : List Us) (xs : List Int) (x : Int) : hitsU r L (xs ++ [x]) = hitsU r L xs + (if x ∈ keys (runU r L xs) then 1 else 0) := by
  rw [hitsU_append]; rfl
theorem hitsU_le (r : Int) : ∀ (L : List Us) (xs : List Int), hitsU r L xs ≤ xs.length
  | L, [] => Nat.le_refl _
  | L, x :: xs => by
    have := hitsU_le r (tch r L x) xs
    unfold hitsU
    simp only [List.length_cons]
    split <;> omega

theorem idx_key {L : List Us} {x : Int} (h : x ∈ keys L) : (keys L).idxOf x < L.length ∧ (gu L ((keys L).idxOf x)).key = x := by
  have h1 := List.idxOf_lt_length_of_mem h
  have h2 : (keys L).idxOf x < L.length := by rw [← keys_len L]; exact h1
  exact ⟨h2, by rw [← keys_get h2, List.getElem_idxOf h1]⟩
theorem tch_hit {r : Int} {L : List Us} {x : Int} (h : x ∈ keys L) : tch r L x = ⟨x, inc (gu L ((keys L).idxOf x)).cnt⟩ :: rem L ((keys L).idxOf x) := by unfold tch; rw [if_pos h]
theorem tch_full {r : Int} {L : List Us} {x : Int} (h : x ∉ keys L) (hl : (L.length : Int) = r) : tch r L x = ⟨x, 1⟩ :: rem L (vicN L) := by unfold tch; rw [if_neg h, if_pos hl]
theorem tch_room {r : Int} {L : List Us} {x : Int} (h : x ∉ keys L) (hl : ¬ (L.length : Int) = r) : tch r L x = ⟨x, 1⟩ :: L := by unfold tch; rw [if_neg h, if_neg hl]
theorem good_cons {r : Int} {L M : List Us} {u : Us} (h : Good r L) (hs : List.Sublist M L) (hl : (M.length : Int) < r) (hx : isK u.key) (hn : u.key ∉ keys M) (hc : okC u.cnt) : Good r (u :: M) := by
  refine ⟨h.room, by simp; omega, fun y hy => ?_, ?_, fun v hv => ?_⟩
  · rw [keys_cons] at hy
    rcases List.mem_cons.1 hy with e | m
    · rw [e]; exact hx
    · exact h.keys y ((hs.map _).mem m)
  · rw [keys_cons, List.nodup_cons]
    exact ⟨hn, h.once.sublist (hs.map _)⟩
  · rcases List.mem_cons.1 hv with e | m
    · rw [e]; exact hc
    · exact h.cnts v (hs.mem m)
theorem tch_good {r : Int} {L : List Us} {x : Int} (h : Good r L) (hx : isK x) : Good r (tch r L x) := by
  have hf := h.few
  have hr := h.room.1
  by_cases h1 : x ∈ keys L
  · rw [tch_hit h1]
    obtain ⟨hk, hky⟩ := idx_key h1
    exact good_cons h (rem_sub _ _) (by rw [rem_len hk]; omega) hx (by have := rem_keys hk h.once; rwa [hky] at this) (inc_ok (h.cnts _ (gu_mem hk)))
  · by_cases h2 : (L.length : Int) = r
    · rw [tch_full h1 h2]
      have hv := vicN_lt (L := L) (by omega)
      exact good_cons h (rem_sub _ _) (by rw [rem_len hv]; omega) hx (fun m => h1 (((rem_sub _ _).map _).mem m)) (by show (1 : Int) ≤ 1 ∧ (1 : Int) ≤ 1099511627776; decide)
    · rw [tch_room h1 h2]
      exact good_cons h (List.Sublist.refl _) (by omega) hx h1 (by show (1 : Int) ≤ 1 ∧ (1 : Int) ≤ 1099511627776; decide)
theorem runU_good {r : Int} : ∀ {L : List Us} {xs : List Int}, Good r L → (∀ x ∈ xs, isK x) → Good r (runU r L xs)
  | L, [], h, _ => h
  | L, x :: xs, h, hx => runU_good (L := tch r L x) (xs := xs) (tch_good h (hx x (by simp))) (fun y hy => hx y (by simp [hy]))
theorem Good.len40 {r : Int} {L : List Us} (g : Good r L) : L.length ≤ 40 := by have := g.few; have := g.room.2; omega

/-- Every count halved, but at least 1. -/
def half (L : List Us) : List Us := L.map (fun u => ⟨u.key, max (u.cnt / 2) 1⟩)
theorem half_len (L : List Us) : (half L).length = L.length := by simp [half]
theorem half_get {L : List Us} {i : Nat} (h : i < L.length) : gu (half L) i = ⟨(gu L i).key, max ((gu L i).cnt / 2) 1⟩ := by
  rw [gu_get (by rw [half_len]; exact h), gu_get h]; simp [half]

end Go.Proofs.Ytgdklpgmoanfkaa.Lfu
