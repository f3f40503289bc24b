/-
  Least recently used: plain functions on lists of keys.
-/
import Derived.Test.YtjmhemkbfephpaaBloomMath
namespace Go.Proofs.Ytjmhemkbfephpaa.Lru
set_option linter.unusedVariables false

def isRm (r : Int) : Prop := 1 ≤ r ∧ r ≤ 40
instance (r : Int) : Decidable (isRm r) := by unfold isRm; infer_instance
def isK (x : Int) : Prop := 0 ≤ x ∧ x ≤ 1048576
instance (x : Int) : Decidable (isK x) := by unfold isK; infer_instance
/-- What is wrong with the keys behind others. -/
def keysE : List Int → List Int → Int
  | _, [] => 0
  | pre, x :: xs => if isK x then (if x ∈ pre then 6 else keysE (pre ++ [x]) xs) else 3
def checkC (r : Int) (L : List Int) : Int := if isRm r then (if r < (L.length : Int) then 2 else keysE [] L) else 3
def traceE (L : List Int) : Int := if 200 < L.length then 2 else if (∀ x ∈ L, isK x) then 0 else 3

theorem keysE_zero : ∀ {pre L : List Int}, keysE pre L = 0 ↔ (∀ x ∈ L, isK x) ∧ L.Nodup ∧ ∀ x ∈ L, x ∉ pre
  | pre, [] => by simp [keysE]
  | pre, x :: xs => by
    unfold keysE
    by_cases h1 : isK x
    · by_cases h2 : x ∈ pre
      · rw [if_pos h1, if_pos h2]
        refine ⟨fun h => (by cases h), fun h => absurd h2 (h.2.2 x (by simp))⟩
      · rw [if_pos h1, if_neg h2, keysE_zero, List.nodup_cons]
        constructor
        · rintro ⟨a, b, c⟩
          refine ⟨fun y hy => ?_, ⟨fun hm => c x hm (by simp), b⟩, fun y hy => ?_⟩
          · rcases List.mem_cons.1 hy with rfl | m
            · exact h1
            · exact a y m
          · rcases List.mem_cons.1 hy with rfl | m
            · exact h2
            · exact fun hp => c y m (by simp [hp])
        · rintro ⟨a, ⟨b1, b2⟩, c⟩
          refine ⟨fun y hy => a y (by simp [hy]), b2, fun y hy hm => ?_⟩
          rcases List.mem_append.1 hm with m | m
          · exact c y (by simp [hy]) m
          · simp only [List.mem_singleton] at m
            exact b1 (m ▸ hy)
    · rw [if_neg h1]
      exact ⟨fun h => (by cases h), fun h => absurd (h.1 x (by simp)) h1⟩
/-- A cache that passes. -/
structure Good (r : Int) (L : List Int) : Prop where
  room : isRm r
  few : (L.length : Int) ≤ r
  keys : ∀ x ∈ L, isK x
  once : L.Nodup
theorem check_zero {r : Int} {L : List Int} : checkC r L = 0 ↔ Good r L := by
  unfold checkC
  by_cases h1 : isRm r
  · by_cases h2 : r < (L.length : Int)
    · rw [if_pos h1, if_pos h2]
      exact ⟨fun h => (by cases h), fun h => absurd h.few (by omega)⟩
    · rw [if_pos h1, if_neg h2, keysE_zero]
      exact ⟨fun h => ⟨h1, by omega, h.1, h.2.1⟩, fun h => ⟨h.keys, h.once, fun _ _ => by simp⟩⟩
  · rw [if_neg h1]
    exact ⟨fun h => (by cases h), fun h => absurd h.room h1⟩
theorem trace_zero {L : List Int} : traceE L = 0 ↔ L.length ≤ 200 ∧ ∀ x ∈ L, isK x := by
  unfold traceE
  by_cases h1 : 200 < L.length
  · rw [if_pos h1]; exact ⟨fun h => (by cases h), fun h => absurd h.1 (by omega)⟩
  · rw [if_neg h1]
    by_cases h2 : ∀ x ∈ L, isK x
    · rw [if_pos h2]; exact ⟨fun _ => ⟨by omega, h2⟩, fun _ => rfl⟩
    · rw [if_neg h2]; exact ⟨fun h => (by cases h), fun h => absurd h.2 h2⟩

/-- The key to the front; as many as there is room. -/
def touch (r : Int) (L : List Int) (x : Int) : List Int := x :: (L.erase x).take (r.toNat - 1)
def gone (r : Int) (L : List Int) (x : Int) : Int := if x ∈ L then -1 else if (L.length : Int) = r then gi L (L.length - 1) else -1
def runL (r : Int) (L xs : List Int) : List Int := xs.foldl (touch r) L
def hitsM (r : Int) (L : List Int) : List Int → Nat
  | [] => 0
  | x :: xs => (if x ∈ L then 1 else 0) + hitsM r (touch r L x) xs
theorem runL_snoc (r : Int) (L xs : List Int) (x : Int) : runL r L (xs ++ [x]) = touch r (runL r L xs) x := by unfold runL; rw [List.foldl_append]; rfl
theorem hitsM_append (r : Int) : ∀ (L xs ys : List Int), hitsM r L (xs ++ ys) = hitsM r L xs + hitsM r (runL r L xs) ys
  | L, [], ys => by simp [hitsM, runL]
  | L, x :: xs, ys => by
    show (if x ∈ L then 1 else 0) + hitsM r (touch r L x) (xs ++ ys) = (if x ∈ L then 1 else 0) + hitsM r (touch r L x) xs + hitsM r (runL r (touch r L x) xs) ys
    rw [hitsM_append r (touch r L x) xs ys, Nat.add_assoc]
theorem runL_append (r : Int) (L xs ys : List Int) : runL r L (xs ++ ys) = runL r (runL r L xs) ys := by unfold runL; rw [List.foldl_append]
theorem hitsM_snoc (r : Int) (L xs : List Int) (x : Int) : hitsM r L (xs ++ [x]) = hitsM r L xs + (if x ∈ runL r L xs then 1 else 0) := by
  rw [hitsM_append]; rfl
theorem hitsM_le (r : Int) : ∀ (L xs : List Int), hitsM r L xs ≤ xs.length
  | L, [] => Nat.le_refl _
  | L, x :: xs => by
    have := hitsM_le r (touch r L x) xs
    unfold hitsM
    simp only [List.length_cons]
    split <;> omega

theorem touch_in {r : Int} {L : List Int} {x : Int} (h : x ∈ L) (hl : (L.length : Int) ≤ r) : touch r L x = x :: L.erase x := by
  unfold touch
  rw [List.take_of_length_le]
  rw [List.length_erase_of_mem h]
  omega
theorem touch_full {r : Int} {L : List Int} {x : Int} (h : x ∉ L) (hl : (L.length : Int) = r) : touch r L x = x :: L.take (L.length - 1) := by
  unfold touch
  rw [List.erase_of_not_mem h]
  congr 2
  omega
theorem touch_room {r : Int} {L : List Int} {x : Int} (h : x ∉ L) (hl : (L.length : Int) < r) : touch r L x = x :: L := by
  unfold touch
  rw [List.erase_of_not_mem h, List.take_of_length_le (by omega)]
theorem touch_len {r : Int} {L : List Int} {x : Int} (hr : 1 ≤ r) : ((touch r L x).length : Int) ≤ r := by
  unfold touch
  simp only [List.length_cons, List.length_take]
  omega
theorem touch_mem {r : Int} {L : List Int} {x y : Int} (h : y ∈ touch r L x) : y = x ∨ y ∈ L := by
  unfold touch at h
  rcases List.mem_cons.1 h with e | m
  · exact .inl e
  · exact .inr (List.mem_of_mem_erase (List.mem_of_mem_take m))
theorem touch_good {r : Int} {L : List Int} {x : Int} (h : Good r L) (hx : isK x) : Good r (touch r L x) :=
  ⟨h.room, touch_len h.room.1, fun y hy => (touch_mem hy).elim (fun e => e ▸ hx) (fun m => h.keys y m), by
    unfold touch
    rw [List.nodup_cons]
    exact ⟨fun m => (List.Nodup.not_mem_erase h.once) (List.mem_of_mem_take m), (List.Nodup.erase _ h.once).sublist (List.take_sublist _ _)⟩⟩
theorem runL_good {r : Int} : ∀ {L xs : List Int}, Good r L → (∀ x ∈ xs, isK x) → Good r (runL r L xs)
  | L, [], h, _ => h
  | L, x :: xs, h, hx => runL_good (L := touch r L x) (xs := xs) (touch_good h (hx x (by simp))) (fun y hy => hx y (by simp [hy]))
theorem runL_mem {r : Int} : ∀ {L xs : List Int} {y : Int}, y ∈ runL r L xs → y ∈ L ∨ y ∈ xs
  | L, [], y, h => .inl h
  | L, x :: xs, y, h => by
    rcases runL_mem (L := touch r L x) (xs := xs) h with m | m
    · rcases touch_mem m with e | m
      · exact .inr (by simp [e])
      · exact .inl m
    · exact .inr (by simp [m])
/-- The last key is the first of the cache. -/
theorem touch_again {r : Int} {L : List Int} {x : Int} (hl : (L.length : Int) ≤ r) : touch r (x :: L) x = x :: L.take (r.toNat - 1) := by
  unfold touch; rw [List.erase_cons_head]

/-! ### The stack of all keys -/
def stack (S xs : List Int) : List Int := xs.foldl (fun S x => x :: S.erase x) S
theorem erase_take {x : Int} : ∀ {S : List Int} {n : Nat}, ((S.take (n + 1)).erase x).take n = (S.erase x).take n
  | [], n => by simp
  | y :: S, 0 => by simp
  | y :: S, n + 1 => by
    rw [List.take_succ_cons]
    by_cases h : y = x
    · subst h
      rw [List.erase_cons_head, List.erase_cons_head, List.take_take, Nat.min_self]
    · have h2 : ¬ (y == x) = true := by simpa using h
      rw [List.erase_cons_tail h2, List.erase_cons_tail h2, List.take_succ_cons, List.take_succ_cons, erase_take]
theorem touch_stack {r : Int} {S : List Int} {x : Int} (hr : 1 ≤ r) : touch r (S.take r.toNat) x = (x :: S.erase x).take r.toNat := by
  unfold touch
  obtain ⟨n, hn⟩ : ∃ n, r.toNat = n + 1 := ⟨r.toNat - 1, by omega⟩
  rw [hn, List.take_succ_cons, Nat.add_sub_cancel, erase_take]
theorem runL_stack {r : Int} (hr : 1 ≤ r) : ∀ {S xs : List Int}, runL r (S.take r.toNat) xs = (stack S xs).take r.toNat
  | S, [] => rfl
  | S, x :: xs => by
    show runL r (touch r (S.take r.toNat) x) xs = _
    rw [touch_stack hr, runL_stack hr]
    rfl
theorem hits_mono {r q : Int} (hr : 1 ≤ r) (hq : r ≤ q) : ∀ {S xs : List Int}, hitsM r (S.take r.toNat) xs ≤ hitsM q (S.take q.toNat) xs
  | S, [] => Nat.le_refl _
  | S, x :: xs => by
    unfold hitsM
    rw [touch_stack hr, touch_stack (by omega)]
    have ih := hits_mono hr hq (S := x :: S.erase x) (xs := xs)
    have : x ∈ S.take r.toNat → x ∈ S.take q.toNat := fun h => (List.take_subset_take_left S (by omega)) h
    by_cases h1 : x ∈ S.take r.toNat
    · rw [if_pos h1, if_pos (this h1)]; omega
    · rw [if_neg h1]; split <;> omega

end Go.Proofs.Ytjmhemkbfephpaa.Lru
