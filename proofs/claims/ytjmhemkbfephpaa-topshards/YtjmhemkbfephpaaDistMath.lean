/-
  Stack distances and working sets: plain functions on a trace.
-/
import Derived.Test.YtjmhemkbfephpaaLruMath
namespace Go.Proofs.Ytjmhemkbfephpaa.Dst
open Lru (touch hitsM runL stack runL_stack touch_stack)
set_option linter.unusedVariables false

/-- The different keys of a list, each at its first place. -/
def uq : List Int → List Int
  | [] => []
  | y :: P => y :: (uq P).filter (fun z => z != y)
theorem uq_mem : ∀ {P : List Int} {x : Int}, x ∈ uq P ↔ x ∈ P
  | [], x => Iff.rfl
  | y :: P, x => by
    unfold uq
    rw [List.mem_cons, List.mem_cons, List.mem_filter, uq_mem]
    by_cases e : x = y
    · simp [e]
    · simp [e]
theorem uq_nodup : ∀ (P : List Int), (uq P).Nodup
  | [] => List.nodup_nil
  | y :: P => by
    unfold uq
    exact List.nodup_cons.2 ⟨fun m => by simpa using (List.mem_filter.1 m).2, (uq_nodup P).filter _⟩
theorem uq_len_le : ∀ (P : List Int), (uq P).length ≤ P.length
  | [] => Nat.le_refl _
  | y :: P => by
    have h1 := uq_len_le P
    have h2 := List.length_filter_le (fun z => z != y) (uq P)
    unfold uq
    simp only [List.length_cons]
    omega
theorem uq_app : ∀ (A B : List Int), uq (A ++ B) = uq A ++ (uq B).filter (fun z => decide (z ∉ A))
  | [], B => by
    show uq B = _
    rw [show uq ([] : List Int) = [] from rfl, List.nil_append, List.filter_eq_self.2]
    intro z _; simp
  | y :: A, B => by
    show y :: (uq (A ++ B)).filter (fun z => z != y) = (y :: (uq A).filter (fun z => z != y)) ++ _
    rw [uq_app A B, List.filter_append, List.cons_append, List.filter_filter]
    congr 2
    refine List.filter_congr (fun z _ => ?_)
    by_cases e : z = y
    · simp [e]
    · simp [e]
theorem sub_len : ∀ {L S : List Int}, L.Nodup → (∀ x ∈ L, x ∈ S) → L.length ≤ S.length
  | [], _, _, _ => Nat.zero_le _
  | x :: L, S, hn, h => by
    obtain ⟨h1, h2⟩ := List.nodup_cons.1 hn
    have hx := h x (by simp)
    have := sub_len (L := L) (S := S.erase x) h2 (fun y hy => (List.mem_erase_of_ne (by intro e; subst e; exact h1 hy)).2 (h y (by simp [hy])))
    rw [List.length_erase_of_mem hx] at this
    have := List.length_pos_of_mem hx
    simp only [List.length_cons]; omega
theorem same_len {L S : List Int} (h1 : L.Nodup) (h2 : S.Nodup) (h : ∀ x, x ∈ L ↔ x ∈ S) : L.length = S.length :=
  Nat.le_antisymm (sub_len h1 (fun x hx => (h x).1 hx)) (sub_len h2 (fun x hx => (h x).2 hx))
theorem uq_len_eq {A B : List Int} (h : ∀ x, x ∈ A ↔ x ∈ B) : (uq A).length = (uq B).length :=
  same_len (uq_nodup A) (uq_nodup B) (fun x => by rw [uq_mem, uq_mem]; exact h x)
theorem uq_len_mono {A B : List Int} (h : ∀ x ∈ A, x ∈ B) : (uq A).length ≤ (uq B).length :=
  sub_len (uq_nodup A) (fun x hx => uq_mem.2 (h x (uq_mem.1 hx)))
/-- The different keys, gathered one after another. -/
def gat (acc : List Int) : List Int → List Int
  | [] => acc
  | x :: L => gat (if x ∈ acc then acc else acc ++ [x]) L
theorem gat_spec : ∀ {L acc : List Int}, acc.Nodup → (gat acc L).Nodup ∧ ∀ x, x ∈ gat acc L ↔ x ∈ acc ∨ x ∈ L
  | [], acc, h => ⟨h, fun x => by simp [gat]⟩
  | y :: L, acc, h => by
    unfold gat
    by_cases hy : y ∈ acc
    · rw [if_pos hy]
      obtain ⟨h1, h2⟩ := gat_spec (L := L) h
      refine ⟨h1, fun x => ?_⟩
      rw [h2, List.mem_cons]
      constructor
      · rintro (h | h)
        · exact .inl h
        · exact .inr (.inr h)
      · rintro (h | h | h)
        · exact .inl h
        · exact .inl (h ▸ hy)
        · exact .inr h
    · rw [if_neg hy]
      have hn : (acc ++ [y]).Nodup := List.nodup_append.2 ⟨h, by simp, fun a ha b hb e => by simp only [List.mem_singleton] at hb; subst hb; subst e; exact hy ha⟩
      obtain ⟨h1, h2⟩ := gat_spec (L := L) hn
      refine ⟨h1, fun x => ?_⟩
      rw [h2, List.mem_append, List.mem_singleton, List.mem_cons, or_assoc]
theorem gat_len (L : List Int) : (gat [] L).length = (uq L).length := by
  obtain ⟨h1, h2⟩ := gat_spec (L := L) List.nodup_nil
  exact same_len h1 (uq_nodup L) (fun x => by rw [h2, uq_mem]; simp)
theorem gat_snoc (acc : List Int) : ∀ (L : List Int) (x : Int), gat acc (L ++ [x]) = if x ∈ gat acc L then gat acc L else gat acc L ++ [x]
  | [], x => rfl
  | y :: L, x => by
    show gat (if y ∈ acc then acc else acc ++ [y]) (L ++ [x]) = _
    rw [gat_snoc _ L x]
    rfl

/-! ### The stack of LRU is the different keys, the last accessed first -/
theorem erase_uq {S : List Int} (h : S.Nodup) (y : Int) : S.erase y = S.filter (fun z => z != y) := List.Nodup.erase_eq_filter h y
theorem stack_snoc (S xs : List Int) (x : Int) : stack S (xs ++ [x]) = x :: (stack S xs).erase x := by unfold stack; rw [List.foldl_append]; rfl
theorem snoc_cases (xs : List Int) : xs = [] ∨ ∃ ys y, xs = ys ++ [y] := by
  by_cases h : xs = []
  · exact .inl h
  · exact .inr ⟨xs.dropLast, xs.getLast h, (List.dropLast_concat_getLast h).symm⟩
theorem stack_uq : ∀ (n : Nat) (xs : List Int), xs.length = n → stack [] xs = uq xs.reverse
  | 0, xs, h => by rw [List.length_eq_zero_iff.1 h]; rfl
  | n + 1, xs, h => by
    rcases snoc_cases xs with e | ⟨ys, y, e⟩
    · subst e; simp at h
    · subst e
      rw [stack_snoc, stack_uq n ys (by simpa using h), List.reverse_append]
      show y :: (uq ys.reverse).erase y = y :: (uq ys.reverse).filter (fun z => z != y)
      rw [erase_uq (uq_nodup _)]

/-- How deep a key lies (0: nowhere). -/
def dep (S : List Int) (x : Int) : Nat := if x ∈ S then S.idxOf x + 1 else 0
theorem dep_take {S : List Int} {x : Int} {r : Nat} : x ∈ S.take r ↔ 1 ≤ dep S x ∧ dep S x ≤ r := by
  unfold dep
  by_cases h : x ∈ S
  · rw [if_pos h]
    constructor
    · intro hm
      have h1 := List.idxOf_lt_length_of_mem hm
      have h2 : (S.take r).idxOf x = S.idxOf x := by
        conv => rhs; rw [← List.take_append_drop r S]
        rw [List.idxOf_append, if_pos hm]
      rw [h2, List.length_take] at h1
      omega
    · intro hh
      have hk := List.idxOf_lt_length_of_mem h
      have : (S.take r)[S.idxOf x]? = some x := by
        rw [List.getElem?_take_of_lt (by omega), List.getElem?_eq_getElem hk, List.getElem_idxOf hk]
      exact List.mem_of_getElem? this
  · rw [if_neg h]
    exact ⟨fun hm => absurd (List.mem_of_mem_take hm) h, fun hh => by omega⟩
theorem dep_split {A B : List Int} {x : Int} (h : x ∉ A) : dep (uq (A ++ x :: B)) x = (uq (x :: A)).length := by
  have hm : x ∈ uq (A ++ x :: B) := uq_mem.2 (by simp)
  unfold dep
  rw [if_pos hm, uq_app]
  have h1 : x ∉ uq A := fun m => h (uq_mem.1 m)
  have h2 : (uq (x :: B)).filter (fun z => decide (z ∉ A)) = x :: ((uq B).filter (fun z => z != x)).filter (fun z => decide (z ∉ A)) := by
    show (x :: (uq B).filter (fun z => z != x)).filter _ = _
    rw [List.filter_cons, if_pos (by simpa using h)]
  rw [h2, List.idxOf_append, if_neg h1, List.idxOf_cons_self]
  show 0 + (uq A).length + 1 = (x :: (uq A).filter (fun z => z != x)).length
  rw [List.filter_eq_self.2 (fun z hz => by
    have : z ≠ x := by intro e; subst e; exact h1 hz
    simpa using this)]
  simp

/-- The depths of all accesses. -/
def deps (S : List Int) : List Int → List Nat
  | [] => []
  | x :: xs => dep S x :: deps (x :: S.erase x) xs
theorem deps_len : ∀ (S xs : List Int), (deps S xs).length = xs.length
  | _, [] => rfl
  | S, x :: xs => by unfold deps; simp only [List.length_cons, deps_len]
theorem deps_app : ∀ (S xs ys : List Int), deps S (xs ++ ys) = deps S xs ++ deps (stack S xs) ys
  | S, [], ys => rfl
  | S, x :: xs, ys => by
    show dep S x :: deps (x :: S.erase x) (xs ++ ys) = dep S x :: deps (x :: S.erase x) xs ++ _
    rw [deps_app]
    rfl
theorem deps_at {l : List Int} {i : Nat} (h : i < l.length) : (deps [] l)[i]? = some (dep (uq (l.take i).reverse) (gi l i)) := by
  have e : l = l.take i ++ gi l i :: l.drop (i + 1) := by rw [gi_get h, ← List.drop_eq_getElem_cons h, List.take_append_drop]
  have hl : (l.take i).length = i := by rw [List.length_take]; omega
  conv => lhs; rw [e]
  rw [deps_app, List.getElem?_append_right (by rw [deps_len, hl]; exact Nat.le_refl _), deps_len, hl, Nat.sub_self, stack_uq i _ hl]
  rfl
def within (r : Nat) (d : Nat) : Bool := decide (1 ≤ d ∧ d ≤ r)
/-- Hits of LRU are the accesses that lie no deeper than there is room. -/
theorem hits_deps {r : Int} (hr : 1 ≤ r) : ∀ (xs S : List Int), hitsM r (S.take r.toNat) xs = (deps S xs).countP (within r.toNat)
  | [], S => rfl
  | x :: xs, S => by
    show (if x ∈ S.take r.toNat then 1 else 0) + hitsM r (touch r (S.take r.toNat) x) xs = (dep S x :: deps (x :: S.erase x) xs).countP _
    rw [touch_stack hr, hits_deps hr xs (x :: S.erase x), List.countP_cons]
    have : (x ∈ S.take r.toNat) ↔ within r.toNat (dep S x) = true := by unfold within; rw [dep_take]; simp
    by_cases h : x ∈ S.take r.toNat
    · rw [if_pos h, if_pos (this.1 h)]; omega
    · rw [if_neg h, if_neg (fun k => h (this.2 k))]; omega
theorem hits_room {r : Int} (hr : 1 ≤ r) (xs : List Int) : hitsM r [] xs = (deps [] xs).countP (within r.toNat) := by
  have := hits_deps hr xs []
  simpa using this
theorem within_mono {r q d : Nat} (h : r ≤ q) (hw : within r d = true) : within q d = true := by
  unfold within at *; simp at hw ⊢; omega
theorem count_mono {r q : Nat} (h : r ≤ q) (D : List Nat) : D.countP (within r) ≤ D.countP (within q) :=
  List.countP_mono_left (fun d _ hd => within_mono h hd)

/-! ### The reference's walk: the last place ahead of i that holds the key -/
/-- Where y was last, ahead of i: its place and one more (0: nowhere). -/
def lastP (l : List Int) (y : Int) : Nat → Nat
  | 0 => 0
  | i + 1 => if gi l i = y then i + 1 else lastP l y i
theorem lastP_le (l : List Int) (y : Int) : ∀ i, lastP l y i ≤ i
  | 0 => Nat.le_refl _
  | i + 1 => by have := lastP_le l y i; unfold lastP; split <;> omega
theorem rev_take {l : List Int} {i : Nat} (h : i < l.length) : (l.take (i + 1)).reverse = gi l i :: (l.take i).reverse := by
  rw [List.take_add_one, List.getElem?_eq_getElem h, gi_get h]
  simp
/-- The part of the trace from place p on, before i. -/
def part (l : List Int) (p i : Nat) : List Int := (l.take i).drop p
theorem part_snoc {l : List Int} {p i : Nat} (h : p ≤ i) (hi : i < l.length) : part l p (i + 1) = part l p i ++ [gi l i] := by
  unfold part
  rw [List.take_add_one, List.getElem?_eq_getElem hi, gi_get hi, List.drop_append_of_le_length (by rw [List.length_take]; omega)]
  rfl
theorem lastP_split {l : List Int} {y : Int} : ∀ {i : Nat}, i ≤ l.length → (lastP l y i = 0 → y ∉ (l.take i).reverse) ∧
    (∀ p, lastP l y i = p + 1 → p < i ∧ gi l p = y ∧ ∃ A B, (l.take i).reverse = A ++ y :: B ∧ y ∉ A ∧ (∀ x, x ∈ y :: A ↔ x ∈ part l p i))
  | 0, _ => ⟨fun _ => by simp, fun p h => by cases h⟩
  | i + 1, hi => by
    obtain ⟨h0, h1⟩ := lastP_split (y := y) (i := i) (l := l) (by omega)
    rw [rev_take (by omega)]
    unfold lastP
    by_cases e : gi l i = y
    · rw [if_pos e]
      refine ⟨fun h => by omega, fun p hp => ?_⟩
      obtain rfl : i = p := by omega
      refine ⟨by omega, e, [], (l.take i).reverse, by rw [e]; rfl, by simp, fun x => ?_⟩
      rw [part_snoc (Nat.le_refl _) (by omega), e]
      have : part l i i = [] := by unfold part; rw [List.drop_of_length_le (by rw [List.length_take]; omega)]
      rw [this]; rfl
    · rw [if_neg e]
      refine ⟨fun h m => ?_, fun p hp => ?_⟩
      · rcases List.mem_cons.1 m with k | k
        · exact e k.symm
        · exact h0 h k
      · obtain ⟨k1, k2, A, B, k3, k4, k5⟩ := h1 p hp
        refine ⟨by omega, k2, gi l i :: A, B, by rw [k3]; rfl, fun m => ?_, fun x => ?_⟩
        · rcases List.mem_cons.1 m with k | k
          · exact e k.symm
          · exact k4 k
        · rw [part_snoc (by omega) (by omega), List.mem_append, List.mem_singleton, ← k5, List.mem_cons, List.mem_cons, List.mem_cons]
          constructor
          · rintro (h | h | h)
            · exact .inl (.inl h)
            · exact .inr h
            · exact .inl (.inr h)
          · rintro ((h | h) | h)
            · exact .inl h
            · exact .inr (.inr h)
            · exact .inr (.inl h)
/-- The stack distance as chapter 11 says it: the different keys from the last access of the key on. -/
def dst (l : List Int) (i : Nat) : Nat := match lastP l (gi l i) i with
  | 0 => 0
  | p + 1 => (gat [] (part l p i)).length
theorem dst_dep {l : List Int} {i : Nat} (hi : i < l.length) : dst l i = dep (uq (l.take i).reverse) (gi l i) := by
  obtain ⟨h0, h1⟩ := lastP_split (y := gi l i) (i := i) (l := l) (by omega)
  unfold dst
  cases e : lastP l (gi l i) i with
  | zero =>
    unfold dep
    rw [if_neg (fun m => h0 e (uq_mem.1 m))]
  | succ p =>
    obtain ⟨k1, k2, A, B, k3, k4, k5⟩ := h1 p e
    show (gat [] (part l p i)).length = _
    rw [k3, dep_split k4, gat_len]
    exact uq_len_eq (fun x => (k5 x).symm)
theorem dst_deps {l : List Int} {i : Nat} (hi : i < l.length) : (deps [] l)[i]? = some (dst l i) := by rw [deps_at hi, dst_dep hi]

/-! ### A trace twice -/
theorem lastP_app {l m : List Int} {y : Int} : ∀ {i : Nat}, i ≤ l.length → lastP (l ++ m) y i = lastP l y i
  | 0, _ => rfl
  | i + 1, h => by
    have e : gi (l ++ m) i = gi l i := by unfold gi; rw [List.getD_eq_getElem?_getD, List.getElem?_append_left (by omega), ← List.getD_eq_getElem?_getD]
    unfold lastP
    rw [e, lastP_app (by omega)]
theorem gi_app {l m : List Int} {i : Nat} (h : i < l.length) : gi (l ++ m) i = gi l i := by unfold gi; rw [List.getD_eq_getElem?_getD, List.getElem?_append_left h, ← List.getD_eq_getElem?_getD]
theorem gi_app2 {l m : List Int} {i : Nat} : gi (l ++ m) (l.length + i) = gi m i := by unfold gi; rw [List.getD_eq_getElem?_getD, List.getElem?_append_right (by omega), ← List.getD_eq_getElem?_getD]; congr 1; omega
theorem dst_first {l m : List Int} {i : Nat} (h : i < l.length) : dst (l ++ m) i = dst l i := by
  rw [dst_dep (by rw [List.length_append]; omega), dst_dep h, gi_app h, List.take_append_of_le_length (by omega)]
theorem twice_rev {l : List Int} {i : Nat} (h : i ≤ l.length) : ((l ++ l).take (l.length + i)).reverse = (l.take i).reverse ++ l.reverse := by
  rw [List.take_length_add_append, List.reverse_append]
theorem dst_again {l : List Int} {i : Nat} (h : i < l.length) : 1 ≤ dst (l ++ l) (l.length + i) ∧ (0 < dst l i → dst (l ++ l) (l.length + i) = dst l i) ∧ dst (l ++ l) (l.length + i) ≤ (uq l).length := by
  have hm : gi l i ∈ l := gi_mem h
  have e2 : dst (l ++ l) (l.length + i) = dep (uq ((l.take i).reverse ++ l.reverse)) (gi l i) := by
    rw [dst_dep (by rw [List.length_append]; omega), gi_app2, twice_rev (by omega)]
  rw [e2, dst_dep h]
  have hx : gi l i ∈ uq ((l.take i).reverse ++ l.reverse) := uq_mem.2 (by simp [hm])
  refine ⟨by unfold dep; rw [if_pos hx]; omega, fun h0 => ?_, ?_⟩
  · have h1 : gi l i ∈ uq (l.take i).reverse := by
      unfold dep at h0
      by_cases k : gi l i ∈ uq (l.take i).reverse
      · exact k
      · rw [if_neg k] at h0; omega
    rw [uq_app]
    unfold dep
    rw [if_pos h1, if_pos (by rw [List.mem_append]; exact .inl h1), List.idxOf_append, if_pos h1]
  · unfold dep
    rw [if_pos hx]
    have h1 := List.idxOf_lt_length_of_mem hx
    have h2 : (uq ((l.take i).reverse ++ l.reverse)).length ≤ (uq l).length := uq_len_mono (fun x hx => by
      rcases List.mem_append.1 hx with m | m
      · exact List.mem_of_mem_take (List.mem_reverse.1 m)
      · exact List.mem_reverse.1 m)
    omega

/-! ### Working sets -/
/-- The keys of the last n accesses ahead of i. -/
def win (l : List Int) (n i : Nat) : List Int := part l (i - n) i
theorem win_mem {l : List Int} {n i : Nat} (h : i ≤ l.length) {x : Int} : x ∈ win l n i ↔ x ∈ (l.take i).reverse.take n := by
  unfold win part
  rw [List.take_reverse, List.mem_reverse, List.length_take, Nat.min_eq_left h]
/-- LRU with as much room holds them. -/
theorem win_stack {l : List Int} {n i : Nat} (h : i ≤ l.length) {x : Int} (hx : x ∈ win l n i) : x ∈ (stack [] (l.take i)).take n := by
  rw [win_mem h] at hx
  rw [stack_uq i _ (by rw [List.length_take]; omega)]
  generalize (l.take i).reverse = P at *
  have e : uq P = uq (P.take n) ++ (uq (P.drop n)).filter (fun z => decide (z ∉ P.take n)) := by
    conv => lhs; rw [← List.take_append_drop n P]
    exact uq_app _ _
  have hl : (uq (P.take n)).length ≤ n := Nat.le_trans (uq_len_le _) (by rw [List.length_take]; omega)
  rw [e, List.take_append, List.mem_append]
  exact .inl (by rw [List.take_of_length_le hl]; exact uq_mem.2 hx)
/-- Faults among the first k accesses. -/
def fltK (l : List Int) (n : Nat) : Nat → Nat
  | 0 => 0
  | k + 1 => fltK l n k + (if gi l k ∈ win l n k then 0 else 1)
theorem misses_flt {r : Int} (hr : 1 ≤ r) {l : List Int} : ∀ {k : Nat}, k ≤ l.length → k ≤ hitsM r [] (l.take k) + fltK l r.toNat k
  | 0, _ => Nat.zero_le _
  | k + 1, h => by
    have ih := misses_flt hr (l := l) (k := k) (by omega)
    rw [List.take_add_one, List.getElem?_eq_getElem (by omega), ← gi_get (by omega)]
    show k + 1 ≤ hitsM r [] (l.take k ++ [gi l k]) + (fltK l r.toNat k + _)
    rw [Lru.hitsM_snoc]
    have e : runL r [] (l.take k) = (stack [] (l.take k)).take r.toNat := by
      have := runL_stack hr (S := []) (xs := l.take k)
      simpa using this
    rw [e]
    by_cases hw : gi l k ∈ win l r.toNat k
    · rw [if_pos (win_stack (by omega) hw), if_pos hw]; omega
    · rw [if_neg hw]; split <;> omega
theorem win_more {l : List Int} {n m i : Nat} (h : i ≤ l.length) (hnm : n ≤ m) {x : Int} (hx : x ∈ win l n i) : x ∈ win l m i := by
  rw [win_mem h] at hx ⊢
  exact List.take_subset_take_left _ hnm hx
theorem flt_more {l : List Int} {n m : Nat} (hnm : n ≤ m) : ∀ {k : Nat}, k ≤ l.length → fltK l m k ≤ fltK l n k
  | 0, _ => Nat.le_refl _
  | k + 1, h => by
    have ih := flt_more hnm (l := l) (k := k) (by omega)
    unfold fltK
    by_cases hw : gi l k ∈ win l n k
    · rw [if_pos hw, if_pos (win_more (by omega) hnm hw)]; omega
    · rw [if_neg hw]; split <;> omega

end Go.Proofs.Ytjmhemkbfephpaa.Dst
