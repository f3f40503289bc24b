/-
  Shards: the errors, the scores and the owners as chapter 15 has them.
-/
import Derived.Test.YtjmhemkbfephpaaShardMath
import Derived.Test.YtjmhemkbfephpaaHashMath
namespace Go.Proofs.Ytjmhemkbfephpaa.Shd
set_option linter.unusedVariables false

structure Sh where
  name : ByteArray
  wt : Int
instance : Inhabited Sh := ⟨⟨ByteArray.empty, 0⟩⟩
abbrev gs (L : List Sh) (i : Nat) : Sh := L.getD i ⟨ByteArray.empty, 0⟩
theorem gs_get {L : List Sh} {i : Nat} (h : i < L.length) : gs L i = L[i] := by unfold gs; rw [List.getD_eq_getElem?_getD, List.getElem?_eq_getElem h]; rfl
theorem gs_mem {L : List Sh} {i : Nat} (h : i < L.length) : gs L i ∈ L := by rw [gs_get h]; exact List.getElem_mem h
theorem gs_take {L : List Sh} {i k : Nat} (h : i < k) : gs (L.take k) i = gs L i := by unfold gs; rw [List.getD_eq_getElem?_getD, List.getElem?_take, if_pos h, ← List.getD_eq_getElem?_getD]

/-! ### The first error -/
def scan (f : Nat → Int) (i : Nat) : Nat → Int
  | 0 => 0
  | k + 1 => if f i = 0 then scan f (i + 1) k else f i
theorem scan_nil (f : Nat → Int) {i n : Nat} (h : n ≤ i) : scan f i (n - i) = 0 := by rw [Nat.sub_eq_zero_of_le h]; rfl
theorem scan_go {f : Nat → Int} {i n : Nat} (h : i < n) (e : f i = 0) : scan f i (n - i) = scan f (i + 1) (n - (i + 1)) := by
  rw [show n - i = n - (i + 1) + 1 by omega]
  show (if f i = 0 then _ else _) = _
  rw [if_pos e]
theorem scan_hit {f : Nat → Int} {i n : Nat} (h : i < n) (e : f i ≠ 0) : scan f i (n - i) = f i := by
  rw [show n - i = n - (i + 1) + 1 by omega]
  show (if f i = 0 then _ else _) = _
  rw [if_neg e]
theorem scan_zero {f : Nat → Int} : ∀ {k i : Nat}, scan f i k = 0 ↔ ∀ j, i ≤ j → j < i + k → f j = 0 := by
  intro k
  induction k with
  | zero => intro i; exact ⟨fun _ j h1 h2 => by omega, fun _ => rfl⟩
  | succ k ih =>
    intro i
    show (if f i = 0 then scan f (i + 1) k else f i) = 0 ↔ _
    by_cases e : f i = 0
    · rw [if_pos e, ih]
      constructor
      · intro h j h1 h2
        by_cases hj : j = i
        · rw [hj]; exact e
        · exact h j (by omega) (by omega)
      · intro h j h1 h2; exact h j (by omega) (by omega)
    · rw [if_neg e]
      exact ⟨fun h => absurd h e, fun h => h i (Nat.le_refl _) (by omega)⟩

/-- What is wrong with one shard by itself. -/
def oneE (x : Sh) : Int := if ¬ (1 ≤ x.wt ∧ x.wt ≤ 8) then 3 else if 40 < x.name.size then 2 else 0
/-- An earlier shard has the name of shard i. -/
def dup (L : List Sh) (i : Nat) : Prop := ∃ k, k < i ∧ (gs L k).name = (gs L i).name
open Classical in
noncomputable def atE (L : List Sh) (i : Nat) : Int := if oneE (gs L i) ≠ 0 then oneE (gs L i) else if dup L i then 6 else 0
/-- The error of Check. -/
noncomputable def chk (L : List Sh) : Int := if 20 < L.length then 2 else scan (atE L) 0 L.length
/-- The error of Owner. -/
noncomputable def err (L : List Sh) (s : ByteArray) : Int := if chk L ≠ 0 then chk L else if 40 < s.size then 2 else if L.length = 0 then 5 else 0
theorem atE_one {L : List Sh} {i : Nat} (h : oneE (gs L i) ≠ 0) : atE L i = oneE (gs L i) := by unfold atE; rw [if_pos h]
theorem atE_dup {L : List Sh} {i : Nat} (h : oneE (gs L i) = 0) (hd : dup L i) : atE L i = 6 := by unfold atE; rw [if_neg (fun h2 => h2 h), if_pos hd]
theorem atE_ok {L : List Sh} {i : Nat} (h : oneE (gs L i) = 0) (hd : ¬ dup L i) : atE L i = 0 := by unfold atE; rw [if_neg (fun h2 => h2 h), if_neg hd]
theorem atE_zero {L : List Sh} {i : Nat} : atE L i = 0 ↔ oneE (gs L i) = 0 ∧ ¬ dup L i := by
  constructor
  · intro h
    by_cases h1 : oneE (gs L i) = 0
    · refine ⟨h1, fun hd => ?_⟩
      rw [atE_dup h1 hd] at h; omega
    · rw [atE_one h1] at h; exact absurd h h1
  · rintro ⟨h1, h2⟩; exact atE_ok h1 h2
theorem oneE_zero {x : Sh} : oneE x = 0 ↔ (1 ≤ x.wt ∧ x.wt ≤ 8) ∧ x.name.size ≤ 40 := by
  unfold oneE
  by_cases h : 1 ≤ x.wt ∧ x.wt ≤ 8
  · rw [if_neg (fun h2 => h2 h)]
    by_cases h2 : 40 < x.name.size
    · rw [if_pos h2]; exact ⟨fun h => by omega, fun ⟨_, h⟩ => by omega⟩
    · rw [if_neg h2]; exact ⟨fun _ => ⟨h, by omega⟩, fun _ => rfl⟩
  · rw [if_pos h]; exact ⟨fun h => by omega, fun ⟨h2, _⟩ => absurd h2 h⟩
/-- A list of shards without a fault. -/
structure Ok (L : List Sh) : Prop where
  few : L.length ≤ 20
  wt : ∀ i, i < L.length → 1 ≤ (gs L i).wt ∧ (gs L i).wt ≤ 8
  name : ∀ i, i < L.length → (gs L i).name.size ≤ 40
  once : ∀ i j, i < L.length → j < L.length → (gs L i).name = (gs L j).name → i = j
theorem chk_zero {L : List Sh} : chk L = 0 ↔ Ok L := by
  unfold chk
  by_cases hl : 20 < L.length
  · rw [if_pos hl]; exact ⟨fun h => by omega, fun h => by have := h.few; omega⟩
  · rw [if_neg hl, scan_zero]
    constructor
    · intro h
      have h' : ∀ j, j < L.length → oneE (gs L j) = 0 ∧ ¬ dup L j := fun j hj => atE_zero.1 (h j (by omega) (by omega))
      refine ⟨by omega, fun i hi => (oneE_zero.1 (h' i hi).1).1, fun i hi => (oneE_zero.1 (h' i hi).1).2, fun i j hi hj e => ?_⟩
      by_cases h1 : i < j
      · exact absurd ⟨i, h1, e⟩ (h' j hj).2
      · by_cases h2 : j < i
        · exact absurd ⟨j, h2, e.symm⟩ (h' i hi).2
        · omega
    · intro h j _ hj
      have hj : j < L.length := by omega
      refine atE_ok (oneE_zero.2 ⟨h.wt j hj, h.name j hj⟩) (fun ⟨k, hk, e⟩ => ?_)
      have := h.once k j (by omega) hj e
      omega
theorem err_zero {L : List Sh} {s : ByteArray} : err L s = 0 ↔ Ok L ∧ s.size ≤ 40 ∧ 0 < L.length := by
  unfold err
  by_cases hc : chk L = 0
  · rw [if_neg (fun h => h hc)]
    have hO := chk_zero.1 hc
    by_cases h2 : 40 < s.size
    · rw [if_pos h2]; exact ⟨fun h => by omega, fun h => by omega⟩
    · rw [if_neg h2]
      by_cases h3 : L.length = 0
      · rw [if_pos h3]; exact ⟨fun h => by omega, fun h => by omega⟩
      · rw [if_neg h3]; exact ⟨fun _ => ⟨hO, by omega, by omega⟩, fun _ => rfl⟩
  · rw [if_pos hc]; exact ⟨fun h => absurd h hc, fun h => absurd (chk_zero.2 h.1) hc⟩

/-! ### Scores -/
/-- Number k of a shard with a hash, for a hash of a key. -/
def num (n h : BitVec 64) (k : Nat) : Nat := (mixB (h ^^^ mixB (n ^^^ BitVec.ofNat 64 k))).toNat
def scH (x : Sh) (h : BitVec 64) : Nat := top (num (fnv x.name.data.toList) h) x.wt.toNat
/-- The score of shard i for a key. -/
def sc (L : List Sh) (s : ByteArray) (i : Nat) : Nat := scH (gs L i) (fnv s.data.toList)
theorem top_lt (h : Nat → Nat) (b : Nat) (hb : 0 < b) (hh : ∀ k, h k < b) : ∀ k, top h k < b
  | 0 => hb
  | k + 1 => by show (if _ then _ else _) < b; split; exact hh k; exact top_lt h b hb hh k
theorem num_lt (n h : BitVec 64) (k : Nat) : num n h k < 18446744073709551616 := by unfold num; exact BitVec.isLt _
theorem scH_lt (x : Sh) (h : BitVec 64) : scH x h < 18446744073709551616 := top_lt _ _ (by decide) (num_lt _ _) _
theorem sc_lt (L : List Sh) (s : ByteArray) (i : Nat) : sc L s i < 18446744073709551616 := scH_lt _ _
theorem top_le (h : Nat → Nat) {j k : Nat} (hjk : j ≤ k) : top h j ≤ top h k := by
  induction k with
  | zero => obtain rfl : j = 0 := by omega
            exact Nat.le_refl _
  | succ k ih =>
    by_cases e : j = k + 1
    · rw [e]; exact Nat.le_refl _
    · exact Nat.le_trans (ih (by omega)) (top_mono h k)

/-! ### The owners in their order -/
/-- L names the best one again and again. -/
def Chain (f : Nat → Nat) (n : Nat) (L : List Nat) : Prop := ∀ k, k < L.length → IsBest f (fun x => x ∉ L.take k) n (L.getD k 0)
theorem chain_nil (f : Nat → Nat) (n : Nat) : Chain f n [] := fun k h => absurd h (by simp)
theorem chain_lt {f : Nat → Nat} {n : Nat} {L : List Nat} (h : Chain f n L) : ∀ x ∈ L, x < n := by
  intro x hx
  obtain ⟨k, hk, rfl⟩ := List.mem_iff_getElem.1 hx
  have := (h k hk).1
  rwa [List.getD_eq_getElem?_getD, List.getElem?_eq_getElem hk] at this
theorem chain_snoc {f : Nat → Nat} {n x : Nat} {L : List Nat} (h : Chain f n L) (hx : IsBest f (fun y => y ∉ L) n x) : Chain f n (L ++ [x]) := by
  intro k hk
  rw [List.length_append, List.length_singleton] at hk
  by_cases e : k < L.length
  · rw [List.take_append_of_le_length (by omega), List.getD_eq_getElem?_getD, List.getElem?_append_left e, ← List.getD_eq_getElem?_getD]
    exact h k e
  · obtain rfl : k = L.length := by omega
    rw [List.take_left', List.getD_eq_getElem?_getD, List.getElem?_append_right (Nat.le_refl _)]
    · simpa using hx
    · rfl
theorem chain_uniq {f : Nat → Nat} {n : Nat} : ∀ {L M : List Nat}, Chain f n L → Chain f n M → L.length = M.length → L = M := by
  intro L M hL hM hl
  have key : ∀ k, k ≤ L.length → L.take k = M.take k := by
    intro k
    induction k with
    | zero => intro _; rfl
    | succ k ih =>
      intro hk
      have e := ih (by omega)
      have a := hL k (by omega)
      have b := hM k (by omega)
      rw [← e] at b
      have := best_uniq a b
      rw [List.getD_eq_getElem?_getD, List.getD_eq_getElem?_getD, List.getElem?_eq_getElem (by omega), List.getElem?_eq_getElem (by omega)] at this
      rw [List.take_add_one, List.take_add_one, e, List.getElem?_eq_getElem (by omega), List.getElem?_eq_getElem (by omega)]
      simp only [Option.getD_some] at this
      rw [this]
  have := key L.length (Nat.le_refl _)
  rwa [List.take_length, hl, List.take_length] at this
theorem chain_take {f : Nat → Nat} {n k : Nat} {L : List Nat} (h : Chain f n L) : Chain f n (L.take k) := by
  intro j hj
  rw [List.length_take] at hj
  rw [List.take_take, Nat.min_eq_left (by omega), List.getD_eq_getElem?_getD, List.getElem?_take, if_pos (by omega), ← List.getD_eq_getElem?_getD]
  exact h j (by omega)

end Go.Proofs.Ytjmhemkbfephpaa.Shd
