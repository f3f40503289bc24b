/-
  Working sets: plain functions on a trace.
-/
import Derived.Test.YtgdklpgmoanfkaaDistM2
namespace Go.Proofs.Ytgdklpgmoanfkaa.Wst
open Dst (win win_mem win_stack win_more part_snoc fltK misses_flt flt_more gat gat_snoc gat_spec row row_len row_get row_set row_ext row_zero sub_len same_len)
open Lru (traceE trace_zero isK)
set_option linter.unusedVariables false

theorem part_mem {l : List Int} {p i : Nat} (h : i ≤ l.length) {x : Int} : x ∈ Dst.part l p i ↔ ∃ j, p ≤ j ∧ j < i ∧ gi l j = x := by
  unfold Dst.part
  constructor
  · intro hm
    obtain ⟨j, hj, e⟩ := List.getElem_of_mem hm
    rw [List.length_drop, List.length_take] at hj
    refine ⟨p + j, by omega, by omega, ?_⟩
    rw [gi_get (by omega), ← e, List.getElem_drop, List.getElem_take]
  · rintro ⟨j, h1, h2, rfl⟩
    have hj : j - p < ((l.take i).drop p).length := by rw [List.length_drop, List.length_take]; omega
    have : ((l.take i).drop p)[j - p] = gi l j := by
      rw [List.getElem_drop, List.getElem_take, gi_get (by omega)]; congr 1; omega
    rw [← this]
    exact List.getElem_mem hj
theorem win_len (l : List Int) (n i : Nat) : (win l n i).length ≤ n := by
  unfold win Dst.part; rw [List.length_drop, List.length_take]; omega
theorem win_len2 (l : List Int) (n i : Nat) : (win l n i).length ≤ i := by
  unfold win Dst.part; rw [List.length_drop, List.length_take]; omega
theorem mem_win {l : List Int} {n i : Nat} (h : i ≤ l.length) {x : Int} : x ∈ win l n i ↔ ∃ j, i - n ≤ j ∧ j < i ∧ gi l j = x := part_mem h
theorem win_zero (l : List Int) (n : Nat) : win l n 0 = [] := List.length_eq_zero_iff.1 (by have := win_len2 l n 0; omega)
theorem drop_win {l : List Int} {n i : Nat} (h : i ≤ l.length) : (l.take i).drop ((l.take i).length - n) = win l n i := by
  rw [List.length_take, Nat.min_eq_left h]; rfl

/-- The working set at place i, in increasing order. -/
def wset (l : List Int) (n i : Nat) : List Int := ord (win l n (i + 1))
theorem wset_inc (l : List Int) (n i : Nat) : Inc (wset l n i) := ord_inc _
theorem inc_nodup {L : List Int} (h : Inc L) : L.Nodup := h.imp (fun h e => by omega)
theorem mem_wset {l : List Int} {n i : Nat} {x : Int} : x ∈ wset l n i ↔ x ∈ win l n (i + 1) := mem_ord
theorem wset_len (l : List Int) (n i : Nat) : (wset l n i).length ≤ n := Nat.le_trans (ord_len _) (win_len _ _ _)
theorem wset_len2 (l : List Int) (n i : Nat) : (wset l n i).length ≤ i + 1 := Nat.le_trans (ord_len _) (win_len2 _ _ _)
theorem self_wset {l : List Int} {n i : Nat} (hn : 1 ≤ n) (h : i < l.length) : gi l i ∈ wset l n i := mem_wset.2 ((mem_win (by omega)).2 ⟨i, by omega, by omega, rfl⟩)
theorem wset_more {l : List Int} {n m i : Nat} (h : i < l.length) (hnm : n ≤ m) {x : Int} (hx : x ∈ wset l n i) : x ∈ wset l m i := mem_wset.2 (win_more (by omega) hnm (mem_wset.1 hx))
theorem wset_isK {l : List Int} {n i : Nat} (h : i < l.length) (hk : ∀ x ∈ l, isK x) {x : Int} (hx : x ∈ wset l n i) : isK x := by
  obtain ⟨j, -, hj, rfl⟩ := (mem_win (by omega)).1 (mem_wset.1 hx)
  exact hk _ (gi_mem (by omega))

/-! ### Sizes -/
def zsK (l : List Int) (n k : Nat) : List Int := row l.length (fun j => if j < k then ((wset l n j).length : Int) else 0)
def zsI (l : List Int) (n : Nat) : List Int := row l.length (fun j => ((wset l n j).length : Int))
theorem zsK_len (l : List Int) (n k : Nat) : (zsK l n k).length = l.length := row_len _ _
theorem zsI_len (l : List Int) (n : Nat) : (zsI l n).length = l.length := row_len _ _
theorem zsI_get {l : List Int} {n j : Nat} (h : j < l.length) : gi (zsI l n) j = ((wset l n j).length : Int) := row_get h
theorem zsK_zero (l : List Int) (n : Nat) : zsK l n 0 = List.replicate l.length 0 := by
  rw [← row_zero]; exact row_ext (fun i hi => by rw [if_neg (by omega)])
theorem zsK_all (l : List Int) (n : Nat) : zsK l n l.length = zsI l n := row_ext (fun i hi => by rw [if_pos hi])
theorem zsK_set {l : List Int} {n k : Nat} (h : k < l.length) : (zsK l n k).set k ((wset l n k).length : Int) = zsK l n (k + 1) :=
  row_set h (by rw [if_pos (by omega)]) (fun i hi hne => by
    by_cases e : i < k
    · rw [if_pos e, if_pos (by omega)]
    · rw [if_neg e, if_neg (by omega)])

/-! ### Faults -/
theorem flt_le (l : List Int) (n : Nat) : ∀ k, fltK l n k ≤ k
  | 0 => Nat.le_refl _
  | k + 1 => by have := flt_le l n k; unfold fltK; split <;> omega
theorem flt_succ (l : List Int) (n k : Nat) : fltK l n (k + 1) = fltK l n k + (if gi l k ∈ win l n k then 0 else 1) := rfl
theorem flt_all {l : List Int} {n : Nat} (hn : l.length ≤ n) : ∀ {k : Nat}, k ≤ l.length → fltK l n k = (gat [] (l.take k)).length
  | 0, _ => rfl
  | k + 1, h => by
    have ih := flt_all hn (k := k) (by omega)
    have e : win l n k = l.take k := by unfold win Dst.part; rw [show k - n = 0 by omega]; rfl
    rw [flt_succ, ih, e, List.take_add_one, List.getElem?_eq_getElem (by omega), ← gi_get (by omega)]
    show _ = (gat [] (l.take k ++ [gi l k])).length
    rw [gat_snoc]
    have hm : gi l k ∈ gat [] (l.take k) ↔ gi l k ∈ l.take k := by
      rw [(gat_spec (L := l.take k) List.nodup_nil).2]; simp
    by_cases h1 : gi l k ∈ l.take k
    · rw [if_pos h1, if_pos (hm.2 h1)]; omega
    · rw [if_neg h1, if_neg (fun h => h1 (hm.1 h)), List.length_append]; rfl

/-! ### Steps -/
theorem len_pos {l : List Int} {n i : Nat} (hn : 1 ≤ n) (h : i < l.length) : 1 ≤ (wset l n i).length := List.length_pos_of_mem (self_wset hn h)
theorem len_up {l : List Int} {n i : Nat} (h : i + 1 < l.length) : (wset l n (i + 1)).length ≤ (wset l n i).length + 1 := by
  refine sub_len (S := gi l (i + 1) :: wset l n i) (inc_nodup (wset_inc _ _ _)) (fun x hx => ?_)
  obtain ⟨j, h1, h2, rfl⟩ := (mem_win (by omega)).1 (mem_wset.1 hx)
  by_cases e : j = i + 1
  · subst e; simp
  · exact List.mem_cons_of_mem _ (mem_wset.2 ((mem_win (by omega)).2 ⟨j, by omega, by omega, rfl⟩))
theorem len_down {l : List Int} {n i : Nat} (h : i + 1 < l.length) : (wset l n i).length ≤ (wset l n (i + 1)).length + 1 := by
  refine sub_len (S := gi l (i + 1 - n) :: wset l n (i + 1)) (inc_nodup (wset_inc _ _ _)) (fun x hx => ?_)
  obtain ⟨j, h1, h2, rfl⟩ := (mem_win (by omega)).1 (mem_wset.1 hx)
  by_cases e : j = i + 1 - n
  · subst e; simp
  · exact List.mem_cons_of_mem _ (mem_wset.2 ((mem_win (by omega)).2 ⟨j, by omega, by omega, rfl⟩))

/-! ### Phases -/
/-- The keys in common. -/
def com (A B : List Int) : Nat := A.countP (fun x => decide (x ∈ B))
theorem com_le (A B : List Int) : com A B ≤ A.length := List.countP_le_length
def comK (A B : List Int) (k : Nat) : Nat := com (A.take k) B
theorem comK_zero (A B : List Int) : comK A B 0 = 0 := rfl
theorem comK_all (A B : List Int) : comK A B A.length = com A B := by unfold comK; rw [List.take_length]
theorem comK_succ {A B : List Int} {k : Nat} (h : k < A.length) : comK A B (k + 1) = comK A B k + (if gi A k ∈ B then 1 else 0) := by
  unfold comK com
  rw [List.take_add_one, List.getElem?_eq_getElem h, ← gi_get h, List.countP_append]
  congr 1
  show List.countP _ [gi A k] = _
  rw [List.countP_singleton]
  simp
theorem comK_le (A B : List Int) (k : Nat) : comK A B k ≤ k := Nat.le_trans (com_le _ _) (by rw [List.length_take]; omega)
def cmn (l : List Int) (n b i : Nat) : Nat := com (wset l n b) (wset l n i)
def lst (L : List Int) : Nat := (gi L (L.length - 1)).toNat
/-- The phases that begin ahead of place i. -/
def phK (l : List Int) (n m : Nat) : Nat → List Int
  | 0 => []
  | i + 1 => if i = 0 then [0] else if lst (phK l n m i) + n ≤ i ∧ cmn l n (lst (phK l n m i)) i < m then phK l n m i ++ [(i : Int)] else phK l n m i
theorem lst_snoc (L : List Int) (b : Nat) : lst (L ++ [(b : Int)]) = b := by
  unfold lst
  rw [List.length_append, List.length_singleton, Nat.add_sub_cancel, gi_get (by simp), List.getElem_append_right (Nat.le_refl _)]
  simp
theorem phK_succ {l : List Int} {n m i : Nat} (h : i ≠ 0) : phK l n m (i + 1) = if lst (phK l n m i) + n ≤ i ∧ cmn l n (lst (phK l n m i)) i < m then phK l n m i ++ [(i : Int)] else phK l n m i := by
  show (if i = 0 then _ else _) = _
  rw [if_neg h]
theorem phK_one (l : List Int) (n m : Nat) : phK l n m 1 = [0] := rfl
/-- Ahead of a place that is not the first there is a last phase, and it began ahead of that place. -/
theorem phK_last {l : List Int} {n m : Nat} : ∀ {i : Nat}, 1 ≤ i → ∃ B b, phK l n m i = B ++ [((b : Nat) : Int)] ∧ b < i ∧ B.length < i
  | 0, h => by omega
  | 1, _ => ⟨[], 0, rfl, by omega, by simp⟩
  | i + 2, _ => by
    obtain ⟨B, b, e, h1, h2⟩ := phK_last (l := l) (n := n) (m := m) (i := i + 1) (by omega)
    rw [phK_succ (by omega)]
    split
    · exact ⟨phK l n m (i + 1), i + 1, rfl, by omega, by rw [e]; simp; omega⟩
    · exact ⟨B, b, e, by omega, by omega⟩
theorem phK_len (l : List Int) (n m i : Nat) : (phK l n m i).length ≤ i := by
  by_cases h : 1 ≤ i
  · obtain ⟨B, b, e, h1, h2⟩ := phK_last (l := l) (n := n) (m := m) h
    rw [e]; simp; omega
  · have : i = 0 := by omega
    subst this; exact Nat.le_refl _
/-- While the keys in common are enough, no phase begins. -/
theorem ph_stay {l : List Int} {n m b a : Nat} {B : List Int} (hn : 1 ≤ n) (hs : phK l n m (b + 1) = B ++ [(b : Int)]) (ha : ∀ j, b + n ≤ j → j < a → m ≤ cmn l n b j) :
    ∀ d, b + 1 + d ≤ a → phK l n m (b + 1 + d) = B ++ [(b : Int)]
  | 0, _ => hs
  | d + 1, h => by
    have ih := ph_stay hn hs ha d (by omega)
    show phK l n m (b + 1 + d + 1) = _
    rw [phK_succ (by omega), ih, lst_snoc, if_neg]
    rintro ⟨h1, h2⟩
    have := ha (b + 1 + d) h1 (by omega)
    omega
theorem ph_next {l : List Int} {n m b a : Nat} {B : List Int} (hn : 1 ≤ n) (hs : phK l n m (b + 1) = B ++ [(b : Int)]) (hba : b + n ≤ a) (ha : ∀ j, b + n ≤ j → j < a → m ≤ cmn l n b j)
    (hlt : cmn l n b a < m) : phK l n m (a + 1) = (B ++ [(b : Int)]) ++ [(a : Int)] := by
  have := ph_stay hn hs ha (a - b - 1) (by omega)
  rw [show b + 1 + (a - b - 1) = a by omega] at this
  rw [phK_succ (by omega), this, lst_snoc, if_pos ⟨hba, hlt⟩]
theorem ph_end {l : List Int} {n m b a e : Nat} {B : List Int} (hn : 1 ≤ n) (hs : phK l n m (b + 1) = B ++ [(b : Int)]) (ha : ∀ j, b + n ≤ j → j < a → m ≤ cmn l n b j)
    (h1 : b < e) (h2 : e ≤ a) : phK l n m e = B ++ [(b : Int)] := by
  have := ph_stay hn hs ha (e - b - 1) (by omega)
  rwa [show b + 1 + (e - b - 1) = e by omega] at this

/-! ### Errors and results -/
def isN (x : Int) : Prop := 1 ≤ x ∧ x ≤ 200
instance (x : Int) : Decidable (isN x) := by unfold isN; infer_instance
def wkE (l : List Int) (n : Int) : Int := if traceE l = 0 then (if isN n then 0 else 3) else traceE l
theorem wkE_zero {l : List Int} {n : Int} : wkE l n = 0 ↔ traceE l = 0 ∧ isN n := by
  unfold wkE
  by_cases h : traceE l = 0
  · rw [if_pos h]
    by_cases h2 : isN n
    · simp [h, h2]
    · simp [h2]
  · rw [if_neg h]; simp [h]
def stE (l : List Int) (i n : Int) : Int := if wkE l n = 0 then (if 0 ≤ i ∧ i < (l.length : Int) then 0 else 3) else wkE l n
theorem stE_zero {l : List Int} {i n : Int} : stE l i n = 0 ↔ wkE l n = 0 ∧ 0 ≤ i ∧ i < (l.length : Int) := by
  unfold stE
  by_cases h : wkE l n = 0
  · rw [if_pos h]
    by_cases h2 : 0 ≤ i ∧ i < (l.length : Int)
    · rw [if_pos h2]; exact ⟨fun _ => ⟨h, h2⟩, fun _ => rfl⟩
    · rw [if_neg h2]; exact ⟨fun e => (by omega), fun e => absurd e.2 h2⟩
  · rw [if_neg h]; exact ⟨fun e => absurd e h, fun e => absurd e.1 h⟩
def phE (l : List Int) (n m : Int) : Int := if wkE l n = 0 then (if isN m then 0 else 3) else wkE l n
theorem phE_zero {l : List Int} {n m : Int} : phE l n m = 0 ↔ wkE l n = 0 ∧ isN m := by
  unfold phE
  by_cases h : wkE l n = 0
  · rw [if_pos h]
    by_cases h2 : isN m
    · simp [h, h2]
    · simp [h2]
  · rw [if_neg h]; simp [h]
def stV (l : List Int) (i n : Int) : List Int := if stE l i n = 0 then wset l n.toNat i.toNat else []
def zsV (l : List Int) (n : Int) : List Int := if wkE l n = 0 then zsI l n.toNat else []
def flV (l : List Int) (n : Int) : Nat := if wkE l n = 0 then fltK l n.toNat l.length else 0
def phV (l : List Int) (n m : Int) : List Int := if phE l n m = 0 then phK l n.toNat m.toNat l.length else []

/-! ### The reference: the least one again and again -/
/-- The least number above a bound among the places lo to hi - 1 (-1: none). -/
def Nx (l : List Int) (last : Int) (lo hi : Nat) (x : Int) : Prop :=
  (x = -1 ∧ ∀ j, lo ≤ j → j < hi → gi l j ≤ last) ∨ (last < x ∧ (∃ j, lo ≤ j ∧ j < hi ∧ gi l j = x) ∧ ∀ j, lo ≤ j → j < hi → last < gi l j → x ≤ gi l j)
theorem nx_start (l : List Int) (last : Int) (hi : Nat) : Nx l last hi hi (-1) := .inl ⟨rfl, fun j h1 h2 => by omega⟩
theorem nx_keep {l : List Int} {last x : Int} {lo hi : Nat} (h : Nx l last (lo + 1) hi x) (hy : ¬ (last < gi l lo ∧ (x < 0 ∨ gi l lo < x))) (hx : x = -1 ∨ 0 ≤ x) : Nx l last lo hi x := by
  rcases h with ⟨rfl, h⟩ | ⟨h1, ⟨j, j1, j2, j3⟩, h2⟩
  · refine .inl ⟨rfl, fun j j1 j2 => ?_⟩
    by_cases e : j = lo
    · subst e
      have : ¬ last < gi l j := fun h => hy ⟨h, .inl (by omega)⟩
      omega
    · exact h j (by omega) j2
  · by_cases hx0 : x < 0
    · refine .inr ⟨h1, ⟨j, by omega, j2, j3⟩, fun i i1 i2 i3 => ?_⟩
      by_cases e : i = lo
      · subst e; exact absurd ⟨i3, .inl hx0⟩ hy
      · exact h2 i (by omega) i2 i3
    · refine .inr ⟨h1, ⟨j, by omega, j2, j3⟩, fun i i1 i2 i3 => ?_⟩
      by_cases e : i = lo
      · subst e
        have : ¬ gi l i < x := fun h => hy ⟨i3, .inr h⟩
        omega
      · exact h2 i (by omega) i2 i3
theorem nx_take {l : List Int} {last x : Int} {lo hi : Nat} (h : Nx l last (lo + 1) hi x) (h0 : lo < hi) (hl : -1 ≤ last) (hy : last < gi l lo ∧ (x < 0 ∨ gi l lo < x)) : Nx l last lo hi (gi l lo) := by
  refine .inr ⟨hy.1, ⟨lo, Nat.le_refl _, h0, rfl⟩, fun i i1 i2 i3 => ?_⟩
  by_cases e : i = lo
  · subst e; exact Int.le_refl _
  · rcases h with ⟨rfl, h⟩ | ⟨h1, -, h2⟩
    · have := h i (by omega) i2; omega
    · have := h2 i (by omega) i2 i3
      rcases hy.2 with k | k
      · omega
      · omega
theorem nx_sign {l : List Int} {last x : Int} {lo hi : Nat} (h : Nx l last lo hi x) (hl : -1 ≤ last) : x = -1 ∨ 0 ≤ x := by
  rcases h with ⟨e, _⟩ | ⟨h, _⟩
  · exact .inl e
  · exact .inr (by omega)
/-- The greatest of the first k members (-1: none). -/
def lasts (S : List Int) (k : Nat) : Int := if k = 0 then -1 else gi S (k - 1)
theorem inc_lt {S : List Int} (h : Inc S) {i j : Nat} (hij : i < j) (hj : j < S.length) : gi S i < gi S j := by
  rw [gi_get (by omega), gi_get hj]; exact List.pairwise_iff_getElem.1 h i j (by omega) hj hij
theorem lasts_ge {l : List Int} {n i k : Nat} (hi : i < l.length) (hk : ∀ x ∈ l, isK x) (h : k ≤ (wset l n i).length) : -1 ≤ lasts (wset l n i) k := by
  unfold lasts
  split
  · omega
  · have := (wset_isK hi hk (gi_mem (L := wset l n i) (i := k - 1) (by omega))).1; omega
theorem nx_done {l : List Int} {n i k : Nat} (hi : i < l.length) (hk : ∀ x ∈ l, isK x) (h : k ≤ (wset l n i).length) (hx : Nx l (lasts (wset l n i) k) (i + 1 - n) (i + 1) (-1)) : k = (wset l n i).length := by
  rcases hx with ⟨-, h1⟩ | ⟨h1, -⟩
  · rcases Nat.lt_or_ge k (wset l n i).length with hlt | hge
    · exfalso
      obtain ⟨j, j1, j2, j3⟩ := (mem_win (by omega)).1 (mem_wset.1 (gi_mem hlt))
      have h2 := h1 j j1 j2
      rw [j3] at h2
      unfold lasts at h2
      split at h2
      · have := (wset_isK hi hk (gi_mem hlt)).1; omega
      · have := inc_lt (wset_inc l n i) (i := k - 1) (j := k) (by omega) hlt; omega
    · omega
  · have := lasts_ge hi hk h; omega
theorem nx_more {l : List Int} {n i k : Nat} {x : Int} (hi : i < l.length) (hk : ∀ x ∈ l, isK x) (h : k ≤ (wset l n i).length) (hx : Nx l (lasts (wset l n i) k) (i + 1 - n) (i + 1) x) (h0 : 0 ≤ x) :
    k < (wset l n i).length ∧ x = gi (wset l n i) k := by
  rcases hx with ⟨e, _⟩ | ⟨h1, ⟨j, j1, j2, j3⟩, h2⟩
  · omega
  · have hm : x ∈ wset l n i := mem_wset.2 ((mem_win (by omega)).2 ⟨j, j1, j2, j3⟩)
    obtain ⟨p, hp, e⟩ := List.getElem_of_mem hm
    rw [← gi_get hp] at e
    have hkp : k ≤ p := by
      rcases Nat.lt_or_ge p k with hlt | hge
      · exfalso
        unfold lasts at h1
        rw [if_neg (by omega)] at h1
        by_cases e2 : p = k - 1
        · subst e2; omega
        · have := inc_lt (wset_inc l n i) (i := p) (j := k - 1) (by omega) (by omega); omega
      · exact hge
    have hkl : k < (wset l n i).length := by omega
    refine ⟨hkl, ?_⟩
    by_cases e2 : p = k
    · subst e2; exact e.symm
    · exfalso
      have hlt := inc_lt (wset_inc l n i) (i := k) (j := p) (by omega) hp
      obtain ⟨q, q1, q2, q3⟩ := (mem_win (by omega)).1 (mem_wset.1 (gi_mem hkl))
      have h3 := h2 q q1 q2 (by
        rw [q3]
        unfold lasts
        split
        · have := (wset_isK hi hk (gi_mem hkl)).1; omega
        · exact inc_lt (wset_inc l n i) (by omega) hkl)
      omega
theorem lasts_succ {S : List Int} {k : Nat} : lasts S (k + 1) = gi S k := by unfold lasts; rw [if_neg (by omega)]; rfl
theorem take_succ_gi {S : List Int} {k : Nat} (h : k < S.length) : S.take (k + 1) = S.take k ++ [gi S k] := by
  rw [List.take_add_one, List.getElem?_eq_getElem h, gi_get h]; rfl

/-- LRU with as much room holds the working set. -/
theorem wset_lru {l : List Int} {r : Int} {i : Nat} (hr : 1 ≤ r) (hi : i < l.length) {x : Int} (hx : x ∈ wset l r.toNat i) : x ∈ Lru.runL r [] (l.take (i + 1)) := by
  have h1 := win_stack (by omega) (mem_wset.1 hx)
  have h2 := Lru.runL_stack hr (S := []) (xs := l.take (i + 1))
  rw [List.take_nil] at h2
  rw [h2]; exact h1

end Go.Proofs.Ytgdklpgmoanfkaa.Wst
