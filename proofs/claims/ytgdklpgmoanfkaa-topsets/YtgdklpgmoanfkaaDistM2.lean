/-
  Stack distances: rows of numbers, as the code fills them one place after another.
-/
import Derived.Test.YtgdklpgmoanfkaaDistMath
import Derived.Lib.Slices
namespace Go.Proofs.Ytgdklpgmoanfkaa.Dst
open Lru (touch hitsM runL stack runL_stack touch_stack isRm isK traceE trace_zero)
set_option linter.unusedVariables false

/-- A row of m numbers given place by place. -/
def row (m : Nat) (f : Nat → Int) : List Int := (List.range m).map f
theorem row_len (m : Nat) (f : Nat → Int) : (row m f).length = m := by simp [row]
theorem row_get {m : Nat} {f : Nat → Int} {j : Nat} (h : j < m) : gi (row m f) j = f j := by
  rw [gi_get (by rw [row_len]; exact h)]; simp [row]
theorem row_set {m : Nat} {f g : Nat → Int} {j : Nat} {x : Int} (h : j < m) (hx : g j = x) (ho : ∀ i, i < m → i ≠ j → g i = f i) : (row m f).set j x = row m g := by
  apply List.ext_getElem
  · simp [row]
  · intro i h1 h2
    have hi : i < m := by simpa [row] using h2
    by_cases e : j = i
    · subst e; simp [row, hx]
    · simp [row, List.getElem_set_ne e, ho i hi (fun k => e k.symm)]
theorem row_ext {m : Nat} {f g : Nat → Int} (h : ∀ i, i < m → f i = g i) : row m f = row m g := by
  unfold row; exact List.map_congr_left (fun i hi => h i (List.mem_range.1 hi))
theorem row_zero (m : Nat) : row m (fun _ => 0) = List.replicate m 0 := by
  apply List.ext_getElem
  · simp [row]
  · intro i h1 h2; simp [row]

/-- The depth as the code reckons it. -/
theorem dep_idx (S : List Int) (x : Int) : Lib.idxOf S x + 1 = (dep S x : Int) := by
  unfold dep Lib.idxOf
  by_cases h : x ∈ S
  · rw [if_pos h]
    have hk := List.idxOf_lt_length_of_mem h
    rw [Lib.idxFrom_hit x S (S.idxOf x) 0 hk (by rw [List.getD_eq_getElem?_getD, List.getElem?_eq_getElem hk]; simp) (fun j hj e => by
      have hjl : j < S.length := by omega
      rw [List.getD_eq_getElem?_getD, List.getElem?_eq_getElem hjl] at e
      have e2 : S[j] = x := by simpa using e
      have := List.not_of_lt_findIdx (p := (· == x)) (xs := S) (i := j) hj
      simp [e2] at this)]
    omega
  · rw [if_neg h, Lib.idxFrom_miss x S 0 (fun j hj e => h (by
      rw [List.getD_eq_getElem?_getD, List.getElem?_eq_getElem hj] at e
      have e : S[j] = x := by simpa using e
      rw [← e]; exact List.getElem_mem hj))]
    rfl

/-! ### Distances -/
/-- The stack ahead of access k. -/
def stk (l : List Int) (k : Nat) : List Int := uq (l.take k).reverse
theorem stk_zero (l : List Int) : stk l 0 = [] := rfl
theorem stk_nodup (l : List Int) (k : Nat) : (stk l k).Nodup := uq_nodup _
theorem stk_len (l : List Int) (k : Nat) : (stk l k).length ≤ k := by
  have := uq_len_le (l.take k).reverse
  unfold stk; rw [List.length_reverse, List.length_take] at this; omega
theorem stk_succ {l : List Int} {k : Nat} (h : k < l.length) : stk l (k + 1) = gi l k :: (stk l k).erase (gi l k) := by
  unfold stk
  rw [rev_take h]
  show gi l k :: (uq _).filter (fun z => z != gi l k) = _
  rw [erase_uq (uq_nodup _)]
theorem dst_stk {l : List Int} {k : Nat} (h : k < l.length) : dst l k = dep (stk l k) (gi l k) := dst_dep h
theorem dst_le {l : List Int} {k : Nat} (h : k < l.length) : dst l k ≤ k := by
  rw [dst_stk h]
  have h1 := stk_len l k
  unfold dep
  split
  · have := List.idxOf_lt_length_of_mem (by assumption : gi l k ∈ stk l k); omega
  · omega
/-- The row of distances behind k accesses. -/
def dK (l : List Int) (k : Nat) : List Int := row l.length (fun j => if j < k then (dst l j : Int) else 0)
def dI (l : List Int) : List Int := row l.length (fun j => (dst l j : Int))
theorem dK_len (l : List Int) (k : Nat) : (dK l k).length = l.length := row_len _ _
theorem dI_len (l : List Int) : (dI l).length = l.length := row_len _ _
theorem dI_get {l : List Int} {j : Nat} (h : j < l.length) : gi (dI l) j = (dst l j : Int) := row_get h
theorem dK_zero (l : List Int) : dK l 0 = List.replicate l.length 0 := by
  rw [← row_zero]; exact row_ext (fun i _ => by rw [if_neg (by omega)])
theorem dK_all (l : List Int) : dK l l.length = dI l := row_ext (fun i hi => by rw [if_pos hi])
theorem dK_set {l : List Int} {k : Nat} (h : k < l.length) : (dK l k).set k (dst l k : Int) = dK l (k + 1) :=
  row_set h (by rw [if_pos (by omega)]) (fun i _ hi => by
    by_cases h1 : i < k
    · rw [if_pos h1, if_pos (by omega)]
    · rw [if_neg h1, if_neg (by omega)])
def dsE (l : List Int) : Int := traceE l
def dsL (l : List Int) : List Int := if traceE l = 0 then dI l else []

/-! ### Hits: how many accesses have a distance -/
def isAt (j : Nat) (d : Nat) : Bool := decide (d = j)
/-- The depths of the first k accesses. -/
def dps (l : List Int) (k : Nat) : List Nat := (List.range k).map (dst l)
theorem dps_succ (l : List Int) (k : Nat) : dps l (k + 1) = dps l k ++ [dst l k] := by simp [dps, List.range_succ]
theorem dps_len (l : List Int) (k : Nat) : (dps l k).length = k := by simp [dps]
theorem dps_all (l : List Int) : dps l l.length = deps [] l := by
  apply List.ext_getElem?
  intro i
  by_cases h : i < l.length
  · rw [dst_deps h]; simp [dps, h]
  · rw [List.getElem?_eq_none (by rw [dps_len]; omega), List.getElem?_eq_none (by rw [deps_len]; omega)]
/-- How many of the first k accesses lie at each depth. -/
def bK (l : List Int) (k : Nat) : List Int := row 40 (fun j => ((dps l k).countP (isAt (j + 1)) : Int))
theorem bK_len (l : List Int) (k : Nat) : (bK l k).length = 40 := row_len _ _
theorem bK_zero (l : List Int) : bK l 0 = List.replicate 40 0 := by rw [← row_zero]; rfl
theorem bK_out {l : List Int} {k : Nat} (h : ¬ (1 ≤ dst l k ∧ dst l k ≤ 40)) : bK l (k + 1) = bK l k := row_ext (fun j hj => by
  have h1 : isAt (j + 1) (dst l k) = false := by unfold isAt; simp; omega
  rw [dps_succ, List.countP_append, List.countP_singleton, h1]
  simp)
theorem bK_in {l : List Int} {k d : Nat} (h : dst l k = d + 1) (h2 : d < 40) : bK l (k + 1) = (bK l k).set d (gi (bK l k) d + 1) := by
  symm
  unfold bK
  rw [row_get h2]
  refine row_set h2 ?_ (fun i _ hi => ?_)
  · have h1 : isAt (d + 1) (dst l k) = true := by unfold isAt; simp [h]
    rw [dps_succ, List.countP_append, List.countP_singleton, h1]
    simp
  · have h1 : isAt (i + 1) (dst l k) = false := by unfold isAt; simp; omega
    rw [dps_succ, List.countP_append, List.countP_singleton, h1]
    simp
theorem bK_le {l : List Int} {k d : Nat} (h2 : d < 40) : 0 ≤ gi (bK l k) d ∧ gi (bK l k) d ≤ (k : Int) := by
  unfold bK
  rw [row_get h2]
  have := List.countP_le_length (p := isAt (d + 1)) (l := dps l k)
  rw [dps_len] at this
  omega
/-- The first i sums are reckoned. -/
def hK (l : List Int) (i : Nat) : List Int := row 40 (fun j => if j < i then ((deps [] l).countP (within (j + 1)) : Int) else ((deps [] l).countP (isAt (j + 1)) : Int))
def hI (l : List Int) : List Int := row 40 (fun j => ((deps [] l).countP (within (j + 1)) : Int))
theorem hK_len (l : List Int) (k : Nat) : (hK l k).length = 40 := row_len _ _
theorem hI_len (l : List Int) : (hI l).length = 40 := row_len _ _
theorem hI_get {l : List Int} {j : Nat} (h : j < 40) : gi (hI l) j = ((deps [] l).countP (within (j + 1)) : Int) := row_get h
theorem within_one (d : Nat) : within 1 d = isAt 1 d := by unfold within isAt; by_cases h : d = 1 <;> simp [h]; omega
theorem within_succ (D : List Nat) (i : Nat) : D.countP (within (i + 1)) = D.countP (isAt (i + 1)) + D.countP (within i) := by
  induction D with
  | nil => rfl
  | cons d D ih =>
    rw [List.countP_cons, List.countP_cons, List.countP_cons, ih]
    have : (if within (i + 1) d = true then 1 else 0) = (if isAt (i + 1) d = true then 1 else 0) + (if within i d = true then 1 else 0) := by
      unfold within isAt
      by_cases h : d = i + 1
      · subst h; simp
      · have h3 : (1 ≤ d ∧ d ≤ i + 1) ↔ (1 ≤ d ∧ d ≤ i) := by omega
        simp [h, h3]
    omega
theorem hK_one (l : List Int) : bK l l.length = hK l 1 := row_ext (fun j hj => by
  rw [dps_all]
  by_cases h : j < 1
  · rw [if_pos h]
    obtain rfl : j = 0 := by omega
    rw [show within (0 + 1) = isAt (0 + 1) from funext within_one]
  · rw [if_neg h])
theorem hK_all (l : List Int) : hK l 40 = hI l := row_ext (fun i hi => by rw [if_pos hi])
theorem hK_set {l : List Int} {i : Nat} (h0 : 1 ≤ i) (h : i < 40) : (hK l i).set i (gi (hK l i) i + gi (hK l i) (i - 1)) = hK l (i + 1) := by
  unfold hK
  rw [row_get h, row_get (by omega)]
  refine row_set h ?_ (fun j _ hj => ?_)
  · rw [if_pos (by omega), if_neg (by omega), if_pos (by omega), within_succ, show i - 1 + 1 = i by omega]
    simp
  · by_cases h1 : j < i
    · rw [if_pos h1, if_pos (by omega)]
    · rw [if_neg h1, if_neg (by omega)]
theorem hK_le {l : List Int} {i j : Nat} (h2 : j < 40) : 0 ≤ gi (hK l i) j ∧ gi (hK l i) j ≤ (l.length : Int) := by
  unfold hK
  rw [row_get h2]
  have h3 := List.countP_le_length (p := isAt (j + 1)) (l := deps [] l)
  have h4 := List.countP_le_length (p := within (j + 1)) (l := deps [] l)
  rw [deps_len] at h3 h4
  split <;> omega
theorem hI_le {l : List Int} {j : Nat} (h2 : j < 40) : 0 ≤ gi (hI l) j ∧ gi (hI l) j ≤ (l.length : Int) := by
  rw [← hK_all]; exact hK_le h2
theorem hI_mono {l : List Int} {i j : Nat} (h : i ≤ j) (hj : j < 40) : gi (hI l) i ≤ gi (hI l) j := by
  rw [hI_get (by omega), hI_get hj]
  have := count_mono (r := i + 1) (q := j + 1) (by omega) (deps [] l)
  omega
def hsL (l : List Int) : List Int := if traceE l = 0 then hI l else []
/-- The hits are those of LRU. -/
theorem hI_lru {l : List Int} {r : Int} (hr : isRm r) : gi (hI l) (r.toNat - 1) = (hitsM r [] l : Int) := by
  have h1 := hr.1
  have h2 := hr.2
  rw [hI_get (by omega), hits_room h1, show r.toNat - 1 + 1 = r.toNat by omega]

/-! ### Misses -/
def mK (l : List Int) (k : Nat) : List Int := row 40 (fun j => if j < k then (l.length : Int) - gi (hI l) j else gi (hI l) j)
def mI (l : List Int) : List Int := row 40 (fun j => (l.length : Int) - gi (hI l) j)
theorem mK_len (l : List Int) (k : Nat) : (mK l k).length = 40 := row_len _ _
theorem mI_len (l : List Int) : (mI l).length = 40 := row_len _ _
theorem mI_get {l : List Int} {j : Nat} (h : j < 40) : gi (mI l) j = (l.length : Int) - gi (hI l) j := row_get h
theorem mK_zero (l : List Int) : hI l = mK l 0 := by
  unfold mK
  refine (row_ext (fun i hi => ?_) : row 40 _ = _)
  rw [if_neg (by omega), hI_get hi]
theorem mK_all (l : List Int) : mK l 40 = mI l := row_ext (fun i hi => by rw [if_pos hi])
theorem mK_get {l : List Int} {k : Nat} (h : k < 40) : gi (mK l k) k = gi (hI l) k := by unfold mK; rw [row_get h, if_neg (by omega)]
theorem mK_set {l : List Int} {k : Nat} (h : k < 40) : (mK l k).set k ((l.length : Int) - gi (hI l) k) = mK l (k + 1) :=
  row_set h (by rw [if_pos (by omega)]) (fun i _ hi => by
    by_cases h1 : i < k
    · rw [if_pos h1, if_pos (by omega)]
    · rw [if_neg h1, if_neg (by omega)])
def msL (l : List Int) : List Int := if traceE l = 0 then mI l else []

/-! ### Room -/
/-- The smallest number at most k for which p holds of the number before it (0: none). -/
def need (p : Nat → Bool) : Nat → Nat
  | 0 => 0
  | k + 1 => if need p k = 0 then (if p k = true then k + 1 else 0) else need p k
theorem need_stay {p : Nat → Bool} {k : Nat} (h : need p k ≠ 0) : ∀ m, need p (k + m) = need p k
  | 0 => rfl
  | m + 1 => by
    have ih := need_stay h m
    show (if need p (k + m) = 0 then _ else need p (k + m)) = _
    rw [ih, if_neg h]
theorem need_found {p : Nat → Bool} {k n : Nat} (h0 : need p k = 0) (h1 : p k = true) (hk : k < n) : need p n = k + 1 := by
  have h2 : need p (k + 1) = k + 1 := by show (if need p k = 0 then _ else _) = _; rw [if_pos h0, if_pos h1]
  have := need_stay (p := p) (k := k + 1) (by omega) (n - (k + 1))
  rw [show k + 1 + (n - (k + 1)) = n by omega] at this
  omega
theorem need_next {p : Nat → Bool} {k : Nat} (h0 : need p k = 0) (h1 : p k = false) : need p (k + 1) = 0 := by
  show (if need p k = 0 then _ else _) = _
  rw [if_pos h0, if_neg (by rw [h1]; decide)]
theorem need_le (p : Nat → Bool) : ∀ k, need p k ≤ k
  | 0 => Nat.le_refl _
  | k + 1 => by have := need_le p k; unfold need; split <;> (try split) <;> omega
theorem need_is {p : Nat → Bool} : ∀ {k d : Nat}, need p k = d + 1 → d < k ∧ p d = true ∧ ∀ j, j < d → p j = false
  | 0, d, h => by cases h
  | k + 1, d, h => by
    have e : need p (k + 1) = if need p k = 0 then (if p k = true then k + 1 else 0) else need p k := rfl
    rw [e] at h
    by_cases h0 : need p k = 0
    · rw [if_pos h0] at h
      by_cases h1 : p k = true
      · rw [if_pos h1] at h
        obtain rfl : k = d := by omega
        refine ⟨by omega, h1, fun j hj => ?_⟩
        cases hp : p j with
        | false => rfl
        | true =>
          exfalso
          have hz : ∀ m, m ≤ k → need p m = 0 := fun m hm => by
            by_cases hq : need p m = 0
            · exact hq
            · have := need_stay hq (k - m)
              rw [show m + (k - m) = k by omega] at this
              omega
          have := need_found (hz j (by omega)) hp (n := k) hj
          omega
      · rw [if_neg h1] at h; cases h
    · rw [if_neg h0] at h
      obtain ⟨a, b, c⟩ := need_is h
      exact ⟨by omega, b, c⟩
/-- Is there room enough with j + 1? -/
def enough (l : List Int) (q : Int) (j : Nat) : Bool := decide (q * (l.length : Int) ≤ 100 * gi (hI l) j)
def okP (q : Int) : Prop := 0 ≤ q ∧ q ≤ 100
instance (q : Int) : Decidable (okP q) := by unfold okP; infer_instance
def rmV (l : List Int) (q : Int) : Nat := if traceE l = 0 ∧ okP q then need (enough l q) 40 else 0
def rmE (l : List Int) (q : Int) : Int := if traceE l = 0 then (if okP q then (if need (enough l q) 40 = 0 then 5 else 0) else 3) else traceE l
theorem room_ok {l : List Int} {q : Int} (h : rmE l q = 0) : traceE l = 0 ∧ okP q ∧ 1 ≤ rmV l q ∧ rmV l q ≤ 40 ∧ q * (l.length : Int) ≤ 100 * gi (hI l) (rmV l q - 1) ∧ (1 < rmV l q → 100 * gi (hI l) (rmV l q - 2) < q * (l.length : Int)) := by
  unfold rmE at h
  by_cases h1 : traceE l = 0
  · rw [if_pos h1] at h
    by_cases h2 : okP q
    · rw [if_pos h2] at h
      by_cases h3 : need (enough l q) 40 = 0
      · rw [if_pos h3] at h; cases h
      · have e : rmV l q = need (enough l q) 40 := by unfold rmV; rw [if_pos ⟨h1, h2⟩]
        obtain ⟨d, hd⟩ : ∃ d, need (enough l q) 40 = d + 1 := ⟨need (enough l q) 40 - 1, by omega⟩
        obtain ⟨a, b, c⟩ := need_is hd
        rw [e, hd]
        refine ⟨h1, h2, by omega, by omega, ?_, fun hh => ?_⟩
        · simpa [enough] using b
        · have := c (d - 1) (by omega)
          rw [show d + 1 - 2 = d - 1 by omega]
          unfold enough at this
          simp at this
          omega
    · rw [if_neg h2] at h; cases h
  · rw [if_neg h1] at h; exact absurd h h1
/-- A greater percentage asks no less room. -/
theorem room_mono {l : List Int} {a b : Int} (ha : rmE l a = 0) (hb : rmE l b = 0) (h : a ≤ b) : rmV l a ≤ rmV l b := by
  obtain ⟨-, -, -, a4, a5, a6⟩ := room_ok ha
  obtain ⟨-, -, b3, b4, b5, b6⟩ := room_ok hb
  by_cases hh : rmV l a ≤ rmV l b
  · exact hh
  · exfalso
    have h1 := a6 (by omega)
    have h2 := hI_mono (l := l) (i := rmV l b - 1) (j := rmV l a - 2) (by omega) (by omega)
    have h3 : a * (l.length : Int) ≤ b * (l.length : Int) := Int.mul_le_mul_of_nonneg_right h (by omega)
    omega

end Go.Proofs.Ytgdklpgmoanfkaa.Dst
