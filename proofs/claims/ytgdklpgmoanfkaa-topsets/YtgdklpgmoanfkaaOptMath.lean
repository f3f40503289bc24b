/-
  The optimal policy as the code and the reference keep it: the keys in the order of their places.
-/
import Derived.Test.YtgdklpgmoanfkaaBestRefM
import Derived.Test.YtgdklpgmoanfkaaLfuMath
import Derived.Lib.Slices
namespace Go.Proofs.Ytgdklpgmoanfkaa.Opt
open Bst
open Lfu (Us gu gu_get gu_mem gu_set keys keys_len keys_get keys_mem)
set_option linter.unusedVariables false

def stepI (r : Nat) (S : List Int) (x : Int) (xs : List Int) : List Int := if x ∈ S then S else if S.length < r then S ++ [x] else S.set (bestI xs S (S.length - 1)) x
def outI (r : Nat) (S : List Int) (x : Int) (xs : List Int) : Int := if x ∈ S then -1 else if S.length < r then -1 else gi S (bestI xs S (S.length - 1))
/-- The keys ahead of access k, each at its place. -/
def stI (r : Nat) (l : List Int) : Nat → List Int
  | 0 => []
  | k + 1 => stepI r (stI r l k) (gi l k) (l.drop k)
def gsI (r : Nat) (l : List Int) : Nat → List Int
  | 0 => []
  | k + 1 => gsI r l k ++ [outI r (stI r l k) (gi l k) (l.drop k)]
def mI (r : Nat) (l : List Int) : Nat → Nat
  | 0 => 0
  | k + 1 => mI r l k + (if gi l k ∈ stI r l k then 0 else 1)
theorem gsI_len (r : Nat) (l : List Int) : ∀ k, (gsI r l k).length = k
  | 0 => rfl
  | k + 1 => by unfold gsI; simp [gsI_len r l k]
theorem mI_le (r : Nat) (l : List Int) : ∀ k, mI r l k ≤ k
  | 0 => Nat.le_refl _
  | k + 1 => by have := mI_le r l k; unfold mI; split <;> omega
theorem stepI_len {r : Nat} {S : List Int} {x : Int} {xs : List Int} (h : S.length ≤ r) : (stepI r S x xs).length ≤ r := by
  unfold stepI
  split
  · exact h
  · split
    · simp; omega
    · simpa using h
theorem stI_len (r : Nat) (l : List Int) : ∀ k, (stI r l k).length ≤ r
  | 0 => Nat.zero_le _
  | k + 1 => stepI_len (stI_len r l k)
theorem later_cons {x : Int} {xs : List Int} {a b : Int} (ha : x ≠ a) (hb : x ≠ b) : Later (x :: xs) a b ↔ Later xs a b := by
  unfold Later; rw [nx_ne _ ha, nx_ne _ hb]; omega
theorem isVic_cons {x : Int} {xs S : List Int} {v : Int} (hx : x ∉ S) (h : IsVic (x :: xs) S v) : IsVic xs S v :=
  ⟨h.1, fun y hy hne => (later_cons (fun e => hx (by rw [e]; exact h.1)) (fun e => hx (by rw [e]; exact hy))).1 (h.2 y hy hne)⟩
theorem step_perm {r : Nat} (hr : 0 < r) {S T : List Int} {x : Int} {xs : List Int} (hS : S.Nodup) (p : S.Perm T) : (stepI r S x (x :: xs)).Perm (stB r T x xs) := by
  unfold stepI stB
  by_cases h1 : x ∈ S
  · rw [if_pos h1, if_pos (p.mem_iff.1 h1)]; exact p
  · rw [if_neg h1, if_neg (fun m => h1 (p.mem_iff.2 m)), ← p.length_eq]
    by_cases h2 : S.length < r
    · rw [if_pos h2, if_pos h2]; exact List.perm_append_comm.trans (p.cons x)
    · rw [if_neg h2, if_neg h2]
      have hb := bestI_le (x :: xs) S (S.length - 1)
      have hv := isVic_cons h1 (bestI_vic (xs := x :: xs) hS (n := S.length - 1) (by omega))
      have e : vic xs T = gi S (bestI (x :: xs) S (S.length - 1)) := vic_uniq (vic_spec (by rw [← p.length_eq]; omega)) (vic_perm hv p)
      rw [e, gi_get (by omega)]
      exact (set_perm' hS (by omega)).trans ((p.erase _).cons x)
theorem stI_perm {r : Nat} (hr : 0 < r) (l : List Int) : ∀ k, k ≤ l.length → (stI r l k).Perm (stK r l k)
  | 0, _ => List.Perm.refl _
  | k + 1, h => by
    have ih := stI_perm hr l k (by omega)
    unfold stI stK
    rw [drop_at (by omega : k < l.length)]
    exact step_perm hr (ih.nodup_iff.2 (stK_nodup r l k)) ih
theorem stI_nodup {r : Nat} (hr : 0 < r) {l : List Int} {k : Nat} (h : k ≤ l.length) : (stI r l k).Nodup := (stI_perm hr l k h).nodup_iff.2 (stK_nodup r l k)
theorem mI_eq {r : Nat} (hr : 0 < r) (l : List Int) : ∀ k, k ≤ l.length → mI r l k = mK r l k
  | 0, _ => rfl
  | k + 1, h => by
    have ih := mI_eq hr l k (by omega)
    have p := stI_perm hr l k (by omega)
    unfold mI mK
    rw [ih]
    by_cases h1 : gi l k ∈ stI r l k
    · rw [if_pos h1, if_pos (p.mem_iff.1 h1)]
    · rw [if_neg h1, if_neg (fun m => h1 (p.mem_iff.2 m))]
theorem mI_end {r : Nat} (hr : 0 < r) (l : List Int) : mI r l l.length = missB r [] l := by rw [mI_eq hr l _ (Nat.le_refl _), mK_end]

/-! ### The code's list: each key with its next place -/
def cl (l : List Int) (i : Nat) (S : List Int) : List Us := S.map (fun y => ⟨y, (again l i y : Int)⟩)
theorem cl_len (l : List Int) (i : Nat) (S : List Int) : (cl l i S).length = S.length := by simp [cl]
theorem cl_keys (l : List Int) (i : Nat) (S : List Int) : keys (cl l i S) = S := by simp [cl, keys, Function.comp_def]
theorem cl_gu {l : List Int} {i j : Nat} {S : List Int} (h : j < S.length) : gu (cl l i S) j = ⟨gi S j, (again l i (gi S j) : Int)⟩ := by
  rw [gu_get (by rw [cl_len]; exact h), gi_get h]; simp [cl]
def Bf (c d : Us) : Prop := if c.cnt = d.cnt then c.key < d.key else d.cnt < c.cnt
instance (c d : Us) : Decidable (Bf c d) := by unfold Bf; infer_instance
theorem bf_irr (c : Us) : ¬ Bf c c := by unfold Bf; rw [if_pos rfl]; omega
/-- The place of who goes, among the first k. -/
def vicC (L : List Us) : Nat → Nat
  | 0 => 0
  | k + 1 => if Bf (gu L k) (gu L (vicC L k)) then k else vicC L k
theorem vicC_lt (L : List Us) : ∀ k, 0 < k → vicC L k < k
  | 0, h => by omega
  | k + 1, _ => by
    unfold vicC
    split
    · omega
    · rcases Nat.eq_zero_or_pos k with e | e
      · subst e; unfold vicC; omega
      · have := vicC_lt L k e; omega
theorem bf_later {l : List Int} {i : Nat} {a b : Int} : Bf ⟨a, (again l i a : Int)⟩ ⟨b, (again l i b : Int)⟩ ↔ Later (l.drop i) a b := by
  rw [later_again]
  unfold Bf
  dsimp only
  by_cases h : again l i a = again l i b
  · rw [if_pos (by omega)]; omega
  · rw [if_neg (by omega)]; omega
theorem vicC_eq {l : List Int} {i : Nat} {S : List Int} : ∀ k, k < S.length → vicC (cl l i S) (k + 1) = bestI (l.drop i) S k
  | 0, _ => by
    show (if Bf _ (gu _ (vicC _ 0)) then 0 else vicC _ 0) = 0
    split <;> rfl
  | k + 1, h => by
    have ih := vicC_eq (l := l) (i := i) (S := S) k (by omega)
    have hb := bestI_le (l.drop i) S k
    show (if Bf (gu _ (k + 1)) (gu _ (vicC _ (k + 1))) then k + 1 else vicC _ (k + 1)) = _
    rw [ih, cl_gu h, cl_gu (by omega)]
    show _ = if Later (l.drop i) (gi S (k + 1)) (gi S (bestI (l.drop i) S k)) then k + 1 else bestI (l.drop i) S k
    by_cases hh : Later (l.drop i) (gi S (k + 1)) (gi S (bestI (l.drop i) S k))
    · rw [if_pos hh, if_pos (bf_later.2 hh)]
    · rw [if_neg hh, if_neg (fun m => hh (bf_later.1 m))]
/-- makeRoom: the list, the place, who goes. -/
def mkL (r : Nat) (L : List Us) : List Us := if L.length < r then L ++ [⟨0, 0⟩] else L
def mkA (r : Nat) (L : List Us) : Nat := if L.length < r then L.length else vicC L L.length
def mkE (r : Nat) (L : List Us) : Int := if L.length < r then -1 else (gu L (vicC L L.length)).key
theorem mkL_len {r : Nat} {L : List Us} (h : L.length ≤ r) : (mkL r L).length ≤ r := by
  unfold mkL
  by_cases e : L.length < r
  · rw [if_pos e]; simp; omega
  · rw [if_neg e]; exact h
theorem mkA_lt {r : Nat} {L : List Us} (hr : 0 < r) : mkA r L < (mkL r L).length := by
  unfold mkA mkL
  by_cases h : L.length < r
  · rw [if_pos h, if_pos h]; simp
  · rw [if_neg h, if_neg h]; exact vicC_lt L _ (by omega)
theorem again_next {l : List Int} {i : Nat} {y : Int} (h : i < l.length) (hne : gi l i ≠ y) : again l i y = again l (i + 1) y := again_miss h hne
theorem set_map {S : List Int} {f g : Int → Us} {j : Nat} (h : ∀ k, k < S.length → k ≠ j → f (gi S k) = g (gi S k)) (u : Us) (hu : ∀ hj : j < S.length, g (gi S j) = u) : (S.map f).set j u = S.map g := by
  refine List.ext_getElem (by simp) (fun k h1 h2 => ?_)
  have hk : k < S.length := by simpa using h2
  rw [List.getElem_set, List.getElem_map, List.getElem_map]
  by_cases e : j = k
  · subst e
    rw [if_pos rfl, ← hu hk, gi_get hk]
  · rw [if_neg e]
    have := h k hk (fun e2 => e e2.symm)
    rwa [gi_get hk] at this
theorem cl_hit {l : List Int} {i : Nat} {S : List Int} (hi : i < l.length) (hS : S.Nodup) (hx : gi l i ∈ S) :
    (cl l i S).set (S.idxOf (gi l i)) ⟨gi l i, (again l (i + 1) (gi l i) : Int)⟩ = cl l (i + 1) S := by
  have hk := List.idxOf_lt_length_of_mem hx
  have e : gi S (S.idxOf (gi l i)) = gi l i := by rw [gi_get hk]; simp
  refine set_map (fun k h1 h2 => ?_) _ (fun _ => by rw [e])
  have : gi l i ≠ gi S k := fun e2 => h2 (gi_inj hS h1 hk (by rw [e, e2]))
  rw [again_next hi this]
theorem cl_next {l : List Int} {i : Nat} {S : List Int} (hi : i < l.length) (hx : gi l i ∉ S) : cl l i S = cl l (i + 1) S := by
  refine List.map_congr_left (fun y hy => ?_)
  rw [again_next hi (fun e => hx (e ▸ hy))]
theorem cl_room {l : List Int} {i : Nat} {S : List Int} {u : Us} (hi : i < l.length) (hx : gi l i ∉ S) :
    (cl l i S ++ [u]).set S.length ⟨gi l i, (again l (i + 1) (gi l i) : Int)⟩ = cl l (i + 1) (S ++ [gi l i]) := by
  rw [cl_next hi hx, List.set_append, if_neg (by rw [cl_len]; omega), cl_len]
  simp [cl]
theorem cl_full {l : List Int} {i j : Nat} {S : List Int} (hi : i < l.length) (hx : gi l i ∉ S) :
    (cl l i S).set j ⟨gi l i, (again l (i + 1) (gi l i) : Int)⟩ = cl l (i + 1) (S.set j (gi l i)) := by
  rw [cl_next hi hx]; unfold cl; rw [List.map_set]
/-- One access, as the code does it. -/
theorem cl_miss {r : Nat} (hr : 0 < r) {l : List Int} {i : Nat} {S : List Int} (hi : i < l.length) (hl : S.length ≤ r) (hx : gi l i ∉ S) :
    (mkL r (cl l i S)).set (mkA r (cl l i S)) ⟨gi l i, (again l (i + 1) (gi l i) : Int)⟩ = cl l (i + 1) (stepI r S (gi l i) (l.drop i)) ∧ mkE r (cl l i S) = outI r S (gi l i) (l.drop i) := by
  unfold mkL mkA mkE stepI outI
  rw [cl_len]
  simp only [if_neg hx]
  by_cases h : S.length < r
  · simp only [if_pos h, and_true]; exact cl_room hi hx
  · simp only [if_neg h]
    have e := vicC_eq (l := l) (i := i) (S := S) (S.length - 1) (by omega)
    rw [show S.length - 1 + 1 = S.length by omega] at e
    have hb := bestI_le (l.drop i) S (S.length - 1)
    rw [e, cl_gu (by omega)]
    exact ⟨cl_full hi hx, rfl⟩

/-! ### Next -/
theorem nx_out : ∀ {xs : List Int} {y : Int}, y ∉ xs → nx xs y = xs.length
  | [], _, _ => rfl
  | x :: xs, y, h => by
    have h1 : x ≠ y := fun e => h (by rw [e]; exact List.mem_cons_self ..)
    rw [nx_ne _ h1, nx_out (fun m => h (List.mem_cons_of_mem _ m))]; rfl
theorem idxFrom_nx : ∀ {xs : List Int} {y : Int} (i : Nat), y ∈ xs → Lib.idxFrom xs y i = ((i + nx xs y : Nat) : Int)
  | [], _, _, h => by cases h
  | x :: xs, y, i, h => by
    by_cases e : x = y
    · subst e; simp [Lib.idxFrom, nx_self]
    · have hm : y ∈ xs := (List.mem_cons.1 h).resolve_left (fun k => e k.symm)
      rw [nx_ne _ e]
      simp only [Lib.idxFrom, e, if_false]
      rw [idxFrom_nx (i + 1) hm]
      omega
theorem idx_nx {xs : List Int} {y : Int} (h : y ∈ xs) : Lib.idxOf xs y = (nx xs y : Int) := by
  unfold Lib.idxOf; rw [idxFrom_nx 0 h]; simp
theorem again_in {l : List Int} {i : Nat} {y : Int} (h : y ∈ l.drop i) : (i : Int) + Lib.idxOf (l.drop i) y = (again l i y : Int) := by
  rw [idx_nx h]; unfold again; omega
theorem again_out {l : List Int} {i : Nat} {y : Int} (hi : i ≤ l.length) (h : y ∉ l.drop i) : again l i y = l.length := by
  unfold again; rw [nx_out h, List.length_drop]; omega

end Go.Proofs.Ytgdklpgmoanfkaa.Opt
