/-
  Tables of slots as lists: what the functions of package table and of its reference return, in plain mathematics.
  Conditions: none.
-/
import Derived.Test.YtaioefimgggfkaaHashMath
namespace Go.Proofs.Ytaioefimgggfkaa
set_option linter.unusedVariables false

/-! ### The first place that passes a test; the first number that is not zero -/
def fd (p : Nat → Bool) : Nat → Option Nat
  | 0 => none
  | n + 1 => match fd p n with
    | some d => some d
    | none => if p n then some n else none

theorem fd_none {p : Nat → Bool} {n : Nat} (h : ∀ i, i < n → p i = false) : fd p n = none := by
  induction n with
  | zero => rfl
  | succ n ih => simp [fd, ih (fun i hi => h i (by omega)), h n (by omega)]
theorem fd_some {p : Nat → Bool} {n d : Nat} (h : ∀ i, i < d → p i = false) (hd : d < n) (hp : p d = true) : fd p n = some d := by
  induction n with
  | zero => omega
  | succ n ih =>
    by_cases e : d = n
    · subst e; simp [fd, fd_none h, hp]
    · simp [fd, ih (by omega)]
theorem fd_cases (p : Nat → Bool) (n : Nat) : (fd p n = none ∧ ∀ i, i < n → p i = false) ∨ ∃ d, fd p n = some d ∧ d < n ∧ p d = true ∧ ∀ i, i < d → p i = false := by
  induction n with
  | zero => exact .inl ⟨rfl, fun i hi => by omega⟩
  | succ n ih =>
    rcases ih with ⟨h1, h2⟩ | ⟨d, h1, h2, h3, h4⟩
    · by_cases hp : p n = true
      · exact .inr ⟨n, by simp [fd, h1, hp], by omega, hp, h2⟩
      · refine .inl ⟨by simp [fd, h1, hp], fun i hi => ?_⟩
        by_cases e : i = n
        · subst e; simpa using hp
        · exact h2 i (by omega)
    · exact .inr ⟨d, by simp [fd, h1], by omega, h3, h4⟩
theorem fd_ext {p q : Nat → Bool} {n : Nat} (h : ∀ i, i < n → p i = q i) : fd p n = fd q n := by
  induction n with
  | zero => rfl
  | succ n ih => simp [fd, ih (fun i hi => h i (by omega)), h n (by omega)]

def nz (f : Nat → Int) : Nat → Int
  | 0 => 0
  | n + 1 => if nz f n = 0 then f n else nz f n
theorem nz_zero {f : Nat → Int} {n : Nat} (h : ∀ i, i < n → f i = 0) : nz f n = 0 := by
  induction n with
  | zero => rfl
  | succ n ih => simp [nz, ih (fun i hi => h i (by omega)), h n (by omega)]
theorem nz_hit {f : Nat → Int} {n d : Nat} (h : ∀ i, i < d → f i = 0) (hd : d < n) (hp : f d ≠ 0) : nz f n = f d := by
  induction n with
  | zero => omega
  | succ n ih =>
    by_cases e : d = n
    · subst e; simp [nz, nz_zero h]
    · simp [nz, ih (by omega), hp]
theorem nz_inv {f : Nat → Int} {n : Nat} (h : nz f n = 0) : ∀ i, i < n → f i = 0 := by
  induction n with
  | zero => intro i hi; omega
  | succ n ih =>
    intro i hi
    unfold nz at h
    split at h
    · by_cases e : i = n
      · subst e; exact h
      · exact ih (by assumption) i (by omega)
    · contradiction

/-! ### Places in a cycle of n -/
def nx (n i : Nat) : Nat := if i + 1 = n then 0 else i + 1
/-- How many steps lead from i to j. -/
def ds (n i j : Nat) : Nat := if i ≤ j then j - i else j + n - i
/-- The place d steps behind i. -/
def ps (n i d : Nat) : Nat := if i + d < n then i + d else i + d - n

theorem nx_mod {n i : Nat} (h : i < n) : (i + 1) % n = nx n i := by
  unfold nx
  split
  · rename_i e; rw [e, Nat.mod_self]
  · exact Nat.mod_eq_of_lt (by omega)
theorem ps_mod {n i d : Nat} (h : i < n) (hd : d ≤ n) : (i + d) % n = ps n i d := by
  unfold ps
  split
  · exact Nat.mod_eq_of_lt (by omega)
  · rw [Nat.mod_eq_sub_mod (by omega), Nat.mod_eq_of_lt (by omega)]
theorem ds_mod {n i j : Nat} (h : i < n) (hj : j < n) : (j + n - i) % n = ds n i j := by
  unfold ds
  split
  · rw [Nat.mod_eq_sub_mod (by omega), Nat.mod_eq_of_lt (by omega)]; omega
  · exact Nat.mod_eq_of_lt (by omega)
theorem nx_lt {n i : Nat} (h : i < n) : nx n i < n := by unfold nx; split <;> omega
theorem ps_lt {n i d : Nat} (h : i < n) (hd : d ≤ n) : ps n i d < n := by unfold ps; split <;> omega
theorem ds_lt {n i j : Nat} (h : i < n) (hj : j < n) : ds n i j < n := by unfold ds; split <;> omega
theorem ps_zero {n i : Nat} (h : i < n) : ps n i 0 = i := by unfold ps; split <;> omega
theorem ps_full {n i : Nat} (h : i < n) : ps n i n = i := by unfold ps; split <;> omega
theorem nx_ps {n i d : Nat} (h : i < n) (hd : d < n) : nx n (ps n i d) = ps n i (d + 1) := by
  unfold nx ps; by_cases a : i + d < n <;> simp only [a, if_true, if_false] <;> (repeat' split) <;> omega
theorem ps_ds {n i j : Nat} (h : i < n) (hj : j < n) : ps n i (ds n i j) = j := by
  unfold ps ds; by_cases a : i ≤ j <;> simp only [a, if_true, if_false] <;> (repeat' split) <;> omega
theorem ds_ps {n i d : Nat} (h : i < n) (hd : d < n) : ds n i (ps n i d) = d := by
  unfold ps ds; by_cases a : i + d < n <;> simp only [a, if_true, if_false] <;> (repeat' split) <;> omega
theorem ps_inj {n i d e : Nat} (h : i < n) (hd : d < n) (he : e < n) (x : ps n i d = ps n i e) : d = e := by
  rw [← ds_ps h hd, x, ds_ps h he]

theorem ds_nx {n i j : Nat} (h : i < n) (hj : j < n) (hne : i ≠ j) : ds n (nx n i) j < ds n i j := by
  unfold ds nx; by_cases a : i + 1 = n <;> simp only [a, if_true, if_false] <;> (repeat' split) <;> omega

theorem ps_one {n i : Nat} (h : i < n) : nx n i = ps n i 1 := by unfold nx ps; split <;> split <;> omega
theorem ps_off {n i d : Nat} (h : i < n) (h1 : 1 ≤ d) (h2 : d < n) : i ≠ ps n i d := by unfold ps; split <;> omega

/-! ### Slots -/
/-- A slot: whether it is used, its key, its value. -/
structure Sl where
  used : Bool
  key : ByteArray
  val : Int

def Sl.no : Sl := ⟨false, ⟨#[]⟩, 0⟩
/-- The slot at a place. -/
def sl (L : List Sl) (i : Nat) : Sl := L.getD i Sl.no

def vkB (k : ByteArray) : Bool := decide (k.size ≤ 40)
def vvB (v : Int) : Bool := decide (-1099511627776 ≤ v) && decide (v ≤ 1099511627776)
theorem vkB_le {k : ByteArray} : vkB k = true ↔ k.size ≤ 40 := by simp [vkB]

/-- The home of a key among n slots. -/
def homeC (k : ByteArray) (n : Nat) : Nat := (redI (mixB (fnv k.data.toList)) (n : Int)).toNat
theorem home_is : ∃ f : ByteArray → Nat → Nat, f = homeC := ⟨_, rfl⟩
noncomputable def homeN : ByteArray → Nat → Nat := Classical.choose home_is
theorem homeN_fun : homeN = homeC := Classical.choose_spec home_is
theorem homeN_eq (k : ByteArray) (n : Nat) : homeN k n = (redI (mixB (fnv k.data.toList)) (n : Int)).toNat := by
  rw [homeN_fun]; rfl

theorem homeN_cast (k : ByteArray) (n : Nat) (h : 1 ≤ n) : (homeN k n : Int) = redI (mixB (fnv k.data.toList)) (n : Int) := by
  have := redI_bd (mixB (fnv k.data.toList)) (n : Int) (by omega)
  rw [homeN_eq]
  omega
theorem homeN_lt (k : ByteArray) (n : Nat) (h : 1 ≤ n) : homeN k n < n := by
  have := redI_bd (mixB (fnv k.data.toList)) (n : Int) (by omega)
  rw [homeN_eq]
  omega

/-- Whether a key lies in a used slot before place k. -/
def hasB (key : ByteArray) (L : List Sl) (i : Nat) : Bool := (sl L i).used && decide ((sl L i).key = key)
def dupB (key : ByteArray) (L : List Sl) (k : Nat) : Bool := (fd (hasB key L) k).isSome
theorem dupB_no {key : ByteArray} {L : List Sl} {k : Nat} (h : ∀ i, i < k → hasB key L i = false) : dupB key L k = false := by
  unfold dupB; rw [fd_none h]; rfl
theorem dupB_yes {key : ByteArray} {L : List Sl} {k d : Nat} (h : ∀ i, i < d → hasB key L i = false) (hd : d < k) (hp : hasB key L d = true) : dupB key L k = true := by
  unfold dupB; rw [fd_some h hd hp]; rfl
theorem dupB_inv {key : ByteArray} {L : List Sl} {k : Nat} (h : dupB key L k = false) : ∀ i, i < k → hasB key L i = false := by
  unfold dupB at h
  rcases fd_cases (hasB key L) k with ⟨_, h2⟩ | ⟨d, h1, _⟩
  · exact h2
  · rw [h1] at h; cases h

/-- The error of a slot by itself and against those before it. -/
def slotE (s : Sl) (L : List Sl) (k : Nat) : Int :=
  if s.used = true then (if (vkB s.key && vvB s.val) = true then (if dupB s.key L k = true then 6 else 0) else 3)
  else if s.key.size = 0 ∧ s.val = 0 then 0 else 1

theorem slot_key {s : Sl} {L : List Sl} {k : Nat} (h : slotE s L k = 0) (hu : s.used = true) : s.key.size ≤ 40 := by
  unfold slotE at h
  rw [if_pos hu] at h
  by_cases hv : (vkB s.key && vvB s.val) = true
  · simp only [Bool.and_eq_true] at hv; exact vkB_le.1 hv.1
  · rw [if_neg hv] at h; omega

/-- Whether all slots from the home of a slot's key up to it are used. -/
noncomputable def reachB (L : List Sl) (i : Nat) : Bool :=
  (fd (fun d => !(sl L (ps L.length (homeN (sl L i).key L.length) d)).used) (ds L.length (homeN (sl L i).key L.length) i)).isNone
theorem reachB_yes {L : List Sl} {i : Nat} (h : ∀ d, d < ds L.length (homeN (sl L i).key L.length) i → (sl L (ps L.length (homeN (sl L i).key L.length) d)).used = true) : reachB L i = true := by
  unfold reachB; rw [fd_none (fun d hd => by rw [h d hd]; rfl)]; rfl
theorem reachB_no {L : List Sl} {i d : Nat} (h : ∀ e, e < d → (sl L (ps L.length (homeN (sl L i).key L.length) e)).used = true) (hd : d < ds L.length (homeN (sl L i).key L.length) i)
    (hu : (sl L (ps L.length (homeN (sl L i).key L.length) d)).used = false) : reachB L i = false := by
  unfold reachB; rw [fd_some (fun e he => by rw [h e he]; rfl) hd (by rw [hu]; rfl)]; rfl
theorem reachB_inv {L : List Sl} {i : Nat} (h : reachB L i = true) : ∀ d, d < ds L.length (homeN (sl L i).key L.length) i → (sl L (ps L.length (homeN (sl L i).key L.length) d)).used = true := by
  unfold reachB at h
  rcases fd_cases (fun d => !(sl L (ps L.length (homeN (sl L i).key L.length) d)).used) (ds L.length (homeN (sl L i).key L.length) i) with ⟨_, h2⟩ | ⟨d, h1, _⟩
  · intro d hd; simpa using h2 d hd
  · rw [h1] at h; cases h

def errN (L : List Sl) : Int := nz (fun i => slotE (sl L i) L i) L.length
noncomputable def strayB (L : List Sl) (i : Nat) : Bool := (sl L i).used && !reachB L i
/-- The error of a table. -/
noncomputable def checkM (L : List Sl) : Int :=
  if L.length = 0 then 1 else if 64 < L.length then 2 else if errN L = 0 then (if (fd (strayB L) L.length).isSome = true then 4 else 0) else errN L

theorem checkM_empty {L : List Sl} (h : L.length = 0) : checkM L = 1 := by simp [checkM, h]
theorem checkM_many {L : List Sl} (h : 64 < L.length) : checkM L = 2 := by simp only [checkM]; rw [if_neg (by omega), if_pos h]
theorem checkM_slot {L : List Sl} {k : Nat} (h0 : 0 < L.length) (h1 : L.length ≤ 64) (hk : k < L.length) (h : ∀ i, i < k → slotE (sl L i) L i = 0) (he : slotE (sl L k) L k ≠ 0) : checkM L = slotE (sl L k) L k := by
  have e : errN L = slotE (sl L k) L k := nz_hit (f := fun i => slotE (sl L i) L i) h hk he
  simp only [checkM]; rw [if_neg (by omega), if_neg (by omega), if_neg (by rw [e]; exact he), e]
theorem checkM_stray {L : List Sl} {k : Nat} (h0 : 0 < L.length) (h1 : L.length ≤ 64) (h : ∀ i, i < L.length → slotE (sl L i) L i = 0) (hk : k < L.length) (hs : ∀ i, i < k → strayB L i = false) (hp : strayB L k = true) : checkM L = 4 := by
  have e : errN L = 0 := nz_zero (f := fun i => slotE (sl L i) L i) h
  simp only [checkM]; rw [if_neg (by omega), if_neg (by omega), if_pos e, fd_some hs hk hp]; rfl
theorem checkM_ok {L : List Sl} (h0 : 0 < L.length) (h1 : L.length ≤ 64) (h : ∀ i, i < L.length → slotE (sl L i) L i = 0) (hs : ∀ i, i < L.length → strayB L i = false) : checkM L = 0 := by
  have e : errN L = 0 := nz_zero (f := fun i => slotE (sl L i) L i) h
  simp only [checkM]; rw [if_neg (by omega), if_neg (by omega), if_pos e, fd_none hs]; rfl
theorem checkM_inv {L : List Sl} (h : checkM L = 0) : 0 < L.length ∧ L.length ≤ 64 ∧ (∀ i, i < L.length → slotE (sl L i) L i = 0) ∧ ∀ i, i < L.length → strayB L i = false := by
  by_cases h0 : L.length = 0
  · rw [checkM_empty h0] at h; omega
  by_cases h1 : 64 < L.length
  · rw [checkM_many h1] at h; omega
  unfold checkM at h
  rw [if_neg h0, if_neg h1] at h
  by_cases h2 : errN L = 0
  · rw [if_pos h2] at h
    refine ⟨by omega, by omega, nz_inv h2, ?_⟩
    rcases fd_cases (strayB L) L.length with ⟨_, h4⟩ | ⟨d, h3, _⟩
    · exact h4
    · rw [h3] at h; simp at h
  · rw [if_neg h2] at h; contradiction

/-- The first slot, from the home of a key on, that is not used or has the key. -/
def stopB (L : List Sl) (key : ByteArray) (i : Nat) : Bool := !(sl L i).used || decide ((sl L i).key = key)
noncomputable def probeM (L : List Sl) (key : ByteArray) : Option Nat :=
  (fd (fun d => stopB L key (ps L.length (homeN key L.length) d)) L.length).map (ps L.length (homeN key L.length))

/-! ### What the exported functions return -/
noncomputable def findM (L : List Sl) (key : ByteArray) : Nat × Int :=
  if checkM L = 0 then (if vkB key = true then (match probeM L key with
    | some a => if (sl L a).used = true then (a, 0) else (0, 5)
    | none => (0, 5)) else (0, 3)) else (0, checkM L)
noncomputable def getM (L : List Sl) (key : ByteArray) : Int × Int × Int :=
  if (findM L key).2 = 0 then ((sl L (findM L key).1).val, ds L.length (homeN key L.length) (findM L key).1 + 1, 0) else (0, 0, (findM L key).2)
noncomputable def putM (L : List Sl) (key : ByteArray) (v : Int) : List Sl × Int :=
  if checkM L = 0 then (if (vkB key && vvB v) = true then (match probeM L key with
    | some a => (L.set a ⟨true, key, v⟩, 0)
    | none => ([], 8)) else ([], 3)) else ([], checkM L)
/-- Whether a place lies on the way from the home of a key up to an end. -/
noncomputable def passB (key : ByteArray) (n e a : Nat) : Bool := decide (ds n (homeN key n) e ≤ ds n (homeN key n) a)
/-- The backward shifts that are still to do, with f slots to consider; d: how far from the start. -/
noncomputable def delL (n start : Nat) : Nat → Nat → List Sl → Nat → List Sl
  | 0, _, R, _ => R
  | f + 1, d, R, e =>
    if (sl R (ps n start d)).used = true then
      (if passB (sl R (ps n start d)).key n e (ps n start d) = true then delL n start f (d + 1) ((R.set e (sl R (ps n start d))).set (ps n start d) Sl.no) (ps n start d)
       else delL n start f (d + 1) R e)
    else R
noncomputable def dropL (L : List Sl) (start : Nat) : List Sl := delL L.length start (L.length - 1) 1 (L.set start Sl.no) start
noncomputable def delM (L : List Sl) (key : ByteArray) : List Sl × Int :=
  if (findM L key).2 = 0 then (dropL L (findM L key).1, 0) else ([], (findM L key).2)
noncomputable def resL : List Sl → List Sl → Option (List Sl)
  | [], R => some R
  | s :: ss, R => if s.used = true then (match probeM R s.key with
    | some a => resL ss (R.set a ⟨true, s.key, s.val⟩)
    | none => none) else resL ss R
noncomputable def resizeM (L : List Sl) (n : Int) : List Sl × Int :=
  if checkM L = 0 then (if 1 ≤ n ∧ n ≤ 64 then (match resL L (List.replicate n.toNat Sl.no) with
    | some R => (R, 0)
    | none => ([], 8)) else ([], 3)) else ([], checkM L)

theorem probeM_lt {L : List Sl} {key : ByteArray} {a : Nat} (h : probeM L key = some a) (h0 : 0 < L.length) : a < L.length := by
  unfold probeM at h
  rcases fd_cases (fun d => stopB L key (ps L.length (homeN key L.length) d)) L.length with ⟨h1, _⟩ | ⟨d, h1, h2, _⟩
  · rw [h1] at h; cases h
  · rw [h1] at h
    simp only [Option.map_some, Option.some.injEq] at h
    rw [← h]
    exact ps_lt (homeN_lt key L.length h0) (by omega)
theorem findM_lt {L : List Sl} {key : ByteArray} (h : (findM L key).2 = 0) : (findM L key).1 < L.length ∧ checkM L = 0 ∧ key.size ≤ 40 ∧ (sl L (findM L key).1).used = true := by
  unfold findM at h ⊢
  by_cases hc : checkM L = 0
  · rw [if_pos hc] at h ⊢
    by_cases hk : vkB key = true
    · rw [if_pos hk] at h ⊢
      cases hp : probeM L key with
      | none => rw [hp] at h; simp at h
      | some a =>
        rw [hp] at h
        simp only at h ⊢
        by_cases hu : (sl L a).used = true
        · rw [if_pos hu]; exact ⟨probeM_lt hp (checkM_inv hc).1, hc, vkB_le.1 hk, hu⟩
        · rw [if_neg hu] at h; simp at h
    · rw [if_neg hk] at h; simp at h
  · rw [if_neg hc] at h; simp at h; exact absurd h hc
theorem sl_out {L : List Sl} {i : Nat} (h : L.length ≤ i) : sl L i = Sl.no := by simp [sl, h]
theorem sl_set {L : List Sl} {i j : Nat} {s : Sl} (h : i < L.length) : sl (L.set i s) j = if i = j then s else sl L j := by
  unfold sl
  rw [List.getD_eq_getElem?_getD, List.getD_eq_getElem?_getD, List.getElem?_set]
  by_cases e : i = j
  · subst e; simp [h]
  · simp [e]

end Go.Proofs.Ytaioefimgggfkaa
