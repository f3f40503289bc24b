/-
  Filters as lists of bits: sorted lists without repetition, and what the functions of package bloom return, in plain mathematics.
  Conditions: none.
-/
import Derived.Test.YtjmhemkbfephpaaHashMath
import Derived.Lib.SlicesCompact
namespace Go.Proofs.Ytjmhemkbfephpaa
set_option linter.unusedVariables false

/-! ### Increasing lists -/
abbrev Inc (L : List Int) : Prop := L.Pairwise (· < ·)

theorem inc_ext : ∀ {A B : List Int}, Inc A → Inc B → (∀ x, x ∈ A ↔ x ∈ B) → A = B
  | [], [], _, _, _ => rfl
  | [], b :: B, _, _, h => by have := (h b).2 (by simp); simp at this
  | a :: A, [], _, _, h => by have := (h a).1 (by simp); simp at this
  | a :: A, b :: B, hA, hB, h => by
    have hA' := List.pairwise_cons.1 hA
    have hB' := List.pairwise_cons.1 hB
    have e : a = b := by
      rcases List.mem_cons.1 ((h a).1 (by simp)) with h1 | h1
      · exact h1
      · rcases List.mem_cons.1 ((h b).2 (by simp)) with h2 | h2
        · exact h2.symm
        · have := hB'.1 a h1; have := hA'.1 b h2; omega
    subst e
    rw [inc_ext hA'.2 hB'.2 (fun x => ?_)]
    constructor
    · intro hx
      rcases List.mem_cons.1 ((h x).1 (by simp [hx])) with h1 | h1
      · subst h1; have := hA'.1 x hx; omega
      · exact h1
    · intro hx
      rcases List.mem_cons.1 ((h x).2 (by simp [hx])) with h1 | h1
      · subst h1; have := hB'.1 x hx; omega
      · exact h1

theorem inc_len_aux : ∀ {L : List Int} {a b : Int}, Inc L → (∀ x ∈ L, a ≤ x ∧ x < b) → (L.length : Int) ≤ b - a ∨ L = []
  | [], _, _, _, _ => .inr rfl
  | x :: L, a, b, h, hb => by
    have h' := List.pairwise_cons.1 h
    obtain ⟨h1, h2⟩ := hb x (by simp)
    rcases inc_len_aux (a := x + 1) (b := b) h'.2 (fun y hy => ⟨by have := h'.1 y hy; omega, (hb y (by simp [hy])).2⟩) with h3 | h3
    · left; simp only [List.length_cons]; omega
    · left; subst h3; simp only [List.length_cons, List.length_nil]; omega
theorem inc_len {L : List Int} {n : Int} (h : Inc L) (hb : ∀ x ∈ L, 0 ≤ x ∧ x < n) (h0 : 0 ≤ n) : (L.length : Int) ≤ n := by
  rcases inc_len_aux h hb with h1 | h1
  · omega
  · subst h1; simpa using h0

/-! ### The different numbers of a list, increasing -/
def leI (x y : Int) : Bool := decide (x ≤ y)
def ord (L : List Int) : List Int := Lib.compact (L.mergeSort fun x y => decide (x ≤ y))

theorem compact_sorted {d : Array Int} (h : ∀ i j, i ≤ j → j < d.size → d[i]! ≤ d[j]!) : ∀ m, m ≤ d.size → Inc (Lib.compactUpTo d m) ∧ (∀ x, x ∈ Lib.compactUpTo d m ↔ ∃ j, j < m ∧ d[j]! = x)
  | 0, _ => ⟨by simp [Lib.compactUpTo], fun x => by simp [Lib.compactUpTo]⟩
  | m + 1, hm => by
    obtain ⟨h1, h2⟩ := compact_sorted h m (by omega)
    rw [Lib.compactUpTo_succ]
    by_cases hk : Lib.keeps d m = true
    · rw [if_pos hk]
      have hk' : m = 0 ∨ d[m]! ≠ d[m - 1]! := by simpa [Lib.keeps] using hk
      refine ⟨?_, fun x => ?_⟩
      · refine List.pairwise_append.2 ⟨h1, by simp, fun x hx y hy => ?_⟩
        obtain ⟨j, hj, rfl⟩ := (h2 x).1 hx
        simp only [List.mem_singleton] at hy
        subst hy
        rcases hk' with e | e
        · omega
        · have a := h j (m - 1) (by omega) (by omega)
          have b := h (m - 1) m (by omega) (by omega)
          omega
      · rw [List.mem_append, h2]
        simp only [List.mem_singleton]
        constructor
        · rintro (⟨j, hj, e⟩ | e)
          · exact ⟨j, by omega, e⟩
          · exact ⟨m, by omega, e.symm⟩
        · rintro ⟨j, hj, e⟩
          by_cases hjm : j = m
          · subst hjm; exact .inr e.symm
          · exact .inl ⟨j, by omega, e⟩
    · rw [if_neg hk, List.append_nil]
      have hk' : m ≠ 0 ∧ d[m]! = d[m - 1]! := by simpa [Lib.keeps] using hk
      refine ⟨h1, fun x => ?_⟩
      rw [h2]
      constructor
      · rintro ⟨j, hj, e⟩; exact ⟨j, by omega, e⟩
      · rintro ⟨j, hj, e⟩
        by_cases hjm : j = m
        · subst hjm; exact ⟨j - 1, by omega, by rw [← hk'.2]; exact e⟩
        · exact ⟨j, by omega, e⟩

theorem ord_sort (L : List Int) : (L.mergeSort fun x y => decide (x ≤ y)).Pairwise (· ≤ ·) := by
  have := List.pairwise_mergeSort (le := fun x y : Int => decide (x ≤ y)) (fun a b c h1 h2 => by simp at *; omega) (fun a b => by simp; omega) L
  exact this.imp (fun h => by simpa using h)
theorem get!_toArray {L : List Int} {i : Nat} (h : i < L.length) : L.toArray[i]! = L[i] := by
  rw [getElem!_pos L.toArray i (by simpa using h)]; simp
theorem ord_spec (L : List Int) : Inc (ord L) ∧ ∀ x, x ∈ ord L ↔ x ∈ L := by
  have hs := ord_sort L
  have hp : (L.mergeSort fun x y => decide (x ≤ y)).Perm L := List.mergeSort_perm L _
  generalize hM : (L.mergeSort fun x y => decide (x ≤ y)) = M at *
  have key := compact_sorted (d := M.toArray) (fun i j hij hj => by
    have hj' : j < M.length := by simpa using hj
    rw [get!_toArray (by omega), get!_toArray hj']
    by_cases e : i = j
    · subst e; omega
    · exact List.pairwise_iff_getElem.1 hs i j (by omega) hj' (by omega)) M.length (by simp)
  have e : ord L = Lib.compactUpTo M.toArray M.length := by unfold ord; rw [hM]; rfl
  rw [e]
  refine ⟨key.1, fun x => ?_⟩
  rw [key.2, ← hp.mem_iff]
  constructor
  · rintro ⟨j, hj, rfl⟩; rw [get!_toArray hj]; exact List.getElem_mem hj
  · intro hx
    obtain ⟨j, hj, rfl⟩ := List.getElem_of_mem hx
    exact ⟨j, hj, get!_toArray hj⟩
theorem ord_inc (L : List Int) : Inc (ord L) := (ord_spec L).1
theorem mem_ord {L : List Int} {x : Int} : x ∈ ord L ↔ x ∈ L := (ord_spec L).2 x
theorem ord_eq {L M : List Int} (h : Inc M) (hm : ∀ x, x ∈ L ↔ x ∈ M) : ord L = M := inc_ext (ord_inc L) h (fun x => mem_ord.trans (hm x))
theorem ord_len (L : List Int) : (ord L).length ≤ L.length := by
  unfold ord Lib.compact Lib.compactUpTo
  rw [List.length_map]
  refine Nat.le_trans (List.length_filter_le _ _) ?_
  rw [List.length_range, List.length_mergeSort]
  exact Nat.le_refl _

/-! ### The first number that is not zero -/
def nz (f : Nat → Int) : Nat → Int
  | 0 => 0
  | n + 1 => if nz f n = 0 then f n else nz f n
theorem nz_zero {f : Nat → Int} {n : Nat} (h : ∀ i, i < n → f i = 0) : nz f n = 0 := by
  induction n with
  | zero => rfl
  | succ n ih => simp [nz, ih (fun i hi => h i (by omega)), h n (by omega)]
theorem nz_hit {f : Nat → Int} {n d : Nat} (h : ∀ i, i < d → f i = 0) (hd : d < n) (hp : f d ≠ 0) : nz f n = f d := by
  induction n with
  | zero => omega
  | succ n ih =>
    by_cases e : d = n
    · subst e; simp [nz, nz_zero h]
    · simp [nz, ih (by omega), hp]
theorem nz_inv {f : Nat → Int} {n : Nat} (h : nz f n = 0) : ∀ i, i < n → f i = 0 := by
  induction n with
  | zero => intro i hi; omega
  | succ n ih =>
    intro i hi
    unfold nz at h
    split at h
    · by_cases e : i = n
      · subst e; exact h
      · exact ih (by assumption) i (by omega)
    · contradiction

/-! ### Filters -/
structure Fl where
  size : Int
  hashes : Int
  set : List Int
def Fl.no : Fl := ⟨0, 0, []⟩

def gi (L : List Int) (i : Nat) : Int := L.getD i 0
theorem gi_get {L : List Int} {i : Nat} (h : i < L.length) : gi L i = L[i] := by
  unfold gi; rw [List.getD_eq_getElem?_getD, List.getElem?_eq_getElem h]; rfl
theorem gi_mem {L : List Int} {i : Nat} (h : i < L.length) : gi L i ∈ L := by rw [gi_get h]; exact List.getElem_mem h

def bitE (F : Fl) (i : Nat) : Int := if gi F.set i < 0 ∨ F.size ≤ gi F.set i then 3 else if 0 < i ∧ gi F.set i ≤ gi F.set (i - 1) then 4 else 0
def headE (F : Fl) : Int := if F.size < 1 ∨ 1024 < F.size ∨ F.hashes < 1 ∨ 8 < F.hashes then 3 else if F.size < (F.set.length : Int) then 2 else 0
def checkF (F : Fl) : Int := if headE F = 0 then nz (bitE F) F.set.length else headE F

structure Good (F : Fl) : Prop where
  s1 : 1 ≤ F.size
  s2 : F.size ≤ 1024
  h1 : 1 ≤ F.hashes
  h2 : F.hashes ≤ 8
  inc : Inc F.set
  bd : ∀ x ∈ F.set, 0 ≤ x ∧ x < F.size
theorem Good.len {F : Fl} (g : Good F) : (F.set.length : Int) ≤ F.size := inc_len g.inc g.bd (by have := g.s1; omega)
theorem Good.head {F : Fl} (g : Good F) : headE F = 0 := by
  have := g.len; have := g.s1; have := g.s2; have := g.h1; have := g.h2
  unfold headE
  rw [if_neg (by omega), if_neg (by omega)]
theorem Good.check {F : Fl} (g : Good F) : checkF F = 0 := by
  unfold checkF
  rw [if_pos g.head]
  apply nz_zero
  intro i hi
  have := g.bd _ (gi_mem hi)
  unfold bitE
  rw [if_neg (by omega), if_neg]
  rintro ⟨h0, hle⟩
  have := List.pairwise_iff_getElem.1 g.inc (i - 1) i (by omega) hi (by omega)
  rw [gi_get hi, gi_get (show i - 1 < F.set.length by omega)] at hle
  omega
theorem headE_cases (F : Fl) : headE F = 0 ∧ 1 ≤ F.size ∧ F.size ≤ 1024 ∧ 1 ≤ F.hashes ∧ F.hashes ≤ 8 ∧ (F.set.length : Int) ≤ F.size ∨ headE F ≠ 0 := by
  unfold headE
  by_cases h : F.size < 1 ∨ 1024 < F.size ∨ F.hashes < 1 ∨ 8 < F.hashes
  · rw [if_pos h]; right; omega
  · rw [if_neg h]
    by_cases h2 : F.size < (F.set.length : Int)
    · rw [if_pos h2]; right; omega
    · rw [if_neg h2]; left; exact ⟨rfl, by omega, by omega, by omega, by omega, by omega⟩
theorem bitE_inv {F : Fl} {i : Nat} (h : bitE F i = 0) : 0 ≤ gi F.set i ∧ gi F.set i < F.size ∧ (0 < i → gi F.set (i - 1) < gi F.set i) := by
  unfold bitE at h
  split at h
  · omega
  · split at h
    · omega
    · refine ⟨by omega, by omega, fun h0 => by omega⟩
theorem good_of {F : Fl} (h : checkF F = 0) : Good F := by
  unfold checkF at h
  split at h
  · rename_i hh
    rcases headE_cases F with ⟨_, a, b, c, d, e⟩ | h'
    · have hz := nz_inv h
      refine ⟨a, b, c, d, ?_, ?_⟩
      · have step : ∀ n i j, j = i + n + 1 → j < F.set.length → gi F.set i < gi F.set j := by
          intro n
          induction n with
          | zero => intro i j e hj; subst e; exact (bitE_inv (hz _ hj)).2.2 (by omega)
          | succ n ih =>
            intro i j e hj
            have h1 := ih i (j - 1) (by omega) (by omega)
            have h2 := (bitE_inv (hz j hj)).2.2 (by omega)
            omega
        refine List.pairwise_iff_getElem.2 (fun i j hi hj hij => ?_)
        have := step (j - i - 1) i j (by omega) hj
        rw [gi_get hi, gi_get hj] at this
        exact this
      · intro x hx
        obtain ⟨i, hi, rfl⟩ := List.getElem_of_mem hx
        have := bitE_inv (hz i hi)
        rw [gi_get hi] at this
        exact ⟨this.1, this.2.1⟩
    · contradiction
  · contradiction
theorem check_iff {F : Fl} : checkF F = 0 ↔ Good F := ⟨good_of, Good.check⟩

/-! ### Bits -/
def plC (s : ByteArray) (i : Nat) (m : Int) : Int := redI (mixB (fnv s.data.toList ^^^ BitVec.ofNat 64 i)) m
theorem plN_ex : ∃ f : ByteArray → Nat → Int → Int, f = plC := ⟨_, rfl⟩
noncomputable def plN : ByteArray → Nat → Int → Int := Classical.choose plN_ex
theorem plN_fun : plN = plC := Classical.choose_spec plN_ex
theorem plN_eq (s : ByteArray) (i : Nat) (m : Int) : plN s i m = redI (mixB (fnv s.data.toList ^^^ BitVec.ofNat 64 i)) m := by rw [plN_fun]; rfl
theorem plN_bd (s : ByteArray) (i : Nat) {m : Int} (h : 1 ≤ m) : 0 ≤ plN s i m ∧ plN s i m < m := by rw [plN_eq]; exact redI_bd _ _ h
theorem plN_twice (s : ByteArray) (i : Nat) (m : Int) : plN s i (2 * m) / 2 = plN s i m := by rw [plN_eq, plN_eq]; exact redI_twice _ _

noncomputable def hl (F : Fl) (s : ByteArray) : List Int := (List.range F.hashes.toNat).map fun i => plN s i F.size
noncomputable def bitsL (F : Fl) (s : ByteArray) : List Int := ord (hl F s)
theorem mem_hl {F : Fl} {s : ByteArray} {x : Int} : x ∈ hl F s ↔ ∃ i, i < F.hashes.toNat ∧ plN s i F.size = x := by simp [hl]
theorem mem_bits {F : Fl} {s : ByteArray} {x : Int} : x ∈ bitsL F s ↔ ∃ i, i < F.hashes.toNat ∧ plN s i F.size = x := mem_ord.trans mem_hl
theorem bits_bd {F : Fl} (g : Good F) {s : ByteArray} {x : Int} (h : x ∈ bitsL F s) : 0 ≤ x ∧ x < F.size := by
  obtain ⟨i, _, rfl⟩ := mem_bits.1 h; exact plN_bd s i g.s1
theorem bits_pos {F : Fl} (g : Good F) (s : ByteArray) : 0 < (bitsL F s).length :=
  List.length_pos_of_mem (mem_bits.2 ⟨0, by have := g.h1; omega, rfl⟩)
theorem hl_len (F : Fl) (s : ByteArray) : (hl F s).length = F.hashes.toNat := by simp [hl]
theorem bits_len {F : Fl} (g : Good F) (s : ByteArray) : (bitsL F s).length ≤ 8 := by
  have := ord_len (hl F s); rw [hl_len] at this; have := g.h2; unfold bitsL; omega

/-- The error of Bits. -/
def errS (F : Fl) (s : ByteArray) : Int := if checkF F = 0 then (if 40 < s.size then 2 else 0) else checkF F
theorem errS_ok {F : Fl} {s : ByteArray} (h : errS F s = 0) : Good F ∧ s.size ≤ 40 := by
  unfold errS at h
  split at h
  · split at h
    · omega
    · exact ⟨good_of ‹_›, by omega⟩
  · contradiction
theorem errS_of {F : Fl} {s : ByteArray} (g : Good F) (h : s.size ≤ 40) : errS F s = 0 := by
  unfold errS; rw [if_pos g.check, if_neg (by omega)]
noncomputable def bitsM (F : Fl) (s : ByteArray) : List Int := if errS F s = 0 then bitsL F s else []
noncomputable def addL (F : Fl) (s : ByteArray) : Fl := ⟨F.size, F.hashes, ord (F.set ++ bitsL F s)⟩
noncomputable def addM (F : Fl) (s : ByteArray) : Fl := if errS F s = 0 then addL F s else Fl.no
noncomputable def mayL (F : Fl) (s : ByteArray) : Bool := (bitsL F s).all fun x => decide (x ∈ F.set)
noncomputable def mayM (F : Fl) (s : ByteArray) : Bool := if errS F s = 0 then mayL F s else false
def errU (F G : Fl) : Int := if checkF F = 0 then (if checkF G = 0 then (if F.size = G.size ∧ F.hashes = G.hashes then 0 else 7) else checkF G) else checkF F
def uniL (F G : Fl) : Fl := ⟨F.size, F.hashes, ord (F.set ++ G.set)⟩
def uniM (F G : Fl) : Fl := if errU F G = 0 then uniL F G else Fl.no
def errF (F : Fl) : Int := if checkF F = 0 then (if F.size % 2 = 0 then 0 else 4) else checkF F
def foldL (F : Fl) : Fl := ⟨F.size / 2, F.hashes, ord (F.set.map (· / 2))⟩
def foldM (F : Fl) : Fl := if errF F = 0 then foldL F else Fl.no

theorem mayL_iff {F : Fl} {s : ByteArray} : mayL F s = true ↔ ∀ x ∈ bitsL F s, x ∈ F.set := by simp [mayL]

theorem errU_ok {F G : Fl} (h : errU F G = 0) : Good F ∧ Good G ∧ F.size = G.size ∧ F.hashes = G.hashes := by
  unfold errU at h
  split at h
  · split at h
    · split at h
      · exact ⟨good_of ‹_›, good_of ‹_›, by simp_all⟩
      · omega
    · contradiction
  · contradiction
theorem errU_of {F G : Fl} (g : Good F) (k : Good G) (h1 : F.size = G.size) (h2 : F.hashes = G.hashes) : errU F G = 0 := by
  unfold errU; rw [if_pos g.check, if_pos k.check, if_pos ⟨h1, h2⟩]
theorem errF_ok {F : Fl} (h : errF F = 0) : Good F ∧ F.size % 2 = 0 := by
  unfold errF at h
  split at h
  · split at h
    · exact ⟨good_of ‹_›, by assumption⟩
    · omega
  · contradiction
theorem errF_of {F : Fl} (g : Good F) (h : F.size % 2 = 0) : errF F = 0 := by
  unfold errF; rw [if_pos g.check, if_pos h]

theorem good_add {F : Fl} (g : Good F) (s : ByteArray) : Good (addL F s) :=
  ⟨g.s1, g.s2, g.h1, g.h2, ord_inc _, fun x hx => by
    rcases List.mem_append.1 (mem_ord.1 hx) with h | h
    · exact g.bd x h
    · exact bits_bd g h⟩
theorem good_uni {F G : Fl} (g : Good F) (k : Good G) (h : F.size = G.size) : Good (uniL F G) :=
  ⟨g.s1, g.s2, g.h1, g.h2, ord_inc _, fun x hx => by
    rcases List.mem_append.1 (mem_ord.1 hx) with h' | h'
    · exact g.bd x h'
    · have := k.bd x h'; simp only [uniL]; omega⟩
theorem good_fold {F : Fl} (g : Good F) (h : F.size % 2 = 0) : Good (foldL F) :=
  ⟨by have := g.s1; simp only [foldL]; omega, by have := g.s2; simp only [foldL]; omega, g.h1, g.h2, ord_inc _, fun x hx => by
    obtain ⟨y, hy, rfl⟩ := List.mem_map.1 (mem_ord.1 hx)
    have := g.bd y hy; simp only [foldL]; omega⟩

theorem bits_same {F G : Fl} (h1 : F.size = G.size) (h2 : F.hashes = G.hashes) (s : ByteArray) : bitsL F s = bitsL G s := by
  unfold bitsL hl; rw [h1, h2]
theorem may_mono {F G : Fl} (h1 : F.size = G.size) (h2 : F.hashes = G.hashes) (h : ∀ x ∈ F.set, x ∈ G.set) {s : ByteArray} (hm : mayL F s = true) : mayL G s = true := by
  rw [mayL_iff] at *
  rw [← bits_same h1 h2]
  exact fun x hx => h x (hm x hx)
theorem may_added (F : Fl) (s : ByteArray) : mayL (addL F s) s = true := by
  rw [mayL_iff, ← bits_same (F := F) (G := addL F s) rfl rfl]
  exact fun x hx => mem_ord.2 (List.mem_append.2 (.inr hx))
theorem may_later {F : Fl} {s t : ByteArray} (h : mayL F t = true) : mayL (addL F s) t = true :=
  may_mono (F := F) (G := addL F s) rfl rfl (fun x hx => mem_ord.2 (List.mem_append.2 (.inl hx))) h

/-- Union of x = F + s with G is (F or G) + s. -/
theorem uni_add {F G : Fl} (s : ByteArray) : (uniL (addL F s) G).set = (addL (uniL F G) s).set := by
  refine ord_eq (ord_inc _) (fun x => ?_)
  have hb : bitsL (uniL F G) s = bitsL F s := bits_same rfl rfl s
  simp only [addL, uniL] at *
  rw [List.mem_append, mem_ord, mem_ord, List.mem_append, List.mem_append, mem_ord, List.mem_append, hb]
  constructor
  · rintro ((h | h) | h) <;> simp [h]
  · rintro ((h | h) | h) <;> simp [h]
theorem uni_comm (F G : Fl) : (uniL F G).set = (uniL G F).set := by
  refine ord_eq (ord_inc _) (fun x => ?_)
  simp only [uniL]
  rw [mem_ord, List.mem_append, List.mem_append]
  exact Or.comm
theorem mem_fold_bits {F : Fl} (h : F.size % 2 = 0) {s : ByteArray} {x : Int} : x ∈ bitsL (foldL F) s ↔ ∃ y ∈ bitsL F s, y / 2 = x := by
  have e : F.size = 2 * (F.size / 2) := by omega
  constructor
  · intro hx
    obtain ⟨i, hi, rfl⟩ := mem_bits.1 hx
    refine ⟨plN s i F.size, mem_bits.2 ⟨i, hi, rfl⟩, ?_⟩
    conv => lhs; rw [e, plN_twice]
    simp only [foldL]
  · rintro ⟨y, hy, rfl⟩
    obtain ⟨i, hi, rfl⟩ := mem_bits.1 hy
    refine mem_bits.2 ⟨i, hi, ?_⟩
    conv => rhs; rw [e, plN_twice]
    simp only [foldL]
theorem fold_may {F : Fl} (h : F.size % 2 = 0) {s : ByteArray} (hm : mayL F s = true) : mayL (foldL F) s = true := by
  rw [mayL_iff] at *
  intro x hx
  obtain ⟨y, hy, rfl⟩ := (mem_fold_bits h).1 hx
  exact mem_ord.2 (List.mem_map.2 ⟨y, hm y hy, rfl⟩)
theorem fold_add {F : Fl} (h : F.size % 2 = 0) (s : ByteArray) : (foldL (addL F s)).set = (addL (foldL F) s).set := by
  refine ord_eq (ord_inc _) (fun x => ?_)
  simp only [addL]
  rw [List.mem_map, mem_ord, List.mem_append]
  constructor
  · rintro ⟨y, hy, rfl⟩
    rcases List.mem_append.1 (mem_ord.1 hy) with h1 | h1
    · exact .inl (mem_ord.2 (List.mem_map.2 ⟨y, h1, rfl⟩))
    · exact .inr ((mem_fold_bits h).2 ⟨y, h1, rfl⟩)
  · rintro (h1 | h1)
    · obtain ⟨y, hy, rfl⟩ := List.mem_map.1 (mem_ord.1 h1)
      exact ⟨y, mem_ord.2 (List.mem_append.2 (.inl hy)), rfl⟩
    · obtain ⟨y, hy, rfl⟩ := (mem_fold_bits h).1 h1
      exact ⟨y, mem_ord.2 (List.mem_append.2 (.inr hy)), rfl⟩

/-! ### The reference: numbers below n that pass a test -/
def upto (p : Nat → Bool) (n : Nat) : List Int := ((List.range n).filter p).map fun (k : Nat) => (k : Int)
theorem upto_succ (p : Nat → Bool) (n : Nat) : upto p (n + 1) = if p n = true then upto p n ++ [(n : Int)] else upto p n := by
  unfold upto
  rw [List.range_succ, List.filter_append]
  by_cases h : p n = true <;> simp [h]
theorem mem_upto {p : Nat → Bool} {n : Nat} {x : Int} : x ∈ upto p n ↔ ∃ k : Nat, k < n ∧ p k = true ∧ (k : Int) = x := by
  simp [upto, and_assoc]
theorem upto_inc (p : Nat → Bool) (n : Nat) : Inc (upto p n) := by
  unfold upto Inc
  rw [List.pairwise_map]
  have : (List.range n).Pairwise (· < ·) := List.pairwise_lt_range
  exact (this.filter p).imp (fun h => by omega)
theorem upto_len (p : Nat → Bool) (n : Nat) : (upto p n).length ≤ n := by
  unfold upto
  rw [List.length_map]
  exact Nat.le_trans (List.length_filter_le _ _) (by simp)
theorem upto_eq {p : Nat → Bool} {n : Nat} {L : List Int} (hi : Inc L) (h : ∀ x ∈ L, 0 ≤ x ∧ x < (n : Int)) (hp : ∀ k : Nat, k < n → (p k = true ↔ (k : Int) ∈ L)) : upto p n = L := by
  refine inc_ext (upto_inc p n) hi (fun x => ?_)
  rw [mem_upto]
  constructor
  · rintro ⟨k, hk, hpk, rfl⟩; exact (hp k hk).1 hpk
  · intro hx
    obtain ⟨h0, h1⟩ := h x hx
    refine ⟨x.toNat, by omega, ?_, by omega⟩
    rw [hp _ (by omega)]
    rwa [Int.toNat_of_nonneg h0]

end Go.Proofs.Ytjmhemkbfephpaa
