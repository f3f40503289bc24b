/-
  The plain mathematics of package hash, over words of 64 bits: FNV-1a, Mix and its inverse, Reduce. No program is named here.
  Conditions: none.
-/
import Derived.WalkKit
import Derived.Laws.BitsAllLaws
namespace Go.Proofs.Ytjmhemkbfephpaa
open Go.RowKit

/-- A word as the number that Go's uint64 is. -/
def nv (x : BitVec 64) : Int := (x.toNat : Int)

theorem nv_nonneg (x : BitVec 64) : 0 ≤ nv x := Int.natCast_nonneg _
theorem nv_lt (x : BitVec 64) : nv x < 18446744073709551616 := by
  have := x.isLt
  unfold nv
  omega
theorem nv_inj {x y : BitVec 64} : nv x = nv y ↔ x = y := by
  unfold nv
  constructor
  · intro h; exact BitVec.eq_of_toNat_eq (by omega)
  · intro h; rw [h]
theorem nv_of {a : Int} (h : (Lit.int .u64 a).wf = true) : ∃ x, a = nv x := by
  have h' : 0 ≤ a ∧ a < 18446744073709551616 := by
    simp [Lit.wf, IntKind.min, IntKind.max, IntKind.bits, IntKind.signed] at h
    omega
  refine ⟨BitVec.ofNat 64 a.toNat, ?_⟩
  unfold nv
  rw [BitVec.toNat_ofNat, Nat.mod_eq_of_lt (by omega)]
  omega
theorem nv_wf (x : BitVec 64) : (Lit.int .u64 (nv x)).wf = true := by
  have h0 := nv_nonneg x
  have h1 := nv_lt x
  simp [Lit.wf, IntKind.min, IntKind.max, IntKind.bits, IntKind.signed]
  omega

theorem nv_beq (x y : BitVec 64) : (nv x == nv y) = (x == y) := by
  rw [Bool.eq_iff_iff]; simp [nv_inj]

theorem nv_xor (x y : BitVec 64) : bits .xor .u64 (nv x) (nv y) = nv (x ^^^ y) := by
  unfold nv
  rw [u64_xor_nat _ _ (by have := x.isLt; omega) (by have := y.isLt; omega), BitVec.toNat_xor]
theorem nv_mul (x y : BitVec 64) : IntKind.u64.wrap (nv x * nv y) = nv (x * y) := by
  unfold nv
  rw [IntKind.wrap_u64, BitVec.toNat_mul]
  omega
theorem nv_add (x y : BitVec 64) : IntKind.u64.wrap (nv x + nv y) = nv (x + y) := by
  unfold nv
  rw [IntKind.wrap_u64, BitVec.toNat_add]
  omega
theorem nv_shr (x : BitVec 64) (k : Nat) : nv x / 2 ^ k = nv (x >>> k) := by
  unfold nv
  rw [BitVec.toNat_ushiftRight, Nat.shiftRight_eq_div_pow]
  simp
theorem nv_lit (n : Nat) (h : n < 18446744073709551616) : nv (BitVec.ofNat 64 n) = (n : Int) := by
  unfold nv
  rw [BitVec.toNat_ofNat, Nat.mod_eq_of_lt (by omega)]

/-! ### Sum -/
def fnvStep (h : BitVec 64) (c : UInt8) : BitVec 64 := (h ^^^ BitVec.ofNat 64 c.toNat) * 1099511628211#64
def fnvFrom (h : BitVec 64) (l : List UInt8) : BitVec 64 := l.foldl fnvStep h
def fnv (l : List UInt8) : BitVec 64 := fnvFrom 14695981039346656037#64 l

theorem fnvFrom_snoc (h : BitVec 64) (l : List UInt8) (c : UInt8) : fnvFrom h (l ++ [c]) = fnvStep (fnvFrom h l) c := by
  simp [fnvFrom]
theorem fnv_snoc (l : List UInt8) (c : UInt8) : fnv (l ++ [c]) = fnvStep (fnv l) c := fnvFrom_snoc _ _ _
theorem fnv_append (s t : List UInt8) : fnv (s ++ t) = fnvFrom (fnv s) t := by
  simp [fnv, fnvFrom]

theorem mul_inj {f g : BitVec 64} (h : f * g = 1#64) {x y : BitVec 64} (e : x * f = y * f) : x = y := by
  have h1 : x * f * g = y * f * g := by rw [e]
  rwa [BitVec.mul_assoc, BitVec.mul_assoc, h, BitVec.mul_one, BitVec.mul_one] at h1

theorem prime_inv : (1099511628211#64 : BitVec 64) * 14886173955864302971#64 = 1#64 := by decide +kernel

theorem fnvStep_inj {h k : BitVec 64} {c : UInt8} (e : fnvStep h c = fnvStep k c) : h = k := by
  unfold fnvStep at e
  have e2 := mul_inj prime_inv e
  have e3 : h ^^^ BitVec.ofNat 64 c.toNat ^^^ BitVec.ofNat 64 c.toNat = k ^^^ BitVec.ofNat 64 c.toNat ^^^ BitVec.ofNat 64 c.toNat := by rw [e2]
  rwa [BitVec.xor_assoc, BitVec.xor_self, BitVec.xor_zero, BitVec.xor_assoc, BitVec.xor_self, BitVec.xor_zero] at e3

theorem fnvFrom_inj (l : List UInt8) : ∀ {h k : BitVec 64}, fnvFrom h l = fnvFrom k l → h = k := by
  induction l with
  | nil => intro h k e; exact e
  | cons c l ih => intro h k e; exact fnvStep_inj (ih e)

theorem fnvStep_byte_inj {h : BitVec 64} {c d : UInt8} (e : fnvStep h c = fnvStep h d) : c = d := by
  unfold fnvStep at e
  have e2 := mul_inj prime_inv e
  have e3 : h ^^^ (h ^^^ BitVec.ofNat 64 c.toNat) = h ^^^ (h ^^^ BitVec.ofNat 64 d.toNat) := by rw [e2]
  rw [← BitVec.xor_assoc, ← BitVec.xor_assoc, BitVec.xor_self, BitVec.zero_xor, BitVec.zero_xor] at e3
  have e4 := congrArg BitVec.toNat e3
  rw [BitVec.toNat_ofNat, BitVec.toNat_ofNat] at e4
  have hc := c.toNat_lt
  have hd := d.toNat_lt
  exact UInt8.toNat_inj.mp (by omega)

theorem fnv_suffix (s t m : List UInt8) : (fnv s == fnv t) = (fnv (s ++ m) == fnv (t ++ m)) := by
  rw [Bool.eq_iff_iff, fnv_append, fnv_append]
  simp only [beq_iff_eq]
  exact ⟨fun h => by rw [h], fun h => fnvFrom_inj m h⟩

theorem fnv_single {s t : List UInt8} (hs : s.length = 1) (ht : t.length = 1) (h : s ≠ t) : fnv s ≠ fnv t := by
  match s, t, hs, ht with
  | [c], [d], _, _ =>
    intro e
    have : c = d := fnvStep_byte_inj (h := 14695981039346656037#64) e
    exact h (by rw [this])

/-! ### Mix and its inverse -/
def mixB (n : BitVec 64) : BitVec 64 :=
  let a := (n ^^^ n >>> 30) * 13787848793156543929#64
  let b := (a ^^^ a >>> 27) * 10723151780598845931#64
  b ^^^ b >>> 31

/-- The xor of x, x >>> s, .., x >>> (j - 1) s. -/
def ush (x : BitVec 64) (s : Nat) : Nat → BitVec 64
  | 0 => 0#64
  | j + 1 => ush x s j ^^^ (x >>> (j * s))

theorem shr_big (x : BitVec 64) (k : Nat) (h : 64 ≤ k) : x >>> k = 0#64 := BitVec.ushiftRight_eq_zero h
theorem shr_xor (x y : BitVec 64) (k : Nat) : (x ^^^ y) >>> k = x >>> k ^^^ y >>> k := BitVec.ushiftRight_xor_distrib x y k
theorem shr_shr (x : BitVec 64) (j k : Nat) : x >>> j >>> k = x >>> (j + k) := (BitVec.shiftRight_add x j k).symm

theorem xor_cancel (a b c : BitVec 64) : a ^^^ b ^^^ (b ^^^ c) = a ^^^ c := by
  rw [BitVec.xor_assoc, ← BitVec.xor_assoc b b c, BitVec.xor_self, BitVec.zero_xor]

theorem ush_of (y : BitVec 64) (s : Nat) : ∀ j, ush (y ^^^ y >>> s) s j = y ^^^ y >>> (j * s)
  | 0 => by simp [ush]
  | j + 1 => by
    rw [ush, ush_of y s j, shr_xor, shr_shr, xor_cancel, Nat.succ_mul, Nat.add_comm]

theorem ush_back (x : BitVec 64) (s : Nat) : ∀ j, ush x s j ^^^ ush x s j >>> s = x ^^^ x >>> (j * s)
  | 0 => by simp [ush]
  | j + 1 => by
    have ih := ush_back x s j
    rw [ush, shr_xor, shr_shr]
    have e : ush x s j ^^^ x >>> (j * s) ^^^ (ush x s j >>> s ^^^ x >>> (j * s + s)) = (ush x s j ^^^ ush x s j >>> s) ^^^ (x >>> (j * s) ^^^ x >>> (j * s + s)) := by
      ac_rfl
    rw [e, ih, xor_cancel, Nat.succ_mul]

theorem ush_stop (x : BitVec 64) (s j : Nat) (h : 64 ≤ j * s) : ∀ i, ush x s (j + i) = ush x s j
  | 0 => rfl
  | i + 1 => by
    rw [← Nat.add_assoc, ush, ush_stop x s j h i, shr_big, BitVec.xor_zero]
    have : j * s ≤ (j + i) * s := Nat.mul_le_mul_right s (by omega)
    omega

/-- What unshift returns. -/
def unshB (x : BitVec 64) (s : Nat) : BitVec 64 := ush x s 64

theorem unshB_eq (x : BitVec 64) (s j : Nat) (h : 64 ≤ j * s) (hj : j ≤ 64) : ush x s j = unshB x s := by
  unfold unshB
  have e := ush_stop x s j h (64 - j)
  rw [show j + (64 - j) = 64 by omega] at e
  exact e.symm

theorem unshB_of (y : BitVec 64) (s : Nat) (h : 1 ≤ s) : unshB (y ^^^ y >>> s) s = y := by
  unfold unshB
  rw [ush_of, shr_big y _ (by omega), BitVec.xor_zero]
theorem unshB_back (x : BitVec 64) (s : Nat) (h : 1 ≤ s) : unshB x s ^^^ unshB x s >>> s = x := by
  unfold unshB
  rw [ush_back, shr_big x _ (by omega), BitVec.xor_zero]

def unmixB (n : BitVec 64) : BitVec 64 :=
  unshB (unshB (unshB n 31 * 3573116690164977347#64) 27 * 10871156337175269513#64) 30

theorem inv1 : (13787848793156543929#64 : BitVec 64) * 10871156337175269513#64 = 1#64 := by decide +kernel
theorem inv2 : (10723151780598845931#64 : BitVec 64) * 3573116690164977347#64 = 1#64 := by decide +kernel

theorem unmix_mix (n : BitVec 64) : unmixB (mixB n) = n := by
  unfold unmixB mixB
  simp only []
  rw [unshB_of _ 31 (by omega), BitVec.mul_assoc, inv2, BitVec.mul_one, unshB_of _ 27 (by omega), BitVec.mul_assoc, inv1, BitVec.mul_one, unshB_of _ 30 (by omega)]

theorem mix_unmix (n : BitVec 64) : mixB (unmixB n) = n := by
  unfold unmixB mixB
  simp only []
  rw [unshB_back _ 30 (by omega), BitVec.mul_assoc, BitVec.mul_comm 10871156337175269513#64, inv1, BitVec.mul_one, unshB_back _ 27 (by omega), BitVec.mul_assoc, BitVec.mul_comm 3573116690164977347#64, inv2, BitVec.mul_one, unshB_back _ 31 (by omega)]

theorem mix_beq (a b : BitVec 64) : (mixB a == mixB b) = (a == b) := by
  rw [Bool.eq_iff_iff]
  simp only [beq_iff_eq]
  exact ⟨fun h => by rw [← unmix_mix a, h, unmix_mix], fun h => by rw [h]⟩

/-! ### Reduce -/
def redI (x : BitVec 64) (m : Int) : Int := nv x / 4294967296 * m / 4294967296

theorem hi_bd (x : BitVec 64) : 0 ≤ nv x / 4294967296 ∧ nv x / 4294967296 < 4294967296 := by
  have h0 := nv_nonneg x
  have h1 := nv_lt x
  omega

theorem redI_bd (x : BitVec 64) (m : Int) (h : 1 ≤ m) : 0 ≤ redI x m ∧ redI x m < m := by
  obtain ⟨h0, h1⟩ := hi_bd x
  unfold redI
  generalize nv x / 4294967296 = t at *
  have h2 : 0 ≤ t * m := Int.mul_nonneg h0 (by omega)
  have h3 : t * m ≤ 4294967295 * m := Int.mul_le_mul_of_nonneg_right (by omega) (by omega)
  omega

theorem redI_mono (x y : BitVec 64) (m : Int) (h : 1 ≤ m) (e : nv x ≤ nv y) : redI x m ≤ redI y m := by
  unfold redI
  have h1 : nv x / 4294967296 ≤ nv y / 4294967296 := by omega
  generalize nv x / 4294967296 = t at *
  generalize nv y / 4294967296 = u at *
  have h3 : t * m ≤ u * m := Int.mul_le_mul_of_nonneg_right h1 (by omega)
  omega

theorem redI_twice (x : BitVec 64) (m : Int) : redI x (2 * m) / 2 = redI x m := by
  unfold redI
  generalize nv x / 4294967296 = t
  have : t * (2 * m) = 2 * (t * m) := by rw [Int.mul_left_comm]
  rw [this]
  generalize t * m = q
  omega

theorem redI_low (m : Int) : redI 0#64 m = 0 := by
  have : nv 0#64 = 0 := rfl
  simp [redI, this]

theorem redI_high (m : Int) (h : 1 ≤ m) (hm : m ≤ 1048576) : redI 18446744073709551615#64 m = m - 1 := by
  have : nv 18446744073709551615#64 = 18446744073709551615 := nv_lit 18446744073709551615 (by omega)
  unfold redI
  rw [this]
  omega

/-! ### times and half -/
theorem times_step (S A : BitVec 64) (n : Nat) : S + A * BitVec.ofNat 64 n = (if n % 2 = 1 then S + A else S) + (A + A) * BitVec.ofNat 64 (n / 2) := by
  have hn : n = 2 * (n / 2) + n % 2 := by omega
  have e : A * BitVec.ofNat 64 n = (A + A) * BitVec.ofNat 64 (n / 2) + A * BitVec.ofNat 64 (n % 2) := by
    generalize n / 2 = q at *
    generalize n % 2 = r at *
    subst hn
    have : BitVec.ofNat 64 (2 * q + r) = BitVec.ofNat 64 q + BitVec.ofNat 64 q + BitVec.ofNat 64 r := by
      apply BitVec.eq_of_toNat_eq
      simp [BitVec.toNat_add, BitVec.toNat_ofNat]
      omega
    rw [this, BitVec.mul_add, BitVec.mul_add, BitVec.add_mul]
  rw [e]
  by_cases h : n % 2 = 1
  · rw [if_pos h, h, BitVec.mul_one]; ac_rfl
  · have h0 : n % 2 = 0 := by omega
    rw [if_neg h, h0]
    simp

theorem half_step (x : BitVec 64) (k : Nat) : nv (x >>> k) / 2 = nv (x >>> (k + 1)) := by
  rw [← shr_shr, ← nv_shr _ 1]
  simp

end Go.Proofs.Ytjmhemkbfephpaa
