/-
  Token buckets: plain functions on numbers.
-/
import Derived.Test.YtildmhfpjdmcbaaLruMath
namespace Go.Proofs.Ytildmhfpjdmcbaa.Rat
set_option linter.unusedVariables false

structure Bk where
  most : Int
  every : Int
  has : Int
  att : Int
instance : DecidableEq Bk := fun a b =>
  if h : a.most = b.most ∧ a.every = b.every ∧ a.has = b.has ∧ a.att = b.att then isTrue (by cases a; cases b; simp_all) else isFalse (fun e => h (by subst e; exact ⟨rfl, rfl, rfl, rfl⟩))
def isTok (n : Int) : Prop := 1 ≤ n ∧ n ≤ 1048576
def isTick (n : Int) : Prop := 0 ≤ n ∧ n ≤ 1099511627776
instance (n : Int) : Decidable (isTok n) := by unfold isTok; infer_instance
instance (n : Int) : Decidable (isTick n) := by unfold isTick; infer_instance
def Ok (b : Bk) : Prop := isTok b.most ∧ isTok b.every ∧ (0 ≤ b.has ∧ b.has ≤ b.most) ∧ isTick b.att
instance (b : Bk) : Decidable (Ok b) := by unfold Ok; infer_instance
def nB : Bk := ⟨0, 0, 0, 0⟩
def ckE (b : Bk) : Int := if Ok b then 0 else 3
/-- What is wrong with an advance (5: the tick is before the bucket's). -/
def avE (b : Bk) (t st : Int) : Int := if ckE b = 0 then (if isTick t then (if t < b.att then st else 0) else 3) else ckE b

/-- Tokens received till a tick. -/
def got (b : Bk) (t : Int) : Int := (t - b.att) / b.every
def adv (b : Bk) (t : Int) : Bk := if b.most ≤ b.has + got b t then ⟨b.most, b.every, b.most, t⟩ else ⟨b.most, b.every, b.has + got b t, b.att + got b t * b.every⟩

theorem div_spec {a e : Int} (he : 0 < e) : e * (a / e) ≤ a ∧ a < e * (a / e) + e := by
  have h1 := Int.mul_ediv_add_emod a e
  have h2 := Int.emod_nonneg a (show e ≠ 0 by omega)
  have h3 := Int.emod_lt_of_pos a he
  omega
theorem div_uniq {a e q : Int} (he : 0 < e) (h1 : e * q ≤ a) (h2 : a < e * q + e) : a / e = q := by
  have h := div_spec (a := a) he
  have h3 : q < a / e + 1 := Int.lt_of_mul_lt_mul_left (a := e) (by rw [Int.mul_add, Int.mul_one]; omega) (Int.le_of_lt he)
  have h4 : a / e < q + 1 := Int.lt_of_mul_lt_mul_left (a := e) (by rw [Int.mul_add, Int.mul_one]; omega) (Int.le_of_lt he)
  omega
theorem div_le {a b e : Int} (he : 0 < e) (h : a ≤ b) : a / e ≤ b / e := Int.ediv_le_ediv he h
theorem div_nonneg {a e : Int} (he : 0 < e) (h : 0 ≤ a) : 0 ≤ a / e := Int.ediv_nonneg h (Int.le_of_lt he)
theorem div_sub {a e k : Int} (he : 0 < e) : (a - k * e) / e = a / e - k := by
  refine div_uniq he ?_ ?_
  · have := div_spec (a := a) he
    rw [Int.mul_sub, Int.mul_comm e k]; omega
  · have := div_spec (a := a) he
    rw [Int.mul_sub, Int.mul_comm e k]; omega
section
variable {b : Bk} {t u : Int}
theorem Ok.ev (h : Ok b) : 0 < b.every := by have := h.2.1.1; omega
theorem got_nonneg (h : Ok b) (ht : b.att ≤ t) : 0 ≤ got b t := div_nonneg h.ev (by omega)
theorem got_le (h : Ok b) : b.every * got b t ≤ t - b.att := (div_spec h.ev).1
theorem adv_ok (h : Ok b) (ht : b.att ≤ t) (h2 : isTick t) : Ok (adv b t) ∧ b.att ≤ (adv b t).att ∧ (adv b t).att ≤ t ∧ (adv b t).every = b.every ∧ (adv b t).most = b.most ∧ b.has ≤ (adv b t).has := by
  obtain ⟨h1, h3, h4, h5⟩ := id h
  have hg := got_nonneg h ht
  have hl := got_le (t := t) h
  have hm : 0 ≤ got b t * b.every := Int.mul_nonneg hg (Int.le_of_lt h.ev)
  have hc : got b t * b.every = b.every * got b t := Int.mul_comm _ _
  unfold adv
  by_cases hf : b.most ≤ b.has + got b t
  · rw [if_pos hf]
    exact ⟨⟨h1, h3, ⟨by have := h1.1; show 0 ≤ b.most; omega, Int.le_refl _⟩, h2⟩, ht, Int.le_refl _, rfl, rfl, h4.2⟩
  · rw [if_neg hf]
    refine ⟨⟨h1, h3, ⟨by show 0 ≤ b.has + got b t; omega, by show b.has + got b t ≤ b.most; omega⟩, ⟨by show 0 ≤ b.att + _; have := h5.1; omega, by show b.att + _ ≤ _; have := h2.2; omega⟩⟩, ?_, ?_, rfl, rfl, ?_⟩
    · show b.att ≤ b.att + _; omega
    · show b.att + _ ≤ t; omega
    · show b.has ≤ b.has + _; omega
/-- Two steps are one. -/
theorem adv_adv (h : Ok b) (ht : b.att ≤ t) (hu : (adv b t).att ≤ u) : adv (adv b t) u = adv b u := by
  have he := h.ev
  have hg := got_nonneg h ht
  by_cases hf : b.most ≤ b.has + got b t
  · have e1 : adv b t = ⟨b.most, b.every, b.most, t⟩ := by unfold adv; rw [if_pos hf]
    have hu : t ≤ u := by rw [e1] at hu; exact hu
    have hgu : got b t ≤ got b u := div_le he (by omega)
    rw [e1]
    have h0 : 0 ≤ got ⟨b.most, b.every, b.most, t⟩ u := div_nonneg he (by show 0 ≤ u - t; omega)
    unfold adv
    rw [if_pos (by show b.most ≤ b.most + _; omega), if_pos (by omega)]
  · have e1 : adv b t = ⟨b.most, b.every, b.has + got b t, b.att + got b t * b.every⟩ := by unfold adv; rw [if_neg hf]
    have e2 : got ⟨b.most, b.every, b.has + got b t, b.att + got b t * b.every⟩ u = got b u - got b t := by
      show (u - (b.att + got b t * b.every)) / b.every = _
      rw [show u - (b.att + got b t * b.every) = (u - b.att) - got b t * b.every by omega, div_sub he]
      rfl
    rw [e1]
    unfold adv
    rw [e2]
    show (if b.most ≤ b.has + got b t + (got b u - got b t) then _ else _) = _
    rw [show b.has + got b t + (got b u - got b t) = b.has + got b u by omega]
    by_cases hf2 : b.most ≤ b.has + got b u
    · rw [if_pos hf2, if_pos hf2]
    · rw [if_neg hf2, if_neg hf2]
      congr 1
      show b.att + got b t * b.every + (got b u - got b t) * b.every = b.att + got b u * b.every
      rw [Int.sub_mul]; omega

/-! ### When -/
/-- The first tick at which so many can be taken. -/
def whn (b : Bk) (t n : Int) : Int := if n ≤ (adv b t).has then t else (adv b t).att + (n - (adv b t).has) * b.every
theorem whn_eq (h : Ok b) (ht : b.att ≤ t) {n : Int} (hn : ¬ n ≤ (adv b t).has) (hm : n ≤ b.most) : whn b t n = b.att + (n - b.has) * b.every ∧ ¬ b.most ≤ b.has + got b t ∧ b.has + got b t < n := by
  unfold whn
  rw [if_neg hn]
  unfold adv at hn ⊢
  by_cases hf : b.most ≤ b.has + got b t
  · rw [if_pos hf] at hn
    exact absurd hm hn
  · rw [if_neg hf] at hn ⊢
    refine ⟨?_, hf, by have : ¬ n ≤ b.has + got b t := hn; omega⟩
    show b.att + got b t * b.every + (n - (b.has + got b t)) * b.every = _
    rw [show n - (b.has + got b t) = (n - b.has) - got b t by omega, Int.sub_mul]
    omega
theorem got_whn (h : Ok b) {k : Int} : got b (b.att + k * b.every) = k ∧ got b (b.att + k * b.every - 1) = k - 1 := by
  have he := h.ev
  unfold got
  constructor
  · refine div_uniq he ?_ ?_
    · rw [Int.mul_comm b.every k]; omega
    · rw [Int.mul_comm b.every k]; omega
  · refine div_uniq he ?_ ?_
    · rw [Int.mul_sub, Int.mul_comm b.every k]; omega
    · rw [Int.mul_sub, Int.mul_comm b.every k]; omega
theorem whn_spec (h : Ok b) (ht : b.att ≤ t) {n : Int} (h1 : 1 ≤ n) (hm : n ≤ b.most) : t ≤ whn b t n ∧ n ≤ (adv b (whn b t n)).has ∧ (whn b t n ≠ t → t ≤ whn b t n - 1 ∧ ¬ n ≤ (adv b (whn b t n - 1)).has) := by
  by_cases hn : n ≤ (adv b t).has
  · have e : whn b t n = t := by unfold whn; rw [if_pos hn]
    rw [e]
    exact ⟨Int.le_refl _, hn, fun h => absurd rfl h⟩
  · obtain ⟨e, hf, hl⟩ := whn_eq h ht hn hm
    have he := h.ev
    obtain ⟨g1, g2⟩ := got_whn (k := n - b.has) h
    have hsp := div_spec (a := t - b.att) he
    have hgd : got b t + 1 ≤ n - b.has := by omega
    have hmul : b.every * (got b t + 1) ≤ b.every * (n - b.has) := Int.mul_le_mul_of_nonneg_left hgd (Int.le_of_lt he)
    rw [Int.mul_add, Int.mul_one, Int.mul_comm b.every (n - b.has)] at hmul
    have hgt : t < whn b t n := by
      rw [e]
      show t < b.att + (n - b.has) * b.every
      have : t - b.att < b.every * got b t + b.every := hsp.2
      omega
    refine ⟨by omega, ?_, fun _ => ⟨by omega, ?_⟩⟩
    · rw [e]
      unfold adv
      rw [g1]
      split
      · exact hm
      · show n ≤ b.has + (n - b.has); omega
    · rw [e]
      unfold adv
      rw [g2, if_neg (by omega)]
      show ¬ n ≤ b.has + (n - b.has - 1)
      omega

/-! ### The bound -/
/-- What has been taken and what is left is no more than what was there and came since. -/
def Bnd (beg has0 took : Int) (b : Bk) : Prop := beg ≤ b.att ∧ took + b.has ≤ has0 + (b.att - beg) / b.every
theorem bnd_adv (h : Ok b) (ht : b.att ≤ t) {beg has0 took : Int} (hb : Bnd beg has0 took b) : Bnd beg has0 took (adv b t) := by
  have he := h.ev
  have hg := got_nonneg h ht
  have hl := got_le (t := t) h
  obtain ⟨h1, h2⟩ := hb
  have e3 : (b.att + got b t * b.every - beg) / b.every = (b.att - beg) / b.every + got b t := by
    have := div_sub (a := b.att - beg) (k := - got b t) he
    rw [Int.neg_mul] at this
    rw [show b.att + got b t * b.every - beg = b.att - beg - -(got b t * b.every) by omega, this]
    omega
  have hc : got b t * b.every = b.every * got b t := Int.mul_comm _ _
  have hm : 0 ≤ got b t * b.every := Int.mul_nonneg hg (Int.le_of_lt he)
  unfold adv
  by_cases hf : b.most ≤ b.has + got b t
  · rw [if_pos hf]
    refine ⟨by show beg ≤ t; omega, ?_⟩
    show took + b.most ≤ has0 + (t - beg) / b.every
    have : (b.att + got b t * b.every - beg) / b.every ≤ (t - beg) / b.every := div_le he (by omega)
    omega
  · rw [if_neg hf]
    refine ⟨by show beg ≤ b.att + _; omega, ?_⟩
    show took + (b.has + got b t) ≤ has0 + (b.att + got b t * b.every - beg) / b.every
    omega
theorem bnd_take {beg has0 took n : Int} (hb : Bnd beg has0 took b) : Bnd beg has0 (took + n) ⟨b.most, b.every, b.has - n, b.att⟩ := by
  obtain ⟨h1, h2⟩ := hb
  exact ⟨h1, by show took + n + (b.has - n) ≤ has0 + (b.att - beg) / b.every; omega⟩
theorem bnd_now {beg has0 took now : Int} (h : Ok b) (hb : Bnd beg has0 took b) (hn : b.att ≤ now) : took ≤ has0 + (now - beg) / b.every := by
  obtain ⟨h1, h2⟩ := hb
  have := h.2.2.1.1
  have h3 : (b.att - beg) / b.every ≤ (now - beg) / b.every := div_le h.ev (by omega)
  omega
end

end Go.Proofs.Ytildmhfpjdmcbaa.Rat
