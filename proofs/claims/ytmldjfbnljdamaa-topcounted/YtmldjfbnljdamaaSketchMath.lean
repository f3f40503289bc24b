/-
  Sketches as lists of rows of counters, and what the functions of package sketch return, in plain mathematics.
  Conditions: none.
-/
import Derived.Test.YtmldjfbnljdamaaBloomMath
namespace Go.Proofs.Ytmldjfbnljdamaa.Skt
set_option linter.unusedVariables false

structure Sk where
  wide : Int
  rows : List (List Int)
def Sk.no : Sk := ⟨0, []⟩

/-! ### Rows -/
def gl (LL : List (List Int)) (i : Nat) : List Int := LL.getD i []
theorem gl_get {LL : List (List Int)} {i : Nat} (h : i < LL.length) : gl LL i = LL[i] := by
  unfold gl; rw [List.getD_eq_getElem?_getD, List.getElem?_eq_getElem h]; rfl
theorem gl_out {LL : List (List Int)} {i : Nat} (h : LL.length ≤ i) : gl LL i = [] := by
  unfold gl; rw [List.getD_eq_getElem?_getD, List.getElem?_eq_none h]; rfl
theorem row_ext {L M : List Int} (h : L.length = M.length) (he : ∀ j, j < L.length → gi L j = gi M j) : L = M :=
  List.ext_getElem h (fun i h1 h2 => by have := he i h1; rwa [gi_get h1, gi_get h2] at this)
theorem grid_ext {L M : List (List Int)} (h : L.length = M.length) (he : ∀ j, j < L.length → gl L j = gl M j) : L = M :=
  List.ext_getElem h (fun i h1 h2 => by have := he i h1; rwa [gl_get h1, gl_get h2] at this)

/-! ### Sums -/
def sig (f : Nat → Int) : Nat → Int
  | 0 => 0
  | n + 1 => sig f n + f n
theorem sig_congr {f g : Nat → Int} : ∀ {n : Nat}, (∀ j, j < n → f j = g j) → sig f n = sig g n
  | 0, _ => rfl
  | n + 1, h => by unfold sig; rw [sig_congr (fun j hj => h j (by omega)), h n (by omega)]
theorem sig_add (f g : Nat → Int) : ∀ n, sig (fun j => f j + g j) n = sig f n + sig g n
  | 0 => rfl
  | n + 1 => by unfold sig; rw [sig_add f g n]; omega
theorem sig_one (p : Nat) (d : Int) : ∀ n, sig (fun j => if j = p then d else 0) n = if p < n then d else 0
  | 0 => rfl
  | n + 1 => by
    unfold sig; rw [sig_one p d n]
    by_cases h : n = p
    · subst h; simp
    · rw [if_neg h]
      by_cases h2 : p < n
      · rw [if_pos h2, if_pos (by omega)]; omega
      · rw [if_neg h2, if_neg (by omega)]; omega
theorem sig_bd {f : Nat → Int} {m : Int} : ∀ {n : Nat}, (∀ j, j < n → 0 ≤ f j ∧ f j ≤ m) → 0 ≤ sig f n ∧ sig f n ≤ n * m
  | 0, _ => by simp [sig]
  | n + 1, h => by
    have h1 := sig_bd (n := n) (fun j hj => h j (by omega))
    have h2 := h n (by omega)
    unfold sig
    have : ((n + 1 : Nat) : Int) * m = n * m + m := by rw [Int.natCast_add, Int.add_mul]; simp
    rw [this]; omega
theorem sig_ge {f : Nat → Int} : ∀ {n : Nat}, (∀ j, j < n → 0 ≤ f j) → ∀ p, p < n → f p ≤ sig f n
  | 0, _, p, hp => by omega
  | n + 1, h, p, hp => by
    have h0 : ∀ m, m ≤ n → 0 ≤ sig f m := by
      intro m
      induction m with
      | zero => intro _; simp [sig]
      | succ m ih => intro hm; have := ih (by omega); have := h m (by omega); unfold sig; omega
    unfold sig
    by_cases e : p = n
    · subst e; have := h0 p (Nat.le_refl _); omega
    · have := sig_ge (n := n) (fun j hj => h j (by omega)) p (by omega); have := h n (by omega); omega
def sm (L : List Int) : Int := sig (gi L) L.length

def okR (L : List Int) : Prop := ∀ j, j < L.length → 0 ≤ gi L j ∧ gi L j ≤ 1099511627776
instance (L : List Int) : Decidable (okR L) := by unfold okR; exact inferInstance
theorem okR.take {L : List Int} (h : okR L) (hl : L.length ≤ 64) {k : Nat} (hk : k ≤ L.length) : 0 ≤ sig (gi L) k ∧ sig (gi L) k ≤ 70368744177664 := by
  have h1 := sig_bd (n := k) (f := gi L) (m := 1099511627776) (fun j hj => h j (by omega))
  refine ⟨h1.1, ?_⟩
  have : (k : Int) * 1099511627776 ≤ 70368744177664 := by omega
  omega

/-! ### Check -/
def rowE (n : Int) (L : List Int) : Int := if (L.length : Int) ≠ n then 1 else if okR L then 0 else 3
def evenS (LL : List (List Int)) : Prop := ∀ i, i < LL.length → sm (gl LL i) = sm (gl LL 0)
instance (L : List (List Int)) : Decidable (evenS L) := by unfold evenS; exact inferInstance
def headS (S : Sk) : Int := if S.rows.length = 0 then 1 else if 6 < S.rows.length then 2 else if S.wide < 1 ∨ 64 < S.wide then 3 else 0
def rowsE (S : Sk) : Int := nz (fun i => rowE S.wide (gl S.rows i)) S.rows.length
def checkS (S : Sk) : Int := if headS S ≠ 0 then headS S else if rowsE S ≠ 0 then rowsE S else if evenS S.rows then 0 else 4

/-- Rows of one width with counters in range. -/
structure Fine (S : Sk) : Prop where
  l1 : 1 ≤ S.rows.length
  l2 : S.rows.length ≤ 6
  w1 : 1 ≤ S.wide
  w2 : S.wide ≤ 64
  len : ∀ i, i < S.rows.length → ((gl S.rows i).length : Int) = S.wide
  bd : ∀ i, i < S.rows.length → okR (gl S.rows i)
structure Good (S : Sk) : Prop extends Fine S where
  ev : evenS S.rows
theorem headS_ok {S : Sk} (h1 : 1 ≤ S.rows.length) (h2 : S.rows.length ≤ 6) (h3 : 1 ≤ S.wide) (h4 : S.wide ≤ 64) : headS S = 0 := by
  unfold headS; rw [if_neg (by omega), if_neg (by omega), if_neg (by omega)]
theorem headS_inv {S : Sk} (h : headS S = 0) : 1 ≤ S.rows.length ∧ S.rows.length ≤ 6 ∧ 1 ≤ S.wide ∧ S.wide ≤ 64 := by
  unfold headS at h
  split at h
  · omega
  · split at h
    · omega
    · split at h
      · omega
      · omega
theorem rowE_inv {n : Int} {L : List Int} (h : rowE n L = 0) : (L.length : Int) = n ∧ okR L := by
  unfold rowE at h
  split at h
  · omega
  · split at h
    · rename_i h1 h2; exact ⟨by omega, h2⟩
    · omega
theorem rowE_ok {n : Int} {L : List Int} (h : (L.length : Int) = n) (h2 : okR L) : rowE n L = 0 := by
  unfold rowE; rw [if_neg (by omega), if_pos h2]
theorem Fine.rows0 {S : Sk} (g : Fine S) : rowsE S = 0 := nz_zero (fun i hi => rowE_ok (g.len i hi) (g.bd i hi))
theorem Fine.head {S : Sk} (g : Fine S) : headS S = 0 := headS_ok g.l1 g.l2 g.w1 g.w2
theorem fine_of {S : Sk} (h : headS S = 0) (h2 : rowsE S = 0) : Fine S := by
  obtain ⟨a, b, c, d⟩ := headS_inv h
  exact ⟨a, b, c, d, fun i hi => (rowE_inv (nz_inv h2 i hi)).1, fun i hi => (rowE_inv (nz_inv h2 i hi)).2⟩
theorem Good.check {S : Sk} (g : Good S) : checkS S = 0 := by
  unfold checkS
  rw [if_neg (by rw [g.toFine.head]; simp), if_neg (by rw [g.toFine.rows0]; simp), if_pos g.ev]
theorem good_of {S : Sk} (h : checkS S = 0) : Good S := by
  unfold checkS at h
  split at h
  · contradiction
  · split at h
    · contradiction
    · split at h
      · rename_i h1 h2 h3
        exact ⟨fine_of (by simpa using h1) (by simpa using h2), h3⟩
      · omega
theorem check_iff {S : Sk} : checkS S = 0 ↔ Good S := ⟨good_of, Good.check⟩
theorem check_no : checkS Sk.no = 1 := by decide

/-! ### Changing all counters -/
def chr (f : Nat → Int → Int) (L : List Int) : List Int := (List.range L.length).map fun j => f j (gi L j)
theorem chr_len (f : Nat → Int → Int) (L : List Int) : (chr f L).length = L.length := by simp [chr]
theorem gi_chr (f : Nat → Int → Int) (L : List Int) {j : Nat} (h : j < L.length) : gi (chr f L) j = f j (gi L j) := by
  rw [gi_get (by rw [chr_len]; exact h)]; simp [chr]
def chg (F : Nat → Nat → Int → Int) (LL : List (List Int)) : List (List Int) := (List.range LL.length).map fun r => chr (F r) (gl LL r)
theorem chg_len (F : Nat → Nat → Int → Int) (LL : List (List Int)) : (chg F LL).length = LL.length := by simp [chg]
theorem gl_chg (F : Nat → Nat → Int → Int) (LL : List (List Int)) (r : Nat) : gl (chg F LL) r = chr (F r) (gl LL r) := by
  by_cases h : r < LL.length
  · rw [gl_get (by rw [chg_len]; exact h)]; simp [chg]
  · rw [gl_out (by rw [chg_len]; omega), gl_out (LL := LL) (by omega)]; rfl
theorem len_gl_chg (F : Nat → Nat → Int → Int) (LL : List (List Int)) (r : Nat) : (gl (chg F LL) r).length = (gl LL r).length := by rw [gl_chg, chr_len]
theorem gi_chg (F : Nat → Nat → Int → Int) (LL : List (List Int)) {r j : Nat} (h : j < (gl LL r).length) : gi (gl (chg F LL) r) j = F r j (gi (gl LL r) j) := by rw [gl_chg, gi_chr _ _ h]
theorem chg_ext {F G : Nat → Nat → Int → Int} {L M : List (List Int)} (h : L.length = M.length) (hl : ∀ r, r < L.length → (gl L r).length = (gl M r).length)
    (he : ∀ r j, r < L.length → j < (gl L r).length → F r j (gi (gl L r) j) = G r j (gi (gl M r) j)) : chg F L = chg G M := by
  refine grid_ext (by rw [chg_len, chg_len, h]) (fun r hr => ?_)
  rw [chg_len] at hr
  refine row_ext (by rw [len_gl_chg, len_gl_chg, hl r hr]) (fun j hj => ?_)
  rw [len_gl_chg] at hj
  rw [gi_chg _ _ hj, gi_chg _ _ (by rw [← hl r hr]; exact hj), he r j hr hj]

def fits (LL : List (List Int)) : Prop := ∀ r, r < LL.length → ∀ j, j < (gl LL r).length → gi (gl LL r) j ≤ 1099511627776
instance (LL : List (List Int)) : Decidable (fits LL) := by unfold fits; exact inferInstance

/-! ### Add -/
noncomputable def errS (S : Sk) (s : ByteArray) : Int := if checkS S = 0 then (if 40 < s.size then 2 else 0) else checkS S
theorem errS_ok {S : Sk} {s : ByteArray} (h : errS S s = 0) : Good S ∧ s.size ≤ 40 := by
  unfold errS at h
  split at h
  · rename_i hc
    split at h
    · omega
    · exact ⟨good_of hc, by omega⟩
  · contradiction
theorem errS_of {S : Sk} {s : ByteArray} (g : Good S) (h : s.size ≤ 40) : errS S s = 0 := by
  unfold errS; rw [if_pos g.check, if_neg (by omega)]
noncomputable def plc (S : Sk) (s : ByteArray) (r : Nat) : Nat := (plN s r S.wide).toNat
theorem plc_int {S : Sk} (g : 1 ≤ S.wide) (s : ByteArray) (r : Nat) : (plc S s r : Int) = plN s r S.wide := by
  have := plN_bd s r g; unfold plc; omega
theorem plc_lt {S : Sk} (g : 1 ≤ S.wide) (s : ByteArray) (r : Nat) : (plc S s r : Int) < S.wide := by rw [plc_int g]; exact (plN_bd s r g).2
theorem plc_lt' {S : Sk} (g : Fine S) (s : ByteArray) {r : Nat} (hr : r < S.rows.length) : plc S s r < (gl S.rows r).length := by
  have := plc_lt g.w1 s r; have := g.len r hr; omega
noncomputable def plL (S : Sk) (s : ByteArray) : List Int := (List.range S.rows.length).map fun r => (plc S s r : Int)
theorem plL_len (S : Sk) (s : ByteArray) : (plL S s).length = S.rows.length := by simp [plL]
theorem gi_plL {S : Sk} {s : ByteArray} {r : Nat} (h : r < S.rows.length) : gi (plL S s) r = plc S s r := by
  rw [gi_get (by rw [plL_len]; exact h)]; simp [plL]
noncomputable def plM (S : Sk) (s : ByteArray) : List Int := if errS S s = 0 then plL S s else []

noncomputable def addF (S : Sk) (s : ByteArray) (n : Int) (r j : Nat) (x : Int) : Int := if j = plc S s r then x + n else x
noncomputable def addL (S : Sk) (s : ByteArray) (n : Int) : Sk := ⟨S.wide, chg (addF S s n) S.rows⟩
noncomputable def errA (S : Sk) (s : ByteArray) (n : Int) : Int :=
  if errS S s ≠ 0 then errS S s else if n < 1 ∨ 1099511627776 < n then 3 else if fits (addL S s n).rows then 0 else 8
noncomputable def addM (S : Sk) (s : ByteArray) (n : Int) : Sk := if errA S s n = 0 then addL S s n else Sk.no
theorem errA_ok {S : Sk} {s : ByteArray} {n : Int} (h : errA S s n = 0) : Good S ∧ s.size ≤ 40 ∧ 1 ≤ n ∧ n ≤ 1099511627776 ∧ fits (addL S s n).rows := by
  unfold errA at h
  split at h
  · contradiction
  · rename_i h1
    obtain ⟨a, b⟩ := errS_ok (by simpa using h1)
    split at h
    · omega
    · split at h
      · rename_i h3; exact ⟨a, b, by omega, by omega, h3⟩
      · omega
theorem errA_of {S : Sk} {s : ByteArray} {n : Int} (g : Good S) (h : s.size ≤ 40) (h1 : 1 ≤ n) (h2 : n ≤ 1099511627776) (hf : fits (addL S s n).rows) : errA S s n = 0 := by
  unfold errA; rw [if_neg (by rw [errS_of g h]; simp), if_neg (by omega), if_pos hf]

theorem sm_add {S : Sk} (g : Fine S) (s : ByteArray) (n : Int) {r : Nat} (hr : r < S.rows.length) : sm (gl (addL S s n).rows r) = sm (gl S.rows r) + n := by
  unfold sm
  show sig (gi (gl (chg (addF S s n) S.rows) r)) (gl (chg (addF S s n) S.rows) r).length = _
  rw [len_gl_chg, sig_congr (g := fun j => gi (gl S.rows r) j + (if j = plc S s r then n else 0)) (fun j hj => by
    rw [gi_chg _ _ hj]; unfold addF; split <;> omega), sig_add, sig_one, if_pos (plc_lt' g s hr)]
theorem good_add {S : Sk} (g : Good S) (s : ByteArray) {n : Int} (h1 : 1 ≤ n) (hf : fits (addL S s n).rows) : Good (addL S s n) := by
  have hl : (addL S s n).rows.length = S.rows.length := chg_len _ _
  refine ⟨⟨by rw [hl]; exact g.l1, by rw [hl]; exact g.l2, g.w1, g.w2, fun i hi => ?_, fun i hi j hj => ⟨?_, hf i hi j hj⟩⟩, fun i hi => ?_⟩
  · rw [hl] at hi; show ((gl (chg (addF S s n) S.rows) i).length : Int) = _; rw [len_gl_chg]; exact g.len i hi
  · rw [hl] at hi
    change j < (gl (chg (addF S s n) S.rows) i).length at hj
    rw [len_gl_chg] at hj
    show 0 ≤ gi (gl (chg (addF S s n) S.rows) i) j
    rw [gi_chg _ _ hj]
    have := (g.bd i hi j hj).1
    unfold addF; split <;> omega
  · rw [hl] at hi
    have := g.l1
    rw [sm_add g.toFine s n hi, sm_add g.toFine s n (show 0 < S.rows.length by omega), g.ev i hi]

/-! ### Estimate, Total -/
def est (f : Nat → Int) : Nat → Int
  | 0 => 1099511627776
  | n + 1 => min (est f n) (f n)
theorem est_ge {f : Nat → Int} {m : Int} (hm : m ≤ 1099511627776) : ∀ {n : Nat}, (∀ r, r < n → m ≤ f r) → m ≤ est f n
  | 0, _ => hm
  | n + 1, h => by
    have h1 := est_ge hm (n := n) (fun r hr => h r (by omega))
    have h2 := h n (by omega)
    unfold est; omega
theorem est_le {f : Nat → Int} : ∀ {n : Nat} (r : Nat), r < n → est f n ≤ f r
  | 0, r, hr => by omega
  | n + 1, r, hr => by
    unfold est
    by_cases e : r = n
    · subst e; omega
    · have := est_le (f := f) (n := n) r (by omega); omega
theorem est_mono {f g : Nat → Int} : ∀ {n : Nat}, (∀ r, r < n → f r ≤ g r) → est f n ≤ est g n
  | 0, _ => Int.le_refl _
  | n + 1, h => by
    have h1 := est_mono (n := n) (fun r hr => h r (by omega))
    have h2 := h n (by omega)
    unfold est; omega
theorem est_congr {f g : Nat → Int} : ∀ {n : Nat}, (∀ r, r < n → f r = g r) → est f n = est g n
  | 0, _ => rfl
  | n + 1, h => by unfold est; rw [est_congr (n := n) (fun r hr => h r (by omega)), h n (by omega)]
noncomputable def cnt (S : Sk) (s : ByteArray) (r : Nat) : Int := gi (gl S.rows r) (plc S s r)
noncomputable def estL (S : Sk) (s : ByteArray) : Int := est (cnt S s) S.rows.length
noncomputable def estM (S : Sk) (s : ByteArray) : Int := if errS S s = 0 then estL S s else 0
def totM (S : Sk) : Int := if checkS S = 0 then sm (gl S.rows 0) else 0

/-! ### Merge, Halve -/
def merF (B : Sk) (r j : Nat) (x : Int) : Int := x + gi (gl B.rows r) j
def merL (A B : Sk) : Sk := ⟨A.wide, chg (merF B) A.rows⟩
def errM (A B : Sk) : Int :=
  if checkS A ≠ 0 then checkS A else if checkS B ≠ 0 then checkS B else if A.rows.length ≠ B.rows.length ∨ A.wide ≠ B.wide then 7 else if fits (merL A B).rows then 0 else 8
def merM (A B : Sk) : Sk := if errM A B = 0 then merL A B else Sk.no
theorem errM_ok {A B : Sk} (h : errM A B = 0) : Good A ∧ Good B ∧ A.rows.length = B.rows.length ∧ A.wide = B.wide ∧ fits (merL A B).rows := by
  unfold errM at h
  split at h
  · contradiction
  · split at h
    · contradiction
    · split at h
      · omega
      · split at h
        · rename_i h1 h2 h3 h4; exact ⟨good_of (by simpa using h1), good_of (by simpa using h2), by omega, by omega, h4⟩
        · omega
theorem errM_of {A B : Sk} (ga : Good A) (gb : Good B) (h1 : A.rows.length = B.rows.length) (h2 : A.wide = B.wide) (hf : fits (merL A B).rows) : errM A B = 0 := by
  unfold errM; rw [if_neg (by rw [ga.check]; simp), if_neg (by rw [gb.check]; simp), if_neg (by omega), if_pos hf]

def halF (r j : Nat) (x : Int) : Int := x / 2
def halL (S : Sk) : Sk := ⟨S.wide, chg halF S.rows⟩
def errH (S : Sk) : Int := if checkS S ≠ 0 then checkS S else if evenS (halL S).rows then 0 else 4
def halM (S : Sk) : Sk := if errH S = 0 then halL S else Sk.no
theorem hal_fits {S : Sk} (g : Fine S) : fits (halL S).rows := fun r hr j hj => by
  have hl : (halL S).rows.length = S.rows.length := chg_len _ _
  rw [hl] at hr
  change j < (gl (chg halF S.rows) r).length at hj
  rw [len_gl_chg] at hj
  show gi (gl (chg halF S.rows) r) j ≤ _
  rw [gi_chg _ _ hj]
  have := g.bd r hr j hj
  unfold halF; omega

end Go.Proofs.Ytmldjfbnljdamaa.Skt
