/-
  The fewest misses of a cache that evicts as it likes; why to evict the key that is needed last (Belady); more room; the bound on LRU (Sleator, Tarjan).
-/
import Derived.Test.YtgdklpgmoanfkaaLruMath
namespace Go.Proofs.Ytgdklpgmoanfkaa.Bst
set_option linter.unusedVariables false

/-- How far off a key's next place is. -/
def nx : List Int → Int → Nat
  | [], _ => 0
  | x :: xs, y => if x = y then 0 else nx xs y + 1
theorem nx_self (x : Int) (xs : List Int) : nx (x :: xs) x = 0 := by simp [nx]
theorem nx_ne {x y : Int} (xs : List Int) (h : x ≠ y) : nx (x :: xs) y = nx xs y + 1 := by simp [nx, h]
theorem nx_le : ∀ (xs : List Int) (y : Int), nx xs y ≤ xs.length
  | [], _ => Nat.le_refl _
  | x :: xs, y => by
    have := nx_le xs y
    unfold nx
    split
    · omega
    · simp only [List.length_cons]; omega

/-- Within n misses the trace can be served from the keys S. -/
def Can (r : Nat) : List Int → List Int → Nat → Prop
  | _, [], _ => True
  | S, x :: xs, n => if x ∈ S then Can r S xs n else ∃ m, n = m + 1 ∧ (if S.length < r then Can r (x :: S) xs m else ∃ z, z ∈ S ∧ Can r (x :: S.erase z) xs m)
section
variable {r : Nat} {S : List Int} {x : Int} {xs : List Int} {n : Nat}
theorem can_hit (h : x ∈ S) : Can r S (x :: xs) n ↔ Can r S xs n := by
  show (if x ∈ S then _ else _) ↔ _
  rw [if_pos h]
theorem can_fill (h : x ∉ S) (hl : S.length < r) : Can r S (x :: xs) n ↔ ∃ m, n = m + 1 ∧ Can r (x :: S) xs m := by
  show (if x ∈ S then _ else _) ↔ _
  rw [if_neg h]; simp only [if_pos hl]
theorem can_full (h : x ∉ S) (hl : ¬ S.length < r) : Can r S (x :: xs) n ↔ ∃ m, n = m + 1 ∧ ∃ z, z ∈ S ∧ Can r (x :: S.erase z) xs m := by
  show (if x ∈ S then _ else _) ↔ _
  rw [if_neg h]; simp only [if_neg hl]
end
theorem can_mono {r : Nat} : ∀ {xs S : List Int} {n m : Nat}, n ≤ m → Can r S xs n → Can r S xs m
  | [], _, _, _, _, _ => trivial
  | x :: xs, S, n, m, h, hc => by
    by_cases h1 : x ∈ S
    · rw [can_hit h1] at hc ⊢
      exact can_mono h hc
    · by_cases h2 : S.length < r
      · rw [can_fill h1 h2] at hc ⊢
        obtain ⟨k, rfl, hk⟩ := hc
        exact ⟨m - 1, by omega, can_mono (by omega) hk⟩
      · rw [can_full h1 h2] at hc ⊢
        obtain ⟨k, rfl, z, hz, hk⟩ := hc
        exact ⟨m - 1, by omega, z, hz, can_mono (by omega) hk⟩
theorem can_perm {r : Nat} : ∀ {xs S T : List Int} {n : Nat}, S.Perm T → Can r S xs n → Can r T xs n
  | [], _, _, _, _, _ => trivial
  | x :: xs, S, T, n, h, hc => by
    by_cases h1 : x ∈ S
    · rw [can_hit h1] at hc
      rw [can_hit (h.mem_iff.1 h1)]
      exact can_perm h hc
    · have h1' : x ∉ T := fun m => h1 (h.mem_iff.2 m)
      by_cases h2 : S.length < r
      · rw [can_fill h1 h2] at hc
        rw [can_fill h1' (by rw [← h.length_eq]; exact h2)]
        obtain ⟨k, rfl, hk⟩ := hc
        exact ⟨k, rfl, can_perm (h.cons x) hk⟩
      · rw [can_full h1 h2] at hc
        rw [can_full h1' (by rw [← h.length_eq]; exact h2)]
        obtain ⟨k, rfl, z, hz, hk⟩ := hc
        exact ⟨k, rfl, z, h.mem_iff.1 hz, can_perm ((h.erase z).cons x) hk⟩

/-! ### One key in the place of another -/
theorem erase_tail {a z : Int} {C : List Int} (h : a ≠ z) : (a :: C).erase z = a :: C.erase z := by
  rw [List.erase_cons_tail]; simpa using h
theorem len_swap {C : List Int} {x z : Int} (hz : z ∈ C) : (x :: C.erase z).length = C.length := by
  have := List.length_erase_of_mem hz
  have := List.length_pos_of_mem hz
  simp only [List.length_cons]; omega
theorem nodup_swap {C : List Int} {x z : Int} (hC : C.Nodup) (hx : x ∉ C) : (x :: C.erase z).Nodup :=
  List.nodup_cons.2 ⟨fun m => hx (List.mem_of_mem_erase m), hC.erase z⟩
theorem perm_swap (a b : Int) (C : List Int) : (a :: b :: C).Perm (b :: a :: C) := List.Perm.swap b a C
/-- It costs at most one miss. -/
theorem can_one {r : Nat} : ∀ {xs C : List Int} {a b : Int} {n : Nat}, C.Nodup → a ∉ C → b ∉ C → ¬ C.length + 1 < r → Can r (b :: C) xs n → Can r (a :: C) xs (n + 1)
  | [], _, _, _, _, _, _, _, _, _ => trivial
  | x :: xs, C, a, b, n, hC, ha, hb, hr, hc => by
    by_cases hab : a = b
    · subst hab; exact can_mono (Nat.le_succ _) hc
    by_cases h1 : x ∈ C
    · rw [can_hit (List.mem_cons_of_mem _ h1)] at hc ⊢
      exact can_one hC ha hb hr hc
    by_cases h2 : x = a
    · subst h2
      rw [can_hit (List.mem_cons_self ..)]
      have hx : x ∉ b :: C := fun m => (List.mem_cons.1 m).elim hab h1
      rw [can_full hx (by simp only [List.length_cons]; exact hr)] at hc
      obtain ⟨m, rfl, z, hz, hk⟩ := hc
      by_cases hzb : z = b
      · subst hzb
        rw [List.erase_cons_head] at hk
        exact can_mono (by omega) hk
      · have hz' : z ∈ C := (List.mem_cons.1 hz).resolve_left hzb
        rw [erase_tail (fun e => hzb e.symm)] at hk
        have hzx : z ≠ x := fun e => ha (e ▸ hz')
        have h3 : Can r (z :: x :: C.erase z) xs (m + 1) := can_one (nodup_swap hC ha)
          (fun hm => (List.mem_cons.1 hm).elim hzx (fun k => List.Nodup.not_mem_erase hC k))
          (fun hm => (List.mem_cons.1 hm).elim (fun e => hab e.symm) (fun k => hb (List.mem_of_mem_erase k)))
          (by rw [len_swap hz']; exact hr) (can_perm (perm_swap x b _) hk)
        refine can_mono (by omega) (can_perm ?_ h3)
        exact (perm_swap z x _).trans ((List.perm_cons_erase hz').symm.cons x)
    by_cases h4 : x = b
    · subst h4
      rw [can_hit (List.mem_cons_self ..)] at hc
      have hx : x ∉ a :: C := fun m => (List.mem_cons.1 m).elim h2 h1
      rw [can_full hx (by simp only [List.length_cons]; exact hr)]
      exact ⟨n, rfl, a, List.mem_cons_self .., by rw [List.erase_cons_head]; exact hc⟩
    · have hxb : x ∉ b :: C := fun m => (List.mem_cons.1 m).elim h4 h1
      have hxa : x ∉ a :: C := fun m => (List.mem_cons.1 m).elim h2 h1
      rw [can_full hxb (by simp only [List.length_cons]; exact hr)] at hc
      rw [can_full hxa (by simp only [List.length_cons]; exact hr)]
      obtain ⟨m, rfl, z, hz, hk⟩ := hc
      refine ⟨m + 1, rfl, ?_⟩
      by_cases hzb : z = b
      · subst hzb
        rw [List.erase_cons_head] at hk
        exact ⟨a, List.mem_cons_self .., by rw [List.erase_cons_head]; exact can_mono (Nat.le_succ _) hk⟩
      · have hz' : z ∈ C := (List.mem_cons.1 hz).resolve_left hzb
        have haz : a ≠ z := fun e => ha (e ▸ hz')
        rw [erase_tail (fun e => hzb e.symm)] at hk
        refine ⟨z, List.mem_cons_of_mem _ hz', ?_⟩
        rw [erase_tail haz]
        have h3 : Can r (a :: x :: C.erase z) xs (m + 1) := can_one (nodup_swap hC h1)
          (fun hm => (List.mem_cons.1 hm).elim (fun e => h2 e.symm) (fun k => ha (List.mem_of_mem_erase k)))
          (fun hm => (List.mem_cons.1 hm).elim (fun e => h4 e.symm) (fun k => hb (List.mem_of_mem_erase k)))
          (by rw [len_swap hz']; exact hr) (can_perm (perm_swap x b _) hk)
        exact can_perm (perm_swap a x _) h3
/-- A key that is needed sooner costs nothing. -/
theorem can_sooner {r : Nat} : ∀ {xs C : List Int} {a b : Int} {n : Nat}, C.Nodup → a ∉ C → b ∉ C → ¬ C.length + 1 < r → nx xs a ≤ nx xs b → Can r (b :: C) xs n → Can r (a :: C) xs n
  | [], _, _, _, _, _, _, _, _, _, _ => trivial
  | x :: xs, C, a, b, n, hC, ha, hb, hr, hn, hc => by
    by_cases hab : a = b
    · subst hab; exact hc
    by_cases h2 : x = a
    · subst h2
      rw [can_hit (List.mem_cons_self ..)]
      have hx : x ∉ b :: C := fun m => (List.mem_cons.1 m).elim hab ha
      rw [can_full hx (by simp only [List.length_cons]; exact hr)] at hc
      obtain ⟨m, rfl, z, hz, hk⟩ := hc
      by_cases hzb : z = b
      · subst hzb
        rw [List.erase_cons_head] at hk
        exact can_mono (by omega) hk
      · have hz' : z ∈ C := (List.mem_cons.1 hz).resolve_left hzb
        rw [erase_tail (fun e => hzb e.symm)] at hk
        have hzx : z ≠ x := fun e => ha (e ▸ hz')
        have h3 : Can r (z :: x :: C.erase z) xs (m + 1) := can_one (nodup_swap hC ha)
          (fun hm => (List.mem_cons.1 hm).elim hzx (fun k => List.Nodup.not_mem_erase hC k))
          (fun hm => (List.mem_cons.1 hm).elim (fun e => hab e.symm) (fun k => hb (List.mem_of_mem_erase k)))
          (by rw [len_swap hz']; exact hr) (can_perm (perm_swap x b _) hk)
        refine can_perm ?_ h3
        exact (perm_swap z x _).trans ((List.perm_cons_erase hz').symm.cons x)
    by_cases h4 : x = b
    · subst h4
      rw [nx_self, nx_ne xs h2] at hn
      omega
    rw [nx_ne xs h2, nx_ne xs h4] at hn
    have hn' : nx xs a ≤ nx xs b := by omega
    by_cases h1 : x ∈ C
    · rw [can_hit (List.mem_cons_of_mem _ h1)] at hc ⊢
      exact can_sooner hC ha hb hr hn' hc
    · have hxb : x ∉ b :: C := fun m => (List.mem_cons.1 m).elim h4 h1
      have hxa : x ∉ a :: C := fun m => (List.mem_cons.1 m).elim h2 h1
      rw [can_full hxb (by simp only [List.length_cons]; exact hr)] at hc
      rw [can_full hxa (by simp only [List.length_cons]; exact hr)]
      obtain ⟨m, rfl, z, hz, hk⟩ := hc
      refine ⟨m, rfl, ?_⟩
      by_cases hzb : z = b
      · subst hzb
        rw [List.erase_cons_head] at hk
        exact ⟨a, List.mem_cons_self .., by rw [List.erase_cons_head]; exact hk⟩
      · have hz' : z ∈ C := (List.mem_cons.1 hz).resolve_left hzb
        have haz : a ≠ z := fun e => ha (e ▸ hz')
        rw [erase_tail (fun e => hzb e.symm)] at hk
        refine ⟨z, List.mem_cons_of_mem _ hz', ?_⟩
        rw [erase_tail haz]
        have h3 : Can r (a :: x :: C.erase z) xs m := can_sooner (nodup_swap hC h1)
          (fun hm => (List.mem_cons.1 hm).elim (fun e => h2 e.symm) (fun k => ha (List.mem_of_mem_erase k)))
          (fun hm => (List.mem_cons.1 hm).elim (fun e => h4 e.symm) (fun k => hb (List.mem_of_mem_erase k)))
          (by rw [len_swap hz']; exact hr) hn' (can_perm (perm_swap x b _) hk)
        exact can_perm (perm_swap a x _) h3
/-- To evict the key that is needed last costs nothing. -/
theorem can_last {r : Nat} {S xs : List Int} {x v : Int} {n : Nat} (hS : S.Nodup) (hr : ¬ S.length < r) (hx : x ∉ S) (hv : v ∈ S) (hmax : ∀ y ∈ S, nx xs y ≤ nx xs v) :
    Can r S (x :: xs) n ↔ ∃ m, n = m + 1 ∧ Can r (x :: S.erase v) xs m := by
  rw [can_full hx hr]
  constructor
  · rintro ⟨m, rfl, z, hz, hk⟩
    refine ⟨m, rfl, ?_⟩
    by_cases hzv : z = v
    · subst hzv; exact hk
    · have hvz : v ∈ S.erase z := (List.mem_erase_of_ne (fun e => hzv e.symm)).2 hv
      have hzv' : z ∈ S.erase v := (List.mem_erase_of_ne hzv).2 hz
      have hxz : x ≠ z := fun e => hx (e ▸ hz)
      have hxv : x ≠ v := fun e => hx (e ▸ hv)
      have p1 : (x :: S.erase z).Perm (v :: x :: (S.erase z).erase v) := ((List.perm_cons_erase hvz).cons x).trans (perm_swap x v _)
      have p2 : (z :: x :: (S.erase z).erase v).Perm (x :: S.erase v) := by
        rw [List.erase_comm]
        exact (perm_swap z x _).trans ((List.perm_cons_erase hzv').symm.cons x)
      refine can_perm p2 (can_sooner (b := v) ?_ ?_ ?_ ?_ (hmax z hz) (can_perm p1 hk))
      · exact nodup_swap (hS.erase z) (fun m => hx (List.mem_of_mem_erase m))
      · exact fun m => (List.mem_cons.1 m).elim (fun e => hxz e.symm) (fun k => List.Nodup.not_mem_erase hS (List.mem_of_mem_erase k))
      · exact fun m => (List.mem_cons.1 m).elim (fun e => hxv e.symm) (fun k => List.Nodup.not_mem_erase (hS.erase z) k)
      · rw [len_swap hvz]
        have := List.length_erase_of_mem hz
        have := List.length_pos_of_mem hz
        omega
  · rintro ⟨m, rfl, hk⟩
    exact ⟨m, rfl, v, hv, hk⟩

/-! ### The policy that knows the future -/
/-- a goes rather than b. -/
def Later (xs : List Int) (a b : Int) : Prop := nx xs b < nx xs a ∨ (nx xs a = nx xs b ∧ a < b)
instance (xs : List Int) (a b : Int) : Decidable (Later xs a b) := by unfold Later; infer_instance
def IsVic (xs S : List Int) (v : Int) : Prop := v ∈ S ∧ ∀ y ∈ S, y ≠ v → Later xs v y
theorem vic_max {xs S : List Int} {v : Int} (h : IsVic xs S v) : ∀ y ∈ S, nx xs y ≤ nx xs v := fun y hy => by
  by_cases e : y = v
  · subst e; exact Nat.le_refl _
  · rcases h.2 y hy e with h | ⟨h, -⟩ <;> omega
theorem vic_uniq {xs S : List Int} {v u : Int} (h : IsVic xs S v) (k : IsVic xs S u) : v = u := by
  by_cases e : v = u
  · exact e
  · exfalso
    have h1 := h.2 u k.1 (fun e2 => e e2.symm)
    have h2 := k.2 v h.1 e
    unfold Later at h1 h2
    omega
theorem vic_perm {xs S T : List Int} {v : Int} (h : IsVic xs S v) (p : S.Perm T) : IsVic xs T v := ⟨p.mem_iff.1 h.1, fun y hy hne => h.2 y (p.mem_iff.2 hy) hne⟩
def vicF (xs : List Int) : Int → List Int → Int
  | b, [] => b
  | b, y :: S => vicF xs (if Later xs y b then y else b) S
def vic (xs : List Int) : List Int → Int
  | [] => 0
  | b :: S => vicF xs b S
theorem later_or {xs : List Int} {a b : Int} (h : a ≠ b) : Later xs a b ∨ Later xs b a := by unfold Later; omega
theorem later_trans {xs : List Int} {a b c : Int} (h : Later xs a b) (k : Later xs b c) : Later xs a c := by unfold Later at *; omega
theorem vicF_spec (xs : List Int) : ∀ (S : List Int) (b : Int), IsVic xs (b :: S) (vicF xs b S)
  | [], b => ⟨List.mem_cons_self .., fun y hy hne => by simp only [List.mem_singleton] at hy; exact absurd hy hne⟩
  | y :: S, b => by
    show IsVic xs (b :: y :: S) (vicF xs (if Later xs y b then y else b) S)
    by_cases h : Later xs y b
    · rw [if_pos h]
      obtain ⟨h1, h2⟩ := vicF_spec xs S y
      refine ⟨List.mem_cons_of_mem _ h1, fun z hz hne => ?_⟩
      rcases List.mem_cons.1 hz with e | m
      · subst e
        by_cases e2 : y = vicF xs y S
        · rw [← e2]; exact h
        · exact later_trans (h2 y (List.mem_cons_self ..) e2) h
      · exact h2 z m hne
    · rw [if_neg h]
      obtain ⟨h1, h2⟩ := vicF_spec xs S b
      refine ⟨?_, fun z hz hne => ?_⟩
      · rcases List.mem_cons.1 h1 with e | m
        · rw [e]; exact List.mem_cons_self ..
        · exact List.mem_cons_of_mem _ (List.mem_cons_of_mem _ m)
      · rcases List.mem_cons.1 hz with e | m
        · exact h2 z (by rw [e]; exact List.mem_cons_self ..) hne
        · rcases List.mem_cons.1 m with e | m
          · subst e
            by_cases e3 : z = b
            · subst e3; exact h2 z (List.mem_cons_self ..) hne
            · have h4 := (later_or (xs := xs) e3).resolve_left h
              by_cases e2 : b = vicF xs b S
              · rw [← e2]; exact h4
              · exact later_trans (h2 b (List.mem_cons_self ..) e2) h4
          · exact h2 z (List.mem_cons_of_mem _ m) hne
theorem vic_spec {xs S : List Int} (h : 0 < S.length) : IsVic xs S (vic xs S) := by
  cases S with
  | nil => simp at h
  | cons b S => exact vicF_spec xs S b
theorem vic_eq {xs S T : List Int} (h : 0 < S.length) (p : S.Perm T) : vic xs S = vic xs T :=
  vic_uniq (vic_perm (vic_spec h) p) (vic_spec (by rw [← p.length_eq]; exact h))

/-- The keys behind one access. -/
def stB (r : Nat) (S : List Int) (x : Int) (xs : List Int) : List Int := if x ∈ S then S else if S.length < r then x :: S else x :: S.erase (vic xs S)
def missB (r : Nat) : List Int → List Int → Nat
  | _, [] => 0
  | S, x :: xs => (if x ∈ S then 0 else 1) + missB r (stB r S x xs) xs
/-- Who goes at each access (-1: nobody). -/
def goneB (r : Nat) : List Int → List Int → List Int
  | _, [] => []
  | S, x :: xs => (if x ∈ S then -1 else if S.length < r then -1 else vic xs S) :: goneB r (stB r S x xs) xs
theorem stB_perm {r : Nat} {S T : List Int} {x : Int} {xs : List Int} (hr : 0 < r) (p : S.Perm T) : (stB r S x xs).Perm (stB r T x xs) := by
  unfold stB
  by_cases h1 : x ∈ S
  · rw [if_pos h1, if_pos (p.mem_iff.1 h1)]; exact p
  · rw [if_neg h1, if_neg (fun m => h1 (p.mem_iff.2 m)), ← p.length_eq]
    by_cases h2 : S.length < r
    · rw [if_pos h2, if_pos h2]; exact p.cons x
    · rw [if_neg h2, if_neg h2, vic_eq (xs := xs) (by omega) p]; exact (p.erase _).cons x
theorem missB_perm {r : Nat} (hr : 0 < r) : ∀ {xs S T : List Int}, S.Perm T → missB r S xs = missB r T xs
  | [], _, _, _ => rfl
  | x :: xs, S, T, p => by
    unfold missB
    rw [missB_perm hr (stB_perm hr p)]
    by_cases h1 : x ∈ S
    · rw [if_pos h1, if_pos (p.mem_iff.1 h1)]
    · rw [if_neg h1, if_neg (fun m => h1 (p.mem_iff.2 m))]
theorem goneB_perm {r : Nat} (hr : 0 < r) : ∀ {xs S T : List Int}, S.Perm T → goneB r S xs = goneB r T xs
  | [], _, _, _ => rfl
  | x :: xs, S, T, p => by
    unfold goneB
    rw [goneB_perm hr (stB_perm hr p)]
    congr 1
    by_cases h1 : x ∈ S
    · rw [if_pos h1, if_pos (p.mem_iff.1 h1)]
    · rw [if_neg h1, if_neg (fun m => h1 (p.mem_iff.2 m)), ← p.length_eq]
      by_cases h2 : S.length < r
      · rw [if_pos h2, if_pos h2]
      · rw [if_neg h2, if_neg h2, vic_eq (xs := xs) (by omega) p]
theorem stB_nodup {r : Nat} {S : List Int} {x : Int} {xs : List Int} (h : S.Nodup) : (stB r S x xs).Nodup := by
  unfold stB
  by_cases h1 : x ∈ S
  · rw [if_pos h1]; exact h
  · rw [if_neg h1]
    by_cases h2 : S.length < r
    · rw [if_pos h2]; exact List.nodup_cons.2 ⟨h1, h⟩
    · rw [if_neg h2]; exact nodup_swap h h1
theorem stB_len {r : Nat} {S : List Int} {x : Int} {xs : List Int} (hr : 0 < r) (h : S.length ≤ r) : (stB r S x xs).length ≤ r := by
  unfold stB
  by_cases h1 : x ∈ S
  · rw [if_pos h1]; exact h
  · rw [if_neg h1]
    by_cases h2 : S.length < r
    · rw [if_pos h2]; simp only [List.length_cons]; omega
    · rw [if_neg h2, len_swap (vic_spec (by omega)).1]; exact h
/-- It has the fewest misses. -/
theorem can_missB {r : Nat} (hr : 0 < r) : ∀ {xs S : List Int} {n : Nat}, S.Nodup → (Can r S xs n ↔ missB r S xs ≤ n)
  | [], S, n, _ => by simp [Can, missB]
  | x :: xs, S, n, hS => by
    have ih := fun m => can_missB hr (xs := xs) (n := m) (stB_nodup (r := r) (x := x) (xs := xs) hS)
    unfold missB
    by_cases h1 : x ∈ S
    · rw [can_hit h1, if_pos h1]
      have e : stB r S x xs = S := by unfold stB; rw [if_pos h1]
      rw [e] at ih ⊢
      rw [ih n]; omega
    · rw [if_neg h1]
      by_cases h2 : S.length < r
      · rw [can_fill h1 h2]
        have e : stB r S x xs = x :: S := by unfold stB; rw [if_neg h1, if_pos h2]
        rw [e] at ih ⊢
        constructor
        · rintro ⟨m, rfl, hk⟩; have := (ih m).1 hk; omega
        · intro h; exact ⟨n - 1, by omega, (ih _).2 (by omega)⟩
      · have hv := vic_spec (xs := xs) (S := S) (by omega)
        rw [can_last hS h2 h1 hv.1 (vic_max hv)]
        have e : stB r S x xs = x :: S.erase (vic xs S) := by unfold stB; rw [if_neg h1, if_neg h2]
        rw [e] at ih ⊢
        constructor
        · rintro ⟨m, rfl, hk⟩; have := (ih m).1 hk; omega
        · intro h; exact ⟨n - 1, by omega, (ih _).2 (by omega)⟩
theorem missB_le {r : Nat} : ∀ {S xs : List Int}, missB r S xs ≤ xs.length
  | S, [] => Nat.le_refl _
  | S, x :: xs => by
    have := missB_le (r := r) (S := stB r S x xs) (xs := xs)
    unfold missB
    simp only [List.length_cons]
    split <;> omega

/-! ### Any policy that evicts only what it must -/
theorem can_of_step {σ : Type} {r : Nat} (ks : σ → List Int) (step : σ → Int → σ) (ok : σ → Prop) (okx : Int → Prop) (hok : ∀ s x, ok s → okx x → ok (step s x))
    (hhit : ∀ s x, ok s → okx x → x ∈ ks s → (ks (step s x)).Perm (ks s))
    (hroom : ∀ s x, ok s → okx x → x ∉ ks s → (ks s).length < r → (ks (step s x)).Perm (x :: ks s))
    (hfull : ∀ s x, ok s → okx x → x ∉ ks s → ¬ (ks s).length < r → ∃ z, z ∈ ks s ∧ (ks (step s x)).Perm (x :: (ks s).erase z))
    (hits : σ → List Int → Nat) (h0 : ∀ s, hits s [] = 0) (h1 : ∀ s x xs, hits s (x :: xs) = (if x ∈ ks s then 1 else 0) + hits (step s x) xs) :
    ∀ {xs : List Int} {s : σ}, ok s → (∀ x ∈ xs, okx x) → hits s xs ≤ xs.length ∧ Can r (ks s) xs (xs.length - hits s xs)
  | [], s, _, _ => ⟨by rw [h0]; exact Nat.le_refl _, trivial⟩
  | x :: xs, s, ho, hx => by
    have hxx := hx x (by simp)
    obtain ⟨i1, i2⟩ := can_of_step ks step ok okx hok hhit hroom hfull hits h0 h1 (xs := xs) (s := step s x) (hok s x ho hxx) (fun y hy => hx y (by simp [hy]))
    rw [h1]
    by_cases k1 : x ∈ ks s
    · rw [if_pos k1]
      refine ⟨by simp only [List.length_cons]; omega, ?_⟩
      rw [can_hit k1]
      have := can_perm (hhit s x ho hxx k1) i2
      exact can_mono (by simp only [List.length_cons]; omega) this
    · rw [if_neg k1]
      refine ⟨by simp only [List.length_cons]; omega, ?_⟩
      by_cases k2 : (ks s).length < r
      · rw [can_fill k1 k2]
        exact ⟨xs.length - hits (step s x) xs, by simp only [List.length_cons]; omega, can_perm (hroom s x ho hxx k1 k2) i2⟩
      · rw [can_full k1 k2]
        obtain ⟨z, hz, hp⟩ := hfull s x ho hxx k1 k2
        exact ⟨xs.length - hits (step s x) xs, by simp only [List.length_cons]; omega, z, hz, can_perm hp i2⟩

/-! ### More room -/
theorem nodup_sub : ∀ {L S : List Int}, L.Nodup → (∀ x ∈ L, x ∈ S) → L.length ≤ S.length
  | [], _, _, _ => Nat.zero_le _
  | x :: L, S, hn, h => by
    obtain ⟨h1, h2⟩ := List.nodup_cons.1 hn
    have hx := h x (by simp)
    have := nodup_sub (L := L) (S := S.erase x) h2 (fun y hy => (List.mem_erase_of_ne (by intro e; subst e; exact h1 hy)).2 (h y (by simp [hy])))
    rw [List.length_erase_of_mem hx] at this
    have := List.length_pos_of_mem hx
    simp only [List.length_cons]; omega
theorem other_key {S T : List Int} (hT : T.Nodup) (h : S.length < T.length) : ∃ z, z ∈ T ∧ z ∉ S := by
  by_cases hh : ∃ z, z ∈ T ∧ z ∉ S
  · exact hh
  · exfalso
    have := nodup_sub (S := S) hT (fun x hx => Classical.byContradiction (fun k => hh ⟨x, hx, k⟩))
    omega
theorem can_more {r R : Nat} (hrR : r ≤ R) : ∀ {xs S T : List Int} {n : Nat}, S.Nodup → T.Nodup → (∀ x ∈ S, x ∈ T) → T.length ≤ R → Can r S xs n → Can R T xs n
  | [], _, _, _, _, _, _, _, _ => trivial
  | x :: xs, S, T, n, hS, hT, hs, hl, hc => by
    by_cases h1 : x ∈ S
    · rw [can_hit h1] at hc
      rw [can_hit (hs x h1)]
      exact can_more hrR hS hT hs hl hc
    · by_cases h2 : x ∈ T
      · rw [can_hit h2]
        by_cases h3 : S.length < r
        · rw [can_fill h1 h3] at hc
          obtain ⟨m, rfl, hk⟩ := hc
          exact can_mono (Nat.le_succ _) (can_more hrR (List.nodup_cons.2 ⟨h1, hS⟩) hT (fun y hy => (List.mem_cons.1 hy).elim (fun e => e ▸ h2) (hs y)) hl hk)
        · rw [can_full h1 h3] at hc
          obtain ⟨m, rfl, z, hz, hk⟩ := hc
          exact can_mono (Nat.le_succ _) (can_more hrR (nodup_swap hS h1) hT (fun y hy => (List.mem_cons.1 hy).elim (fun e => e ▸ h2) (fun k => hs y (List.mem_of_mem_erase k))) hl hk)
      · by_cases h3 : T.length < R
        · rw [can_fill h2 h3]
          have hT' : (x :: T).Nodup := List.nodup_cons.2 ⟨h2, hT⟩
          by_cases h4 : S.length < r
          · rw [can_fill h1 h4] at hc
            obtain ⟨m, rfl, hk⟩ := hc
            exact ⟨m, rfl, can_more hrR (List.nodup_cons.2 ⟨h1, hS⟩) hT' (fun y hy => (List.mem_cons.1 hy).elim (fun e => e ▸ List.mem_cons_self ..) (fun k => List.mem_cons_of_mem _ (hs y k))) (by simp only [List.length_cons]; omega) hk⟩
          · rw [can_full h1 h4] at hc
            obtain ⟨m, rfl, z, hz, hk⟩ := hc
            exact ⟨m, rfl, can_more hrR (nodup_swap hS h1) hT' (fun y hy => (List.mem_cons.1 hy).elim (fun e => e ▸ List.mem_cons_self ..) (fun k => List.mem_cons_of_mem _ (hs y (List.mem_of_mem_erase k)))) (by simp only [List.length_cons]; omega) hk⟩
        · rw [can_full h2 h3]
          by_cases h4 : S.length < r
          · rw [can_fill h1 h4] at hc
            obtain ⟨m, rfl, hk⟩ := hc
            obtain ⟨z, hz, hzS⟩ := other_key (S := S) hT (by omega)
            refine ⟨m, rfl, z, hz, can_more hrR (List.nodup_cons.2 ⟨h1, hS⟩) (nodup_swap hT h2) (fun y hy => ?_) (by rw [len_swap hz]; exact hl) hk⟩
            rcases List.mem_cons.1 hy with e | k
            · subst e; exact List.mem_cons_self ..
            · exact List.mem_cons_of_mem _ ((List.mem_erase_of_ne (by intro e; subst e; exact hzS k)).2 (hs y k))
          · rw [can_full h1 h4] at hc
            obtain ⟨m, rfl, z, hz, hk⟩ := hc
            have hzT := hs z hz
            refine ⟨m, rfl, z, hzT, can_more hrR (nodup_swap hS h1) (nodup_swap hT h2) (fun y hy => ?_) (by rw [len_swap hzT]; exact hl) hk⟩
            rcases List.mem_cons.1 hy with e | k
            · subst e; exact List.mem_cons_self ..
            · have hne : y ≠ z := by intro e; subst e; exact List.Nodup.not_mem_erase hS k
              exact List.mem_cons_of_mem _ ((List.mem_erase_of_ne hne).2 (hs y (List.mem_of_mem_erase k)))
theorem missB_more {r R : Nat} (hr : 0 < r) (hrR : r ≤ R) (xs : List Int) : missB R [] xs ≤ missB r [] xs :=
  (can_missB (by omega) List.nodup_nil).1 (can_more hrR List.nodup_nil List.nodup_nil (fun _ h => h) (Nat.zero_le _) ((can_missB hr List.nodup_nil).2 (Nat.le_refl _)))

/-! ### LRU against any policy with less room -/
open Lru (touch hitsM)
/-- What the keys of L that S lacks weigh, the first one k. -/
def pot (S : List Int) : Nat → List Int → Nat
  | _, [] => 0
  | k, y :: L => (if y ∈ S then 0 else k) + pot S (k - 1) L
theorem pot_cons (S : List Int) (k : Nat) (y : Int) (L : List Int) : pot S k (y :: L) = (if y ∈ S then 0 else k) + pot S (k - 1) L := rfl
def lack (S L : List Int) : Nat := (L.filter (fun y => decide (y ∉ S))).length
theorem pot_le (S : List Int) : ∀ (L : List Int) (k : Nat), pot S (k - 1) L ≤ pot S k L
  | [], _ => Nat.le_refl _
  | y :: L, k => by
    have := pot_le S L (k - 1)
    unfold pot
    split <;> omega
theorem pot_lack (S : List Int) : ∀ (L : List Int) (k : Nat), L.length ≤ k → pot S k L = pot S (k - 1) L + lack S L
  | [], _, _ => rfl
  | y :: L, k, h => by
    simp only [List.length_cons] at h
    have := pot_lack S L (k - 1) (by omega)
    unfold pot lack
    unfold lack at this
    rw [List.filter_cons]
    by_cases hy : y ∈ S
    · rw [if_pos hy, if_pos hy, if_neg (by simp [hy])]; omega
    · rw [if_neg hy, if_neg hy, if_pos (by simp [hy])]; simp only [List.length_cons]; omega
theorem pot_take (S : List Int) : ∀ (L : List Int) (k n : Nat), pot S k (L.take n) ≤ pot S k L
  | [], _, n => by simp
  | y :: L, k, 0 => by simp [pot]
  | y :: L, k, n + 1 => by
    have := pot_take S L (k - 1) n
    rw [List.take_succ_cons]
    unfold pot
    omega
theorem pot_sub {S T : List Int} (h : ∀ y ∈ S, y ∈ T) : ∀ (L : List Int) (k : Nat), pot T k L ≤ pot S k L
  | [], _ => Nat.le_refl _
  | y :: L, k => by
    have := pot_sub h L (k - 1)
    unfold pot
    by_cases hy : y ∈ S
    · rw [if_pos hy, if_pos (h y hy)]; omega
    · rw [if_neg hy]
      split <;> omega
theorem pot_loss {S T : List Int} {z : Int} (h : ∀ y ∈ S, y ≠ z → y ∈ T) : ∀ (L : List Int) (k : Nat), L.Nodup → pot T k L ≤ pot S k L + k
  | [], _, _ => Nat.zero_le _
  | y :: L, k, hn => by
    obtain ⟨h1, h2⟩ := List.nodup_cons.1 hn
    unfold pot
    by_cases e : y = z
    · subst e
      have h3 : pot T (k - 1) L ≤ pot S (k - 1) L := by
        clear hn h2
        generalize k - 1 = j
        induction L generalizing j with
        | nil => exact Nat.le_refl _
        | cons u L ih =>
          have hu : u ≠ y := by intro e; subst e; exact h1 (List.mem_cons_self ..)
          have := ih (fun m => h1 (List.mem_cons_of_mem _ m)) (j - 1)
          unfold pot
          by_cases hy : u ∈ S
          · rw [if_pos hy, if_pos (h u hy hu)]; omega
          · rw [if_neg hy]
            split <;> omega
      split <;> split <;> omega
    · have := pot_loss h L (k - 1) h2
      by_cases hy : y ∈ S
      · rw [if_pos hy, if_pos (h y hy e)]; omega
      · rw [if_neg hy]
        split <;> omega
theorem pot_front {S : List Int} {x : Int} (hx : x ∈ S) : ∀ (L : List Int) (k : Nat), x ∈ L → pot S (k - 1) (L.erase x) ≤ pot S k L
  | [], _, h => by cases h
  | y :: L, k, h => by
    by_cases e : y = x
    · subst e
      rw [List.erase_cons_head, pot_cons]
      omega
    · rw [erase_tail e]
      have := pot_front hx L (k - 1) ((List.mem_cons.1 h).resolve_left (fun e2 => e e2.symm))
      rw [pot_cons, pot_cons]
      split <;> omega
/-- Misses of LRU in a full cache. -/
def fullM (r : Int) (L : List Int) : List Int → Nat
  | [] => 0
  | x :: xs => (if x ∈ L then 0 else if (L.length : Int) = r then 1 else 0) + fullM r (touch r L x) xs
theorem miss_full {r : Int} (hr : 1 ≤ r) : ∀ {xs L : List Int}, (L.length : Int) ≤ r → ((xs.length - hitsM r L xs : Nat) : Int) ≤ (r - L.length) + fullM r L xs
  | [], L, h => by simp [hitsM, fullM]; omega
  | x :: xs, L, h => by
    have ih := miss_full hr (xs := xs) (L := touch r L x) (Lru.touch_len hr)
    have hle := Lru.hitsM_le r (touch r L x) xs
    unfold hitsM fullM
    by_cases h1 : x ∈ L
    · have e := Lru.touch_in h1 h
      have hl : (touch r L x).length = L.length := by rw [e, List.length_cons, List.length_erase_of_mem h1]; have := List.length_pos_of_mem h1; omega
      rw [hl] at ih
      rw [if_pos h1, if_pos h1]
      simp only [List.length_cons]
      omega
    · rw [if_neg h1, if_neg h1]
      by_cases h2 : (L.length : Int) = r
      · have hl : (touch r L x).length = L.length := by rw [Lru.touch_full h1 h2]; simp; omega
        rw [hl] at ih
        rw [if_pos h2]
        simp only [List.length_cons]
        omega
      · have hl : (touch r L x).length = L.length + 1 := by rw [Lru.touch_room h1 (by omega)]; rfl
        rw [hl] at ih
        rw [if_neg h2]
        simp only [List.length_cons]
        omega
theorem lack_many {S L : List Int} {x : Int} (hL : L.Nodup) (hxS : x ∈ S) (hxL : x ∉ L) : L.length + 1 ≤ lack S L + S.length := by
  unfold lack
  have h1 : (L.filter (fun y => decide (y ∈ S))).length + (L.filter (fun y => decide (y ∉ S))).length = L.length := by
    clear hL hxL
    induction L with
    | nil => rfl
    | cons y L ih =>
      rw [List.filter_cons, List.filter_cons]
      by_cases hy : y ∈ S
      · simp only [hy, decide_true, if_true, not_true, decide_false, Bool.false_eq_true, if_false, List.length_cons]; omega
      · simp only [hy, decide_false, Bool.false_eq_true, if_false, not_false_iff, decide_true, if_true, List.length_cons]; omega
  have h2 : (x :: L.filter (fun y => decide (y ∈ S))).length ≤ S.length := by
    refine nodup_sub (List.nodup_cons.2 ⟨fun m => hxL (List.mem_filter.1 m).1, hL.filter _⟩) (fun y hy => ?_)
    rcases List.mem_cons.1 hy with e | m
    · exact e ▸ hxS
    · simpa using (List.mem_filter.1 m).2
  simp only [List.length_cons] at h2
  omega
theorem touch_nodup {r : Int} {L : List Int} {x : Int} (h : L.Nodup) : (touch r L x).Nodup := by
  unfold touch
  rw [List.nodup_cons]
  exact ⟨fun m => (List.Nodup.not_mem_erase h) (List.mem_of_mem_take m), (List.Nodup.erase _ h).sublist (List.take_sublist _ _)⟩
/-- One access, where the other policy holds the key already. -/
theorem pot_touch {k h : Nat} {S L : List Int} {x : Int} (hk : 1 ≤ k) (hxS : x ∈ S) (hS : S.length ≤ h) (hhk : h ≤ k) (hL : L.Nodup) (hl : L.length ≤ k) :
    (if x ∈ L then 0 else if (L.length : Int) = (k : Int) then 1 else 0) * (k - h + 1) + pot S k (touch (k : Int) L x) ≤ pot S k L := by
  by_cases h1 : x ∈ L
  · rw [if_pos h1, Lru.touch_in h1 (by omega)]
    have := pot_front hxS L k h1
    rw [pot_cons, if_pos hxS]
    omega
  · rw [if_neg h1]
    have hpos := pot_le S L k
    by_cases h2 : (L.length : Int) = (k : Int)
    · rw [if_pos h2, Lru.touch_full h1 h2]
      have e1 := pot_lack S L k hl
      have e2 := lack_many hL hxS h1
      have e3 := pot_take S L (k - 1) (L.length - 1)
      rw [pot_cons, if_pos hxS]
      omega
    · rw [if_neg h2, Lru.touch_room h1 (by omega)]
      rw [pot_cons, if_pos hxS]
      omega
/-- The misses of LRU in a full cache of room k are paid for by the misses of any policy with room h. -/
theorem lru_paid {k h : Nat} (hh : 1 ≤ h) (hhk : h ≤ k) : ∀ {xs S L : List Int} {n : Nat}, S.length ≤ h → L.Nodup → L.length ≤ k → Can h S xs n → (k - h + 1) * fullM (k : Int) L xs ≤ k * n + pot S k L
  | [], S, L, n, _, _, _, _ => by simp [fullM]
  | x :: xs, S, L, n, hS, hL, hl, hc => by
    have hL' := touch_nodup (r := (k : Int)) (x := x) hL
    have hl' : (touch (k : Int) L x).length ≤ k := by have := Lru.touch_len (r := (k : Int)) (L := L) (x := x) (by omega); omega
    unfold fullM
    rw [Nat.mul_add]
    by_cases h1 : x ∈ S
    · rw [can_hit h1] at hc
      have ih := lru_paid hh hhk (xs := xs) (S := S) (L := touch (k : Int) L x) hS hL' hl' hc
      have hp := pot_touch (by omega) h1 hS hhk hL hl
      rw [Nat.mul_comm] at hp
      omega
    · by_cases h2 : S.length < h
      · rw [can_fill h1 h2] at hc
        obtain ⟨m, rfl, hk⟩ := hc
        have ih := lru_paid hh hhk (xs := xs) (S := x :: S) (L := touch (k : Int) L x) (by simp only [List.length_cons]; omega) hL' hl' hk
        have hp := pot_touch (S := x :: S) (by omega) (List.mem_cons_self ..) (by simp only [List.length_cons]; omega) hhk hL hl
        rw [Nat.mul_comm] at hp
        have hq := pot_sub (S := S) (T := x :: S) (fun y hy => List.mem_cons_of_mem _ hy) L k
        rw [Nat.mul_add]
        omega
      · rw [can_full h1 h2] at hc
        obtain ⟨m, rfl, z, hz, hk⟩ := hc
        have hls : (x :: S.erase z).length ≤ h := by rw [len_swap hz]; exact hS
        have ih := lru_paid hh hhk (xs := xs) (S := x :: S.erase z) (L := touch (k : Int) L x) hls hL' hl' hk
        have hp := pot_touch (S := x :: S.erase z) (by omega) (List.mem_cons_self ..) hls hhk hL hl
        rw [Nat.mul_comm] at hp
        have hq := pot_loss (S := S) (T := x :: S.erase z) (z := z) (fun y hy hne => List.mem_cons_of_mem _ ((List.mem_erase_of_ne hne).2 hy)) L k hL
        rw [Nat.mul_add]
        omega
/-- The bound of Sleator and Tarjan. -/
theorem lru_bound {k h : Nat} (hh : 1 ≤ h) (hhk : h ≤ k) (xs : List Int) : xs.length - hitsM (k : Int) [] xs ≤ k * missB h [] xs / (k - h + 1) + k := by
  have h1 := miss_full (r := (k : Int)) (by omega) (xs := xs) (L := []) (by simp)
  have h2 := lru_paid hh hhk (xs := xs) (S := []) (L := []) (n := missB h [] xs) (Nat.zero_le _) List.nodup_nil (Nat.zero_le _) ((can_missB (by omega) List.nodup_nil).2 (Nat.le_refl _))
  have h3 : fullM (k : Int) [] xs ≤ k * missB h [] xs / (k - h + 1) := by
    rw [Nat.le_div_iff_mul_le (by omega), Nat.mul_comm]
    simpa [pot] using h2
  simp only [List.length_nil] at h1
  omega

end Go.Proofs.Ytgdklpgmoanfkaa.Bst
