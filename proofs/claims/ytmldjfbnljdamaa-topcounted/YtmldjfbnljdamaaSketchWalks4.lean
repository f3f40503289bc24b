/-
  What Merge and Halve of package sketch return.
-/
import Derived.Test.YtmldjfbnljdamaaSketchWalks3
namespace Go.Proofs.Ytmldjfbnljdamaa.Skt
open Go.RowKit
set_option linter.unusedVariables false

/-! ### Merge -/
theorem chgE_mer (A B : Sk) : chgE (merF B) A = if fits (merL A B).rows then 0 else 8 := rfl
theorem chgM_mer (A B : Sk) : chgM (merF B) A = if fits (merL A B).rows then merL A B else Sk.no := rfl
theorem errM_a {A B : Sk} (h : checkS A ≠ 0) : errM A B = checkS A ∧ merM A B = Sk.no := by
  have e : errM A B = checkS A := by unfold errM; rw [if_pos h]
  exact ⟨e, by unfold merM; rw [if_neg (by rw [e]; exact h)]⟩
theorem errM_b {A B : Sk} (ha : checkS A = 0) (h : checkS B ≠ 0) : errM A B = checkS B ∧ merM A B = Sk.no := by
  have e : errM A B = checkS B := by unfold errM; rw [if_neg (by simpa using ha), if_pos h]
  exact ⟨e, by unfold merM; rw [if_neg (by rw [e]; exact h)]⟩
theorem errM_k {A B : Sk} (ha : checkS A = 0) (hb : checkS B = 0) (h : A.rows.length ≠ B.rows.length ∨ A.wide ≠ B.wide) : errM A B = 7 ∧ merM A B = Sk.no := by
  have e : errM A B = 7 := by unfold errM; rw [if_neg (by simpa using ha), if_neg (by simpa using hb), if_pos h]
  exact ⟨e, by unfold merM; rw [e]; rfl⟩
theorem errM_chg {A B : Sk} (ha : checkS A = 0) (hb : checkS B = 0) (h1 : A.rows.length = B.rows.length) (h2 : A.wide = B.wide) : errM A B = chgE (merF B) A ∧ merM A B = chgM (merF B) A := by
  have e : errM A B = chgE (merF B) A := by unfold errM; rw [if_neg (by simpa using ha), if_neg (by simpa using hb), if_neg (by simp [h1, h2]), chgE_mer]
  refine ⟨e, ?_⟩
  unfold merM
  rw [e, chgE_mer, chgM_mer]
  by_cases hf : fits (merL A B).rows
  · rw [if_pos hf, if_pos hf]; rfl
  · rw [if_neg hf, if_neg hf]; rfl

/-- The boxes of Merge: the sketches in blocks n and n + 1, the result in block n + 2. -/
def SM (n : Nat) (S : Sk) (A : Option Addr) (c : Nat) (T : Sk) (B : Option Addr) (d : Nat) (w : World) : Prop :=
  w.cell? ⟨n, 0, none⟩ = some (.int .i64 S.wide) ∧ w.cell? ⟨n, 1, none⟩ = some (.slice A S.rows.length c) ∧ w.cell? ⟨n + 1, 0, none⟩ = some (.int .i64 T.wide) ∧ w.cell? ⟨n + 1, 1, none⟩ = some (.slice B T.rows.length d) ∧ Wr w (n + 1 + 1) ∧ n + 3 ≤ w.heap.size
theorem SM.next {n : Nat} {S : Sk} {A : Option Addr} {c : Nat} {T : Sk} {B : Option Addr} {d : Nat} {w w' : World} {N : Nat} (h : SM n S A c T B d w) (hN : n + 3 ≤ N) (hb : Below N w w') : SM n S A c T B d w' :=
  ⟨(hb.cell (by show n < N; omega)).trans h.1, (hb.cell (by show n < N; omega)).trans h.2.1, (hb.cell (by show n + 1 < N; omega)).trans h.2.2.1, (hb.cell (by show n + 1 < N; omega)).trans h.2.2.2.1, h.2.2.2.2.1.below hb (by omega), Nat.le_trans h.2.2.2.2.2 hb.size⟩
theorem SM.new (S : Sk) (A : Option Addr) (c : Nat) (T : Sk) (B : Option Addr) (d : Nat) (w : World) :
    SM w.heap.size S A c T B d (((w.alloc (so S A c)).alloc (so T B d)).alloc (.cells #[.int .i64 0, .slice none 0 0] 26)) := by
  refine ⟨by simp [go_sem], by simp [go_sem], by simp [go_sem], by simp [go_sem], ?_, by simp⟩
  have := Wr.new ((w.alloc (so S A c)).alloc (so T B d)) _ rfl
  simpa using this

/-! ### Halve -/
theorem hal_chg {S : Sk} (g : Fine S) : chgE halF S = 0 ∧ chgM halF S = halL S := by
  have hf : fits (chg halF S.rows) := hal_fits g
  exact ⟨by unfold chgE; rw [if_pos hf], by unfold chgM; rw [if_pos hf]; rfl⟩
theorem hal_summed {S : Sk} (g : Fine S) : Summed (halL S).rows := fun i hi => by
  have hl : (halL S).rows.length = S.rows.length := chg_len _ _
  rw [hl] at hi
  have e : (gl (halL S).rows i).length = (gl S.rows i).length := len_gl_chg halF S.rows i
  refine ⟨fun j hj => ?_, by rw [e]; exact (g.summed i hi).2⟩
  rw [e] at hj
  show 0 ≤ gi (gl (chg halF S.rows) i) j ∧ gi (gl (chg halF S.rows) i) j ≤ _
  rw [gi_chg _ _ hj]
  have := g.bd i hi j hj
  unfold halF; omega
theorem errH_c {S : Sk} (h : checkS S ≠ 0) : errH S = checkS S ∧ halM S = Sk.no := by
  have e : errH S = checkS S := by unfold errH; rw [if_pos h]
  exact ⟨e, by unfold halM; rw [if_neg (by rw [e]; exact h)]⟩
theorem errH_y {S : Sk} (h : checkS S = 0) (he : evenS (halL S).rows) : errH S = 0 ∧ halM S = halL S := by
  have e : errH S = 0 := by unfold errH; rw [if_neg (by simpa using h), if_pos he]
  exact ⟨e, by unfold halM; rw [if_pos e]⟩
theorem errH_n {S : Sk} (h : checkS S = 0) (he : ¬ evenS (halL S).rows) : errH S = 4 ∧ halM S = Sk.no := by
  have e : errH S = 4 := by unfold errH; rw [if_neg (by simpa using h), if_neg he]
  exact ⟨e, by unfold halM; rw [e]; rfl⟩

/-- The boxes of Halve: the sketch in block n, the result in block n + 1. -/
def SH (n : Nat) (S : Sk) (A : Option Addr) (c : Nat) (w : World) : Prop :=
  w.cell? ⟨n, 0, none⟩ = some (.int .i64 S.wide) ∧ w.cell? ⟨n, 1, none⟩ = some (.slice A S.rows.length c) ∧ Wr w (n + 1) ∧ n + 2 ≤ w.heap.size
theorem SH.next {n : Nat} {S : Sk} {A : Option Addr} {c : Nat} {w w' : World} {N : Nat} (h : SH n S A c w) (hN : n + 2 ≤ N) (hb : Below N w w') : SH n S A c w' :=
  ⟨(hb.cell (by show n < N; omega)).trans h.1, (hb.cell (by show n < N; omega)).trans h.2.1, h.2.2.1.below hb (by omega), Nat.le_trans h.2.2.2 hb.size⟩
theorem SH.new (S : Sk) (A : Option Addr) (c : Nat) (w : World) :
    SH w.heap.size S A c ((w.alloc (so S A c)).alloc (.cells #[.int .i64 0, .slice none 0 0] 26)) := by
  refine ⟨by simp [go_sem], by simp [go_sem], ?_, by simp⟩
  have := Wr.new (w.alloc (so S A c)) _ rfl
  simpa using this

end Go.Proofs.Ytmldjfbnljdamaa.Skt
