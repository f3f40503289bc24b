/-
  What Merge and Halve of package sketch return.
-/
import Derived.Test.YtmjoiakggckeoaaSketchWalks3
namespace Go.Proofs.Ytmjoiakggckeoaa.Skt
open Go.RowKit
set_option linter.unusedVariables false

/-! ### Merge -/
theorem chgE_mer (A B : Sk) : chgE (merF B) A = if fits (merL A B).rows then 0 else 8 := rfl
theorem chgM_mer (A B : Sk) : chgM (merF B) A = if fits (merL A B).rows then merL A B else Sk.no := rfl
theorem errM_a {A B : Sk} (h : checkS A ≠ 0) : errM A B = checkS A ∧ merM A B = Sk.no := by
  have e : errM A B = checkS A := by unfold errM; rw [if_pos h]
  exact ⟨e, by unfold merM; rw [if_neg (by rw [e]; exact h)]⟩
theorem errM_b {A B : Sk} (ha : checkS A = 0) (h : checkS B ≠ 0) : errM A B = checkS B ∧ merM A B = Sk.no := by
  have e : errM A B = checkS B := by unfold errM; rw [if_neg (by simpa using ha), if_pos h]
  exact ⟨e, by unfold merM; rw [if_neg (by rw [e]; exact h)]⟩
theorem errM_k {A B : Sk} (ha : checkS A = 0) (hb : checkS B = 0) (h : A.rows.length ≠ B.rows.length ∨ A.wide ≠ B.wide) : errM A B = 7 ∧ merM A B = Sk.no := by
  have e : errM A B = 7 := by unfold errM; rw [if_neg (by simpa using ha), if_neg (by simpa using hb), if_pos h]
  exact ⟨e, by unfold merM; rw [e]; rfl⟩
theorem errM_chg {A B : Sk} (ha : checkS A = 0) (hb : checkS B = 0) (h1 : A.rows.length = B.rows.length) (h2 : A.wide = B.wide) : errM A B = chgE (merF B) A ∧ merM A B = chgM (merF B) A := by
  have e : errM A B = chgE (merF B) A := by unfold errM; rw [if_neg (by simpa using ha), if_neg (by simpa using hb), if_neg (by simp [h1, h2]), chgE_mer]
  refine ⟨e, ?_⟩
  unfold merM
  rw [e, chgE_mer, chgM_mer]
  by_cases hf : fits (merL A B).rows
  · rw [if_pos hf, if_pos hf]; rfl
  · rw [if_neg hf, if_neg hf]; rfl

/-- The boxes of Merge: the sketches in blocks n and n + 1, the result in block n + 2. -/
def SM (n : Nat) (S : Sk) (A : Option Addr) (c : Nat) (T : Sk) (B : Option Addr) (d : Nat) (w : World) : Prop :=
  w.cell? ⟨n, 0, none⟩ = some (.int .i64 S.wide) ∧ w.cell? ⟨n, 1, none⟩ = some (.slice A S.rows.length c) ∧ w.cell? ⟨n + 1, 0, none⟩ = some (.int .i64 T.wide) ∧ w.cell? ⟨n + 1, 1, none⟩ = some (.slice B T.rows.length d) ∧ Wr w (n + 1 + 1) ∧ n + 3 ≤ w.heap.size
theorem SM.next {n : Nat} {S : Sk} {A : Option Addr} {c : Nat} {T : Sk} {B : Option Addr} {d : Nat} {w w' : World} {N : Nat} (h : SM n S A c T B d w) (hN : n + 3 ≤ N) (hb : Below N w w') : SM n S A c T B d w' :=
  ⟨(hb.cell (by show n < N; omega)).trans h.1, (hb.cell (by show n < N; omega)).trans h.2.1, (hb.cell (by show n + 1 < N; omega)).trans h.2.2.1, (hb.cell (by show n + 1 < N; omega)).trans h.2.2.2.1, h.2.2.2.2.1.below hb (by omega), Nat.le_trans h.2.2.2.2.2 hb.size⟩
theorem SM.new (S : Sk) (A : Option Addr) (c : Nat) (T : Sk) (B : Option Addr) (d : Nat) (w : World) :
    SM w.heap.size S A c T B d (((w.alloc (so S A c)).alloc (so T B d)).alloc (.cells #[.int .i64 0, .slice none 0 0] 24)) := by
  refine ⟨by simp [go_sem], by simp [go_sem], by simp [go_sem], by simp [go_sem], ?_, by simp⟩
  have := Wr.new ((w.alloc (so S A c)).alloc (so T B d)) _ rfl
  simpa using this

set_option maxHeartbeats 4000000 in
theorem merge_any (B C : Nat) (S T : Sk) (A A' : Option Addr) (c d : Nat) (w : World) (ha : Grid B w A c S.rows) (hb : Grid C w A' d T.rows) :
    Calls Try.prog 6 #[sv S A c, sv T A' d] w (SkR (merM S T) (errM S T) w) := by
  have hS := SM.new S A c T A' d w
  have h1 : Below w.heap.size w (((w.alloc (so S A c)).alloc (so T A' d)).alloc (.cells #[.int .i64 0, .slice none 0 0] 24)) := (((Below.refl _ w).alloc (Nat.le_refl _) (so S A c)).alloc (by simp) _).alloc (by simp; omega) _
  have HS := Lib.hid hS
  have H1 := Lib.hid h1
  clear hS h1
  have hmf : ∀ (fn : Fn) (first cap : Array Value) (w : World), (Instr.makeFunc fn first cap).run Try.prog w = .ok (.func fn first cap) w := fun _ _ _ _ => rfl
  by_cases e1 : checkS S = 0
  · have HE1 := Lib.hid e1
    by_cases e2 : checkS T = 0
    · have HE2 := Lib.hid e2
      have HGS := Lib.hid (good_of e1)
      have HGT := Lib.hid (good_of e2)
      by_cases k1 : S.rows.length = T.rows.length
      · have q1 : ((S.rows.length : Int) != (T.rows.length : Int)) = false := by simp [k1]
        have HK1 := Lib.hid k1
        by_cases k2 : S.wide = T.wide
        · have q2 : (S.wide != T.wide) = false := by simp [k2]
          have HK2 := Lib.hid k2
          have HE := Lib.hid (errM_chg e1 e2 k1 k2)
          clear e1 e2 k1 k2
          go_enter Try.func6, Try.ntmps6
          go_wp2_with fail
          refine (check_any B S A c _ (ha.below H1.out)).mono ?_
          rintro e w1 ⟨rfl, hb1⟩
          rw [HE1.out]
          have hS1 := HS.out.next HS.out.2.2.2.2.2 hb1
          have HB1 := Lib.hid (H1.out.trans (hb1.mono H1.out.size))
          clear hb1
          have HS1 := Lib.hid hS1
          obtain ⟨x0, x1, y0, y1, ⟨r0, r1, f0, f1⟩, hz⟩ := hS1
          go_wp2_with fail
          refine (check_any C T A' d _ (hb.below HB1.out)).mono ?_
          rintro e w2 ⟨rfl, hb2⟩
          rw [HE2.out]
          have hS2 := HS1.out.next HS1.out.2.2.2.2.2 hb2
          have HB2 := Lib.hid (HB1.out.trans (hb2.mono HB1.out.size))
          clear hb2 x0 x1 y0 y1 r0 r1 f0 f1 hz
          have HS2 := Lib.hid hS2
          obtain ⟨x0, x1, y0, y1, ⟨r0, r1, f0, f1⟩, hz⟩ := hS2
          go_wp2_with fail
          refine (changed_any B S A c _ (ha.below HB2.out) HGS.out.toFine 22 _ (merF T) enters_merge (merge_clo C S T A' d _ _ HGS.out.toFine HGT.out.toFine HK1.out HK2.out (hb.below HB2.out) (by omega) y1)).mono ?_
          rintro e w3 ⟨A3, c3, rfl, hg3, hb3⟩
          have hz3 : w.heap.size + 3 ≤ w2.heap.size := hz
          have hS3 := HS2.out.next hz3 hb3
          have HB3 := Lib.hid (HB2.out.trans (hb3.mono (by omega)))
          have HG3 := Lib.hid (hg3.mono hz3)
          clear hb3 hg3 x0 x1 y0 y1 r0 r1 f0 f1 hz3
          obtain ⟨x0, x1, y0, y1, ⟨r0, r1, f0, f1⟩, hz'⟩ := hS3
          generalize chgM (merF T) S = U at *
          generalize chgE (merF T) S = E at *
          go_wp2
          refine bodyPost_ret (v := .tuple #[sv U A3 c3, .int .i64 E]) (by simp [results, Try.results6, go_sem, r0, r1]) rfl ?_
          rw [HE.out.1, HE.out.2]
          exact ⟨A3, c3, rfl, Grid.mono (B := w.heap.size + 3) ((HG3.out.setCell (p := ⟨w.heap.size + 1 + 1, 0, none⟩) (by show w.heap.size + 1 + 1 < w.heap.size + 3; omega) _).setCell (p := ⟨w.heap.size + 1 + 1, 1, none⟩) (by show w.heap.size + 1 + 1 < w.heap.size + 3; omega) _) (by omega),
            (HB3.out.setCell (p := ⟨w.heap.size + 1 + 1, 0, none⟩) (by show w.heap.size ≤ w.heap.size + 1 + 1; omega) _).setCell (p := ⟨w.heap.size + 1 + 1, 1, none⟩) (by show w.heap.size ≤ w.heap.size + 1 + 1; omega) _⟩
        · have q2 : (S.wide != T.wide) = true := by simp [k2]
          have HE := Lib.hid (errM_k e1 e2 (.inr k2))
          clear e1 e2 k1 k2
          go_enter Try.func6, Try.ntmps6
          go_wp2_with fail
          refine (check_any B S A c _ (ha.below H1.out)).mono ?_
          rintro e w1 ⟨rfl, hb1⟩
          rw [HE1.out]
          have hS1 := HS.out.next HS.out.2.2.2.2.2 hb1
          have HB1 := Lib.hid (H1.out.trans (hb1.mono H1.out.size))
          clear hb1
          have HS1 := Lib.hid hS1
          obtain ⟨x0, x1, y0, y1, ⟨r0, r1, f0, f1⟩, hz⟩ := hS1
          go_wp2_with fail
          refine (check_any C T A' d _ (hb.below HB1.out)).mono ?_
          rintro e w2 ⟨rfl, hb2⟩
          rw [HE2.out]
          have hS2 := HS1.out.next HS1.out.2.2.2.2.2 hb2
          have HB2 := Lib.hid (HB1.out.trans (hb2.mono HB1.out.size))
          clear hb2 x0 x1 y0 y1 r0 r1 f0 f1 hz
          obtain ⟨x0, x1, y0, y1, ⟨r0, r1, f0, f1⟩, hz⟩ := hS2
          go_wp2
          refine bodyPost_ret (v := .tuple #[.agg #[.int .i64 0, .slice none 0 0], .int .i64 7]) (by simp [results, Try.results6, go_sem, r0, r1]) rfl ?_
          rw [HE.out.1, HE.out.2]
          exact ⟨none, 0, rfl, Grid.none_ _ _, (HB2.out.setCell (p := ⟨w.heap.size + 1 + 1, 0, none⟩) (by show w.heap.size ≤ w.heap.size + 1 + 1; omega) _).setCell (p := ⟨w.heap.size + 1 + 1, 1, none⟩) (by show w.heap.size ≤ w.heap.size + 1 + 1; omega) _⟩
      · have q1 : ((S.rows.length : Int) != (T.rows.length : Int)) = true := bd_ne (by omega)
        have HE := Lib.hid (errM_k e1 e2 (.inl k1))
        clear e1 e2 k1
        go_enter Try.func6, Try.ntmps6
        go_wp2_with fail
        refine (check_any B S A c _ (ha.below H1.out)).mono ?_
        rintro e w1 ⟨rfl, hb1⟩
        rw [HE1.out]
        have hS1 := HS.out.next HS.out.2.2.2.2.2 hb1
        have HB1 := Lib.hid (H1.out.trans (hb1.mono H1.out.size))
        clear hb1
        have HS1 := Lib.hid hS1
        obtain ⟨x0, x1, y0, y1, ⟨r0, r1, f0, f1⟩, hz⟩ := hS1
        go_wp2_with fail
        refine (check_any C T A' d _ (hb.below HB1.out)).mono ?_
        rintro e w2 ⟨rfl, hb2⟩
        rw [HE2.out]
        have hS2 := HS1.out.next HS1.out.2.2.2.2.2 hb2
        have HB2 := Lib.hid (HB1.out.trans (hb2.mono HB1.out.size))
        clear hb2 x0 x1 y0 y1 r0 r1 f0 f1 hz
        obtain ⟨x0, x1, y0, y1, ⟨r0, r1, f0, f1⟩, hz⟩ := hS2
        go_wp2
        refine bodyPost_ret (v := .tuple #[.agg #[.int .i64 0, .slice none 0 0], .int .i64 7]) (by simp [results, Try.results6, go_sem, r0, r1]) rfl ?_
        rw [HE.out.1, HE.out.2]
        exact ⟨none, 0, rfl, Grid.none_ _ _, (HB2.out.setCell (p := ⟨w.heap.size + 1 + 1, 0, none⟩) (by show w.heap.size ≤ w.heap.size + 1 + 1; omega) _).setCell (p := ⟨w.heap.size + 1 + 1, 1, none⟩) (by show w.heap.size ≤ w.heap.size + 1 + 1; omega) _⟩
    · have hq := bd_ne e2
      have HE := Lib.hid (errM_b e1 e2)
      clear e1 e2
      go_enter Try.func6, Try.ntmps6
      go_wp2_with fail
      refine (check_any B S A c _ (ha.below H1.out)).mono ?_
      rintro e w1 ⟨rfl, hb1⟩
      rw [HE1.out]
      have hS1 := HS.out.next HS.out.2.2.2.2.2 hb1
      have HB1 := Lib.hid (H1.out.trans (hb1.mono H1.out.size))
      clear hb1
      have HS1 := Lib.hid hS1
      obtain ⟨x0, x1, y0, y1, ⟨r0, r1, f0, f1⟩, hz⟩ := hS1
      go_wp2_with fail
      refine (check_any C T A' d _ (hb.below HB1.out)).mono ?_
      rintro e w2 ⟨rfl, hb2⟩
      have hS2 := HS1.out.next HS1.out.2.2.2.2.2 hb2
      have HB2 := Lib.hid (HB1.out.trans (hb2.mono HB1.out.size))
      clear hb2 x0 x1 y0 y1 r0 r1 f0 f1 hz
      obtain ⟨x0, x1, y0, y1, ⟨r0, r1, f0, f1⟩, hz⟩ := hS2
      go_wp2
      refine bodyPost_ret (v := .tuple #[.agg #[.int .i64 0, .slice none 0 0], .int .i64 (checkS T)]) (by simp [results, Try.results6, go_sem, r0, r1]) rfl ?_
      rw [HE.out.1, HE.out.2]
      exact ⟨none, 0, rfl, Grid.none_ _ _, (HB2.out.setCell (p := ⟨w.heap.size + 1 + 1, 0, none⟩) (by show w.heap.size ≤ w.heap.size + 1 + 1; omega) _).setCell (p := ⟨w.heap.size + 1 + 1, 1, none⟩) (by show w.heap.size ≤ w.heap.size + 1 + 1; omega) _⟩
  · have hq := bd_ne e1
    have HE := Lib.hid (errM_a (B := T) e1)
    clear e1
    go_enter Try.func6, Try.ntmps6
    go_wp2_with fail
    refine (check_any B S A c _ (ha.below H1.out)).mono ?_
    rintro e w1 ⟨rfl, hb1⟩
    have hS1 := HS.out.next HS.out.2.2.2.2.2 hb1
    have HB1 := Lib.hid (H1.out.trans (hb1.mono H1.out.size))
    clear hb1
    obtain ⟨x0, x1, y0, y1, ⟨r0, r1, f0, f1⟩, hz⟩ := hS1
    go_wp2
    refine bodyPost_ret (v := .tuple #[.agg #[.int .i64 0, .slice none 0 0], .int .i64 (checkS S)]) (by simp [results, Try.results6, go_sem, r0, r1]) rfl ?_
    rw [HE.out.1, HE.out.2]
    exact ⟨none, 0, rfl, Grid.none_ _ _, (HB1.out.setCell (p := ⟨w.heap.size + 1 + 1, 0, none⟩) (by show w.heap.size ≤ w.heap.size + 1 + 1; omega) _).setCell (p := ⟨w.heap.size + 1 + 1, 1, none⟩) (by show w.heap.size ≤ w.heap.size + 1 + 1; omega) _⟩

/-! ### Halve -/
theorem hal_chg {S : Sk} (g : Fine S) : chgE halF S = 0 ∧ chgM halF S = halL S := by
  have hf : fits (chg halF S.rows) := hal_fits g
  exact ⟨by unfold chgE; rw [if_pos hf], by unfold chgM; rw [if_pos hf]; rfl⟩
theorem hal_summed {S : Sk} (g : Fine S) : Summed (halL S).rows := fun i hi => by
  have hl : (halL S).rows.length = S.rows.length := chg_len _ _
  rw [hl] at hi
  have e : (gl (halL S).rows i).length = (gl S.rows i).length := len_gl_chg halF S.rows i
  refine ⟨fun j hj => ?_, by rw [e]; exact (g.summed i hi).2⟩
  rw [e] at hj
  show 0 ≤ gi (gl (chg halF S.rows) i) j ∧ gi (gl (chg halF S.rows) i) j ≤ _
  rw [gi_chg _ _ hj]
  have := g.bd i hi j hj
  unfold halF; omega
theorem errH_c {S : Sk} (h : checkS S ≠ 0) : errH S = checkS S ∧ halM S = Sk.no := by
  have e : errH S = checkS S := by unfold errH; rw [if_pos h]
  exact ⟨e, by unfold halM; rw [if_neg (by rw [e]; exact h)]⟩
theorem errH_y {S : Sk} (h : checkS S = 0) (he : evenS (halL S).rows) : errH S = 0 ∧ halM S = halL S := by
  have e : errH S = 0 := by unfold errH; rw [if_neg (by simpa using h), if_pos he]
  exact ⟨e, by unfold halM; rw [if_pos e]⟩
theorem errH_n {S : Sk} (h : checkS S = 0) (he : ¬ evenS (halL S).rows) : errH S = 4 ∧ halM S = Sk.no := by
  have e : errH S = 4 := by unfold errH; rw [if_neg (by simpa using h), if_neg he]
  exact ⟨e, by unfold halM; rw [e]; rfl⟩

/-- The boxes of Halve: the sketch in block n, the result in block n + 1. -/
def SH (n : Nat) (S : Sk) (A : Option Addr) (c : Nat) (w : World) : Prop :=
  w.cell? ⟨n, 0, none⟩ = some (.int .i64 S.wide) ∧ w.cell? ⟨n, 1, none⟩ = some (.slice A S.rows.length c) ∧ Wr w (n + 1) ∧ n + 2 ≤ w.heap.size
theorem SH.next {n : Nat} {S : Sk} {A : Option Addr} {c : Nat} {w w' : World} {N : Nat} (h : SH n S A c w) (hN : n + 2 ≤ N) (hb : Below N w w') : SH n S A c w' :=
  ⟨(hb.cell (by show n < N; omega)).trans h.1, (hb.cell (by show n < N; omega)).trans h.2.1, h.2.2.1.below hb (by omega), Nat.le_trans h.2.2.2 hb.size⟩
theorem SH.new (S : Sk) (A : Option Addr) (c : Nat) (w : World) :
    SH w.heap.size S A c ((w.alloc (so S A c)).alloc (.cells #[.int .i64 0, .slice none 0 0] 24)) := by
  refine ⟨by simp [go_sem], by simp [go_sem], ?_, by simp⟩
  have := Wr.new (w.alloc (so S A c)) _ rfl
  simpa using this

set_option maxHeartbeats 4000000 in
theorem halve_any (B : Nat) (S : Sk) (A : Option Addr) (c : Nat) (w : World) (ha : Grid B w A c S.rows) :
    Calls Try.prog 7 #[sv S A c] w (SkR (halM S) (errH S) w) := by
  have hS := SH.new S A c w
  have h1 : Below w.heap.size w ((w.alloc (so S A c)).alloc (.cells #[.int .i64 0, .slice none 0 0] 24)) := ((Below.refl _ w).alloc (Nat.le_refl _) (so S A c)).alloc (by simp) _
  have HS := Lib.hid hS
  have H1 := Lib.hid h1
  clear hS h1
  by_cases e1 : checkS S = 0
  · have HE1 := Lib.hid e1
    have HGS := Lib.hid (good_of e1)
    have HC := Lib.hid (hal_chg (good_of e1).toFine)
    clear e1
    go_enter Try.func7, Try.ntmps7
    go_wp2_with fail
    refine (check_any B S A c _ (ha.below H1.out)).mono ?_
    rintro e w1 ⟨rfl, hb1⟩
    rw [HE1.out]
    have hS1 := HS.out.next HS.out.2.2.2 hb1
    have HB1 := Lib.hid (H1.out.trans (hb1.mono H1.out.size))
    clear hb1
    have HS1 := Lib.hid hS1
    obtain ⟨x0, x1, ⟨r0, r1, f0, f1⟩, hz⟩ := hS1
    go_wp2_with fail
    refine (changed_any B S A c _ (ha.below HB1.out) HGS.out.toFine 23 _ halF enters_halve (halve_clo S _ HGS.out.toFine)).mono ?_
    rintro e w3 ⟨A3, c3, rfl, hg3, hb3⟩
    rw [HC.out.1]
    rw [HC.out.2] at hg3 ⊢
    have hz3 : w.heap.size + 2 ≤ w1.heap.size := hz
    have hS3 := (HS1.out.next hz3 hb3)
    have hS4 := hS3.next (N := w3.heap.size) hS3.2.2.2 ((Below.refl _ _).alloc (Nat.le_refl _) (so (halL S) A3 c3))
    have HB3 := Lib.hid (bel_al (HB1.out.trans (hb3.mono (by omega))) (Nat.le_refl _) (so (halL S) A3 c3))
    have HG3 := Lib.hid ((hg3.mono hz3).alloc (so (halL S) A3 c3))
    have z0 : (w3.alloc (so (halL S) A3 c3)).cell? ⟨w3.heap.size, 0, none⟩ = some (.int .i64 (halL S).wide) := by simp [go_sem]
    have z1 : (w3.alloc (so (halL S) A3 c3)).cell? ⟨w3.heap.size, 1, none⟩ = some (.slice A3 (halL S).rows.length c3) := by simp [go_sem]
    have z2 : w3.heap.size < (w3.alloc (so (halL S) A3 c3)).heap.size := by simp
    clear hb3 hg3 x0 x1 r0 r1 f0 f1 hz3 hS3
    have HS4 := Lib.hid hS4
    obtain ⟨x0, x1, ⟨r0, r1, f0, f1⟩, hz'⟩ := hS4
    by_cases he : evenS (halL S).rows
    · have qe : decide (evenS (halL S).rows) = true := by simpa using he
      have HE := Lib.hid (errH_y HE1.out he)
      clear he
      have HSu := Lib.hid (hal_summed HGS.out.toFine)
      generalize halL S = T at *
      go_wp2_with fail
      refine (sameSums_any _ A3 c3 T.rows _ HG3.out HSu.out).mono ?_
      rintro e w5 ⟨rfl, hb5⟩
      rw [qe]
      have hS5 := HS4.out.next HS4.out.2.2.2 hb5
      have HB5 := Lib.hid (HB3.out.trans (hb5.mono HB3.out.size))
      have HG5 := Lib.hid (HG3.out.below hb5)
      have z3 := (hb5.cell (p := ⟨w3.heap.size, 0, none⟩) z2).trans z0
      have z4 := (hb5.cell (p := ⟨w3.heap.size, 1, none⟩) z2).trans z1
      clear hb5 x0 x1 r0 r1 f0 f1 z0 z1
      obtain ⟨x0, x1, ⟨r0, r1, f0, f1⟩, hz''⟩ := hS5
      go_wp2
      refine bodyPost_ret (v := .tuple #[sv T A3 c3, .int .i64 0]) (by simp [results, Try.results7, go_sem, r0, r1]) rfl ?_
      rw [HE.out.1, HE.out.2]
      exact ⟨A3, c3, rfl, Grid.mono (B := w.heap.size + 2) ((HG5.out.setCell (p := ⟨w.heap.size + 1, 0, none⟩) (by show w.heap.size + 1 < w.heap.size + 2; omega) _).setCell (p := ⟨w.heap.size + 1, 1, none⟩) (by show w.heap.size + 1 < w.heap.size + 2; omega) _) (by omega),
        (HB5.out.setCell (p := ⟨w.heap.size + 1, 0, none⟩) (by show w.heap.size ≤ w.heap.size + 1; omega) _).setCell (p := ⟨w.heap.size + 1, 1, none⟩) (by show w.heap.size ≤ w.heap.size + 1; omega) _⟩
    · have qe : decide (evenS (halL S).rows) = false := by simpa using he
      have HE := Lib.hid (errH_n HE1.out he)
      clear he
      have HSu := Lib.hid (hal_summed HGS.out.toFine)
      generalize halL S = T at *
      go_wp2_with fail
      refine (sameSums_any _ A3 c3 T.rows _ HG3.out HSu.out).mono ?_
      rintro e w5 ⟨rfl, hb5⟩
      rw [qe]
      have hS5 := HS4.out.next HS4.out.2.2.2 hb5
      have HB5 := Lib.hid (HB3.out.trans (hb5.mono HB3.out.size))
      clear hb5 x0 x1 r0 r1 f0 f1 z0 z1
      obtain ⟨x0, x1, ⟨r0, r1, f0, f1⟩, hz''⟩ := hS5
      go_wp2
      refine bodyPost_ret (v := .tuple #[.agg #[.int .i64 0, .slice none 0 0], .int .i64 4]) (by simp [results, Try.results7, go_sem, r0, r1]) rfl ?_
      rw [HE.out.1, HE.out.2]
      exact ⟨none, 0, rfl, Grid.none_ _ _, (HB5.out.setCell (p := ⟨w.heap.size + 1, 0, none⟩) (by show w.heap.size ≤ w.heap.size + 1; omega) _).setCell (p := ⟨w.heap.size + 1, 1, none⟩) (by show w.heap.size ≤ w.heap.size + 1; omega) _⟩
  · have hq := bd_ne e1
    have HE := Lib.hid (errH_c e1)
    clear e1
    go_enter Try.func7, Try.ntmps7
    go_wp2_with fail
    refine (check_any B S A c _ (ha.below H1.out)).mono ?_
    rintro e w1 ⟨rfl, hb1⟩
    have hS1 := HS.out.next HS.out.2.2.2 hb1
    have HB1 := Lib.hid (H1.out.trans (hb1.mono H1.out.size))
    clear hb1
    obtain ⟨x0, x1, ⟨r0, r1, f0, f1⟩, hz⟩ := hS1
    go_wp2
    refine bodyPost_ret (v := .tuple #[.agg #[.int .i64 0, .slice none 0 0], .int .i64 (checkS S)]) (by simp [results, Try.results7, go_sem, r0, r1]) rfl ?_
    rw [HE.out.1, HE.out.2]
    exact ⟨none, 0, rfl, Grid.none_ _ _, (HB1.out.setCell (p := ⟨w.heap.size + 1, 0, none⟩) (by show w.heap.size ≤ w.heap.size + 1; omega) _).setCell (p := ⟨w.heap.size + 1, 1, none⟩) (by show w.heap.size ≤ w.heap.size + 1; omega) _⟩

end Go.Proofs.Ytmjoiakggckeoaa.Skt
