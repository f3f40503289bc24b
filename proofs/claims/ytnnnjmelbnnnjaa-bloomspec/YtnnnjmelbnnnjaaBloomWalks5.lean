/-
  What Union and Fold of package bloom return.
-/
import Derived.Test.YtnnnjmelbnnnjaaBloomWalks4
namespace Go.Proofs.Ytnnnjmelbnnnjaa
open Go.RowKit Go.Shelf
set_option linter.unusedVariables false

/-- A result of the filter's type lies in block m and can be written; all below it stands. -/
def RB (m : Nat) (w0 w' : World) : Prop :=
  w'.cell? ⟨m, 0, none⟩ = some (rd w' m 0) ∧ w'.cell? ⟨m, 1, none⟩ = some (rd w' m 1) ∧ w'.cell? ⟨m, 2, none⟩ = some (rd w' m 2) ∧
  w'.frozen? ⟨m, 0, none⟩ = false ∧ w'.frozen? ⟨m, 1, none⟩ = false ∧ w'.frozen? ⟨m, 2, none⟩ = false ∧ m + 1 ≤ w'.heap.size ∧ Below m w0 w'
theorem RB.next {m : Nat} {w0 w' w'' : World} {N : Nat} (h : RB m w0 w') (hN : m + 1 ≤ N) (hb : Below N w' w'') : RB m w0 w'' := by
  obtain ⟨a4, a5, a6, a7, a8, a9, hz, h4⟩ := h
  exact ⟨rd_below a4 hb (by omega), rd_below a5 hb (by omega), rd_below a6 hb (by omega),
    (hb.frozen (by show m < N; omega)).trans a7, (hb.frozen (by show m < N; omega)).trans a8, (hb.frozen (by show m < N; omega)).trans a9, Nat.le_trans hz hb.size, h4.trans (hb.mono (by omega))⟩
theorem RB.size {m : Nat} {w0 w' : World} (h : RB m w0 w') : m + 1 ≤ w'.heap.size := h.2.2.2.2.2.2.1
theorem RB.bel {m : Nat} {w0 w' : World} (h : RB m w0 w') : Below m w0 w' := h.2.2.2.2.2.2.2
theorem RB.new (w : World) : RB w.heap.size (w.alloc (.cells #[.int .i64 0, .int .i64 0, .slice none 0 0] 24)) (w.alloc (.cells #[.int .i64 0, .int .i64 0, .slice none 0 0] 24)) :=
  ⟨rd_of ⟨.int .i64 0, by simp [go_sem]⟩, rd_of ⟨.int .i64 0, by simp [go_sem]⟩, rd_of ⟨.slice none 0 0, by simp [go_sem]⟩, by simp [go_sem], by simp [go_sem], by simp [go_sem], by simp, Below.refl _ _⟩
theorem RB.put {m n : Nat} {G : Fl} {A' : Option Addr} {c' : Nat} {w w0 wk : World} (h : RB m w0 wk) (hn : n ≤ m) (H1 : Below n w w0) (hi : Ints wk A' c' G.set) (hne : ∀ a, A' = some a → m + 1 ≤ a.block) (u0 u1 u2 : Value) :
    Ints (((wk.setCell ⟨m, 0, none⟩ u0).setCell ⟨m, 1, none⟩ u1).setCell ⟨m, 2, none⟩ u2) A' c' G.set ∧ Below n w (((wk.setCell ⟨m, 0, none⟩ u0).setCell ⟨m, 1, none⟩ u1).setCell ⟨m, 2, none⟩ u2) := by
  have hq : ∀ a, A' = some a → a.block ≠ m := fun a ha => by have := hne a ha; omega
  exact ⟨((hi.setCell hq _).setCell hq _).setCell hq _, (((H1.trans (h.bel.mono hn)).setCell (p := ⟨m, 0, none⟩) hn _).setCell (p := ⟨m, 1, none⟩) hn _).setCell (p := ⟨m, 2, none⟩) hn _⟩

abbrev z3 : Obj := .cells #[.int .i64 0, .int .i64 0, .slice none 0 0] 24

set_option maxHeartbeats 2000000 in
theorem union_any (F G : Fl) (A B : Option Addr) (c d : Nat) (w : World) (ha : Ints w A c F.set) (hb : Ints w B d G.set) :
    Calls Try.prog 10 #[fv F A c, fv G B d] w (FltR (uniM F G) (errU F G) w) := by
  have H1 : Below w.heap.size w (((w.alloc (fo F A c)).alloc (fo G B d)).alloc z3) := (((Below.refl _ w).alloc (Nat.le_refl _) (fo F A c)).alloc (by simp) _).alloc (by simp; omega) _
  have hR : RB (w.heap.size + 2) (((w.alloc (fo F A c)).alloc (fo G B d)).alloc z3) (((w.alloc (fo F A c)).alloc (fo G B d)).alloc z3) := by
    have h := RB.new ((w.alloc (fo F A c)).alloc (fo G B d))
    have e : ((w.alloc (fo F A c)).alloc (fo G B d)).heap.size = w.heap.size + 2 := by simp
    rwa [e] at h
  have hc : ∀ W, Below (w.heap.size + 2) (((w.alloc (fo F A c)).alloc (fo G B d)).alloc z3) W → (W.cell? ⟨w.heap.size, 0, none⟩ = some (.int .i64 F.size) ∧ W.cell? ⟨w.heap.size, 1, none⟩ = some (.int .i64 F.hashes) ∧ W.cell? ⟨w.heap.size, 2, none⟩ = some (.slice A F.set.length c)) ∧
      (W.cell? ⟨w.heap.size + 1, 0, none⟩ = some (.int .i64 G.size) ∧ W.cell? ⟨w.heap.size + 1, 1, none⟩ = some (.int .i64 G.hashes) ∧ W.cell? ⟨w.heap.size + 1, 2, none⟩ = some (.slice B G.set.length d)) := fun W h =>
    ⟨⟨(h.cell (by show w.heap.size < w.heap.size + 2; omega)).trans (by simp [go_sem]), (h.cell (by show w.heap.size < w.heap.size + 2; omega)).trans (by simp [go_sem]), (h.cell (by show w.heap.size < w.heap.size + 2; omega)).trans (by simp [go_sem])⟩,
      ⟨(h.cell (by show w.heap.size + 1 < w.heap.size + 2; omega)).trans (by simp [go_sem]), (h.cell (by show w.heap.size + 1 < w.heap.size + 2; omega)).trans (by simp [go_sem]), (h.cell (by show w.heap.size + 1 < w.heap.size + 2; omega)).trans (by simp [go_sem])⟩⟩
  have HH1 := Lib.hid H1
  have HR := Lib.hid hR
  have HCC := Lib.hid hc
  clear H1 hR hc
  by_cases hF : checkF F = 0
  · have HF := Lib.hid hF
    by_cases hG : checkF G = 0
    · have HG := Lib.hid hG
      by_cases hk : F.size = G.size ∧ F.hashes = G.hashes
      · have HE : Hid (errU F G = 0 ∧ uniM F G = uniL F G) := Lib.hid (by
          have e : errU F G = 0 := by unfold errU; rw [if_pos hF, if_pos hG, if_pos hk]
          exact ⟨e, by unfold uniM; rw [if_pos e]⟩)
        have q1 : (F.size != G.size) = false := by simp [hk.1]
        have q2 : (F.hashes != G.hashes) = false := by simp [hk.2]
        have hl1 : F.set.length ≤ 1024 := by have g := good_of hF; have := g.len; have := g.s2; omega
        have hl2 : G.set.length ≤ 1024 := by have g := good_of hG; have := g.len; have := g.s2; omega
        clear hk hF hG
        go_enter Try.func10, Try.ntmps10
        go_wp2_with fail
        refine (check_any F A c _ (ha.below HH1.out)).mono ?_
        rintro e w1 ⟨rfl, hb1⟩
        rw [HF.out]
        have R1 := RB.next HR.out (RB.size HR.out) hb1
        obtain ⟨⟨x0, x1, x2⟩, ⟨y0, y1, y2⟩⟩ := HCC.out w1 R1.bel
        have hB1 := hb.below (HH1.out.trans (R1.bel.mono (by omega)))
        clear hb1
        go_wp2_with fail
        refine (check_any G B d _ hB1).mono ?_
        rintro e w2 ⟨rfl, hb2⟩
        rw [HG.out]
        clear x0 x1 x2 y0 y1 y2 hB1
        have R2 := RB.next R1 R1.size hb2
        obtain ⟨⟨x0, x1, x2⟩, ⟨y0, y1, y2⟩⟩ := HCC.out w2 R2.bel
        have hB2 := hb.below (HH1.out.trans (R2.bel.mono (by omega)))
        have hA2 := ha.below (HH1.out.trans (R2.bel.mono (by omega)))
        clear hb2 R1
        go_wp2_with fail
        refine (withBits_any F A B c d _ _ hA2 hB2 hl1 hl2).mono ?_
        rintro e w3 ⟨A3, c3, rfl, hi3, hf3, hb3⟩
        have R3 := RB.next R2 R2.size hb3
        have hz2 := R2.size
        have HP := Lib.hid (RB.put (G := uniL F G) R3 (by omega) HH1.out hi3 (fun a h => by have := hf3 a h; omega) (.int .i64 F.size) (.int .i64 F.hashes) (.slice A3 (ord (F.set ++ G.set)).length c3))
        clear hb3 R2 x0 x1 x2 y0 y1 y2 hA2 hB2
        obtain ⟨r0, r1, r2, f0, f1, f2, hz, _⟩ := R3
        go_wp2
        refine bodyPost_ret (v := .tuple #[fv (uniL F G) A3 c3, .int .i64 0]) (by simp [results, Try.results10, go_sem, r0, r1, r2]; exact ⟨rfl, rfl, rfl⟩) rfl ?_
        rw [HE.out.1, HE.out.2]
        exact ⟨A3, c3, rfl, HP.out.1, fun a h => by have := hf3 a h; omega, HP.out.2⟩
      · have HE : Hid (errU F G = 7 ∧ uniM F G = Fl.no) := Lib.hid (by
          have e : errU F G = 7 := by unfold errU; rw [if_pos hF, if_pos hG, if_neg hk]
          exact ⟨e, by unfold uniM; rw [e]; rfl⟩)
        clear hF hG
        have key : ∀ (q1 : Bool), (F.size != G.size) = q1 → (q1 = false → (F.hashes != G.hashes) = true) → Calls Try.prog 10 #[fv F A c, fv G B d] w (FltR (uniM F G) (errU F G) w) := by
          intro q1 e1 e2
          cases q1 with
          | true =>
            clear e2
            go_enter Try.func10, Try.ntmps10
            go_wp2_with fail
            refine (check_any F A c _ (ha.below HH1.out)).mono ?_
            rintro e w1 ⟨rfl, hb1⟩
            rw [HF.out]
            have R1 := RB.next HR.out (RB.size HR.out) hb1
            obtain ⟨⟨x0, x1, x2⟩, ⟨y0, y1, y2⟩⟩ := HCC.out w1 R1.bel
            have hB1 := hb.below (HH1.out.trans (R1.bel.mono (by omega)))
            clear hb1
            go_wp2_with fail
            refine (check_any G B d _ hB1).mono ?_
            rintro e w2 ⟨rfl, hb2⟩
            rw [HG.out]
            clear x0 x1 x2 y0 y1 y2 hB1
            have R2 := RB.next R1 R1.size hb2
            obtain ⟨⟨x0, x1, x2⟩, ⟨y0, y1, y2⟩⟩ := HCC.out w2 R2.bel
            have HP := Lib.hid (RB.put (G := Fl.no) R2 (by omega) HH1.out (Ints.none_ w2) (fun a h => by cases h) (.int .i64 0) (.int .i64 0) (.slice none 0 0))
            clear hb2 R1
            obtain ⟨r0, r1, r2, f0, f1, f2, hz, _⟩ := R2
            go_wp2
            refine bodyPost_ret (v := .tuple #[fv Fl.no none 0, .int .i64 7]) (by simp [results, Try.results10, go_sem, r0, r1, r2]; exact ⟨rfl, rfl, rfl⟩) rfl ?_
            rw [HE.out.1, HE.out.2]
            exact ⟨none, 0, rfl, HP.out.1, fun a h => (by cases h), HP.out.2⟩
          | false =>
            have e2 := e2 rfl
            go_enter Try.func10, Try.ntmps10
            go_wp2_with fail
            refine (check_any F A c _ (ha.below HH1.out)).mono ?_
            rintro e w1 ⟨rfl, hb1⟩
            rw [HF.out]
            have R1 := RB.next HR.out (RB.size HR.out) hb1
            obtain ⟨⟨x0, x1, x2⟩, ⟨y0, y1, y2⟩⟩ := HCC.out w1 R1.bel
            have hB1 := hb.below (HH1.out.trans (R1.bel.mono (by omega)))
            clear hb1
            go_wp2_with fail
            refine (check_any G B d _ hB1).mono ?_
            rintro e w2 ⟨rfl, hb2⟩
            rw [HG.out]
            clear x0 x1 x2 y0 y1 y2 hB1
            have R2 := RB.next R1 R1.size hb2
            obtain ⟨⟨x0, x1, x2⟩, ⟨y0, y1, y2⟩⟩ := HCC.out w2 R2.bel
            have HP := Lib.hid (RB.put (G := Fl.no) R2 (by omega) HH1.out (Ints.none_ w2) (fun a h => by cases h) (.int .i64 0) (.int .i64 0) (.slice none 0 0))
            clear hb2 R1
            obtain ⟨r0, r1, r2, f0, f1, f2, hz, _⟩ := R2
            go_wp2
            refine bodyPost_ret (v := .tuple #[fv Fl.no none 0, .int .i64 7]) (by simp [results, Try.results10, go_sem, r0, r1, r2]; exact ⟨rfl, rfl, rfl⟩) rfl ?_
            rw [HE.out.1, HE.out.2]
            exact ⟨none, 0, rfl, HP.out.1, fun a h => (by cases h), HP.out.2⟩
        exact key _ rfl (fun h => by
          have e : F.size = G.size := by simpa using h
          exact bd_ne (fun e2 => hk ⟨e, e2⟩))
    · have HE : Hid (errU F G = checkF G ∧ uniM F G = Fl.no) := Lib.hid (by
        have e : errU F G = checkF G := by unfold errU; rw [if_pos hF, if_neg hG]
        exact ⟨e, by unfold uniM; rw [e, if_neg hG]⟩)
      have hq := bd_ne hG
      clear hF hG
      go_enter Try.func10, Try.ntmps10
      go_wp2_with fail
      refine (check_any F A c _ (ha.below HH1.out)).mono ?_
      rintro e w1 ⟨rfl, hb1⟩
      rw [HF.out]
      have R1 := RB.next HR.out (RB.size HR.out) hb1
      obtain ⟨⟨x0, x1, x2⟩, ⟨y0, y1, y2⟩⟩ := HCC.out w1 R1.bel
      have hB1 := hb.below (HH1.out.trans (R1.bel.mono (by omega)))
      clear hb1
      go_wp2_with fail
      refine (check_any G B d _ hB1).mono ?_
      rintro e w2 ⟨rfl, hb2⟩
      clear x0 x1 x2 y0 y1 y2 hB1
      have R2 := RB.next R1 R1.size hb2
      have HP := Lib.hid (RB.put (G := Fl.no) R2 (by omega) HH1.out (Ints.none_ w2) (fun a h => by cases h) (.int .i64 0) (.int .i64 0) (.slice none 0 0))
      clear hb2 R1
      obtain ⟨r0, r1, r2, f0, f1, f2, hz, _⟩ := R2
      go_wp2
      refine bodyPost_ret (v := .tuple #[fv Fl.no none 0, .int .i64 (checkF G)]) (by simp [results, Try.results10, go_sem, r0, r1, r2]; exact ⟨rfl, rfl, rfl⟩) rfl ?_
      rw [HE.out.1, HE.out.2]
      exact ⟨none, 0, rfl, HP.out.1, fun a h => (by cases h), HP.out.2⟩
  · have HE : Hid (errU F G = checkF F ∧ uniM F G = Fl.no) := Lib.hid (by
      have e : errU F G = checkF F := by unfold errU; rw [if_neg hF]
      exact ⟨e, by unfold uniM; rw [e, if_neg hF]⟩)
    have hq := bd_ne hF
    clear hF
    go_enter Try.func10, Try.ntmps10
    go_wp2_with fail
    refine (check_any F A c _ (ha.below HH1.out)).mono ?_
    rintro e w1 ⟨rfl, hb1⟩
    have R1 := RB.next HR.out (RB.size HR.out) hb1
    have HP := Lib.hid (RB.put (G := Fl.no) R1 (by omega) HH1.out (Ints.none_ w1) (fun a h => by cases h) (.int .i64 0) (.int .i64 0) (.slice none 0 0))
    clear hb1
    obtain ⟨r0, r1, r2, f0, f1, f2, hz, _⟩ := R1
    go_wp2
    refine bodyPost_ret (v := .tuple #[fv Fl.no none 0, .int .i64 (checkF F)]) (by simp [results, Try.results10, go_sem, r0, r1, r2]; exact ⟨rfl, rfl, rfl⟩) rfl ?_
    rw [HE.out.1, HE.out.2]
    exact ⟨none, 0, rfl, HP.out.1, fun a h => (by cases h), HP.out.2⟩

end Go.Proofs.Ytnnnjmelbnnnjaa
