/-
  What New and Next of package wheel return; a result of type Wheel in memory.
-/
import Derived.Test.YteldnohdijcbpaaWheelCheck2
import Derived.Test.YteldnohdijcbpaaWheelApiM
namespace Go.Proofs.Yteldnohdijcbpaa.Whl
open Go.RowKit Go.Maps
set_option linter.unusedVariables false

/-- What a block holds at a place (whatever it is). -/
def rd (w : World) (m j : Nat) : Value := (w.cell? ⟨m, j, none⟩).getD (.int .i64 0)
theorem rd_of {w : World} {m j : Nat} {v : Value} (h : w.cell? ⟨m, j, none⟩ = some v) : w.cell? ⟨m, j, none⟩ = some (rd w m j) := by unfold rd; rw [h]; rfl
abbrev zo : Obj := .cells #[.int .i64 0, .slice none 0 0] 24
/-- Block m holds a result: two cells that may be written. -/
abbrev RS (m : Nat) (w0 w' : World) : Prop :=
  w'.cell? ⟨m, 0, none⟩ = some (rd w' m 0) ∧ w'.cell? ⟨m, 1, none⟩ = some (rd w' m 1) ∧ w'.frozen? ⟨m, 0, none⟩ = false ∧ w'.frozen? ⟨m, 1, none⟩ = false ∧ m + 1 ≤ w'.heap.size ∧ Below m w0 w'
section
variable {m : Nat} {w0 w' w'' : World}
theorem RS.new (w : World) (hm : m = w.heap.size) : RS m w (w.alloc zo) := by
  subst hm
  exact ⟨rd_of (v := .int .i64 0) (by simp [go_sem]), rd_of (v := .slice none 0 0) (by simp [go_sem]), by simp [go_sem], by simp [go_sem], by simp, (Below.refl _ _).alloc (Nat.le_refl _) _⟩
theorem RS.next (h : RS m w0 w') {B : Nat} (hB : m < B) (hb : Below B w' w'') : RS m w0 w'' := by
  obtain ⟨h1, h2, h3, h4, h5, h6⟩ := h
  exact ⟨rd_of ((hb.cell (p := ⟨m, 0, none⟩) hB).trans h1), rd_of ((hb.cell (p := ⟨m, 1, none⟩) hB).trans h2), (hb.frozen (p := ⟨m, 0, none⟩) hB).trans h3, (hb.frozen (p := ⟨m, 1, none⟩) hB).trans h4, Nat.le_trans h5 hb.size, h6.trans (hb.mono (Nat.le_of_lt hB))⟩
theorem RS.drew (h : RS m w0 w') : RS m w0 w'.drew := h.next (Nat.lt_succ_self m) (Below.refl _ _).drew
theorem RS.set1 (h : RS m w0 w') (j : Nat) (u : Value) : RS m w0 (w'.setCell ⟨m, j, none⟩ u) := by
  obtain ⟨h1, h2, h3, h4, h5, h6⟩ := h
  have hb : Below m w' (w'.setCell ⟨m, j, none⟩ u) := (Below.refl _ _).setCell (p := ⟨m, j, none⟩) (Nat.le_refl _) u
  obtain ⟨v0, e0⟩ := cell?_setCell_some (p := ⟨m, j, none⟩) (x := u) h1
  obtain ⟨v1, e1⟩ := cell?_setCell_some (p := ⟨m, j, none⟩) (x := u) h2
  exact ⟨rd_of e0, rd_of e1, by simpa [go_sem] using h3, by simpa [go_sem] using h4, Nat.le_trans h5 hb.size, h6.trans hb⟩
theorem RS.size (h : RS m w0 w') : m < w'.heap.size := h.2.2.2.2.1
theorem RS.below (h : RS m w0 w') : Below m w0 w' := h.2.2.2.2.2
end
theorem below_set2 {m : Nat} {w0 w' : World} (h : Below m w0 w') (u v : Value) : Below m w0 ((w'.setCell ⟨m, 0, none⟩ u).setCell ⟨m, 1, none⟩ v) :=
  (h.setCell (p := ⟨m, 0, none⟩) (Nat.le_refl _) _).setCell (p := ⟨m, 1, none⟩) (Nat.le_refl _) _

/-- A result: a wheel and an error. -/
def WR (W : Whl) (er : Int) (w : World) (e : Ending) (w' : World) : Prop :=
  ∃ A c, e = .returned (.tuple #[wv W A c, .int .i64 er]) ∧ Grid w.heap.size w' A c W.slots ∧ Below w.heap.size w w'
theorem WR.none_ {w w' : World} {er : Int} (h : Below w.heap.size w w') : WR Whl.no er w (.returned (.tuple #[wv Whl.no none 0, .int .i64 er])) w' :=
  ⟨none, 0, rfl, Grid.none_ _ _, h⟩

set_option maxHeartbeats 4000000 in
theorem new_any (n : Int) (w : World) : Calls Try.prog 4 #[.int .i64 n] w (WR (newM n) (errW n) w) := by
  have HR := Lib.hid (RS.new w rfl)
  by_cases h : isT n
  · have p1 : decide (isT n) = true := by simpa using h
    have HE : Hid (newM n = wheelOf n [] ∧ errW n = 0) := Lib.hid (by unfold newM errW; rw [if_pos h, if_pos h]; exact ⟨rfl, rfl⟩)
    obtain ⟨N, rfl⟩ : ∃ N : Nat, n = (N : Int) := ⟨n.toNat, by have := h.1; omega⟩
    have hN : N < 262144 := by have := h.2; omega
    clear h
    go_enter Try.func4, Try.ntmps4
    go_wp2_with fail
    refine (isTime_any _ _).mono ?_
    rintro e w' ⟨rfl, rfl⟩
    rw [p1]
    go_wp2_with fail
    refine (build_any N none 0 [] _ hN (fun t ht => by simp at ht) (Tms.none_ _) (by simp)).mono ?_
    rintro e w2 ⟨A, c, rfl, hg, hb⟩
    have HR2 := Lib.hid (HR.out.next (RS.size HR.out) hb)
    have HG := Lib.hid hg
    have HZ := Lib.hid (RS.size HR.out)
    clear hg hb
    obtain ⟨r0, r1, f0, f1, -, -⟩ := HR2.out
    go_wp2
    refine bodyPost_ret (v := .tuple #[wv (wheelOf (N : Int) []) A c, .int .i64 0]) (by simp [results, Try.results4, go_sem, r0, r1]) rfl ?_
    rw [HE.out.1, HE.out.2]
    exact ⟨A, c, rfl, Grid.mono ((HG.out.setCell (p := ⟨w.heap.size, 0, none⟩) HZ.out _).setCell (p := ⟨w.heap.size, 1, none⟩) HZ.out _) (Nat.le_of_lt HZ.out), below_set2 HR2.out.2.2.2.2.2 _ _⟩
  · have p1 : decide (isT n) = false := by simpa using h
    have HE : Hid (newM n = Whl.no ∧ errW n = 3) := Lib.hid (by unfold newM errW; rw [if_neg h, if_neg h]; exact ⟨rfl, rfl⟩)
    clear h
    go_enter Try.func4, Try.ntmps4
    go_wp2_with fail
    refine (isTime_any _ _).mono ?_
    rintro e w' ⟨rfl, rfl⟩
    rw [p1]
    go_wp2
    refine bodyPost_ret (v := .tuple #[wv Whl.no none 0, .int .i64 3]) (by simp [results, Try.results4, go_sem]; exact ⟨rfl, rfl⟩) rfl ?_
    rw [HE.out.1, HE.out.2]
    exact WR.none_ HR.out.2.2.2.2.2

theorem build_good {now : Int} {M : List Tm} (hM : Good now M) (Wd : World) (A6 : Option Addr) (c6 : Nat) (hT6 : Tms Wd A6 c6 M) : Calls Try.prog 20 #[.int .i64 now, .slice A6 M.length c6] Wd fun e w' =>
    ∃ A' c', e = .returned (wv (wheelOf now M) A' c') ∧ Grid Wd.heap.size w' A' c' (spread now M) ∧ Below Wd.heap.size Wd w' := by
  obtain ⟨N, rfl⟩ : ∃ N : Nat, now = (N : Int) := ⟨now.toNat, by have := hM.time.1; omega⟩
  exact build_any N A6 c6 M Wd (by have := hM.time.2; omega) (fun u hu => ⟨(hM.ok u hu).2.2.1, (hM.ok u hu).2.2.2⟩) hT6 hM.few

theorem good_of {W : Whl} (h : checkW W = 0) : Good W.now W.all := (check_good h).1
theorem slots_of {W : Whl} (h : checkW W = 0) : W.slots.length = 48 := by rw [(check_good h).2]; exact spread_len _ _

set_option maxHeartbeats 4000000 in
theorem next_any (W : Whl) (A : Option Addr) (c : Nat) (w : World) (hG : Grid 0 w A c W.slots) :
    Calls Try.prog 8 #[wv W A c] w fun e w' => e = .returned (.tuple #[.int .i64 (nextM W), .int .i64 (errN W)]) ∧ Below w.heap.size w w' := by
  have X := Bx.new (W := W) hG
  have HX := Lib.hid X
  have HB0 : Hid (Below w.heap.size w (w.alloc (wo W A c))) := Lib.hid ((Below.refl _ _).alloc (Nat.le_refl _) _)
  obtain ⟨-, x1, x2, -⟩ := X
  by_cases h0 : checkW W = 0
  · have H0 := Lib.hid h0
    have HG := Lib.hid (good_of h0)
    have H48 := Lib.hid (slots_of h0)
    have HF : Hid (W.slots.flatten.length ≤ 60) := Lib.hid HG.out.few
    by_cases h1 : W.all.length = 0
    · have HE : Hid (nextM W = 0 ∧ errN W = 5) := Lib.hid (by
        have e : errN W = 5 := by unfold errN; rw [if_pos h0, if_pos h1]
        exact ⟨by unfold nextM; rw [e]; rfl, e⟩)
      have H1 : Hid (W.slots.flatten.length = 0) := Lib.hid h1
      clear h0 h1
      go_enter Try.func8, Try.ntmps8
      go_wp2_with fail
      refine (check_any W A c _ HX.out.grid).mono ?_
      rintro e w1 ⟨rfl, hb1⟩
      have HX1 := Lib.hid (HX.out.below hb1)
      have HB1 : Hid (Below w.heap.size w w1) := Lib.hid (HB0.out.trans (hb1.mono HB0.out.size))
      rw [H0.out]
      clear x1 x2 hb1
      obtain ⟨-, x1, x2, -⟩ := HX1.out
      go_wp2_with fail
      refine (timers_any W A c _ HX1.out.grid (by have := H48.out; omega) (by have := H48.out; omega) (by have := HF.out; omega)).mono ?_
      rintro e w2 ⟨v, rfl, ho, hb2⟩
      obtain ⟨A2, c2, rfl, hT, hA2⟩ := tms_of_own ho
      have HB2 : Hid (Below w.heap.size w w2) := Lib.hid (HB1.out.trans (hb2.mono HB1.out.size))
      rw [H1.out]
      clear x1 x2 hb2 hT hA2 ho
      go_wp2
      go_ret2
      rw [HE.out.1, HE.out.2]
      exact ⟨rfl, HB2.out⟩
    · have HE : Hid (nextM W = (gt W.all 0).tm ∧ errN W = 0) := Lib.hid (by
        have e : errN W = 0 := by unfold errN; rw [if_pos h0, if_neg h1]
        exact ⟨by unfold nextM; rw [if_pos e], e⟩)
      have H1 : Hid (W.slots.flatten.length ≠ 0) := Lib.hid h1
      clear h0 h1
      go_enter Try.func8, Try.ntmps8
      go_wp2_with fail
      refine (check_any W A c _ HX.out.grid).mono ?_
      rintro e w1 ⟨rfl, hb1⟩
      have HX1 := Lib.hid (HX.out.below hb1)
      have HB1 : Hid (Below w.heap.size w w1) := Lib.hid (HB0.out.trans (hb1.mono HB0.out.size))
      rw [H0.out]
      clear x1 x2 hb1
      obtain ⟨-, x1, x2, -⟩ := HX1.out
      go_wp2_with fail
      refine (timers_any W A c _ HX1.out.grid (by have := H48.out; omega) (by have := H48.out; omega) (by have := HF.out; omega)).mono ?_
      rintro e w2 ⟨v, rfl, ho, hb2⟩
      obtain ⟨A2, c2, rfl, hT, hA2⟩ := tms_of_own ho
      have HB2 : Hid (Below w.heap.size w w2) := Lib.hid (HB1.out.trans (hb2.mono HB1.out.size))
      have hlen : 0 < W.slots.flatten.length := by have := H1.out; omega
      obtain ⟨bb, oo, rfl, ht⟩ := hT.2.2.2 hlen
      have y := (ht.2 0 hlen).2
      have HE2 : Hid (nextM W = (gt W.slots.flatten 0).tm) := Lib.hid HE.out.1
      have q : ((W.slots.flatten.length : Int) == 0) = false := beq_false_of_ne (by omega)
      have hlen2 : (0 : Int) < (W.slots.flatten.length : Int) := by omega
      clear x1 x2 hb2 hT hA2 ho ht
      generalize gt W.slots.flatten 0 = tt at *
      generalize W.slots.flatten.length = nn at *
      simp only [Nat.zero_mul, Nat.add_zero] at y
      go_wp2
      go_ret2
      rw [HE2.out, HE.out.2]
      exact ⟨rfl, HB2.out⟩
  · have HE : Hid (nextM W = 0 ∧ errN W = checkW W) := Lib.hid (by
      have e : errN W = checkW W := by unfold errN; rw [if_neg h0]
      exact ⟨by unfold nextM; rw [e, if_neg h0], e⟩)
    have q : (checkW W != 0) = true := by simpa using h0
    clear h0
    go_enter Try.func8, Try.ntmps8
    go_wp2_with fail
    refine (check_any W A c _ HX.out.grid).mono ?_
    rintro e w1 ⟨rfl, hb1⟩
    have HB1 : Hid (Below w.heap.size w w1) := Lib.hid (HB0.out.trans (hb1.mono HB0.out.size))
    clear x1 x2 hb1
    go_wp2
    go_ret2
    rw [HE.out.1, HE.out.2]
    exact ⟨rfl, HB1.out⟩

end Go.Proofs.Yteldnohdijcbpaa.Whl
