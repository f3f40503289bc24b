/-
  The walk of the law that compares package wheel with its reference.
-/
import Derived.Test.YteldnohdijcbpaaWheelSpecMem
import Derived.Test.YteldnohdijcbpaaWheelRef7
namespace Go.Proofs.Yteldnohdijcbpaa.Whl
open Go.RowKit Go.Maps
set_option linter.unusedVariables false

/-- A box of a timer. -/
def TB (w : World) (p : Nat) (t : Tm) : Prop := p < w.heap.size ∧ w.cell? ⟨p, 0, none⟩ = some (.int .i64 t.id) ∧ w.cell? ⟨p, 1, none⟩ = some (.int .i64 t.tm)
theorem TB.below {w w' : World} {p : Nat} {t : Tm} (h : TB w p t) (hb : Below w.heap.size w w') : TB w' p t := ⟨Nat.lt_of_lt_of_le h.1 hb.size, (hb.cell (p := ⟨p, 0, none⟩) h.1).trans h.2.1, (hb.cell (p := ⟨p, 1, none⟩) h.1).trans h.2.2⟩
theorem TB.alloc {w : World} {p : Nat} {t : Tm} (h : TB w p t) (o : Obj) : TB (w.alloc o) p t := h.below ((Below.refl _ _).alloc (Nat.le_refl _) o)
theorem TB.new (w : World) (t : Tm) : TB (w.alloc (tbo t)) w.heap.size t := ⟨by simp, by simp [go_sem], by simp [go_sem]⟩
/-- The four variables. -/
def VF (wx : World) (q : Nat) (w6 : World) (W0 W1 W2 W3 : Whl) : Prop :=
  VG wx (q + 4) q W0 ∧ VG wx (q + 4) (q + 1) W1 ∧ VG wx (q + 4) (q + 1 + 1) W2 ∧ VG wx (q + 4) (q + 1 + 1 + 1) W3 ∧ q + 4 ≤ wx.heap.size ∧ Below q w6 wx
section
variable {wx w' w6 : World} {q : Nat} {W0 W1 W2 W3 V : Whl}
theorem VF.below (h : VF wx q w6 W0 W1 W2 W3) (hb : Below wx.heap.size wx w') : VF w' q w6 W0 W1 W2 W3 :=
  ⟨h.1.below hb, h.2.1.below hb, h.2.2.1.below hb, h.2.2.2.1.below hb, Nat.le_trans h.2.2.2.2.1 hb.size, h.2.2.2.2.2.trans (hb.mono (by have := h.2.2.2.2.1; omega))⟩
theorem VF.size (h : VF wx q w6 W0 W1 W2 W3) : q + 4 ≤ wx.heap.size := h.2.2.2.2.1
theorem VF.bel (h : VF wx q w6 W0 W1 W2 W3) : Below q w6 wx := h.2.2.2.2.2
theorem VF.put0 (h : VF wx q w6 W0 W1 W2 W3) {A : Option Addr} {c : Nat} (hg : Grid (q + 4) wx A c V.slots) : VF ((wx.setCell ⟨q, 0, none⟩ (.int .i64 V.now)).setCell ⟨q, 1, none⟩ (.slice A V.slots.length c)) q w6 V W1 W2 W3 := by
  obtain ⟨h0, h1, h2, h3, h4, h5⟩ := h
  exact ⟨h0.put hg (by omega), h1.other2 (by omega) (by omega) _ _, h2.other2 (by omega) (by omega) _ _, h3.other2 (by omega) (by omega) _ _, by simpa [World.setCell] using h4, below_set2 h5 _ _⟩
theorem VF.put1 (h : VF wx q w6 W0 W1 W2 W3) {A : Option Addr} {c : Nat} (hg : Grid (q + 4) wx A c V.slots) : VF ((wx.setCell ⟨q + 1, 0, none⟩ (.int .i64 V.now)).setCell ⟨q + 1, 1, none⟩ (.slice A V.slots.length c)) q w6 W0 V W2 W3 := by
  obtain ⟨h0, h1, h2, h3, h4, h5⟩ := h
  exact ⟨h0.other2 (by omega) (by omega) _ _, h1.put hg (by omega), h2.other2 (by omega) (by omega) _ _, h3.other2 (by omega) (by omega) _ _, by simpa [World.setCell] using h4, (h5.setCell (p := ⟨q + 1, 0, none⟩) (by show q ≤ q + 1; omega) _).setCell (p := ⟨q + 1, 1, none⟩) (by show q ≤ q + 1; omega) _⟩
theorem VF.put2 (h : VF wx q w6 W0 W1 W2 W3) {A : Option Addr} {c : Nat} (hg : Grid (q + 4) wx A c V.slots) : VF ((wx.setCell ⟨q + 1 + 1, 0, none⟩ (.int .i64 V.now)).setCell ⟨q + 1 + 1, 1, none⟩ (.slice A V.slots.length c)) q w6 W0 W1 V W3 := by
  obtain ⟨h0, h1, h2, h3, h4, h5⟩ := h
  exact ⟨h0.other2 (by omega) (by omega) _ _, h1.other2 (by omega) (by omega) _ _, h2.put hg (by omega), h3.other2 (by omega) (by omega) _ _, by simpa [World.setCell] using h4, (h5.setCell (p := ⟨q + 1 + 1, 0, none⟩) (by show q ≤ q + 1 + 1; omega) _).setCell (p := ⟨q + 1 + 1, 1, none⟩) (by show q ≤ q + 1 + 1; omega) _⟩
theorem VF.put3 (h : VF wx q w6 W0 W1 W2 W3) {A : Option Addr} {c : Nat} (hg : Grid (q + 4) wx A c V.slots) : VF ((wx.setCell ⟨q + 1 + 1 + 1, 0, none⟩ (.int .i64 V.now)).setCell ⟨q + 1 + 1 + 1, 1, none⟩ (.slice A V.slots.length c)) q w6 W0 W1 W2 V := by
  obtain ⟨h0, h1, h2, h3, h4, h5⟩ := h
  exact ⟨h0.other2 (by omega) (by omega) _ _, h1.other2 (by omega) (by omega) _ _, h2.other2 (by omega) (by omega) _ _, h3.put hg (by omega), by simpa [World.setCell] using h4, (h5.setCell (p := ⟨q + 1 + 1 + 1, 0, none⟩) (by show q ≤ q + 1 + 1 + 1; omega) _).setCell (p := ⟨q + 1 + 1 + 1, 1, none⟩) (by show q ≤ q + 1 + 1 + 1; omega) _⟩
end
theorem refOf_w (N : Nat) (A : Option Addr) (c : Nat) (L S : List Tm) (w : World) (hN : N < 262144) (hT : Tms w A c L) (hS : Sorted S) (hP : L.Perm S) (hl : L.length ≤ 1000) (hok : ∀ t ∈ S, isT t.tm) (Z : Whl) (hZ : Z = wheelOf (N : Int) (lateT S (N : Int))) :
    Calls Try.prog 10 #[.int .i64 (N : Int), .slice A L.length c] w fun e w' => ∃ A' c', e = .returned (wv Z A' c') ∧ Grid w.heap.size w' A' c' Z.slots ∧ Below w.heap.size w w' := by
  subst hZ
  exact refOf_any N A c L S w hN hT hS hP hl hok

theorem refOf_n {now : Int} (hn : isT now) (A : Option Addr) (c : Nat) (L S : List Tm) (w : World) (hT : Tms w A c L) (hS : Sorted S) (hP : L.Perm S) (hl : L.length ≤ 1000) (hok : ∀ t ∈ S, isT t.tm) (Z : Whl) (hZ : Z = wheelOf now (lateT S now)) :
    Calls Try.prog 10 #[.int .i64 now, .slice A L.length c] w fun e w' => ∃ A' c', e = .returned (wv Z A' c') ∧ Grid w.heap.size w' A' c' Z.slots ∧ Below w.heap.size w w' := by
  obtain ⟨N, rfl⟩ : ∃ N : Nat, now = (N : Int) := ⟨now.toNat, by have := hn.1; omega⟩
  exact refOf_w N A c L S w (by have := hn.2; omega) hT hS hP hl hok Z hZ
theorem late_all {L : List Tm} {now : Int} (h : ∀ u ∈ L, now < u.tm) : lateT L now = L := by
  unfold lateT
  rw [List.filter_eq_self]
  intro u hu
  simpa using h u hu

theorem own_empty2 (w : World) (base : Nat) (h : base ≤ w.heap.size) : OwnT (w.alloc (.cells #[] 26)) base (.slice (some ⟨w.heap.size, 0, none⟩) 0 0) [] :=
  World.ownsRow_made w _ _ h (Nat.zero_le _) rfl
theorem add_ownA (w : World) : OwnT (w.alloc (.cells #[] 26)).drew w.heap.size (.slice (some ⟨w.heap.size, 0, none⟩) 0 0) [] :=
  own_below (own_empty2 w _ (Nat.le_refl _)) (Below.refl _ _).drew
theorem add_ownB (w : World) (t : Tm) : OwnT ((w.alloc (.cells #[] 26)).alloc (tbo t)).drew w.heap.size (.slice (some ⟨w.heap.size, 0, none⟩) 0 0) [] :=
  own_below (own_empty2 w _ (Nat.le_refl _)) (bel_al (Below.refl _ _) (Nat.le_refl _) _).drew
theorem add_ownC (w : World) (t : Tm) : OwnT ((w.alloc (tbo t)).alloc (.cells #[] 26)).drew w.heap.size (.slice (some ⟨w.heap.size + 1, 0, none⟩) 0 0) [] := by
  have h := own_empty2 (w.alloc (tbo t)) w.heap.size (by simp)
  rw [show (w.alloc (tbo t)).heap.size = w.heap.size + 1 by simp] at h
  exact own_below h (Below.refl _ _).drew
theorem add_tB (w : World) (t : Tm) : Tms ((w.alloc (.cells #[] 26)).alloc (tbo t)).drew (some ⟨w.heap.size + 1, 0, none⟩) 1 [t] := by
  have h := tms_one (w.alloc (.cells #[] 26)) t
  rw [show (w.alloc (.cells #[] 26)).heap.size = w.heap.size + 1 by simp] at h
  exact h.below (Below.refl _ _).drew
theorem add_tC (w : World) (t : Tm) : Tms ((w.alloc (tbo t)).alloc (.cells #[] 26)).drew (some ⟨w.heap.size, 0, none⟩) 1 [t] :=
  (tms_one w t).below (bel_al (Below.refl _ _) (Nat.le_refl _) _).drew
theorem add_belA (w : World) : Below w.heap.size w (w.alloc (.cells #[] 26)).drew := (bel_al (Below.refl _ _) (Nat.le_refl _) _).drew
theorem add_belD (w : World) (t : Tm) : Below w.heap.size w (w.alloc (tbo t)).drew := (bel_al (Below.refl _ _) (Nat.le_refl _) _).drew
theorem add_belB (w : World) (t : Tm) : Below w.heap.size w ((w.alloc (.cells #[] 26)).alloc (tbo t)).drew := (bel_al (bel_al (Below.refl _ _) (Nat.le_refl _) _) (by simp) _).drew
theorem add_belC (w : World) (t : Tm) : Below w.heap.size w ((w.alloc (tbo t)).alloc (.cells #[] 26)).drew := (bel_al (bel_al (Below.refl _ _) (Nat.le_refl _) _) (by simp) _).drew
theorem at_world {P : Program} {ops : Array Oper} {o : Oper} {a : Act} {K : Act → World → Prop} {Q : Exit → Act → World → Prop} {E : Prop} (W : World) (h : if Region.wanted o (yielded ops a.tmps) = true then Oper.wp P o a W K Q else E) : if Region.wanted o (yielded ops a.tmps) = true then Oper.wp P o a W K Q else E := h
/-- What the region of Add reads and writes. -/
abbrev SA (n m q : Nat) (a b c : Int) (w' : World) : Prop :=
  w'.cell? ⟨n, 0, none⟩ = some (.int .i64 a) ∧ w'.cell? ⟨m, 0, none⟩ = some (.int .i64 b) ∧ w'.cell? ⟨m, 1, none⟩ = some (.int .i64 c) ∧ w'.cell? ⟨q, 0, none⟩ = some (rd w' q 0) ∧ w'.cell? ⟨q, 1, none⟩ = some (rd w' q 1) ∧ w'.frozen? ⟨q, 0, none⟩ = false ∧ w'.frozen? ⟨q, 1, none⟩ = false
theorem add_keep {w : World} {n m q : Nat} {a b c : Int} {u v : Value} (h1 : n < w.heap.size) (h2 : m < w.heap.size) (h3 : q < w.heap.size)
    (x1 : w.cell? ⟨n, 0, none⟩ = some (.int .i64 a)) (t1 : w.cell? ⟨m, 0, none⟩ = some (.int .i64 b)) (t2 : w.cell? ⟨m, 1, none⟩ = some (.int .i64 c)) (z1 : w.cell? ⟨q, 0, none⟩ = some u) (z2 : w.cell? ⟨q, 1, none⟩ = some v) (f1 : w.frozen? ⟨q, 0, none⟩ = false) (f2 : w.frozen? ⟨q, 1, none⟩ = false)
    (w' : World) (hb : Below w.heap.size w w') : SA n m q a b c w' :=
  ⟨(hb.cell (p := ⟨n, 0, none⟩) h1).trans x1, (hb.cell (p := ⟨m, 0, none⟩) h2).trans t1, (hb.cell (p := ⟨m, 1, none⟩) h2).trans t2, rd_of ((hb.cell (p := ⟨q, 0, none⟩) h3).trans z1), rd_of ((hb.cell (p := ⟨q, 1, none⟩) h3).trans z2), (hb.frozen (p := ⟨q, 0, none⟩) h3).trans f1, (hb.frozen (p := ⟨q, 1, none⟩) h3).trans f2⟩
theorem add_set {w : World} {n m q : Nat} {a b c : Int} (h : SA n m q a b c w) (hn : n ≠ q) (hm : m ≠ q) (j : Nat) (u : Value) : SA n m q a b c (w.setCell ⟨q, j, none⟩ u) := by
  obtain ⟨x1, x2, x3, x4, x5, x6, x7⟩ := h
  have hk : ∀ p k, p ≠ q → (w.setCell ⟨q, j, none⟩ u).cell? ⟨p, k, none⟩ = w.cell? ⟨p, k, none⟩ := fun p k hp => World.cell?_of_block (w := w) (a := ⟨p, k, none⟩) (Below.heap_setCell w ⟨q, j, none⟩ u p hp)
  obtain ⟨_, y4⟩ := cell?_setCell_some (p := ⟨q, j, none⟩) (x := u) x4
  obtain ⟨_, y5⟩ := cell?_setCell_some (p := ⟨q, j, none⟩) (x := u) x5
  exact ⟨(hk _ _ hn).trans x1, (hk _ _ hm).trans x2, (hk _ _ hm).trans x3, rd_of y4, rd_of y5, by simpa [go_sem] using x6, by simpa [go_sem] using x7⟩

/-- Behind the reference's part. -/
def CutB (W : Whl) (t : Tm) (id tq : Int) (q : Nat) (w6 : World) (s26 s27 s28 s29 s30 s31 : Value) (wx : World) : Prop :=
  s26 = .int .i64 (errA W t) ∧ s27 = .int .i64 (errC W id) ∧ s28 = .int .i64 (errV W tq) ∧ s29 = .int .i64 (errN W) ∧ s31 = .int .i64 (nextM W) ∧ (∃ G A c, s30 = .slice A G.length c ∧ Tms wx A c G ∧ (errV W tq = 0 → G = advG W tq)) ∧ VF wx q w6 (newM tq) (addM W t) (canM W id) (advM W tq)

set_option maxHeartbeats 20000000 in
set_option maxRecDepth 100000 in
theorem wheelSpec_walk (W : Whl) (A : Option Addr) (c : Nat) (t : Tm) (id tq : Int) (w : World) (hG : Grid 0 w A c W.slots) :
    Calls Try.prog 3 #[wv W A c, tv t, .int .i64 id, .int .i64 tq] w fun e w' => e = .returned (.bool true) ∧ Below w.heap.size w w' := by
  have X0 := Lib.hid ((Bx.new (W := W) hG).alloc (tbo t))
  have hs1 : (w.alloc (wo W A c)).heap.size = w.heap.size + 1 := by simp
  have t0 := TB.new (w.alloc (wo W A c)) t
  rw [hs1] at t0
  have T0 := Lib.hid t0
  have HB0 : Hid (Below w.heap.size w ((w.alloc (wo W A c)).alloc (tbo t))) := Lib.hid (((Below.refl _ w).alloc (Nat.le_refl _) _).alloc (by simp) _)
  clear hs1 t0 hG
  obtain ⟨bT, hbT⟩ : ∃ bT : Bool, bT = !decide (isT tq) := ⟨_, rfl⟩
  have HBT := Lib.hid hbT
  clear hbT
  go_enter Try.func3, Try.ntmps3
  obtain ⟨-, x1, x2, -⟩ := X0.out
  obtain ⟨-, t1, t2⟩ := T0.out
  go_wp2_with fail
  refine (new_any tq _).mono ?_
  rintro e w1 ⟨A1, c1, rfl, hg1, hb1⟩
  have X1 := Lib.hid ((X0.out.below hb1).alloc (wo (newM tq) A1 c1))
  have T1 := Lib.hid ((T0.out.below hb1).alloc (wo (newM tq) A1 c1))
  have M1 := Lib.hid (Bx.new (W := (newM tq)) (hg1.mono (Nat.zero_le _)))
  have HB1 : Hid (Below w.heap.size w (w1.alloc (wo (newM tq) A1 c1))) := Lib.hid (bel_alB (HB0.out.trans (hb1.mono HB0.out.size)) (Nat.le_trans HB0.out.size hb1.size) _)
  clear x1 x2 t1 t2 hg1 hb1
  obtain ⟨-, x1, x2, -⟩ := X1.out
  obtain ⟨-, t1, t2⟩ := T1.out
  go_wp2_with fail
  refine (add_any W A c t _ X1.out.grid).mono ?_
  rintro e w2 ⟨A2, c2, rfl, hg2, hb2⟩
  have X2 := Lib.hid ((X1.out.below hb2).alloc (wo (addM W t) A2 c2))
  have T2 := Lib.hid ((T1.out.below hb2).alloc (wo (addM W t) A2 c2))
  have M2 := Lib.hid ((M1.out.below hb2).alloc (wo (addM W t) A2 c2))
  have P2 := Lib.hid (Bx.new (W := (addM W t)) (hg2.mono (Nat.zero_le _)))
  have HB2 : Hid (Below w.heap.size w (w2.alloc (wo (addM W t) A2 c2))) := Lib.hid (bel_alB (HB1.out.trans (hb2.mono HB1.out.size)) (Nat.le_trans HB1.out.size hb2.size) _)
  clear x1 x2 t1 t2 hg2 hb2
  obtain ⟨-, x1, x2, -⟩ := X2.out
  obtain ⟨-, t1, t2⟩ := T2.out
  go_wp2_with fail
  refine (cancel_any W A c id _ X2.out.grid).mono ?_
  rintro e w3 ⟨A3, c3, rfl, hg3, hb3⟩
  have X3 := Lib.hid ((X2.out.below hb3).alloc (wo (canM W id) A3 c3))
  have T3 := Lib.hid ((T2.out.below hb3).alloc (wo (canM W id) A3 c3))
  have M3 := Lib.hid ((M2.out.below hb3).alloc (wo (canM W id) A3 c3))
  have P3 := Lib.hid ((P2.out.below hb3).alloc (wo (canM W id) A3 c3))
  have S3 := Lib.hid (Bx.new (W := (canM W id)) (hg3.mono (Nat.zero_le _)))
  have HB3 : Hid (Below w.heap.size w (w3.alloc (wo (canM W id) A3 c3))) := Lib.hid (bel_alB (HB2.out.trans (hb3.mono HB2.out.size)) (Nat.le_trans HB2.out.size hb3.size) _)
  clear x1 x2 t1 t2 hg3 hb3
  obtain ⟨-, x1, x2, -⟩ := X3.out
  obtain ⟨-, t1, t2⟩ := T3.out
  go_wp2_with fail
  refine (advance_any W A c tq _ X3.out.grid).mono ?_
  rintro e w4 ⟨A4, c4, Ag, cg, rfl, hg4, hTg, -, hb4⟩
  have X4 := Lib.hid ((X3.out.below hb4).alloc (wo (advM W tq) A4 c4))
  have T4 := Lib.hid ((T3.out.below hb4).alloc (wo (advM W tq) A4 c4))
  have M4 := Lib.hid ((M3.out.below hb4).alloc (wo (advM W tq) A4 c4))
  have P4 := Lib.hid ((P3.out.below hb4).alloc (wo (advM W tq) A4 c4))
  have S4 := Lib.hid ((S3.out.below hb4).alloc (wo (advM W tq) A4 c4))
  have V4 := Lib.hid (Bx.new (W := (advM W tq)) (hg4.mono (Nat.zero_le _)))
  have G4 := Lib.hid (hTg.alloc (wo (advM W tq) A4 c4))
  have HB4 : Hid (Below w.heap.size w (w4.alloc (wo (advM W tq) A4 c4))) := Lib.hid (bel_alB (HB3.out.trans (hb4.mono HB3.out.size)) (Nat.le_trans HB3.out.size hb4.size) _)
  clear x1 x2 t1 t2 hg4 hb4 hTg
  obtain ⟨-, x1, x2, -⟩ := X4.out
  obtain ⟨-, t1, t2⟩ := T4.out
  go_wp2_with fail
  refine (next_any W A c _ X4.out.grid).mono ?_
  rintro e w5 ⟨rfl, hb5⟩
  have X5 := Lib.hid (X4.out.below hb5)
  have T5 := Lib.hid (T4.out.below hb5)
  have M5 := Lib.hid (M4.out.below hb5)
  have P5 := Lib.hid (P4.out.below hb5)
  have S5 := Lib.hid (S4.out.below hb5)
  have V5 := Lib.hid (V4.out.below hb5)
  have G5 := Lib.hid (G4.out.below hb5)
  have HB5 : Hid (Below w.heap.size w w5) := Lib.hid (HB4.out.trans (hb5.mono HB4.out.size))
  clear x1 x2 t1 t2 hb5
  obtain ⟨-, x1, x2, -⟩ := X5.out
  obtain ⟨-, t1, t2⟩ := T5.out
  go_wp2_with fail
  refine (refCheck_any W A c _ X5.out.grid).mono ?_
  rintro e w6 ⟨rfl, hb6⟩
  have X6 := Lib.hid (X5.out.below hb6)
  have T6 := Lib.hid (T5.out.below hb6)
  have M6 := Lib.hid (M5.out.below hb6)
  have P6 := Lib.hid (P5.out.below hb6)
  have S6 := Lib.hid (S5.out.below hb6)
  have V6 := Lib.hid (V5.out.below hb6)
  have G6 := Lib.hid (G5.out.below hb6)
  have HB6 : Hid (Below w.heap.size w w6) := Lib.hid (HB5.out.trans (hb6.mono HB5.out.size))
  clear x1 x2 t1 t2 hb6
  obtain ⟨-, x1, x2, -⟩ := X6.out
  obtain ⟨-, t1, t2⟩ := T6.out
  clear x1 x2 t1 t2
  generalize w1.heap.size = b1 at *
  generalize w2.heap.size = b2 at *
  generalize w3.heap.size = b3 at *
  generalize w4.heap.size = b4 at *
  have HV7 : Hid (VF ((((w6.alloc zo).alloc zo).alloc zo).alloc zo) w6.heap.size w6 Whl.no Whl.no Whl.no Whl.no) := Lib.hid (by
    obtain ⟨h0, h1, h2, h3, h4⟩ := vg_four w6 w6.heap.size rfl
    exact ⟨h0, h1, h2, h3, by simp, h4⟩)
  go_upto_region 9 with fail
  go_cut [71] (fun s71 wx => s71 = .bool bT ∧ VF wx w6.heap.size w6 Whl.no Whl.no Whl.no Whl.no)
  case first =>
    as_aux_lemma =>
      generalize ((((w6.alloc zo).alloc zo).alloc zo).alloc zo) = w7 at *
      by_cases h0 : tq < 0
      · have q1 : decide (tq < 0) = true := by simpa using h0
        have HE : Hid (true = bT) := Lib.hid (by rw [HBT.out]; rw [decide_eq_false (fun h : isT tq => by have := h.1; omega)]; rfl)
        clear h0
        go_wp2
        go_meet
        exact ⟨by rw [HE.out], HV7.out⟩
      · have q1 : decide (tq < 0) = false := by simpa using h0
        have HE : Hid (decide (262143 < tq) = bT) := Lib.hid (by
          rw [HBT.out]
          by_cases h : 262143 < tq
          · rw [decide_eq_true h, decide_eq_false (fun h2 : isT tq => by have := h2.2; omega)]; rfl
          · rw [decide_eq_false h, decide_eq_true (show isT tq from ⟨by omega, by omega⟩)]; rfl)
        clear h0
        go_wp2
        go_meet
        exact ⟨by rw [HE.out], HV7.out⟩
  case rest =>
    as_aux_lemma =>
      obtain ⟨rfl, hV7⟩ := hcut
      have HV7 := Lib.hid hV7
      clear hV7
      generalize hq : w6.heap.size = q at *
      have HQ := Lib.hid hq
      clear hq
      generalize wc = w7 at *
      go_upto_if 71 with fail
      go_cut [21] (fun s21 wx => s21 = .int .i64 (errW tq) ∧ VF wx q w6 (newM tq) Whl.no Whl.no Whl.no)
      case first =>
        as_aux_lemma =>
          by_cases hT : isT tq
          · obtain ⟨N, rfl⟩ : ∃ N : Nat, tq = (N : Int) := ⟨tq.toNat, by have := hT.1; omega⟩
            have hN : N < 262144 := by have := hT.2; omega
            have q1 : bT = false := by rw [HBT.out]; simpa using hT
            subst q1
            have HE : Hid (errW (N : Int) = 0 ∧ newM (N : Int) = wheelOf (N : Int) (lateT [] (N : Int))) := Lib.hid ⟨if_pos hT, if_pos hT⟩
            have HOf := Lib.hid (refOf_w N none 0 [] [] w7 hN (Tms.none_ _) List.Pairwise.nil (List.Perm.refl _) (by simp) (fun t ht => by simp at ht) (newM (N : Int)) HE.out.2)
            simp only [List.length_nil] at HOf
            clear hT
            generalize newM (N : Int) = Z at *
            go_wp2_with fail
            refine HOf.out.mono ?_
            rintro e w8 ⟨A8, c8, rfl, hg8, hb8⟩
            have HV8 := Lib.hid (HV7.out.below hb8)
            have HG8 : Hid (Grid (q + 4) w8 A8 c8 Z.slots) := Lib.hid (hg8.mono HV7.out.size)
            clear hg8 hb8
            obtain ⟨Az, cz, -, z1, z2, f1, f2, -⟩ := HV8.out.1
            go_wp2
            go_meet
            exact ⟨by rw [HE.out.1], HV8.out.put0 HG8.out⟩
          · have HE : Hid (errW tq = 3 ∧ newM tq = Whl.no) := Lib.hid ⟨if_neg hT, if_neg hT⟩
            have q1 : bT = true := by rw [HBT.out]; simpa using hT
            subst q1
            clear hT
            go_wp2
            go_meet
            exact ⟨by rw [HE.out.1], by rw [HE.out.2]; exact HV7.out⟩
      case rest =>
        as_aux_lemma =>
          obtain ⟨rfl, hV8⟩ := hcut
          have HV8 := Lib.hid hV8
          clear hV8 HV7
          generalize wc = w8 at *
          generalize HCK0 : checkW W = ck at *
          have HCK := Lib.hid HCK0
          clear HCK0
          go_upto_if 79 with fail
          go_cut [26, 27, 28, 29, 30, 31] (fun s26 s27 s28 s29 s30 s31 wx => CutB W t id tq q w6 s26 s27 s28 s29 s30 s31 wx)
          case first =>
            as_aux_lemma =>
              by_cases h0 : ck = 0
              · subst h0
                have HGd := Lib.hid (good_of HCK.out)
                have H48 := Lib.hid (slots_of HCK.out)
                have HF : Hid (W.slots.flatten.length ≤ 60) := Lib.hid HGd.out.few
                have HBq : Hid (Below w6.heap.size w6 w8) := Lib.hid (by rw [HQ.out]; exact HV8.out.bel)
                have X8 := Lib.hid (X6.out.below HBq.out)
                have T8 := Lib.hid (T6.out.below HBq.out)
                have HLn : Hid (w.heap.size + 1 < w6.heap.size) := Lib.hid T6.out.1
                clear HBq
                obtain ⟨-, x1, x2, -⟩ := X8.out
                go_wp2_with fail
                refine (all_any W A c w8 X8.out.grid (by have := H48.out; omega) (by have := HF.out; omega)).mono ?_
                rintro e w9 ⟨v9, rfl, hown9, hb9⟩
                have HV9 := Lib.hid (HV8.out.below hb9)
                have X9 := Lib.hid (X8.out.below hb9)
                have T9 := Lib.hid (T8.out.below hb9)
                have HZ9 : Hid (q + 4 ≤ w9.heap.size) := Lib.hid HV9.out.size
                obtain ⟨Al, cl, rfl, hTl, hAl⟩ := tms_of_own hown9
                have HTl := Lib.hid hTl
                have HAl : Hid (∀ a, Al = some a → q + 4 ≤ a.block) := Lib.hid (fun a ha => by have := hAl a ha; have := HV8.out.size; omega)
                clear hown9 hb9 hTl hAl x1 x2
                have HLe : Hid (W.slots.flatten = W.all) := Lib.hid rfl
                have HGL : Hid (Good W.now W.slots.flatten) := Lib.hid HGd.out
                generalize W.slots.flatten = L at *
                obtain ⟨ln, hln⟩ : ∃ ln, L.length = ln := ⟨_, rfl⟩
                have HLN := Lib.hid hln
                have hl60 : ln ≤ 60 := hln ▸ HF.out
                rw [hln]
                clear hln
                obtain ⟨bs, hbs⟩ : ∃ bs : Bool, bs = decide (W.now ≤ tq) := ⟨_, rfl⟩
                have HBS := Lib.hid hbs
                obtain ⟨GG, hGG⟩ : ∃ GG : List Tm → List Tm, GG = fun M => if bs = true then goneT M tq else [] := ⟨_, rfl⟩
                have HGG := Lib.hid hGG
                clear hbs hGG
                have HGle : Hid (∀ M, (GG M).length ≤ M.length) := Lib.hid (fun M => by
                  rw [HGG.out]
                  dsimp only
                  split
                  · exact List.length_filter_le _ _
                  · simp)
                go_wp2
                go_loopw [30, 33, 34] (fun vg vf x wr => ∃ k : Nat, k ≤ ln ∧ x = .int .i64 (k : Int) ∧ OwnT wr w9.heap.size vf (delT (L.take k) id) ∧ OwnT wr w9.heap.size vg (GG (L.take k)) ∧ (∀ b, vf.ownBlock = some b → vg.ownBlock ≠ some b) ∧ Below w9.heap.size w9 wr) (fun _ _ x _ => ln - (intOf x).toNat)
                case atStart => exact ⟨0, by omega, rfl, World.ownsRow_nil _ _ _ _, by rw [HGG.out]; simp only [List.take_zero, goneT, List.filter_nil, ite_self]; exact World.ownsRow_nil _ _ _ _, fun b e => (by cases e), Below.refl _ _⟩
                case round =>
                  obtain ⟨k, hk, rfl, hof, hog, hne, hb⟩ := hrel
                  have HOf := Lib.hid hof
                  have HOg := Lib.hid hog
                  have HNe := Lib.hid hne
                  have HBr := Lib.hid hb
                  clear hof hog hne hb
                  generalize u30 = vg at *
                  generalize u33 = vf at *
                  by_cases hlt : k < ln
                  · have hkn : (k : Int) < (ln : Int) := by omega
                    obtain ⟨bl, ol, rfl, ht9⟩ := HTl.out.2.2.2 (by rw [HLN.out]; omega)
                    have HT9 : Hid (TmAt w9 bl ol L) := Lib.hid ht9
                    have HTk := Lib.hid (take_snoc (L := L) (k := k) (by rw [HLN.out]; exact hlt))
                    have HDl : Hid ((delT (L.take k) id).length ≤ 1000) := Lib.hid (by
                      have h1 := del_len_le (L.take k) id
                      have h2 : (L.take k).length ≤ L.length := by rw [List.length_take]; exact Nat.min_le_right _ _
                      have := HLN.out
                      omega)
                    have HGl : Hid ((GG (L.take k)).length ≤ 1000) := Lib.hid (by
                      have h1 := HGle.out (L.take k)
                      have h2 : (L.take k).length ≤ L.length := by rw [List.length_take]; exact Nat.min_le_right _ _
                      have := HLN.out
                      omega)
                    obtain ⟨e1, e2⟩ := (ht9.below ht9.1 HBr.out).2 k (by rw [HLN.out]; exact hlt)
                    obtain ⟨-, x1, -, -⟩ := X9.out.below HBr.out
                    clear ht9
                    generalize htg : gt L k = tg at *
                    have HTg := Lib.hid htg
                    clear htg
                    obtain ⟨ti, ta⟩ := tg
                    by_cases hf : ti ≠ id
                    · by_cases hbs : bs = true
                      · by_cases hg : ta ≤ tq
                        · have qf : (ti != id) = true := by simpa using hf
                          have qs : decide (W.now ≤ tq) = true := by have := HBS.out; rw [hbs] at this; exact this.symm
                          have qg : decide (ta ≤ tq) = true := by simpa using hg
                          have HDf : Hid (delT (L.take (k + 1)) id = delT (L.take k) id ++ [⟨ti, ta⟩]) := Lib.hid (by rw [HTk.out]; exact del_snoc_y hf)
                          have HDg : Hid (GG (L.take (k + 1)) = GG (L.take k) ++ [⟨ti, ta⟩]) := Lib.hid (by rw [HTk.out, HGG.out]; simp only [hbs, if_true]; exact gone_snoc_y hg)
                          clear hf hg hbs
                          generalize delT (L.take k) id = Df at *
                          generalize GG (L.take k) = Dg at *
                          have HC1 : Hid (TB (wr.alloc (tbo ⟨ti, ta⟩)) wr.heap.size ⟨ti, ta⟩) := Lib.hid (TB.new _ _)
                          have HO1 : Hid (OwnT (wr.alloc (tbo ⟨ti, ta⟩)) w9.heap.size vf Df) := Lib.hid (own_below HOf.out (bel_al (Below.refl _ _) (Nat.le_refl _) _))
                          have HG1 : Hid (OwnT (wr.alloc (tbo ⟨ti, ta⟩)) w9.heap.size vg Dg) := Lib.hid (own_below HOg.out (bel_al (Below.refl _ _) (Nat.le_refl _) _))
                          have HB1' : Hid (Below w9.heap.size w9 (wr.alloc (tbo ⟨ti, ta⟩))) := Lib.hid (bel_al HBr.out HBr.out.size _)
                          have HStep : Hid (∀ gf capf w10, OwnT w10 w9.heap.size (.slice (some ⟨gf, 0, none⟩) (Df.length + 1) capf) (Df ++ [⟨ti, ta⟩]) → (wr.alloc (tbo ⟨ti, ta⟩)).grownBy w10 vf.ownBlock → (vf.ownBlock = some gf ∨ gf = (wr.alloc (tbo ⟨ti, ta⟩)).heap.size) →
                              OwnT w10 w9.heap.size vg Dg ∧ (∀ b, (Value.slice (some ⟨gf, 0, none⟩) (Df.length + 1) capf).ownBlock = some b → vg.ownBlock ≠ some b) ∧ Below w9.heap.size w9 w10 ∧ w10.cell? ⟨bl, ol + k * 2, none⟩ = some (.int .i64 ti) ∧ w10.cell? ⟨bl, ol + k * 2 + 1, none⟩ = some (.int .i64 ta) ∧ w10.cell? ⟨w.heap.size, 0, none⟩ = some (.int .i64 W.now)) := Lib.hid (fun gf capf w10 hown10 hg10 hat10 => by
                            have hB := HB1'.out.grown hg10 HB1'.out.size (fun q hq => (HO1.out.lt q hq).1)
                            refine ⟨HG1.out.kept hg10 (by
                              cases hv : vg.ownBlock with
                              | none => exact .inl rfl
                              | some b => exact .inr (fun e => HNe.out b e.symm hv)), fun b hb2 hv => ?_, hB, ?_, ?_, (X9.out.below hB).2.1⟩
                            · have hgb : gf = b := Option.some.inj hb2
                              rcases hat10 with h | h
                              · exact HNe.out b (by rw [h, hgb]) hv
                              · have h2 := (HG1.out.lt b hv).2; omega
                            · have := ((HT9.out.below HT9.out.1 hB).2 k (by rw [HLN.out]; exact hlt)).1
                              rw [HTg.out] at this; exact this
                            · have := ((HT9.out.below HT9.out.1 hB).2 k (by rw [HLN.out]; exact hlt)).2
                              rw [HTg.out] at this; exact this)
                          have HStep2 : Hid (∀ (wz : World) (vz : Value) (Dz : List Tm), OwnT wz w9.heap.size vz Dz → OwnT wz w9.heap.size vg Dg → (∀ b, vz.ownBlock = some b → vg.ownBlock ≠ some b) → Below w9.heap.size w9 wz → OwnT (wz.alloc (tbo ⟨ti, ta⟩)) w9.heap.size vg Dg ∧ TB (wz.alloc (tbo ⟨ti, ta⟩)) wz.heap.size ⟨ti, ta⟩ ∧ w9.heap.size ≤ (wz.alloc (tbo ⟨ti, ta⟩)).heap.size ∧
                              ∀ gg capg w11, OwnT w11 w9.heap.size (.slice (some ⟨gg, 0, none⟩) (Dg.length + 1) capg) (Dg ++ [⟨ti, ta⟩]) → (wz.alloc (tbo ⟨ti, ta⟩)).grownBy w11 vg.ownBlock → (vg.ownBlock = some gg ∨ gg = (wz.alloc (tbo ⟨ti, ta⟩)).heap.size) →
                                OwnT w11 w9.heap.size vz Dz ∧ (∀ b, vz.ownBlock = some b → (Value.slice (some ⟨gg, 0, none⟩) (Dg.length + 1) capg).ownBlock ≠ some b) ∧ Below w9.heap.size w9 w11) := Lib.hid (fun wz vz Dz ho hg hn hb => by
                            have hO := own_below ho (bel_al (Below.refl _ _) (Nat.le_refl _) (tbo ⟨ti, ta⟩))
                            have hG := own_below hg (bel_al (Below.refl _ _) (Nat.le_refl _) (tbo ⟨ti, ta⟩))
                            have hB := bel_al hb hb.size (tbo ⟨ti, ta⟩)
                            refine ⟨hG, TB.new _ _, hB.size, fun gg capg w11 hown11 hg11 hat11 => ⟨hO.kept hg11 (by
                              cases hv : vz.ownBlock with
                              | none => exact .inl rfl
                              | some b => exact .inr (fun e => hn b hv e.symm)), fun b hb2 hv => ?_, hB.grown hg11 hB.size (fun q hq => (hG.lt q hq).1)⟩⟩
                            have hgb : gg = b := Option.some.inj hv
                            rcases hat11 with h | h
                            · exact hn b hb2 (by rw [h, hgb])
                            · have h2 := (hO.lt b hb2).2; omega)
                          go_wp2_with (first | (at_builtin; refine wpList_append_lies1 (by rfl) _ _ (by rfl) w9.heap.size _ Df (by rfl) HO1.out wr.heap.size ⟨ti, ta⟩ (by rfl) HC1.out.2.1 HC1.out.2.2 HDl.out HB1'.out.size ?_; intro gf capf w10 hown10 hg10 hat10; obtain ⟨hG2, hN2, hB2, e3, e4, x3⟩ := HStep.out gf capf w10 hown10 hg10 hat10; have HO2 := Lib.hid hown10; have HG2 := Lib.hid hG2; have HN2 := Lib.hid hN2; have HB2' := Lib.hid hB2; clear hown10 hg10 hat10 hG2 hN2 hB2; obtain ⟨hG3, hC3, hZ3, hK3⟩ := HStep2.out w10 _ _ HO2.out HG2.out HN2.out HB2'.out; have HG3 := Lib.hid hG3; have HC3 := Lib.hid hC3; have HZ3 := Lib.hid hZ3; have HK3 := Lib.hid hK3; clear hG3 hC3 hZ3 hK3) | (at_builtin; refine wpList_append_lies1 (by rfl) _ _ (by rfl) w9.heap.size _ Dg (by rfl) HG3.out w10.heap.size ⟨ti, ta⟩ (by rfl) HC3.out.2.1 HC3.out.2.2 HGl.out HZ3.out ?_; intro gg capg w11 hown11 hg11 hat11; obtain ⟨hO4, hN4, hB4⟩ := HK3.out gg capg w11 hown11 hg11 hat11; have HO4 := Lib.hid hO4; have HG4 := Lib.hid hown11; have HN4 := Lib.hid hN4; have HB4' := Lib.hid hB4; clear hown11 hg11 hat11 hO4 hN4 hB4))
                          go_roundw
                          case rel => exact ⟨k + 1, by omega, by go_num, by rw [HDf.out]; exact HO4.out, by rw [HDg.out]; exact HG4.out, HN4.out, HB4'.out⟩
                          case measure => simp [intOf]; omega
                        · have qf : (ti != id) = true := by simpa using hf
                          have qs : decide (W.now ≤ tq) = true := by have := HBS.out; rw [hbs] at this; exact this.symm
                          have qg : decide (ta ≤ tq) = false := by simpa using hg
                          have HDf : Hid (delT (L.take (k + 1)) id = delT (L.take k) id ++ [⟨ti, ta⟩]) := Lib.hid (by rw [HTk.out]; exact del_snoc_y hf)
                          have HDg : Hid (GG (L.take (k + 1)) = GG (L.take k)) := Lib.hid (by rw [HTk.out, HGG.out]; simp only [hbs, if_true]; exact gone_snoc_n hg)
                          clear hf hg hbs
                          generalize delT (L.take k) id = Df at *
                          generalize GG (L.take k) = Dg at *
                          have HC1 : Hid (TB (wr.alloc (tbo ⟨ti, ta⟩)) wr.heap.size ⟨ti, ta⟩) := Lib.hid (TB.new _ _)
                          have HO1 : Hid (OwnT (wr.alloc (tbo ⟨ti, ta⟩)) w9.heap.size vf Df) := Lib.hid (own_below HOf.out (bel_al (Below.refl _ _) (Nat.le_refl _) _))
                          have HG1 : Hid (OwnT (wr.alloc (tbo ⟨ti, ta⟩)) w9.heap.size vg Dg) := Lib.hid (own_below HOg.out (bel_al (Below.refl _ _) (Nat.le_refl _) _))
                          have HB1' : Hid (Below w9.heap.size w9 (wr.alloc (tbo ⟨ti, ta⟩))) := Lib.hid (bel_al HBr.out HBr.out.size _)
                          have HStep : Hid (∀ gf capf w10, OwnT w10 w9.heap.size (.slice (some ⟨gf, 0, none⟩) (Df.length + 1) capf) (Df ++ [⟨ti, ta⟩]) → (wr.alloc (tbo ⟨ti, ta⟩)).grownBy w10 vf.ownBlock → (vf.ownBlock = some gf ∨ gf = (wr.alloc (tbo ⟨ti, ta⟩)).heap.size) →
                              OwnT w10 w9.heap.size vg Dg ∧ (∀ b, (Value.slice (some ⟨gf, 0, none⟩) (Df.length + 1) capf).ownBlock = some b → vg.ownBlock ≠ some b) ∧ Below w9.heap.size w9 w10 ∧ w10.cell? ⟨bl, ol + k * 2, none⟩ = some (.int .i64 ti) ∧ w10.cell? ⟨bl, ol + k * 2 + 1, none⟩ = some (.int .i64 ta) ∧ w10.cell? ⟨w.heap.size, 0, none⟩ = some (.int .i64 W.now)) := Lib.hid (fun gf capf w10 hown10 hg10 hat10 => by
                            have hB := HB1'.out.grown hg10 HB1'.out.size (fun q hq => (HO1.out.lt q hq).1)
                            refine ⟨HG1.out.kept hg10 (by
                              cases hv : vg.ownBlock with
                              | none => exact .inl rfl
                              | some b => exact .inr (fun e => HNe.out b e.symm hv)), fun b hb2 hv => ?_, hB, ?_, ?_, (X9.out.below hB).2.1⟩
                            · have hgb : gf = b := Option.some.inj hb2
                              rcases hat10 with h | h
                              · exact HNe.out b (by rw [h, hgb]) hv
                              · have h2 := (HG1.out.lt b hv).2; omega
                            · have := ((HT9.out.below HT9.out.1 hB).2 k (by rw [HLN.out]; exact hlt)).1
                              rw [HTg.out] at this; exact this
                            · have := ((HT9.out.below HT9.out.1 hB).2 k (by rw [HLN.out]; exact hlt)).2
                              rw [HTg.out] at this; exact this)
                          go_wp2_with (first | (at_builtin; refine wpList_append_lies1 (by rfl) _ _ (by rfl) w9.heap.size _ Df (by rfl) HO1.out wr.heap.size ⟨ti, ta⟩ (by rfl) HC1.out.2.1 HC1.out.2.2 HDl.out HB1'.out.size ?_; intro gf capf w10 hown10 hg10 hat10; obtain ⟨hG2, hN2, hB2, e3, e4, x3⟩ := HStep.out gf capf w10 hown10 hg10 hat10; have HO2 := Lib.hid hown10; have HG2 := Lib.hid hG2; have HN2 := Lib.hid hN2; have HB2' := Lib.hid hB2; clear hown10 hg10 hat10 hG2 hN2 hB2))
                          go_roundw
                          case rel => exact ⟨k + 1, by omega, by go_num, by rw [HDf.out]; exact HO2.out, by rw [HDg.out]; exact HG2.out, HN2.out, HB2'.out⟩
                          case measure => simp [intOf]; omega
                      · have hbs := eq_false_of_ne_true hbs
                        have qf : (ti != id) = true := by simpa using hf
                        have qs : decide (W.now ≤ tq) = false := by have := HBS.out; rw [hbs] at this; exact this.symm
                        have HDf : Hid (delT (L.take (k + 1)) id = delT (L.take k) id ++ [⟨ti, ta⟩]) := Lib.hid (by rw [HTk.out]; exact del_snoc_y hf)
                        have HDg : Hid (GG (L.take (k + 1)) = GG (L.take k)) := Lib.hid (by rw [HGG.out]; simp [hbs])
                        clear hf hbs
                        generalize delT (L.take k) id = Df at *
                        generalize GG (L.take k) = Dg at *
                        have HC1 : Hid (TB (wr.alloc (tbo ⟨ti, ta⟩)) wr.heap.size ⟨ti, ta⟩) := Lib.hid (TB.new _ _)
                        have HO1 : Hid (OwnT (wr.alloc (tbo ⟨ti, ta⟩)) w9.heap.size vf Df) := Lib.hid (own_below HOf.out (bel_al (Below.refl _ _) (Nat.le_refl _) _))
                        have HG1 : Hid (OwnT (wr.alloc (tbo ⟨ti, ta⟩)) w9.heap.size vg Dg) := Lib.hid (own_below HOg.out (bel_al (Below.refl _ _) (Nat.le_refl _) _))
                        have HB1' : Hid (Below w9.heap.size w9 (wr.alloc (tbo ⟨ti, ta⟩))) := Lib.hid (bel_al HBr.out HBr.out.size _)
                        have HStep : Hid (∀ gf capf w10, OwnT w10 w9.heap.size (.slice (some ⟨gf, 0, none⟩) (Df.length + 1) capf) (Df ++ [⟨ti, ta⟩]) → (wr.alloc (tbo ⟨ti, ta⟩)).grownBy w10 vf.ownBlock → (vf.ownBlock = some gf ∨ gf = (wr.alloc (tbo ⟨ti, ta⟩)).heap.size) →
                            OwnT w10 w9.heap.size vg Dg ∧ (∀ b, (Value.slice (some ⟨gf, 0, none⟩) (Df.length + 1) capf).ownBlock = some b → vg.ownBlock ≠ some b) ∧ Below w9.heap.size w9 w10 ∧ w10.cell? ⟨bl, ol + k * 2, none⟩ = some (.int .i64 ti) ∧ w10.cell? ⟨bl, ol + k * 2 + 1, none⟩ = some (.int .i64 ta) ∧ w10.cell? ⟨w.heap.size, 0, none⟩ = some (.int .i64 W.now)) := Lib.hid (fun gf capf w10 hown10 hg10 hat10 => by
                          have hB := HB1'.out.grown hg10 HB1'.out.size (fun q hq => (HO1.out.lt q hq).1)
                          refine ⟨HG1.out.kept hg10 (by
                            cases hv : vg.ownBlock with
                            | none => exact .inl rfl
                            | some b => exact .inr (fun e => HNe.out b e.symm hv)), fun b hb2 hv => ?_, hB, ?_, ?_, (X9.out.below hB).2.1⟩
                          · have hgb : gf = b := Option.some.inj hb2
                            rcases hat10 with h | h
                            · exact HNe.out b (by rw [h, hgb]) hv
                            · have h2 := (HG1.out.lt b hv).2; omega
                          · have := ((HT9.out.below HT9.out.1 hB).2 k (by rw [HLN.out]; exact hlt)).1
                            rw [HTg.out] at this; exact this
                          · have := ((HT9.out.below HT9.out.1 hB).2 k (by rw [HLN.out]; exact hlt)).2
                            rw [HTg.out] at this; exact this)
                        go_wp2_with (first | (at_builtin; refine wpList_append_lies1 (by rfl) _ _ (by rfl) w9.heap.size _ Df (by rfl) HO1.out wr.heap.size ⟨ti, ta⟩ (by rfl) HC1.out.2.1 HC1.out.2.2 HDl.out HB1'.out.size ?_; intro gf capf w10 hown10 hg10 hat10; obtain ⟨hG2, hN2, hB2, e3, e4, x3⟩ := HStep.out gf capf w10 hown10 hg10 hat10; have HO2 := Lib.hid hown10; have HG2 := Lib.hid hG2; have HN2 := Lib.hid hN2; have HB2' := Lib.hid hB2; clear hown10 hg10 hat10 hG2 hN2 hB2))
                        go_roundw
                        case rel => exact ⟨k + 1, by omega, by go_num, by rw [HDf.out]; exact HO2.out, by rw [HDg.out]; exact HG2.out, HN2.out, HB2'.out⟩
                        case measure => simp [intOf]; omega
                    · by_cases hbs : bs = true
                      · by_cases hg : ta ≤ tq
                        · have qf : (ti != id) = false := by simpa using hf
                          have qs : decide (W.now ≤ tq) = true := by have := HBS.out; rw [hbs] at this; exact this.symm
                          have qg : decide (ta ≤ tq) = true := by simpa using hg
                          have HDf : Hid (delT (L.take (k + 1)) id = delT (L.take k) id) := Lib.hid (by rw [HTk.out]; exact del_snoc_n (Classical.not_not.1 hf))
                          have HDg : Hid (GG (L.take (k + 1)) = GG (L.take k) ++ [⟨ti, ta⟩]) := Lib.hid (by rw [HTk.out, HGG.out]; simp only [hbs, if_true]; exact gone_snoc_y hg)
                          clear hf hg hbs
                          generalize delT (L.take k) id = Df at *
                          generalize GG (L.take k) = Dg at *
                          have HStep2 : Hid (∀ (wz : World) (vz : Value) (Dz : List Tm), OwnT wz w9.heap.size vz Dz → OwnT wz w9.heap.size vg Dg → (∀ b, vz.ownBlock = some b → vg.ownBlock ≠ some b) → Below w9.heap.size w9 wz → OwnT (wz.alloc (tbo ⟨ti, ta⟩)) w9.heap.size vg Dg ∧ TB (wz.alloc (tbo ⟨ti, ta⟩)) wz.heap.size ⟨ti, ta⟩ ∧ w9.heap.size ≤ (wz.alloc (tbo ⟨ti, ta⟩)).heap.size ∧
                              ∀ gg capg w11, OwnT w11 w9.heap.size (.slice (some ⟨gg, 0, none⟩) (Dg.length + 1) capg) (Dg ++ [⟨ti, ta⟩]) → (wz.alloc (tbo ⟨ti, ta⟩)).grownBy w11 vg.ownBlock → (vg.ownBlock = some gg ∨ gg = (wz.alloc (tbo ⟨ti, ta⟩)).heap.size) →
                                OwnT w11 w9.heap.size vz Dz ∧ (∀ b, vz.ownBlock = some b → (Value.slice (some ⟨gg, 0, none⟩) (Dg.length + 1) capg).ownBlock ≠ some b) ∧ Below w9.heap.size w9 w11) := Lib.hid (fun wz vz Dz ho hg hn hb => by
                            have hO := own_below ho (bel_al (Below.refl _ _) (Nat.le_refl _) (tbo ⟨ti, ta⟩))
                            have hG := own_below hg (bel_al (Below.refl _ _) (Nat.le_refl _) (tbo ⟨ti, ta⟩))
                            have hB := bel_al hb hb.size (tbo ⟨ti, ta⟩)
                            refine ⟨hG, TB.new _ _, hB.size, fun gg capg w11 hown11 hg11 hat11 => ⟨hO.kept hg11 (by
                              cases hv : vz.ownBlock with
                              | none => exact .inl rfl
                              | some b => exact .inr (fun e => hn b hv e.symm)), fun b hb2 hv => ?_, hB.grown hg11 hB.size (fun q hq => (hG.lt q hq).1)⟩⟩
                            have hgb : gg = b := Option.some.inj hv
                            rcases hat11 with h | h
                            · exact hn b hb2 (by rw [h, hgb])
                            · have h2 := (hO.lt b hb2).2; omega)
                          obtain ⟨hG3, hC3, hZ3, hK3⟩ := HStep2.out wr vf Df HOf.out HOg.out HNe.out HBr.out
                          have HG3 := Lib.hid hG3
                          have HC3 := Lib.hid hC3
                          have HZ3 := Lib.hid hZ3
                          have HK3 := Lib.hid hK3
                          clear hG3 hC3 hZ3 hK3
                          go_wp2_with (first | (at_builtin; refine wpList_append_lies1 (by rfl) _ _ (by rfl) w9.heap.size _ Dg (by rfl) HG3.out wr.heap.size ⟨ti, ta⟩ (by rfl) HC3.out.2.1 HC3.out.2.2 HGl.out HZ3.out ?_; intro gg capg w11 hown11 hg11 hat11; obtain ⟨hO4, hN4, hB4⟩ := HK3.out gg capg w11 hown11 hg11 hat11; have HO4 := Lib.hid hO4; have HG4 := Lib.hid hown11; have HN4 := Lib.hid hN4; have HB4' := Lib.hid hB4; clear hown11 hg11 hat11 hO4 hN4 hB4))
                          go_roundw
                          case rel => exact ⟨k + 1, by omega, by go_num, by rw [HDf.out]; exact HO4.out, by rw [HDg.out]; exact HG4.out, HN4.out, HB4'.out⟩
                          case measure => simp [intOf]; omega
                        · have qf : (ti != id) = false := by simpa using hf
                          have qs : decide (W.now ≤ tq) = true := by have := HBS.out; rw [hbs] at this; exact this.symm
                          have qg : decide (ta ≤ tq) = false := by simpa using hg
                          have HDf : Hid (delT (L.take (k + 1)) id = delT (L.take k) id) := Lib.hid (by rw [HTk.out]; exact del_snoc_n (Classical.not_not.1 hf))
                          have HDg : Hid (GG (L.take (k + 1)) = GG (L.take k)) := Lib.hid (by rw [HTk.out, HGG.out]; simp only [hbs, if_true]; exact gone_snoc_n hg)
                          clear hf hg hbs
                          generalize delT (L.take k) id = Df at *
                          generalize GG (L.take k) = Dg at *
                          go_wp2
                          go_roundw
                          case rel => exact ⟨k + 1, by omega, by go_num, by rw [HDf.out]; exact HOf.out, by rw [HDg.out]; exact HOg.out, HNe.out, HBr.out⟩
                          case measure => simp [intOf]; omega
                      · have hbs := eq_false_of_ne_true hbs
                        have qf : (ti != id) = false := by simpa using hf
                        have qs : decide (W.now ≤ tq) = false := by have := HBS.out; rw [hbs] at this; exact this.symm
                        have HDf : Hid (delT (L.take (k + 1)) id = delT (L.take k) id) := Lib.hid (by rw [HTk.out]; exact del_snoc_n (Classical.not_not.1 hf))
                        have HDg : Hid (GG (L.take (k + 1)) = GG (L.take k)) := Lib.hid (by rw [HGG.out]; simp [hbs])
                        clear hf hbs
                        generalize delT (L.take k) id = Df at *
                        generalize GG (L.take k) = Dg at *
                        go_wp2
                        go_roundw
                        case rel => exact ⟨k + 1, by omega, by go_num, by rw [HDf.out]; exact HOf.out, by rw [HDg.out]; exact HOg.out, HNe.out, HBr.out⟩
                        case measure => simp [intOf]; omega
                  · obtain rfl : k = ln := by omega
                    clear hlt
                    have HtL : Hid (L.take k = L) := Lib.hid (by rw [← HLN.out]; exact List.take_length)
                    rw [HtL.out] at HOf HOg
                    have X10 := Lib.hid (X9.out.below HBr.out)
                    have T10 := Lib.hid (T9.out.below HBr.out)
                    have HV10 := Lib.hid (HV9.out.below HBr.out)
                    have HTl10 := Lib.hid (HTl.out.below HBr.out)
                    obtain ⟨Df, hDf⟩ : ∃ Df, Df = delT L id := ⟨_, rfl⟩
                    obtain ⟨Dg, hDg⟩ : ∃ Dg, Dg = GG L := ⟨_, rfl⟩
                    rw [← hDf] at HOf
                    rw [← hDg] at HOg
                    have HDf := Lib.hid hDf
                    have HDg := Lib.hid hDg
                    clear hDf hDg
                    have HDgS : Hid (Sorted Dg ∧ Dg.length ≤ 1000) := Lib.hid (by
                      rw [HDg.out]
                      refine ⟨?_, by have := HGle.out L; have := HLN.out; omega⟩
                      rw [HGG.out]
                      dsimp only
                      split
                      · exact List.Pairwise.filter _ HGL.out.sorted
                      · exact List.Pairwise.nil)
                    obtain ⟨Af, cf, rfl, hTf, hAf⟩ := tms_of_own HOf.out
                    obtain ⟨Ah, ch, rfl, hTh, hAh⟩ := tms_of_own HOg.out
                    have HTf := Lib.hid hTf
                    have HTh := Lib.hid hTh
                    have HAf : Hid (∀ a, Af = some a → q + 4 ≤ a.block) := Lib.hid (fun a ha => Nat.le_trans HZ9.out (hAf a ha))
                    have HlF : Hid (Df.length ≤ 60) := Lib.hid (by rw [HDf.out]; have := del_len_le L id; have := HLN.out; omega)
                    clear hTf hTh hAf hAh
                    go_wp2_with fail
                    refine (tsorted_any Ah ch Dg Dg wr HTh.out HDgS.out.1 (List.Perm.refl _) HDgS.out.2).mono ?_
                    rintro e w11 ⟨v11, rfl, hown11, hb11⟩
                    obtain ⟨Ao, co, rfl, hTo, hAo⟩ := tms_of_own hown11
                    have HTo := Lib.hid hTo
                    have HAo : Hid (∀ a, Ao = some a → q + 4 ≤ a.block) := Lib.hid (fun a ha => by have := hAo a ha; have := HV10.out.size; omega)
                    have X11 := Lib.hid (X10.out.below hb11)
                    have T11 := Lib.hid (T10.out.below hb11)
                    have HV11 := Lib.hid (HV10.out.below hb11)
                    have HTl11 := Lib.hid (HTl10.out.below hb11)
                    have HTf11 := Lib.hid (HTf.out.below hb11)
                    clear hown11 hTo hAo hb11
                    obtain ⟨-, x1, x2, -⟩ := X11.out
                    obtain ⟨-, t1, t2⟩ := T11.out
                    obtain ⟨bo, hbo⟩ : ∃ bo : Bool, bo = decide (okT W.now t) := ⟨_, rfl⟩
                    have HBo := Lib.hid hbo
                    clear hbo
                    go_wp2_with fail
                    refine (right_any t W.now _).mono ?_
                    rintro e w12 ⟨rfl, hb12⟩
                    rw [← HBo.out]
                    have X12 := Lib.hid (X11.out.below hb12)
                    have T12 := Lib.hid (T11.out.below hb12)
                    have HV12 := Lib.hid (HV11.out.below hb12)
                    have HTT : Hid (Tms w12 Al cl L ∧ Tms w12 Af cf Df ∧ Tms w12 Ao co Dg) := Lib.hid ⟨HTl11.out.below hb12, HTf11.out.below hb12, HTo.out.below hb12⟩
                    clear hb12 x1 x2 t1 t2 HTf HTh HTo HOf HOg HNe HTl10 HTl11 HTf11 HV10 HV11 X10 X11 T10 T11
                    obtain ⟨lf, hlf⟩ : ∃ lf, Df.length = lf := ⟨_, rfl⟩
                    have HLF := Lib.hid hlf
                    obtain ⟨lg, hlg⟩ : ∃ lg, Dg.length = lg := ⟨_, rfl⟩
                    have HLG := Lib.hid hlg
                    rw [hlf, hlg]
                    clear hlf hlg
                    go_upto_if 128 with fail
                    go_cut [26] (fun s26 wx => s26 = .int .i64 (errA W t) ∧ (Tms wx Al cl L ∧ Tms wx Af cf Df ∧ Tms wx Ao co Dg) ∧ VF wx q w6 (newM tq) (addM W t) Whl.no Whl.no)
                    case first =>
                      as_aux_lemma =>
                        obtain ⟨-, t1, t2⟩ := T12.out
                        by_cases h1 : okT W.now t
                        · have qo : bo = true := by rw [HBo.out]; simpa using h1
                          subst qo
                          have HHas := Lib.hid (hasTimer_any Al cl L t.id w12 HTT.out.1)
                          rw [HLN.out] at HHas
                          by_cases h2 : hasId L t.id
                          · have HE : Hid (errA W t = 6 ∧ addM W t = Whl.no) := Lib.hid (by
                              have e : errA W t = 6 := by unfold errA; rw [if_pos HCK.out, if_pos h1, ← HLe.out, if_pos h2]
                              exact ⟨e, by unfold addM; rw [e]; rfl⟩)
                            rw [show decide (hasId L t.id) = true by simpa using h2] at HHas
                            clear h1 h2
                            go_wp2_with fail
                            refine HHas.out.mono ?_
                            rintro e w' ⟨rfl, rfl⟩
                            go_wp2
                            go_meet
                            exact ⟨by rw [HE.out.1], HTT.out, by rw [HE.out.2]; exact HV12.out⟩
                          · rw [show decide (hasId L t.id) = false by simpa using h2] at HHas
                            by_cases h3 : k = 60
                            · have HE : Hid (errA W t = 8 ∧ addM W t = Whl.no) := Lib.hid (by
                                have e : errA W t = 8 := by unfold errA; rw [if_pos HCK.out, if_pos h1, ← HLe.out, if_neg h2, if_pos (by rw [HLN.out]; omega)]
                                exact ⟨e, by unfold addM; rw [e]; rfl⟩)
                              have q1 : ((k : Int) == 60) = true := by simp; omega
                              clear h1 h2 h3
                              go_wp2_with fail
                              refine HHas.out.mono ?_
                              rintro e w' ⟨rfl, rfl⟩
                              go_wp2
                              go_meet
                              exact ⟨by rw [HE.out.1], HTT.out, by rw [HE.out.2]; exact HV12.out⟩
                            · have q1 : ((k : Int) == 60) = false := beq_false_of_ne (by omega)
                              have HGI : Hid (Good W.now (insT L t)) := Lib.hid (good_ins HGL.out h1 h2 (by rw [HLN.out]; omega))
                              have HE : Hid (errA W t = 0 ∧ addM W t = wheelOf W.now (lateT (insT L t) W.now)) := Lib.hid (by
                                have e : errA W t = 0 := by unfold errA; rw [if_pos HCK.out, if_pos h1, ← HLe.out, if_neg h2, if_neg (by rw [HLN.out]; omega)]
                                refine ⟨e, ?_⟩
                                unfold addM
                                rw [if_pos e, ← HLe.out, late_all (fun u hu => (HGI.out.ok u hu).2.2.2)])
                              have HPI : Hid ((L ++ [t]).Perm (insT L t)) := Lib.hid (List.perm_append_comm.trans (perm_insT L t).symm)
                              have HL1 : Hid (([] : List Tm).length + k ≤ 16777216) := Lib.hid (by simp; omega)
                              have HL2 : Hid (L.length + 1 ≤ 16777216) := Lib.hid (by rw [HLN.out]; omega)
                              have HX12 := Lib.hid (X12.out)
                              clear h1 h2 h3
                              go_wp2_with fail
                              refine HHas.out.mono ?_
                              rintro e w' ⟨rfl, rfl⟩
                              obtain ⟨-, x1, x2, -⟩ := HX12.out
                              obtain ⟨Az, cz, -, z1, z2, f1, f2, -⟩ := HV12.out.2.1
                              have HNq : Hid (w.heap.size ≠ q + 1 ∧ w.heap.size + 1 ≠ q + 1) := Lib.hid (by have := HLn.out; have := HQ.out; omega)
                              have HAdd := Lib.hid (add_keep (q := q + 1) HX12.out.1 T12.out.1 (by have := HV12.out.size; omega) x1 t1 t2 z1 z2 f1 f2)
                              have HOA := Lib.hid (add_ownA w12)
                              have HOB := Lib.hid (add_ownB w12 t)
                              have HOC := Lib.hid (add_ownC w12 t)
                              have HtB := Lib.hid (add_tB w12 t)
                              have HtC := Lib.hid (add_tC w12 t)
                              have HBA := Lib.hid (add_belA w12)
                              have HBB := Lib.hid (add_belB w12 t)
                              have HBC := Lib.hid (add_belC w12 t)
                              have HBD := Lib.hid (add_belD w12 t)
                              generalize addM W t = Z at *
                              go_wp2
                              obtain ⟨m5, hm5⟩ : ∃ m5, (L ++ [t]).length = m5 := ⟨_, rfl⟩
                              have HM5 := Lib.hid hm5
                              have HCall : Hid (∀ (A5 : Option Addr) (c5 : Nat) (w5 : World), Tms w5 A5 c5 (L ++ [t]) → Calls Try.prog 10 #[.int .i64 W.now, .slice A5 m5 c5] w5 fun e w' => ∃ A' c', e = .returned (wv Z A' c') ∧ Grid w5.heap.size w' A' c' Z.slots ∧ Below w5.heap.size w5 w') := Lib.hid (fun A5 c5 w5 hT => by
                                have h := refOf_n HGL.out.time A5 c5 (L ++ [t]) (insT L t) w5 hT HGI.out.sorted HPI.out (by have := HL2.out; have := HLN.out; simp; omega) (fun u hu => (HGI.out.ok u hu).2.2.1) Z HE.out.2
                                rw [HM5.out] at h
                                exact h)
                              clear hm5
                              clear x1 x2 t1 t2 z1 z2 f1 f2
                              go_region_held3 (fun w' => w'.cell? ⟨w.heap.size, 0, none⟩ = some (.int .i64 W.now) ∧ w'.cell? ⟨w.heap.size + 1, 0, none⟩ = some (.int .i64 t.id) ∧ w'.cell? ⟨w.heap.size + 1, 1, none⟩ = some (.int .i64 t.tm) ∧ w'.cell? ⟨q + 1, 0, none⟩ = some (rd w' (q + 1) 0) ∧ w'.cell? ⟨q + 1, 1, none⟩ = some (rd w' (q + 1) 1) ∧ w'.frozen? ⟨q + 1, 0, none⟩ = false ∧ w'.frozen? ⟨q + 1, 1, none⟩ = false)
                                (first | exact add_set (add_set (HAdd.out _ hB9) HNq.out.1 HNq.out.2 0 _) HNq.out.1 HNq.out.2 1 _ | exact HAdd.out _ hB9 | exact HAdd.out _ hB5 | exact HAdd.out _ (bel_al hB4 hB4.size _) | exact HAdd.out _ hB4 | exact HAdd.out _ HBB.out | exact HAdd.out _ HBC.out | exact HAdd.out _ HBA.out | exact HAdd.out _ HBD.out | exact HAdd.out _ (Below.refl _ _).drew)
                                (first
                                  | ((with_reducible refine at_world (w12.alloc (.cells #[] 26)).drew ?_); refine step_append_tms (by rfl) _ _ (by rfl) w12.heap.size _ [] (by rfl) HOA.out Al cl k L HLN.out.symm (by rfl) (HTT.out.1.below HBA.out) HL1.out HBA.out.size ?_; intro vx4 wx4 hown4 hg4; have hB4 := HBA.out.grown hg4 HBA.out.size (fun q hq => (HOA.out.lt q hq).1))
                                  | ((with_reducible refine at_world ((w12.alloc (.cells #[] 26)).alloc (.cells #[.int .i64 t.id, .int .i64 t.tm] 26)).drew ?_); refine step_append_tms (by rfl) _ _ (by rfl) w12.heap.size _ [] (by rfl) HOB.out Al cl k L HLN.out.symm (by rfl) (HTT.out.1.below HBB.out) HL1.out HBB.out.size ?_; intro vx4 wx4 hown4 hg4; have hB4 := HBB.out.grown hg4 HBB.out.size (fun q hq => (HOB.out.lt q hq).1); have hT4 := HtB.out.grown hg4 (fun a ha => by cases ha; simp [Value.ownBlock]))
                                  | ((with_reducible refine at_world ((w12.alloc (.cells #[.int .i64 t.id, .int .i64 t.tm] 26)).alloc (.cells #[] 26)).drew ?_); refine step_append_tms (by rfl) _ _ (by rfl) w12.heap.size _ [] (by rfl) HOC.out Al cl k L HLN.out.symm (by rfl) (HTT.out.1.below HBC.out) HL1.out HBC.out.size ?_; intro vx4 wx4 hown4 hg4; have hB4 := HBC.out.grown hg4 HBC.out.size (fun q hq => (HOC.out.lt q hq).1); have hT4 := HtC.out.grown hg4 (fun a ha => by cases ha; simp [Value.ownBlock]))
                                  | ((with_reducible refine at_world wx4 ?_); refine step_append_tms (by rfl) _ _ (by rfl) w12.heap.size _ L (by rfl) hown4 _ 1 1 [t] rfl (by rfl) hT4 HL2.out hB4.size ?_; intro vx5 wx5 hown5 hg5; have hB5 := hB4.grown hg5 hB4.size (fun q hq => (hown4.lt q hq).1); obtain ⟨Ax5, cx5, rfl, hT5, -⟩ := tms_of_own2 hown5; rw [HM5.out])
                                  | ((with_reducible refine at_world (wx4.alloc (.cells #[.int .i64 t.id, .int .i64 t.tm] 26)) ?_); refine step_append_tms (by rfl) _ _ (by rfl) w12.heap.size _ L (by rfl) (own_below hown4 (bel_al (Below.refl _ _) (Nat.le_refl _) (tbo t))) _ 1 1 [t] rfl (by rfl) (tms_one wx4 t) HL2.out (bel_al hB4 hB4.size _).size ?_; intro vx5 wx5 hown5 hg5; have hB5 := (bel_al hB4 hB4.size (tbo t)).grown hg5 (bel_al hB4 hB4.size (tbo t)).size (fun q hq => (hown4.lt q hq).1); obtain ⟨Ax5, cx5, rfl, hT5, -⟩ := tms_of_own2 hown5; rw [HM5.out])
                                  | (go_at_call 10; refine (HCall.out Ax5 cx5 wx5 hT5).mono ?_; rintro e w9' ⟨A9, c9, rfl, hg9, hb9⟩; have hB9 := hB5.trans (hb9.mono hB5.size)))
                              all_goals
                                have HV9' := Lib.hid (HV12.out.below hB9)
                                have HG9' : Hid (Grid (q + 4) w9' A9 c9 Z.slots) := Lib.hid (hg9.mono (Nat.le_trans HV12.out.size hB5.size))
                                have HTT9 : Hid (Tms w9' Al cl L ∧ Tms w9' Af cf Df ∧ Tms w9' Ao co Dg) := Lib.hid ⟨HTT.out.1.below hB9, HTT.out.2.1.below hB9, HTT.out.2.2.below hB9⟩
                                clear hB9 hg9 hB5 hb9 hown5 hT5 hown4 hB4 hg4 hg5
                                go_wp2
                                go_meet
                                exact ⟨by rw [HE.out.1], ⟨(HTT9.out.1.setCell (fun a ha => by have := HAl.out a ha; show q + 1 ≠ a.block; omega) _).setCell (fun a ha => by have := HAl.out a ha; show q + 1 ≠ a.block; omega) _, (HTT9.out.2.1.setCell (fun a ha => by have := HAf.out a ha; show q + 1 ≠ a.block; omega) _).setCell (fun a ha => by have := HAf.out a ha; show q + 1 ≠ a.block; omega) _, (HTT9.out.2.2.setCell (fun a ha => by have := HAo.out a ha; show q + 1 ≠ a.block; omega) _).setCell (fun a ha => by have := HAo.out a ha; show q + 1 ≠ a.block; omega) _⟩, HV9'.out.put1 HG9'.out⟩
                        · have qo : bo = false := by rw [HBo.out]; simpa using h1
                          subst qo
                          have HE : Hid (errA W t = 3 ∧ addM W t = Whl.no) := Lib.hid (by
                            have e : errA W t = 3 := by unfold errA; rw [if_pos HCK.out, if_neg h1]
                            exact ⟨e, by unfold addM; rw [e]; rfl⟩)
                          clear h1
                          go_wp2
                          go_meet
                          exact ⟨by rw [HE.out.1], HTT.out, by rw [HE.out.2]; exact HV12.out⟩
                    case rest =>
                      as_aux_lemma =>
                        obtain ⟨rfl, hTT, hV⟩ := hcut
                        have HTT13 := Lib.hid hTT
                        have HV13 := Lib.hid hV
                        clear hTT hV
                        generalize wc = w13 at *
                        go_upto_if 149 with fail
                        go_cut [27] (fun s27 wx => s27 = .int .i64 (errC W id) ∧ (Tms wx Al cl L ∧ Tms wx Af cf Df ∧ Tms wx Ao co Dg) ∧ VF wx q w6 (newM tq) (addM W t) (canM W id) Whl.no)
                        case first =>
                          as_aux_lemma =>
                            have HX13 := Lib.hid (X6.out.below (w' := w13) (by rw [HQ.out]; exact HV13.out.bel))
                            by_cases hh : hasId L id
                            · have HE : Hid (errC W id = 0 ∧ canM W id = wheelOf W.now (lateT Df W.now)) := Lib.hid (by
                                have e : errC W id = 0 := by unfold errC; rw [if_pos HCK.out, ← HLe.out, if_pos hh]
                                refine ⟨e, ?_⟩
                                unfold canM
                                rw [if_pos e, ← HLe.out, HDf.out, late_all (fun u hu => ((good_del HGL.out).ok u hu).2.2.2)])
                              have hne : lf ≠ k := fun e => (del_len_eq.1 (by rw [← HDf.out, HLF.out, e, HLN.out])) hh
                              have q1 : ((lf : Int) == (k : Int)) = false := beq_false_of_ne (by omega)
                              have HOf := Lib.hid (refOf_n HGL.out.time Af cf Df Df w13 HTT13.out.2.1 (by rw [HDf.out]; exact (good_del HGL.out).sorted) (List.Perm.refl _) (by have := HlF.out; omega) (fun u hu => by rw [HDf.out] at hu; exact ((good_del HGL.out).ok u hu).2.2.1) (canM W id) HE.out.2)
                              rw [HLF.out] at HOf
                              clear hh hne
                              generalize canM W id = Z at *
                              obtain ⟨-, x1, x2, -⟩ := HX13.out
                              go_wp2_with fail
                              refine HOf.out.mono ?_
                              rintro e w14 ⟨A14, c14, rfl, hg14, hb14⟩
                              have HV14 := Lib.hid (HV13.out.below hb14)
                              have HG14 : Hid (Grid (q + 4) w14 A14 c14 Z.slots) := Lib.hid (hg14.mono HV13.out.size)
                              have HTT14 : Hid (Tms w14 Al cl L ∧ Tms w14 Af cf Df ∧ Tms w14 Ao co Dg) := Lib.hid ⟨HTT13.out.1.below hb14, HTT13.out.2.1.below hb14, HTT13.out.2.2.below hb14⟩
                              clear hg14 hb14 x1 x2
                              obtain ⟨Az, cz, -, z1, z2, f1, f2, -⟩ := HV14.out.2.2.1
                              go_wp2
                              go_meet
                              exact ⟨by rw [HE.out.1], ⟨(HTT14.out.1.setCell (fun a ha => by have := HAl.out a ha; show q + 1 + 1 ≠ a.block; omega) _).setCell (fun a ha => by have := HAl.out a ha; show q + 1 + 1 ≠ a.block; omega) _, (HTT14.out.2.1.setCell (fun a ha => by have := HAf.out a ha; show q + 1 + 1 ≠ a.block; omega) _).setCell (fun a ha => by have := HAf.out a ha; show q + 1 + 1 ≠ a.block; omega) _, (HTT14.out.2.2.setCell (fun a ha => by have := HAo.out a ha; show q + 1 + 1 ≠ a.block; omega) _).setCell (fun a ha => by have := HAo.out a ha; show q + 1 + 1 ≠ a.block; omega) _⟩, HV14.out.put2 HG14.out⟩
                            · have HE : Hid (errC W id = 5 ∧ canM W id = Whl.no) := Lib.hid (by
                                have e : errC W id = 5 := by unfold errC; rw [if_pos HCK.out, ← HLe.out, if_neg hh]
                                exact ⟨e, by unfold canM; rw [e]; rfl⟩)
                              have hne : lf = k := by rw [← HLF.out, ← HLN.out, HDf.out]; exact del_len_eq.2 hh
                              have q1 : ((lf : Int) == (k : Int)) = true := by simp [hne]
                              clear hh hne
                              go_wp2
                              go_meet
                              exact ⟨by rw [HE.out.1], HTT13.out, by rw [HE.out.2]; exact HV13.out⟩
                        case rest =>
                          as_aux_lemma =>
                            obtain ⟨rfl, hTT, hV⟩ := hcut
                            have HTT14 := Lib.hid hTT
                            have HV14 := Lib.hid hV
                            clear hTT hV HTT13 HV13
                            generalize wc = w14 at *
                            go_upto_region 36 with fail
                            go_cut [159] (fun s159 wx => s159 = .bool bT ∧ w14 = wx)
                            case first =>
                              as_aux_lemma =>
                                by_cases h0 : tq < 0
                                · have q1 : decide (tq < 0) = true := by simpa using h0
                                  have HE : Hid (true = bT) := Lib.hid (by rw [HBT.out]; rw [decide_eq_false (fun h : isT tq => by have := h.1; omega)]; rfl)
                                  clear h0
                                  go_wp2
                                  go_meet
                                  exact ⟨by rw [HE.out], rfl⟩
                                · have q1 : decide (tq < 0) = false := by simpa using h0
                                  have HE : Hid (decide (262143 < tq) = bT) := Lib.hid (by
                                    rw [HBT.out]
                                    by_cases h : 262143 < tq
                                    · rw [decide_eq_true h, decide_eq_false (fun h2 : isT tq => by have := h2.2; omega)]; rfl
                                    · rw [decide_eq_false h, decide_eq_true (show isT tq from ⟨by omega, by omega⟩)]; rfl)
                                  clear h0
                                  go_wp2
                                  go_meet
                                  exact ⟨by rw [HE.out], rfl⟩
                            case rest =>
                              as_aux_lemma =>
                                obtain ⟨rfl, rfl⟩ := hcut
                                go_upto_if 159 with fail
                                go_cut [28] (fun s28 wx => s28 = .int .i64 (errV W tq) ∧ (Tms wx Al cl L ∧ Tms wx Af cf Df ∧ Tms wx Ao co Dg) ∧ VF wx q w6 (newM tq) (addM W t) (canM W id) (advM W tq))
                                case first =>
                                  as_aux_lemma =>
                                    have HX14 := Lib.hid (X6.out.below (w' := w14) (by rw [HQ.out]; exact HV14.out.bel))
                                    obtain ⟨-, x1, x2, -⟩ := HX14.out
                                    by_cases hT : isT tq
                                    · have qT : bT = false := by rw [HBT.out]; simpa using hT
                                      subst qT
                                      by_cases hlt2 : tq < W.now
                                      · have HE : Hid (errV W tq = 4 ∧ advM W tq = Whl.no) := Lib.hid (by
                                          have e : errV W tq = 4 := by unfold errV; rw [if_pos HCK.out, if_pos hT, if_pos hlt2]
                                          exact ⟨e, by unfold advM; rw [e]; rfl⟩)
                                        have q1 : decide (tq < W.now) = true := by simpa using hlt2
                                        clear hT hlt2
                                        go_wp2
                                        go_meet
                                        exact ⟨by rw [HE.out.1], HTT14.out, by rw [HE.out.2]; exact HV14.out⟩
                                      · have HE : Hid (errV W tq = 0 ∧ advM W tq = wheelOf tq (lateT L tq)) := Lib.hid (by
                                          have e : errV W tq = 0 := by unfold errV; rw [if_pos HCK.out, if_pos hT, if_neg hlt2]
                                          exact ⟨e, by unfold advM; rw [if_pos e, ← HLe.out]⟩)
                                        have q1 : decide (tq < W.now) = false := by simpa using hlt2
                                        have HOf := Lib.hid (refOf_n hT Al cl L L w14 HTT14.out.1 HGL.out.sorted (List.Perm.refl _) (by have := HLN.out; omega) (fun u hu => (HGL.out.ok u hu).2.2.1) (advM W tq) HE.out.2)
                                        rw [HLN.out] at HOf
                                        clear hT hlt2
                                        generalize advM W tq = Z at *
                                        go_wp2_with fail
                                        refine HOf.out.mono ?_
                                        rintro e w15 ⟨A15, c15, rfl, hg15, hb15⟩
                                        have HV15 := Lib.hid (HV14.out.below hb15)
                                        have HG15 : Hid (Grid (q + 4) w15 A15 c15 Z.slots) := Lib.hid (hg15.mono HV14.out.size)
                                        have HTT15 : Hid (Tms w15 Al cl L ∧ Tms w15 Af cf Df ∧ Tms w15 Ao co Dg) := Lib.hid ⟨HTT14.out.1.below hb15, HTT14.out.2.1.below hb15, HTT14.out.2.2.below hb15⟩
                                        clear hg15 hb15 x1 x2
                                        obtain ⟨Az, cz, -, z1, z2, f1, f2, -⟩ := HV15.out.2.2.2.1
                                        go_wp2
                                        go_meet
                                        exact ⟨by rw [HE.out.1], ⟨(HTT15.out.1.setCell (fun a ha => by have := HAl.out a ha; show q + 1 + 1 + 1 ≠ a.block; omega) _).setCell (fun a ha => by have := HAl.out a ha; show q + 1 + 1 + 1 ≠ a.block; omega) _, (HTT15.out.2.1.setCell (fun a ha => by have := HAf.out a ha; show q + 1 + 1 + 1 ≠ a.block; omega) _).setCell (fun a ha => by have := HAf.out a ha; show q + 1 + 1 + 1 ≠ a.block; omega) _, (HTT15.out.2.2.setCell (fun a ha => by have := HAo.out a ha; show q + 1 + 1 + 1 ≠ a.block; omega) _).setCell (fun a ha => by have := HAo.out a ha; show q + 1 + 1 + 1 ≠ a.block; omega) _⟩, HV15.out.put3 HG15.out⟩
                                    · have qT : bT = true := by rw [HBT.out]; simpa using hT
                                      subst qT
                                      have HE : Hid (errV W tq = 3 ∧ advM W tq = Whl.no) := Lib.hid (by
                                        have e : errV W tq = 3 := by unfold errV; rw [if_pos HCK.out, if_neg hT]
                                        exact ⟨e, by unfold advM; rw [e]; rfl⟩)
                                      clear hT
                                      go_wp2
                                      go_meet
                                      exact ⟨by rw [HE.out.1], HTT14.out, by rw [HE.out.2]; exact HV14.out⟩
                                case rest =>
                                  as_aux_lemma =>
                                    obtain ⟨rfl, hTT, hV⟩ := hcut
                                    have HTT16 := Lib.hid hTT
                                    have HV16 := Lib.hid hV
                                    clear hTT hV HTT14 HV14
                                    generalize wc = w16 at *
                                    go_upto_if 169 with fail
                                    go_cut [29, 31] (fun s29 s31 wx => s29 = .int .i64 (errN W) ∧ s31 = .int .i64 (nextM W) ∧ Tms wx Ao co Dg ∧ VF wx q w6 (newM tq) (addM W t) (canM W id) (advM W tq))
                                    case first =>
                                      as_aux_lemma =>
                                        by_cases h0 : k = 0
                                        · have HE : Hid (errN W = 5 ∧ nextM W = 0) := Lib.hid (by
                                            have e : errN W = 5 := by unfold errN; rw [if_pos HCK.out, ← HLe.out, if_pos (by rw [HLN.out]; exact h0)]
                                            exact ⟨e, by unfold nextM; rw [e]; rfl⟩)
                                          have q1 : ((k : Int) == 0) = true := by simp [h0]
                                          clear h0
                                          go_wp2
                                          go_meet
                                          exact ⟨by rw [HE.out.1], by rw [HE.out.2], HTT16.out.2.2, HV16.out⟩
                                        · have HE : Hid (errN W = 0 ∧ nextM W = (gt L 0).tm) := Lib.hid (by
                                            have e : errN W = 0 := by unfold errN; rw [if_pos HCK.out, ← HLe.out, if_neg (by rw [HLN.out]; exact h0)]
                                            exact ⟨e, by unfold nextM; rw [if_pos e, ← HLe.out]⟩)
                                          have q1 : ((k : Int) == 0) = false := beq_false_of_ne (by omega)
                                          have hkp : (0 : Int) < (k : Int) := by omega
                                          have HTs := Lib.hid (tsorted_any Al cl L L w16 HTT16.out.1 HGL.out.sorted (List.Perm.refl _) (by have := HLN.out; omega))
                                          rw [HLN.out] at HTs
                                          go_wp2_with fail
                                          refine HTs.out.mono ?_
                                          rintro e w17 ⟨v17, rfl, hown17, hb17⟩
                                          obtain ⟨A17, c17, rfl, hT17, -⟩ := tms_of_own hown17
                                          obtain ⟨b17, o17, rfl, ht17⟩ := hT17.2.2.2 (by rw [HLN.out]; omega)
                                          have e1 := (ht17.2 0 (by rw [HLN.out]; omega)).2
                                          have HV17 := Lib.hid (HV16.out.below hb17)
                                          have HTo17 := Lib.hid (HTT16.out.2.2.below hb17)
                                          simp only [Nat.zero_mul, Nat.add_zero] at e1
                                          rw [HLN.out]
                                          clear hown17 hb17 hT17 ht17 h0
                                          generalize (gt L 0).tm = tz at *
                                          go_wp2
                                          go_meet
                                          exact ⟨by rw [HE.out.1], by rw [HE.out.2], HTo17.out, HV17.out⟩
                                    case rest =>
                                      as_aux_lemma =>
                                        obtain ⟨rfl, rfl, hTo, hV⟩ := hcut
                                        have HTo := Lib.hid hTo
                                        have HVe := Lib.hid hV
                                        clear hTo hV
                                        go_wp2
                                        go_meet
                                        refine ⟨rfl, rfl, rfl, rfl, rfl, ⟨Dg, Ao, co, by rw [HLG.out], HTo.out, fun hv => ?_⟩, HVe.out⟩
                                        have hbs : bs = true := by
                                          rw [HBS.out]
                                          unfold errV at hv
                                          rw [if_pos HCK.out] at hv
                                          by_cases h1 : isT tq
                                          · rw [if_pos h1] at hv
                                            by_cases h2 : tq < W.now
                                            · rw [if_pos h2] at hv; exact absurd hv (by decide)
                                            · exact decide_eq_true (by omega)
                                          · rw [if_neg h1] at hv; exact absurd hv (by decide)
                                        rw [HDg.out, HGG.out]
                                        unfold advG
                                        rw [if_pos hv, ← HLe.out]
                                        simp [hbs]
              · have HA : Hid (errA W t = ck ∧ errC W id = ck ∧ errV W tq = ck ∧ errN W = ck) := Lib.hid (by
                  have hn : ¬ checkW W = 0 := by rw [HCK.out]; exact h0
                  exact ⟨by unfold errA; rw [if_neg hn, HCK.out], by unfold errC; rw [if_neg hn, HCK.out], by unfold errV; rw [if_neg hn, HCK.out], by unfold errN; rw [if_neg hn, HCK.out]⟩)
                have HZ : Hid (addM W t = Whl.no ∧ canM W id = Whl.no ∧ advM W tq = Whl.no ∧ nextM W = 0) := Lib.hid ⟨by unfold addM; rw [HA.out.1, if_neg h0], by unfold canM; rw [HA.out.2.1, if_neg h0], by unfold advM; rw [HA.out.2.2.1, if_neg h0], by unfold nextM; rw [HA.out.2.2.2, if_neg h0]⟩
                have HEr : Hid (errV W tq ≠ 0) := Lib.hid (by rw [HA.out.2.2.1]; exact h0)
                have qc : (ck == 0) = false := by simpa using h0
                clear h0
                go_wp2
                go_meet
                exact ⟨by rw [HA.out.1], by rw [HA.out.2.1], by rw [HA.out.2.2.1], by rw [HA.out.2.2.2], by rw [HZ.out.2.2.2], ⟨[], none, 0, rfl, Tms.none_ _, fun e => absurd e HEr.out⟩, by rw [HZ.out.1, HZ.out.2.1, HZ.out.2.2.1]; exact HV8.out⟩
          case rest =>
            as_aux_lemma =>
              obtain ⟨rfl, rfl, rfl, rfl, rfl, ⟨G0, A0, c0, rfl, hT0, hG0⟩, hV9⟩ := hcut
              have HV9 := Lib.hid hV9
              have HT0 := Lib.hid hT0
              have HG0 := Lib.hid hG0
              clear hV9 hT0 hG0 HV8
              generalize wc = w9 at *
              go_upto_if 176 with fail
              go_cut [30] (fun s30 wx => (∃ A c, s30 = .slice A (advG W tq).length c ∧ Tms wx A c (advG W tq)) ∧ w9 = wx)
              case first =>
                as_aux_lemma =>
                  by_cases hv : errV W tq = 0
                  · have HE := Lib.hid (HG0.out hv)
                    have qv : (errV W tq != 0) = false := by simp [hv]
                    clear hv
                    go_wp2
                    go_meet
                    exact ⟨⟨A0, c0, by rw [HE.out], by rw [← HE.out]; exact HT0.out⟩, rfl⟩
                  · have qv : (errV W tq != 0) = true := by simpa using hv
                    have HE : Hid (advG W tq = []) := Lib.hid (by unfold advG; rw [if_neg hv])
                    clear hv
                    go_wp2
                    go_meet
                    exact ⟨⟨none, 0, by rw [HE.out]; rfl, by rw [HE.out]; exact Tms.none_ _⟩, rfl⟩
              case rest =>
                as_aux_lemma =>
                  obtain ⟨⟨A1', c1', rfl, hT1⟩, rfl⟩ := hcut
                  have HGo := Lib.hid hT1
                  clear hT1 HT0 HG0
                  have HBq : Hid (Below w6.heap.size w6 w9) := Lib.hid (by rw [HQ.out]; exact HV9.out.bel)
                  have HBw : Hid (Below w.heap.size w w9) := Lib.hid (HB6.out.trans (HBq.out.mono HB6.out.size))
                  have X9 := Lib.hid (X6.out.below HBq.out)
                  have M9 := Lib.hid (M6.out.below HBq.out)
                  have P9 := Lib.hid (P6.out.below HBq.out)
                  have S9 := Lib.hid (S6.out.below HBq.out)
                  have V9 := Lib.hid (V6.out.below HBq.out)
                  have G9 := Lib.hid (G6.out.below HBq.out)
                  clear X6 T6 M6 P6 S6 V6 G6 HBq HB6
                  obtain ⟨-, x1, x2, -⟩ := X9.out
                  go_wp2_with fail
                  refine (begun_any _).mono ?_
                  rintro e w10 ⟨rfl, hb⟩
                  have X10 := Lib.hid (X9.out.below hb)
                  have M10 := Lib.hid (M9.out.below hb)
                  have P10 := Lib.hid (P9.out.below hb)
                  have S10 := Lib.hid (S9.out.below hb)
                  have V10 := Lib.hid (V9.out.below hb)
                  have G10 := Lib.hid (G9.out.below hb)
                  have HGo10 := Lib.hid (HGo.out.below hb)
                  have HV10 := Lib.hid (HV9.out.below hb)
                  have HBw10 : Hid (Below w.heap.size w w10) := Lib.hid (HBw.out.trans (hb.mono HBw.out.size))
                  clear hb
                  obtain ⟨-, x1, x2, -⟩ := X10.out
                  go_wp2_with fail
                  refine (check_any W A c _ X10.out.grid).mono ?_
                  rintro e w11 ⟨rfl, hb⟩
                  rw [HCK.out]
                  clear x1 x2
                  have X11 := Lib.hid (X10.out.below hb)
                  have M11 := Lib.hid (M10.out.below hb)
                  have P11 := Lib.hid (P10.out.below hb)
                  have S11 := Lib.hid (S10.out.below hb)
                  have V11 := Lib.hid (V10.out.below hb)
                  have G11 := Lib.hid (G10.out.below hb)
                  have HGo11 := Lib.hid (HGo10.out.below hb)
                  have HV11 := Lib.hid (HV10.out.below hb)
                  have HBw11 : Hid (Below w.heap.size w w11) := Lib.hid (HBw10.out.trans (hb.mono HBw10.out.size))
                  clear hb
                  obtain ⟨-, m1, m2, -⟩ := M11.out
                  obtain ⟨Az0, cz0, -, z1, z2, -, -, zg⟩ := HV11.out.1
                  have ZG := Lib.hid (zg.mono (Nat.zero_le _))
                  clear zg
                  go_wp2_with fail
                  refine (sameWheel_eq A1 Az0 c1 cz0 (newM tq) _ M11.out.grid ZG.out).mono ?_
                  rintro e w12 ⟨rfl, hb⟩
                  clear m1 m2 z1 z2 ZG
                  have X12 := Lib.hid (X11.out.below hb)
                  have M12 := Lib.hid (M11.out.below hb)
                  have P12 := Lib.hid (P11.out.below hb)
                  have S12 := Lib.hid (S11.out.below hb)
                  have V12 := Lib.hid (V11.out.below hb)
                  have G12 := Lib.hid (G11.out.below hb)
                  have HGo12 := Lib.hid (HGo11.out.below hb)
                  have HV12 := Lib.hid (HV11.out.below hb)
                  have HBw12 : Hid (Below w.heap.size w w12) := Lib.hid (HBw11.out.trans (hb.mono HBw11.out.size))
                  clear hb
                  obtain ⟨-, m1, m2, -⟩ := P12.out
                  obtain ⟨Az1, cz1, -, z1, z2, -, -, zg⟩ := HV12.out.2.1
                  have ZG := Lib.hid (zg.mono (Nat.zero_le _))
                  clear zg
                  go_wp2_with fail
                  refine (sameWheel_eq A2 Az1 c2 cz1 (addM W t) _ P12.out.grid ZG.out).mono ?_
                  rintro e w13 ⟨rfl, hb⟩
                  clear m1 m2 z1 z2 ZG
                  have X13 := Lib.hid (X12.out.below hb)
                  have M13 := Lib.hid (M12.out.below hb)
                  have P13 := Lib.hid (P12.out.below hb)
                  have S13 := Lib.hid (S12.out.below hb)
                  have V13 := Lib.hid (V12.out.below hb)
                  have G13 := Lib.hid (G12.out.below hb)
                  have HGo13 := Lib.hid (HGo12.out.below hb)
                  have HV13 := Lib.hid (HV12.out.below hb)
                  have HBw13 : Hid (Below w.heap.size w w13) := Lib.hid (HBw12.out.trans (hb.mono HBw12.out.size))
                  clear hb
                  obtain ⟨-, m1, m2, -⟩ := S13.out
                  obtain ⟨Az2, cz2, -, z1, z2, -, -, zg⟩ := HV13.out.2.2.1
                  have ZG := Lib.hid (zg.mono (Nat.zero_le _))
                  clear zg
                  go_wp2_with fail
                  refine (sameWheel_eq A3 Az2 c3 cz2 (canM W id) _ S13.out.grid ZG.out).mono ?_
                  rintro e w14 ⟨rfl, hb⟩
                  clear m1 m2 z1 z2 ZG
                  have X14 := Lib.hid (X13.out.below hb)
                  have M14 := Lib.hid (M13.out.below hb)
                  have P14 := Lib.hid (P13.out.below hb)
                  have S14 := Lib.hid (S13.out.below hb)
                  have V14 := Lib.hid (V13.out.below hb)
                  have G14 := Lib.hid (G13.out.below hb)
                  have HGo14 := Lib.hid (HGo13.out.below hb)
                  have HV14 := Lib.hid (HV13.out.below hb)
                  have HBw14 : Hid (Below w.heap.size w w14) := Lib.hid (HBw13.out.trans (hb.mono HBw13.out.size))
                  clear hb
                  obtain ⟨-, m1, m2, -⟩ := V14.out
                  obtain ⟨Az3, cz3, -, z1, z2, -, -, zg⟩ := HV14.out.2.2.2.1
                  have ZG := Lib.hid (zg.mono (Nat.zero_le _))
                  clear zg
                  go_wp2_with fail
                  refine (sameWheel_eq A4 Az3 c4 cz3 (advM W tq) _ V14.out.grid ZG.out).mono ?_
                  rintro e w15 ⟨rfl, hb⟩
                  clear m1 m2 z1 z2 ZG
                  have X15 := Lib.hid (X14.out.below hb)
                  have M15 := Lib.hid (M14.out.below hb)
                  have P15 := Lib.hid (P14.out.below hb)
                  have S15 := Lib.hid (S14.out.below hb)
                  have V15 := Lib.hid (V14.out.below hb)
                  have G15 := Lib.hid (G14.out.below hb)
                  have HGo15 := Lib.hid (HGo14.out.below hb)
                  have HV15 := Lib.hid (HV14.out.below hb)
                  have HBw15 : Hid (Below w.heap.size w w15) := Lib.hid (HBw14.out.trans (hb.mono HBw14.out.size))
                  clear hb
                  go_wp2_with fail
                  refine (sameTimers_eq Ag A1' cg c1' (advG W tq) _ G15.out HGo15.out).mono ?_
                  rintro e w16 ⟨rfl, hb⟩
                  have HBz : Hid (Below w.heap.size w w16) := Lib.hid (HBw15.out.trans (hb.mono HBw15.out.size))
                  clear hb
                  go_wp2
                  go_ret
                  exact ⟨rfl, HBz.out⟩

end Go.Proofs.Yteldnohdijcbpaa.Whl
