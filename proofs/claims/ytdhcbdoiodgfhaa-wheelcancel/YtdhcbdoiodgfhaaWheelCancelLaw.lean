/-
  Cancelling a timer that was added; two timers added in either order.
-/
import Derived.Test.YtdhcbdoiodgfhaaWheelBegun
namespace Go.Proofs.Ytdhcbdoiodgfhaa.Whl
open Go.RowKit Go.Maps
set_option linter.unusedVariables false

theorem errA_ok {W : Whl} {t : Tm} (h : errA W t = 0) : checkW W = 0 ∧ okT W.now t ∧ ¬ hasId W.all t.id ∧ W.all.length < 60 := by
  unfold errA at h
  by_cases h0 : checkW W = 0
  · rw [if_pos h0] at h
    by_cases h1 : okT W.now t
    · rw [if_pos h1] at h
      by_cases h2 : hasId W.all t.id
      · rw [if_pos h2] at h; exact absurd h (by decide)
      · rw [if_neg h2] at h
        by_cases h3 : 60 ≤ W.all.length
        · rw [if_pos h3] at h; exact absurd h (by decide)
        · exact ⟨h0, h1, h2, by omega⟩
    · rw [if_neg h1] at h; exact absurd h (by decide)
  · rw [if_neg h0] at h; exact absurd h h0
theorem errA_of {W : Whl} {t : Tm} (h0 : checkW W = 0) (h1 : okT W.now t) (h2 : ¬ hasId W.all t.id) (h3 : W.all.length < 60) : errA W t = 0 := by
  unfold errA; rw [if_pos h0, if_pos h1, if_neg h2, if_neg (by omega)]
theorem wheel_self {W : Whl} (h : checkW W = 0) : wheelOf W.now W.all = W := by
  obtain ⟨now, SL⟩ := W
  have := (check_good h).2
  show Whl.mk now (spread now SL.flatten) = _
  rw [← this]
theorem del_ins {L : List Tm} {t : Tm} (hs : Sorted L) (hn : ¬ hasId L t.id) : delT (insT L t) t.id = L := by
  refine sorted_ext (List.Pairwise.filter _ (insT_sorted hs (fun m => hn ⟨t, m, rfl⟩))) hs (fun u => ?_)
  unfold delT
  rw [List.mem_filter, mem_insT]
  constructor
  · rintro ⟨h1 | h1, h2⟩
    · subst h1; simp at h2
    · exact h1
  · intro h1
    exact ⟨.inr h1, by simp only [bne_iff_ne]; exact fun e => hn ⟨u, h1, e⟩⟩
theorem addM_ok {W : Whl} {t : Tm} (h : errA W t = 0) : addM W t = wheelOf W.now (insT W.all t) ∧ Good W.now (insT W.all t) := by
  obtain ⟨h0, h1, h2, h3⟩ := errA_ok h
  exact ⟨by unfold addM; rw [if_pos h], good_ins (good_of h0) h1 h2 h3⟩
theorem cancel_law {W : Whl} {t : Tm} (h : errA W t = 0) : errC (addM W t) t.id = 0 ∧ canM (addM W t) t.id = W := by
  obtain ⟨h0, h1, h2, h3⟩ := errA_ok h
  obtain ⟨e, g⟩ := addM_ok h
  rw [e]
  obtain ⟨c1, c2⟩ := can_of g (id := t.id) ⟨t, mem_insT.2 (.inl rfl), rfl⟩
  refine ⟨c1, ?_⟩
  rw [c2, del_ins (good_of h0).sorted h2]
  exact wheel_self h0
theorem has_ins {L : List Tm} {t : Tm} {id : Int} : hasId (insT L t) id ↔ t.id = id ∨ hasId L id := by
  unfold hasId
  constructor
  · rintro ⟨u, hu, e⟩
    rcases mem_insT.1 hu with rfl | m
    · exact .inl e
    · exact .inr ⟨u, m, e⟩
  · rintro (e | ⟨u, hu, e⟩)
    · exact ⟨t, mem_insT.2 (.inl rfl), e⟩
    · exact ⟨u, mem_insT.2 (.inr hu), e⟩
theorem either_law {W : Whl} {t u : Tm} (h : errA W t = 0) :
    (errA W u = errA (addM W t) u ∧ errA W u ≠ 0) ∨ (errA W u = 0 ∧ errA (addM W t) u = 6 ∧ t.id = u.id) ∨ (errA W u = 0 ∧ errA (addM W t) u = 8) ∨
      (errA W u = 0 ∧ errA (addM W t) u = 0 ∧ errA (addM W u) t = 0 ∧ addM (addM W u) t = addM (addM W t) u) := by
  obtain ⟨h0, h1, h2, h3⟩ := errA_ok h
  obtain ⟨e, g⟩ := addM_ok h
  have hc : checkW (addM W t) = 0 := by rw [e]; exact good_check g
  have hn : (addM W t).now = W.now := by rw [e]; rfl
  have hal : (addM W t).all = insT W.all t := by rw [e]; exact all_of g
  by_cases k1 : okT W.now u
  · by_cases k2 : hasId W.all u.id
    · left
      have a1 : errA W u = 6 := by unfold errA; rw [if_pos h0, if_pos k1, if_pos k2]
      have a2 : errA (addM W t) u = 6 := by unfold errA; rw [if_pos hc, hn, if_pos k1, hal, if_pos (has_ins.2 (.inr k2))]
      rw [a1, a2]; exact ⟨rfl, by decide⟩
    · right
      have a1 : errA W u = 0 := errA_of h0 k1 k2 h3
      by_cases k3 : t.id = u.id
      · left
        exact ⟨a1, by unfold errA; rw [if_pos hc, hn, if_pos k1, hal, if_pos (has_ins.2 (.inl k3))], k3⟩
      · right
        have k4 : ¬ hasId (insT W.all t) u.id := fun x => (has_ins.1 x).elim k3 k2
        by_cases k5 : 60 ≤ (insT W.all t).length
        · left
          exact ⟨a1, by unfold errA; rw [if_pos hc, hn, if_pos k1, hal, if_neg k4, if_pos k5]⟩
        · right
          have a2 : errA (addM W t) u = 0 := errA_of hc (by rw [hn]; exact k1) (by rw [hal]; exact k4) (by rw [hal]; omega)
          obtain ⟨e2, g2⟩ := addM_ok a1
          have hc2 : checkW (addM W u) = 0 := by rw [e2]; exact good_check g2
          have hn2 : (addM W u).now = W.now := by rw [e2]; rfl
          have hal2 : (addM W u).all = insT W.all u := by rw [e2]; exact all_of g2
          have a3 : errA (addM W u) t = 0 := errA_of hc2 (by rw [hn2]; exact h1) (by rw [hal2]; exact fun x => (has_ins.1 x).elim (fun e => k3 e.symm) h2) (by rw [hal2, insT_len]; rw [insT_len] at k5; omega)
          refine ⟨a1, a2, a3, ?_⟩
          obtain ⟨e3, g3⟩ := addM_ok a3
          obtain ⟨e4, g4⟩ := addM_ok a2
          rw [e3, e4, hn, hn2, hal, hal2]
          rw [hn2, hal2] at g3
          rw [hn, hal] at g4
          congr 1
          refine sorted_ext g3.sorted g4.sorted (fun x => ?_)
          rw [mem_insT, mem_insT, mem_insT, mem_insT]
          constructor
          · rintro (h | h | h)
            · exact .inr (.inl h)
            · exact .inl h
            · exact .inr (.inr h)
          · rintro (h | h | h)
            · exact .inr (.inl h)
            · exact .inl h
            · exact .inr (.inr h)
  · left
    have a1 : errA W u = 3 := by unfold errA; rw [if_pos h0, if_neg k1]
    have a2 : errA (addM W t) u = 3 := by unfold errA; rw [if_pos hc, hn, if_neg k1]
    rw [a1, a2]; exact ⟨rfl, by decide⟩
theorem addM_no {W : Whl} {t : Tm} (h : errA W t ≠ 0) : addM W t = Whl.no := by unfold addM; rw [if_neg h]

/-- A box of a timer. -/
def TB (w : World) (p : Nat) (t : Tm) : Prop := p < w.heap.size ∧ w.cell? ⟨p, 0, none⟩ = some (.int .i64 t.id) ∧ w.cell? ⟨p, 1, none⟩ = some (.int .i64 t.tm)
theorem TB.below {w w' : World} {p : Nat} {t : Tm} (h : TB w p t) (hb : Below w.heap.size w w') : TB w' p t := ⟨Nat.lt_of_lt_of_le h.1 hb.size, (hb.cell (p := ⟨p, 0, none⟩) h.1).trans h.2.1, (hb.cell (p := ⟨p, 1, none⟩) h.1).trans h.2.2⟩
theorem TB.alloc {w : World} {p : Nat} {t : Tm} (h : TB w p t) (o : Obj) : TB (w.alloc o) p t := h.below ((Below.refl _ _).alloc (Nat.le_refl _) o)
theorem TB.new (w : World) (t : Tm) : TB (w.alloc (tbo t)) w.heap.size t := ⟨by simp, by simp [go_sem], by simp [go_sem]⟩

set_option maxRecDepth 100000 in
set_option maxHeartbeats 8000000 in
theorem wheelCancel_walk (W : Whl) (A : Option Addr) (c : Nat) (t u : Tm) (w : World) (hG : Grid 0 w A c W.slots) :
    Calls Try.prog 6 #[wv W A c, tv t, tv u] w fun e w' => e = .returned (.bool true) ∧ Below w.heap.size w w' := by
  have X0 := Lib.hid (((Bx.new (W := W) hG).alloc (tbo t)).alloc (tbo u))
  have hs1 : (w.alloc (wo W A c)).heap.size = w.heap.size + 1 := by simp
  have hs2 : ((w.alloc (wo W A c)).alloc (tbo t)).heap.size = w.heap.size + 1 + 1 := by simp
  have t0 := (TB.new (w.alloc (wo W A c)) t).alloc (tbo u)
  have u0 := TB.new ((w.alloc (wo W A c)).alloc (tbo t)) u
  rw [hs1] at t0
  rw [hs2] at u0
  have T0 := Lib.hid t0
  have U0 := Lib.hid u0
  have HB0 : Hid (Below w.heap.size w (((w.alloc (wo W A c)).alloc (tbo t)).alloc (tbo u))) := Lib.hid (((((Below.refl _ w).alloc (Nat.le_refl _) _).alloc (by simp) _)).alloc (by simp; omega) _)
  clear hs1 hs2 t0 u0
  have HV0 := Lib.hid (add_any W A c t (((w.alloc (wo W A c)).alloc (tbo t)).alloc (tbo u)) X0.out.grid)
  have HN0 : Hid (errA W t ≠ 0 → (addM W t).slots.length = 0) := Lib.hid (fun h => by rw [addM_no h]; rfl)
  have HC0 : Hid (errA W t = 0 → errC (addM W t) t.id = 0 ∧ canM (addM W t) t.id = W) := Lib.hid cancel_law
  have HE0 : Hid (errA W t = 0 → (errA W u = errA (addM W t) u ∧ errA W u ≠ 0) ∨ (errA W u = 0 ∧ errA (addM W t) u = 6 ∧ t.id = u.id) ∨ (errA W u = 0 ∧ errA (addM W t) u = 8) ∨
      (errA W u = 0 ∧ errA (addM W t) u = 0 ∧ errA (addM W u) t = 0 ∧ addM (addM W u) t = addM (addM W t) u)) := Lib.hid either_law
  clear hG
  generalize addM W t = X at *
  generalize errA W t = ea at *
  obtain ⟨-, x1, x2, -⟩ := X0.out
  obtain ⟨-, t1, t2⟩ := T0.out
  go_enter Try.func6, Try.ntmps6
  go_wp2_with fail
  refine HV0.out.mono ?_
  rintro e w1 ⟨A1, c1, rfl, hg1, hb1⟩
  have X1 := Lib.hid ((X0.out.below hb1).alloc (wo X A1 c1))
  have T1 := Lib.hid ((T0.out.below hb1).alloc (wo X A1 c1))
  have U1 := Lib.hid ((U0.out.below hb1).alloc (wo X A1 c1))
  have Y1 := Lib.hid (Bx.new (W := X) (hg1.mono (Nat.zero_le _)))
  have HB1 : Hid (Below w.heap.size w (w1.alloc (wo X A1 c1))) := Lib.hid (bel_al (HB0.out.trans (hb1.mono HB0.out.size)) (Nat.le_trans HB0.out.size hb1.size) _)
  clear x1 x2 t1 t2 hg1 hb1
  go_wp2_with fail
  refine (begun_any _).mono ?_
  rintro e w2 ⟨rfl, hb2⟩
  have X2 := Lib.hid (X1.out.below hb2)
  have T2 := Lib.hid (T1.out.below hb2)
  have U2 := Lib.hid (U1.out.below hb2)
  have Y2 := Lib.hid (Y1.out.below hb2)
  have HB2 : Hid (Below w.heap.size w w2) := Lib.hid (HB1.out.trans (hb2.mono HB1.out.size))
  clear hb2
  by_cases h0 : ea = 0
  · subst h0
    obtain ⟨hc1, hc2⟩ := HC0.out rfl
    have HV3 := Lib.hid (cancel_any X A1 c1 t.id _ Y2.out.grid)
    rw [hc1, hc2] at HV3
    have HE := Lib.hid (HE0.out rfl)
    clear hc1 hc2 HE0 HC0 HV0
    obtain ⟨-, y1, y2, -⟩ := Y2.out
    obtain ⟨-, t1, t2⟩ := T2.out
    generalize w1.heap.size = p1 at *
    go_wp2_with fail
    refine HV3.out.mono ?_
    rintro e w3 ⟨A3, c3, rfl, hg3, hb3⟩
    have X3 := Lib.hid ((X2.out.below hb3).alloc (wo W A3 c3))
    have T3 := Lib.hid ((T2.out.below hb3).alloc (wo W A3 c3))
    have U3 := Lib.hid ((U2.out.below hb3).alloc (wo W A3 c3))
    have Y3 := Lib.hid ((Y2.out.below hb3).alloc (wo W A3 c3))
    have Z3 := Lib.hid (Bx.new (W := W) (hg3.mono (Nat.zero_le _)))
    have HB3 : Hid (Below w.heap.size w (w3.alloc (wo W A3 c3))) := Lib.hid (bel_al (HB2.out.trans (hb3.mono HB2.out.size)) (Nat.le_trans HB2.out.size hb3.size) _)
    clear y1 y2 t1 t2 hg3 hb3 HV3
    obtain ⟨-, x1, x2, -⟩ := X3.out
    obtain ⟨-, z1, z2, -⟩ := Z3.out
    go_wp2_with fail
    refine (sameWheel_eq A3 A c3 c W _ Z3.out.grid X3.out.grid).mono ?_
    rintro e w4 ⟨rfl, hb4⟩
    have X4 := Lib.hid (X3.out.below hb4)
    have T4 := Lib.hid (T3.out.below hb4)
    have U4 := Lib.hid (U3.out.below hb4)
    have Y4 := Lib.hid (Y3.out.below hb4)
    have HB4 : Hid (Below w.heap.size w w4) := Lib.hid (HB3.out.trans (hb4.mono HB3.out.size))
    clear x1 x2 z1 z2 hb4
    obtain ⟨-, x1, x2, -⟩ := X4.out
    obtain ⟨-, u1, u2⟩ := U4.out
    generalize w3.heap.size = p3 at *
    go_wp2_with fail
    refine (add_any W A c u _ X4.out.grid).mono ?_
    rintro e w5 ⟨A5, c5, rfl, hg5, hb5⟩
    generalize addM W u = V at *
    generalize errA W u = eg at *
    have X5 := Lib.hid ((X4.out.below hb5).alloc (wo V A5 c5))
    have T5 := Lib.hid ((T4.out.below hb5).alloc (wo V A5 c5))
    have U5 := Lib.hid ((U4.out.below hb5).alloc (wo V A5 c5))
    have Y5 := Lib.hid ((Y4.out.below hb5).alloc (wo V A5 c5))
    have Z5 := Lib.hid (Bx.new (W := V) (hg5.mono (Nat.zero_le _)))
    have HB5 : Hid (Below w.heap.size w (w5.alloc (wo V A5 c5))) := Lib.hid (bel_al (HB4.out.trans (hb5.mono HB4.out.size)) (Nat.le_trans HB4.out.size hb5.size) _)
    clear x1 x2 u1 u2 hg5 hb5
    obtain ⟨-, y1, y2, -⟩ := Y5.out
    obtain ⟨-, u1, u2⟩ := U5.out
    go_wp2_with fail
    refine (add_any X A1 c1 u _ Y5.out.grid).mono ?_
    rintro e w6 ⟨A6, c6, rfl, hg6, hb6⟩
    generalize addM X u = R at *
    generalize errA X u = eh at *
    have T6 := Lib.hid ((T5.out.below hb6).alloc (wo R A6 c6))
    have U6 := Lib.hid ((U5.out.below hb6).alloc (wo R A6 c6))
    have Z6 := Lib.hid ((Z5.out.below hb6).alloc (wo R A6 c6))
    have R6 := Lib.hid (Bx.new (W := R) (hg6.mono (Nat.zero_le _)))
    have HB6 : Hid (Below w.heap.size w (w6.alloc (wo R A6 c6))) := Lib.hid (bel_al (HB5.out.trans (hb6.mono HB5.out.size)) (Nat.le_trans HB5.out.size hb6.size) _)
    clear y1 y2 u1 u2 hg6 hb6
    obtain ⟨-, t1, t2⟩ := T6.out
    obtain ⟨-, u1, u2⟩ := U6.out
    obtain ⟨-, z1, z2, -⟩ := Z6.out
    generalize w5.heap.size = p5 at *
    rcases HE.out with ⟨h1, h2⟩ | ⟨h1, h2, h3⟩ | ⟨h1, h2⟩ | ⟨h1, h2, h3, h4⟩
    · clear HE
      subst h1
      have q : (eg != 0) = true := by simpa using h2
      clear h2
      go_wp2
      go_ret
      exact ⟨rfl, HB6.out⟩
    · clear HE
      subst h1 h2
      have q : (t.id == u.id) = true := by simpa using h3
      clear h3
      go_wp2
      go_ret
      exact ⟨rfl, HB6.out⟩
    · clear HE
      subst h1 h2
      go_wp2
      go_ret
      exact ⟨rfl, HB6.out⟩
    · clear HE
      subst h1 h2
      have HV7 := Lib.hid (add_any V A5 c5 t _ Z6.out.grid)
      rw [h3, h4] at HV7
      clear h3 h4
      go_wp2_with fail
      refine HV7.out.mono ?_
      rintro e w7 ⟨A7, c7, rfl, hg7, hb7⟩
      have R7 := Lib.hid ((R6.out.below hb7).alloc (wo R A7 c7))
      have S7 := Lib.hid (Bx.new (W := R) (hg7.mono (Nat.zero_le _)))
      have HB7 : Hid (Below w.heap.size w (w7.alloc (wo R A7 c7))) := Lib.hid (bel_al (HB6.out.trans (hb7.mono HB6.out.size)) (Nat.le_trans HB6.out.size hb7.size) _)
      clear t1 t2 u1 u2 z1 z2 hg7 hb7 HV7
      obtain ⟨-, y1, y2, -⟩ := R7.out
      obtain ⟨-, z1, z2, -⟩ := S7.out
      generalize w6.heap.size = p6 at *
      go_wp2_with fail
      refine (sameWheel_eq A6 A7 c6 c7 R _ R7.out.grid S7.out.grid).mono ?_
      rintro e w8 ⟨rfl, hb8⟩
      have HB8 : Hid (Below w.heap.size w w8) := Lib.hid (HB7.out.trans (hb8.mono HB7.out.size))
      clear y1 y2 z1 z2 hb8
      go_wp2
      go_ret
      exact ⟨rfl, HB8.out⟩
  · have q : (ea != 0) = true := by simpa using h0
    have HL := Lib.hid (HN0.out h0)
    clear h0
    obtain ⟨-, y1, y2, -⟩ := Y2.out
    rw [HL.out] at y2
    go_wp2
    go_ret
    exact ⟨rfl, HB2.out⟩

end Go.Proofs.Ytdhcbdoiodgfhaa.Whl
