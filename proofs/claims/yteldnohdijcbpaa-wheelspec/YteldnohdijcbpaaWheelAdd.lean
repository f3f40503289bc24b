/-
  What Add of package wheel returns.
-/
import Derived.Test.YteldnohdijcbpaaWheelApi
namespace Go.Proofs.Yteldnohdijcbpaa.Whl
open Go.RowKit Go.Maps
set_option linter.unusedVariables false

/-- The boxes of Add: the wheel, the timer, the result. -/
abbrev AS (n : Nat) (W : Whl) (A : Option Addr) (c : Nat) (t : Tm) (w0 w' : World) : Prop :=
  w'.cell? ⟨n, 0, none⟩ = some (.int .i64 W.now) ∧ w'.cell? ⟨n, 1, none⟩ = some (.slice A W.slots.length c) ∧ w'.cell? ⟨n + 1, 0, none⟩ = some (.int .i64 t.id) ∧ w'.cell? ⟨n + 1, 1, none⟩ = some (.int .i64 t.tm) ∧ RS (n + 1 + 1) w0 w'
section
variable {n : Nat} {W : Whl} {A : Option Addr} {c : Nat} {t : Tm} {w0 w' w'' : World}
theorem AS.next (h : AS n W A c t w0 w') {B : Nat} (hB : n + 1 + 1 < B) (hb : Below B w' w'') : AS n W A c t w0 w'' := by
  obtain ⟨h1, h2, h3, h4, h5⟩ := h
  exact ⟨(hb.cell (p := ⟨n, 0, none⟩) (by show n < B; omega)).trans h1, (hb.cell (p := ⟨n, 1, none⟩) (by show n < B; omega)).trans h2, (hb.cell (p := ⟨n + 1, 0, none⟩) (by show n + 1 < B; omega)).trans h3, (hb.cell (p := ⟨n + 1, 1, none⟩) (by show n + 1 < B; omega)).trans h4, RS.next h5 hB hb⟩
theorem AS.drew (h : AS n W A c t w0 w') : AS n W A c t w0 w'.drew := h.next (Nat.lt_succ_self _) (Below.refl _ _).drew
theorem AS.set1 (h : AS n W A c t w0 w') (j : Nat) (u : Value) : AS n W A c t w0 (w'.setCell ⟨n + 1 + 1, j, none⟩ u) := by
  obtain ⟨h1, h2, h3, h4, h5⟩ := h
  have hb : Below (n + 1 + 1) w' (w'.setCell ⟨n + 1 + 1, j, none⟩ u) := (Below.refl _ _).setCell (p := ⟨n + 1 + 1, j, none⟩) (Nat.le_refl _) u
  exact ⟨(hb.cell (p := ⟨n, 0, none⟩) (by show n < _; omega)).trans h1, (hb.cell (p := ⟨n, 1, none⟩) (by show n < _; omega)).trans h2, (hb.cell (p := ⟨n + 1, 0, none⟩) (by show n + 1 < _; omega)).trans h3, (hb.cell (p := ⟨n + 1, 1, none⟩) (by show n + 1 < _; omega)).trans h4, RS.set1 h5 j u⟩
theorem AS.size (h : AS n W A c t w0 w') : n + 1 + 1 < w'.heap.size := RS.size h.2.2.2.2
theorem AS.below (h : AS n W A c t w0 w') : Below (n + 1 + 1) w0 w' := RS.below h.2.2.2.2
theorem AS.new (w : World) (hn : n = w.heap.size) : AS n W A c t ((w.alloc (wo W A c)).alloc (tbo t)) (((w.alloc (wo W A c)).alloc (tbo t)).alloc zo) := by
  subst hn
  have hs1 : (w.alloc (wo W A c)).heap.size = w.heap.size + 1 := by simp
  have hs2 : ((w.alloc (wo W A c)).alloc (tbo t)).heap.size = w.heap.size + 1 + 1 := by simp
  have h2 : Below (w.heap.size + 1 + 1) ((w.alloc (wo W A c)).alloc (tbo t)) (((w.alloc (wo W A c)).alloc (tbo t)).alloc zo) := (Below.refl _ _).alloc (by rw [hs2]; exact Nat.le_refl _) _
  have h1 : Below (w.heap.size + 1) (w.alloc (wo W A c)) ((w.alloc (wo W A c)).alloc (tbo t)) := (Below.refl _ _).alloc (by rw [hs1]; exact Nat.le_refl _) _
  have h3 := RS.new (m := w.heap.size + 1 + 1) ((w.alloc (wo W A c)).alloc (tbo t)) hs2.symm
  refine ⟨(h2.cell (p := ⟨w.heap.size, 0, none⟩) (by show w.heap.size < _; omega)).trans ((h1.cell (p := ⟨w.heap.size, 0, none⟩) (Nat.lt_succ_self _)).trans (by simp [go_sem])), (h2.cell (p := ⟨w.heap.size, 1, none⟩) (by show w.heap.size < _; omega)).trans ((h1.cell (p := ⟨w.heap.size, 1, none⟩) (Nat.lt_succ_self _)).trans (by simp [go_sem])), ?_, ?_, h3⟩
  · refine (h2.cell (p := ⟨w.heap.size + 1, 0, none⟩) (Nat.lt_succ_self _)).trans ?_
    rw [← hs1]; simp [go_sem]
  · refine (h2.cell (p := ⟨w.heap.size + 1, 1, none⟩) (Nat.lt_succ_self _)).trans ?_
    rw [← hs1]; simp [go_sem]
end

set_option maxHeartbeats 8000000 in
theorem add_any (W : Whl) (A : Option Addr) (c : Nat) (t : Tm) (w : World) (hG : Grid 0 w A c W.slots) :
    Calls Try.prog 5 #[wv W A c, tv t] w (WR (addM W t) (errA W t) w) := by
  have HS := Lib.hid (AS.new (n := w.heap.size) (W := W) (A := A) (c := c) (t := t) w rfl)
  have HB0 : Hid (Below w.heap.size w ((w.alloc (wo W A c)).alloc (tbo t))) := Lib.hid (((Below.refl _ w).alloc (Nat.le_refl _) (wo W A c)).alloc (by simp) _)
  have HG := Lib.hid hG
  clear hG
  by_cases h0 : checkW W = 0
  · have H0 := Lib.hid h0
    have HGd := Lib.hid (good_of h0)
    have H48 := Lib.hid (slots_of h0)
    have HF : Hid (W.slots.flatten.length ≤ 60) := Lib.hid HGd.out.few
    by_cases h1 : okT W.now t
    · have p1 : decide (okT W.now t) = true := by simpa using h1
      by_cases h2 : hasId W.all t.id
      · have HE : Hid (addM W t = Whl.no ∧ errA W t = 6) := Lib.hid (by
          have e : errA W t = 6 := by unfold errA; rw [if_pos h0, if_pos h1, if_pos h2]
          exact ⟨by unfold addM; rw [e]; rfl, e⟩)
        have HH : Hid (∃ k : Nat, fnd W.slots.flatten t.id = (k : Int)) := Lib.hid (by
          rcases fnd_cases W.slots.flatten t.id with ⟨_, h⟩ | ⟨k, h, _, _⟩
          · obtain ⟨u, hu, e⟩ := h2
            exact absurd e (h u hu)
          · exact ⟨k, h⟩)
        clear h0 h1 h2 HGd
        go_enter Try.func5, Try.ntmps5
        go_wp2_with fail
        refine (check_any W A c _ (HG.out.below (HB0.out.trans ((AS.below HS.out).mono (by omega))))).mono ?_
        rintro e w1 ⟨rfl, hb1⟩
        have HS1 := Lib.hid (AS.next HS.out (AS.size HS.out) hb1)
        clear hb1
        generalize ((w.alloc (wo W A c)).alloc (tbo t)) = w0 at *
        generalize hn : w.heap.size = n at *
        have HN := Lib.hid hn
        clear hn
        rw [H0.out]
        obtain ⟨x0, x1, x2, x3, -⟩ := HS1.out
        go_wp2_with fail
        refine (isTimer_any W.now t _).mono ?_
        rintro e w2 ⟨rfl, hb2⟩
        have HS2 := Lib.hid (AS.next HS1.out (AS.size HS1.out) hb2)
        clear x0 x1 x2 x3 hb2
        rw [p1]
        obtain ⟨x0, x1, x2, x3, -⟩ := HS2.out
        go_wp2_with fail
        refine (timers_any W A c _ (HG.out.below (w' := w2) (by rw [HN.out]; exact HB0.out.trans ((AS.below HS2.out).mono (by omega)))) (by have := H48.out; omega) (by have := H48.out; omega) (by have := HF.out; omega)).mono ?_
        rintro e w3 ⟨v, rfl, ho3, hb3⟩
        have HS3 := Lib.hid (AS.next HS2.out (AS.size HS2.out) hb3)
        obtain ⟨A3, c3, rfl, hT3, -⟩ := tms_of_own ho3
        have HO3 := Lib.hid ho3
        have HB23 : Hid (w2.heap.size ≤ w3.heap.size) := Lib.hid hb3.size
        have HT3 := Lib.hid hT3
        clear x0 x1 x2 x3 hb3 ho3 hT3
        generalize W.slots.flatten = L at *
        obtain ⟨x0, x1, x2, x3, -⟩ := HS3.out
        go_wp2_with fail
        refine (find_any A3 c3 L t.id _ HT3.out).mono ?_
        rintro e w4 ⟨rfl, hb4⟩
        have HS4 := Lib.hid (AS.next HS3.out (AS.size HS3.out) hb4)
        have HT4 := Lib.hid (HT3.out.below hb4)
        have HB4 := Lib.hid hb4
        clear x0 x1 x2 x3 hb4
        obtain ⟨k, hk⟩ := HH.out
        rw [hk]
        obtain ⟨-, -, -, -, r0, r1, f0, f1, -, -⟩ := HS4.out
        go_wp2
        refine bodyPost_ret (v := .tuple #[wv Whl.no none 0, .int .i64 6]) (by simp [results, Try.results5, go_sem, r0, r1]; try exact ⟨rfl, rfl⟩) rfl ?_
        rw [HE.out.1, HE.out.2]
        exact WR.none_ (by rw [HN.out]; exact HB0.out.trans (below_set2 (AS.below HS4.out) _ _ |>.mono (by omega)))
      · by_cases h3 : 60 ≤ W.all.length
        · have HE : Hid (addM W t = Whl.no ∧ errA W t = 8) := Lib.hid (by
            have e : errA W t = 8 := by unfold errA; rw [if_pos h0, if_pos h1, if_neg h2, if_pos h3]
            exact ⟨by unfold addM; rw [e]; rfl, e⟩)
          have HH : Hid (fnd W.slots.flatten t.id = -1) := Lib.hid (by
            rcases fnd_cases W.slots.flatten t.id with ⟨h, _⟩ | ⟨k, h, hk, e⟩
            · exact h
            · exact absurd ⟨_, gt_mem hk, e⟩ h2)
          have H3 : Hid (60 ≤ W.slots.flatten.length) := Lib.hid h3
          clear h0 h1 h2 h3 HGd
          go_enter Try.func5, Try.ntmps5
          go_wp2_with fail
          refine (check_any W A c _ (HG.out.below (HB0.out.trans ((AS.below HS.out).mono (by omega))))).mono ?_
          rintro e w1 ⟨rfl, hb1⟩
          have HS1 := Lib.hid (AS.next HS.out (AS.size HS.out) hb1)
          clear hb1
          generalize ((w.alloc (wo W A c)).alloc (tbo t)) = w0 at *
          generalize hn : w.heap.size = n at *
          have HN := Lib.hid hn
          clear hn
          rw [H0.out]
          obtain ⟨x0, x1, x2, x3, -⟩ := HS1.out
          go_wp2_with fail
          refine (isTimer_any W.now t _).mono ?_
          rintro e w2 ⟨rfl, hb2⟩
          have HS2 := Lib.hid (AS.next HS1.out (AS.size HS1.out) hb2)
          clear x0 x1 x2 x3 hb2
          rw [p1]
          obtain ⟨x0, x1, x2, x3, -⟩ := HS2.out
          go_wp2_with fail
          refine (timers_any W A c _ (HG.out.below (w' := w2) (by rw [HN.out]; exact HB0.out.trans ((AS.below HS2.out).mono (by omega)))) (by have := H48.out; omega) (by have := H48.out; omega) (by have := HF.out; omega)).mono ?_
          rintro e w3 ⟨v, rfl, ho3, hb3⟩
          have HS3 := Lib.hid (AS.next HS2.out (AS.size HS2.out) hb3)
          obtain ⟨A3, c3, rfl, hT3, -⟩ := tms_of_own ho3
          have HO3 := Lib.hid ho3
          have HB23 : Hid (w2.heap.size ≤ w3.heap.size) := Lib.hid hb3.size
          have HT3 := Lib.hid hT3
          clear x0 x1 x2 x3 hb3 ho3 hT3
          generalize W.slots.flatten = L at *
          obtain ⟨x0, x1, x2, x3, -⟩ := HS3.out
          go_wp2_with fail
          refine (find_any A3 c3 L t.id _ HT3.out).mono ?_
          rintro e w4 ⟨rfl, hb4⟩
          have HS4 := Lib.hid (AS.next HS3.out (AS.size HS3.out) hb4)
          have HT4 := Lib.hid (HT3.out.below hb4)
          have HB4 := Lib.hid hb4
          clear x0 x1 x2 x3 hb4
          rw [HH.out]
          have hl := HF.out
          have h3 := H3.out
          obtain ⟨ln, hln⟩ : ∃ ln, L.length = ln := ⟨_, rfl⟩
          rw [hln] at hl h3 ⊢
          have q : decide ((60 : Int) ≤ (ln : Int)) = true := by simp; omega
          clear hln
          obtain ⟨-, -, -, -, r0, r1, f0, f1, -, -⟩ := HS4.out
          go_wp2
          refine bodyPost_ret (v := .tuple #[wv Whl.no none 0, .int .i64 8]) (by simp [results, Try.results5, go_sem, r0, r1]; try exact ⟨rfl, rfl⟩) rfl ?_
          rw [HE.out.1, HE.out.2]
          exact WR.none_ (by rw [HN.out]; exact HB0.out.trans (below_set2 (AS.below HS4.out) _ _ |>.mono (by omega)))
        · have HE : Hid (addM W t = wheelOf W.now (insT W.slots.flatten t) ∧ errA W t = 0) := Lib.hid (by
            have e : errA W t = 0 := by unfold errA; rw [if_pos h0, if_pos h1, if_neg h2, if_neg h3]
            exact ⟨by unfold addM; rw [if_pos e]; rfl, e⟩)
          have HH : Hid (fnd W.slots.flatten t.id = -1) := Lib.hid (by
            rcases fnd_cases W.slots.flatten t.id with ⟨h, _⟩ | ⟨k, h, hk, e⟩
            · exact h
            · exact absurd ⟨_, gt_mem hk, e⟩ h2)
          have H3 : Hid (W.slots.flatten.length < 60) := Lib.hid (Nat.lt_of_not_le h3)
          have HM : Hid (Good W.now (insT W.slots.flatten t)) := Lib.hid (good_ins HGd.out h1 h2 (Nat.lt_of_not_le h3))
          have HSo : Hid (Sorted W.slots.flatten) := Lib.hid HGd.out.sorted
          clear h0 h1 h2 h3 HGd
          go_enter Try.func5, Try.ntmps5
          go_wp2_with fail
          refine (check_any W A c _ (HG.out.below (HB0.out.trans ((AS.below HS.out).mono (by omega))))).mono ?_
          rintro e w1 ⟨rfl, hb1⟩
          have HS1 := Lib.hid (AS.next HS.out (AS.size HS.out) hb1)
          clear hb1
          generalize ((w.alloc (wo W A c)).alloc (tbo t)) = w0 at *
          generalize hn : w.heap.size = n at *
          have HN := Lib.hid hn
          clear hn
          rw [H0.out]
          obtain ⟨x0, x1, x2, x3, -⟩ := HS1.out
          go_wp2_with fail
          refine (isTimer_any W.now t _).mono ?_
          rintro e w2 ⟨rfl, hb2⟩
          have HS2 := Lib.hid (AS.next HS1.out (AS.size HS1.out) hb2)
          clear x0 x1 x2 x3 hb2
          rw [p1]
          obtain ⟨x0, x1, x2, x3, -⟩ := HS2.out
          go_wp2_with fail
          refine (timers_any W A c _ (HG.out.below (w' := w2) (by rw [HN.out]; exact HB0.out.trans ((AS.below HS2.out).mono (by omega)))) (by have := H48.out; omega) (by have := H48.out; omega) (by have := HF.out; omega)).mono ?_
          rintro e w3 ⟨v, rfl, ho3, hb3⟩
          have HS3 := Lib.hid (AS.next HS2.out (AS.size HS2.out) hb3)
          obtain ⟨A3, c3, rfl, hT3, -⟩ := tms_of_own ho3
          have HO3 := Lib.hid ho3
          have HB23 : Hid (w2.heap.size ≤ w3.heap.size) := Lib.hid hb3.size
          have HT3 := Lib.hid hT3
          clear x0 x1 x2 x3 hb3 ho3 hT3
          generalize W.slots.flatten = L at *
          obtain ⟨x0, x1, x2, x3, -⟩ := HS3.out
          go_wp2_with fail
          refine (find_any A3 c3 L t.id _ HT3.out).mono ?_
          rintro e w4 ⟨rfl, hb4⟩
          have HS4 := Lib.hid (AS.next HS3.out (AS.size HS3.out) hb4)
          have HT4 := Lib.hid (HT3.out.below hb4)
          have HB4 := Lib.hid hb4
          clear x0 x1 x2 x3 hb4
          rw [HH.out]
          have hl := H3.out
          have HL1 : Hid (L.length ≤ 1000) := Lib.hid (by omega)
          obtain ⟨x0, x1, x2, x3, -⟩ := HS4.out
          have HSe := Lib.hid (search_any A3 c3 L t w4 HT4.out (by omega) HSo.out)
          obtain ⟨ln, hln⟩ : ∃ ln, L.length = ln := ⟨_, rfl⟩
          have HLN := Lib.hid hln
          rw [hln] at hl HSe ⊢
          have q : decide ((60 : Int) ≤ (ln : Int)) = false := by simp; omega
          clear hln
          go_wp2_with fail
          refine HSe.out.mono ?_
          rintro e w5 ⟨p, fb, rfl, hp1, hp2, hp3, hb5⟩
          have HS5 := Lib.hid (AS.next HS4.out (AS.size HS4.out) hb5)
          have HB35 : Hid (Below w3.heap.size w3 w5) := Lib.hid (HB4.out.trans (hb5.mono HB4.out.size))
          have HIn : Hid (L.take p ++ t :: L.drop p = insT L t) := Lib.hid (insT_at (by rw [HLN.out]; exact hp1) hp2 (fun a ha hb => hp3 a ha (by rw [HLN.out] at hb; exact hb)))
          have HI : Hid (∀ (Wd : World) (q : Nat), Below w5.heap.size w5 Wd → w5.heap.size ≤ q → Wd.heap[q]? = some (.cells (encT t).toArray 26 (0, 0)) →
              Calls Try.prog 26 #[.slice A3 ln c3, .int .i64 (p : Int), .slice (some ⟨q, 0, none⟩) 1 1] Wd fun e w' =>
                ∃ A6 c6, e = .returned (.slice A6 (insT L t).length c6) ∧ Tms w' A6 c6 (insT L t) ∧ Below w2.heap.size Wd w') := Lib.hid (by
            intro Wd q hbw hq hc
            have hb3W : Below w3.heap.size w3 Wd := HB35.out.trans (hbw.mono HB35.out.size)
            have hg : w3.grownBy Wd none := ⟨hb3W.os, hb3W.tape, hb3W.output, hb3W.size, fun k hk _ => hb3W.block k hk⟩
            have hO : OwnT Wd w2.heap.size (.slice A3 L.length c3) L := HO3.out.kept hg (by cases hv : (Value.slice A3 L.length c3).ownBlock <;> simp)
            have hs23 : w2.heap.size ≤ w3.heap.size := HB23.out
            have := insert_any w2.heap.size (.slice A3 L.length c3) L p q t Wd hO (by rw [HLN.out]; exact hp1) HL1.out (Nat.le_trans hs23 hb3W.size) hc (fun e => by have h1 := (HO3.out.lt q e).2; have h2 := HB35.out.size; omega)
            rw [HIn.out, HLN.out] at this
            exact this)
          have HBd : Hid (∀ (Wd : World) (A6 : Option Addr) (c6 : Nat), Tms Wd A6 c6 (insT L t) → Calls Try.prog 20 #[.int .i64 W.now, .slice A6 (insT L t).length c6] Wd fun e w' =>
              ∃ A' c', e = .returned (wv (wheelOf W.now (insT L t)) A' c') ∧ Grid Wd.heap.size w' A' c' (spread W.now (insT L t)) ∧ Below Wd.heap.size Wd w') := Lib.hid (by
            intro Wd A6 c6 hT6
            obtain ⟨N, hN⟩ : ∃ N : Nat, W.now = (N : Int) := ⟨W.now.toNat, by have := HM.out.time.1; omega⟩
            have hlt := HM.out.time.2
            have hok := HM.out.ok
            have hfew := HM.out.few
            rw [hN] at hlt hok ⊢
            exact build_any N A6 c6 (insT L t) Wd (by omega) (fun u hu => ⟨(hok u hu).2.2.1, (hok u hu).2.2.2⟩) hT6 hfew)
          clear x0 x1 x2 x3 hb5 hp1 hp2 hp3 q hl
          generalize insT L t = M at *
          obtain ⟨x0, x1, x2, x3, -⟩ := HS5.out
          have HI6 := Lib.hid (HI.out (w5.alloc (tbo t)).drew w5.heap.size (((Below.refl _ w5).alloc (Nat.le_refl _) _).drew) (Nat.le_refl _) (heap_alloc_new w5 _))
          have HS6 : Hid (AS n W A c t w0 (w5.alloc (tbo t)).drew) := Lib.hid (AS.next HS5.out (AS.size HS5.out) (((Below.refl _ w5).alloc (Nat.le_refl _) _).drew))
          have HZ2 := Lib.hid (AS.size HS2.out)
          clear HI HSe x0 x1 x2 x3 p1
          go_wp2
          go_region_held3 (fun w' => w'.cell? ⟨n, 0, none⟩ = some (.int .i64 W.now) ∧ w'.cell? ⟨n, 1, none⟩ = some (.slice A W.slots.length c) ∧ w'.cell? ⟨n + 1, 0, none⟩ = some (.int .i64 t.id) ∧ w'.cell? ⟨n + 1, 1, none⟩ = some (.int .i64 t.tm) ∧
              w'.cell? ⟨n + 1 + 1, 0, none⟩ = some (rd w' (n + 1 + 1) 0) ∧ w'.cell? ⟨n + 1 + 1, 1, none⟩ = some (rd w' (n + 1 + 1) 1) ∧ w'.frozen? ⟨n + 1 + 1, 0, none⟩ = false ∧ w'.frozen? ⟨n + 1 + 1, 1, none⟩ = false ∧ n + 1 + 1 + 1 ≤ w'.heap.size ∧ Below (n + 1 + 1) w0 w')
            (first | exact AS.set1 (AS.set1 (AS.next (AS.next HS6.out HZ2.out hb6) (AS.size (AS.next HS6.out HZ2.out hb6)) hb7) _ _) _ _ | exact AS.next (AS.next HS6.out HZ2.out hb6) (AS.size (AS.next HS6.out HZ2.out hb6)) hb7 | exact AS.next HS6.out HZ2.out hb6 | exact HS6.out | exact AS.drew HS5.out)
            (first
              | (go_at_call 26; refine HI6.out.mono ?_; rintro e w6 ⟨A6, c6, rfl, hT6, hb6⟩)
              | (go_at_call 20; refine (HBd.out w6 A6 c6 hT6).mono ?_; rintro e w7 ⟨A7, c7, rfl, hg7, hb7⟩))
          have h6 := AS.next HS6.out HZ2.out hb6
          have HS7 := Lib.hid (AS.next h6 (AS.size h6) hb7)
          have HZ6 := Lib.hid (AS.size h6)
          have HG7 := Lib.hid hg7
          rename_i hHH
          clear hHH h6 hb6 hb7 hg7 hT6
          obtain ⟨-, -, -, -, r0, r1, f0, f1, -, -⟩ := HS7.out
          go_wp2
          refine bodyPost_ret (v := .tuple #[wv (wheelOf W.now M) A7 c7, .int .i64 0]) (by simp [results, Try.results5, go_sem, r0, r1]) rfl ?_
          rw [HE.out.1, HE.out.2]
          refine ⟨A7, c7, rfl, ?_, by rw [HN.out]; exact HB0.out.trans (below_set2 (AS.below HS7.out) _ _ |>.mono (by omega))⟩
          exact Grid.mono ((HG7.out.setCell (p := ⟨n + 1 + 1, 0, none⟩) HZ6.out _).setCell (p := ⟨n + 1 + 1, 1, none⟩) HZ6.out _) (by rw [HN.out]; have := HZ6.out; omega)
    · have p1 : decide (okT W.now t) = false := by simpa using h1
      have HE : Hid (addM W t = Whl.no ∧ errA W t = 3) := Lib.hid (by
        have e : errA W t = 3 := by unfold errA; rw [if_pos h0, if_neg h1]
        exact ⟨by unfold addM; rw [e]; rfl, e⟩)
      clear h0 h1 HGd
      go_enter Try.func5, Try.ntmps5
      go_wp2_with fail
      refine (check_any W A c _ (HG.out.below (HB0.out.trans ((AS.below HS.out).mono (by omega))))).mono ?_
      rintro e w1 ⟨rfl, hb1⟩
      have HS1 := Lib.hid (AS.next HS.out (AS.size HS.out) hb1)
      clear hb1
      generalize ((w.alloc (wo W A c)).alloc (tbo t)) = w0 at *
      generalize hn : w.heap.size = n at *
      have HN := Lib.hid hn
      clear hn
      rw [H0.out]
      obtain ⟨x0, x1, x2, x3, -⟩ := HS1.out
      go_wp2_with fail
      refine (isTimer_any W.now t _).mono ?_
      rintro e w2 ⟨rfl, hb2⟩
      have HS2 := Lib.hid (AS.next HS1.out (AS.size HS1.out) hb2)
      clear x0 x1 x2 x3 hb2
      rw [p1]
      obtain ⟨-, -, -, -, r0, r1, f0, f1, -, -⟩ := HS2.out
      go_wp2
      refine bodyPost_ret (v := .tuple #[wv Whl.no none 0, .int .i64 3]) (by simp [results, Try.results5, go_sem, r0, r1]; try exact ⟨rfl, rfl⟩) rfl ?_
      rw [HE.out.1, HE.out.2]
      exact WR.none_ (by rw [HN.out]; exact HB0.out.trans (below_set2 (AS.below HS2.out) _ _ |>.mono (by omega)))
  · have HE : Hid (addM W t = Whl.no ∧ errA W t = checkW W) := Lib.hid (by
      have e : errA W t = checkW W := by unfold errA; rw [if_neg h0]
      exact ⟨by unfold addM; rw [e, if_neg h0], e⟩)
    have q : (checkW W != 0) = true := by simpa using h0
    clear h0
    go_enter Try.func5, Try.ntmps5
    go_wp2_with fail
    refine (check_any W A c _ (HG.out.below (HB0.out.trans ((AS.below HS.out).mono (by omega))))).mono ?_
    rintro e w1 ⟨rfl, hb1⟩
    have HS1 := Lib.hid (AS.next HS.out (AS.size HS.out) hb1)
    clear hb1
    generalize ((w.alloc (wo W A c)).alloc (tbo t)) = w0 at *
    generalize hn : w.heap.size = n at *
    have HN := Lib.hid hn
    clear hn
    obtain ⟨-, -, -, -, r0, r1, f0, f1, -, -⟩ := HS1.out
    go_wp2
    refine bodyPost_ret (v := .tuple #[wv Whl.no none 0, .int .i64 (checkW W)]) (by simp [results, Try.results5, go_sem, r0, r1]; try exact ⟨rfl, rfl⟩) rfl ?_
    rw [HE.out.1, HE.out.2]
    exact WR.none_ (by rw [HN.out]; exact HB0.out.trans (below_set2 (AS.below HS1.out) _ _ |>.mono (by omega)))

end Go.Proofs.Yteldnohdijcbpaa.Whl
