/-
  What expires, and when.
-/
import Derived.Test.YtdhcbdoiodgfhaaWheelPartsLaw
namespace Go.Proofs.Ytdhcbdoiodgfhaa.Whl
open Go.RowKit Go.Maps
set_option linter.unusedVariables false

theorem sorted_le {L : List Tm} (hs : Sorted L) {i j : Nat} (hij : i < j) (hj : j < L.length) : (gt L i).tm ≤ (gt L j).tm := by
  have := List.pairwise_iff_getElem.1 hs i j (by omega) hj hij
  rw [← gt_get (by omega), ← gt_get hj] at this
  unfold ltT at this
  omega
theorem gone_head {L : List Tm} {a : Int} (h0 : 0 < L.length) (h1 : (gt L 0).tm ≤ a) : 0 < (goneT L a).length ∧ gt (goneT L a) 0 = gt L 0 := by
  cases L with
  | nil => simp at h0
  | cons t L =>
    have e : (gt (t :: L) 0) = t := rfl
    rw [e] at h1 ⊢
    have e2 : goneT (t :: L) a = t :: goneT L a := by unfold goneT; rw [List.filter_cons, if_pos (by simpa using h1)]
    rw [e2]
    exact ⟨by simp, rfl⟩
theorem gone_none {L : List Tm} {a : Int} (hs : Sorted L) (h1 : a < (gt L 0).tm) : goneT L a = [] := by
  unfold goneT
  rw [List.filter_eq_nil_iff]
  intro t ht
  obtain ⟨j, hj, rfl⟩ := List.getElem_of_mem ht
  rw [← gt_get hj]
  have : (gt L 0).tm ≤ (gt L j).tm := by
    rcases Nat.eq_zero_or_pos j with h | h
    · subst h; exact Int.le_refl _
    · exact sorted_le hs h hj
  simp only [decide_eq_true_eq]
  omega
theorem errN_cases {W : Whl} (h : checkW W = 0) : (errN W = 5 ∧ W.all = []) ∨ (errN W = 0 ∧ 0 < W.all.length ∧ nextM W = (gt W.all 0).tm) := by
  by_cases h1 : W.all.length = 0
  · left
    exact ⟨by unfold errN; rw [if_pos h, if_pos h1], List.length_eq_zero_iff.1 h1⟩
  · right
    have e : errN W = 0 := by unfold errN; rw [if_pos h, if_neg h1]
    exact ⟨e, by omega, by unfold nextM; rw [if_pos e]⟩
theorem due_law {W : Whl} {a : Int} (h : errV W a = 0) :
    ((errN W = 5 ∧ advG W a = []) ∨ (errN W = 0 ∧ a < nextM W ∧ advG W a = []) ∨ (errN W = 0 ∧ nextM W ≤ a ∧ 0 < (advG W a).length ∧ (gt (advG W a) 0).tm = nextM W)) ∧
    (errN (advM W a) = 5 ∨ (errN (advM W a) = 0 ∧ a < nextM (advM W a))) ∧
    ∀ i, i < (advG W a).length → (gt (advG W a) i).tm ≤ a ∧ (0 < i → (gt (advG W a) (i - 1)).tm ≤ (gt (advG W a) i).tm) := by
  obtain ⟨h0, h1, h2⟩ := errV_ok h
  obtain ⟨e1, e2, g1⟩ := advM_ok h
  have hs := (good_of h0).sorted
  refine ⟨?_, ?_, fun i hi => ?_⟩
  · rw [e2]
    rcases errN_cases h0 with ⟨a1, a2⟩ | ⟨a1, a2, a3⟩
    · left; exact ⟨a1, by rw [a2]; rfl⟩
    · right
      rw [a3]
      by_cases hn : a < (gt W.all 0).tm
      · left; exact ⟨a1, hn, gone_none hs hn⟩
      · right
        obtain ⟨b1, b2⟩ := gone_head (a := a) a2 (by omega)
        exact ⟨a1, by omega, b1, by rw [b2]⟩
  · have hc : checkW (advM W a) = 0 := by rw [e1]; exact good_check g1
    have hal : (advM W a).all = lateT W.all a := by rw [e1]; exact all_of g1
    rcases errN_cases hc with ⟨a1, a2⟩ | ⟨a1, a2, a3⟩
    · left; exact a1
    · right
      refine ⟨a1, ?_⟩
      rw [a3, hal]
      rw [hal] at a2
      exact of_decide_eq_true (List.mem_filter.1 (gt_mem a2)).2
  · rw [e2] at hi ⊢
    refine ⟨?_, fun hp => sorted_le (List.Pairwise.filter _ hs) (by omega) hi⟩
    exact of_decide_eq_true (List.mem_filter.1 (gt_mem hi)).2

set_option maxRecDepth 100000 in
set_option maxHeartbeats 8000000 in
theorem wheelDue_walk (W : Whl) (A : Option Addr) (c : Nat) (a : Int) (w : World) (hG : Grid 0 w A c W.slots) :
    Calls Try.prog 5 #[wv W A c, .int .i64 a] w fun e w' => e = .returned (.bool true) ∧ Below w.heap.size w w' := by
  have X0 := Lib.hid (Bx.new (W := W) hG)
  have HB0 : Hid (Below w.heap.size w (w.alloc (wo W A c))) := Lib.hid (bel_al (Below.refl _ _) (Nat.le_refl _) _)
  have HV0 := Lib.hid (advance_any W A c a _ X0.out.grid)
  have HN0 : Hid (errV W a ≠ 0 → advG W a = []) := Lib.hid advG_no
  have HP : Hid (errV W a = 0 → ((errN W = 5 ∧ advG W a = []) ∨ (errN W = 0 ∧ a < nextM W ∧ advG W a = []) ∨ (errN W = 0 ∧ nextM W ≤ a ∧ 0 < (advG W a).length ∧ (gt (advG W a) 0).tm = nextM W)) ∧
    (errN (advM W a) = 5 ∨ (errN (advM W a) = 0 ∧ a < nextM (advM W a))) ∧
    ∀ i, i < (advG W a).length → (gt (advG W a) i).tm ≤ a ∧ (0 < i → (gt (advG W a) (i - 1)).tm ≤ (gt (advG W a) i).tm)) := Lib.hid due_law
  clear hG
  generalize advM W a = X at *
  generalize advG W a = P at *
  generalize errV W a = ea at *
  obtain ⟨-, x1, x2, -⟩ := X0.out
  go_enter Try.func5, Try.ntmps5
  go_wp2_with fail
  refine HV0.out.mono ?_
  rintro e w1 ⟨A1, c1, P1, d1, rfl, hg1, hT1, hA1, hb1⟩
  have X1 := Lib.hid ((X0.out.below hb1).alloc (wo X A1 c1))
  have Y1 := Lib.hid (Bx.new (W := X) (hg1.mono (Nat.zero_le _)))
  have T1 := Lib.hid (hT1.alloc (wo X A1 c1))
  have HB1 : Hid (Below w.heap.size w (w1.alloc (wo X A1 c1))) := Lib.hid (bel_al (HB0.out.trans (hb1.mono HB0.out.size)) (Nat.le_trans HB0.out.size hb1.size) _)
  clear x1 x2 hg1 hT1 hA1 hb1 HV0
  obtain ⟨-, x1, x2, -⟩ := X1.out
  go_wp2_with fail
  refine (next_any W A c _ X1.out.grid).mono ?_
  rintro e w2 ⟨rfl, hb2⟩
  have Y2 := Lib.hid (Y1.out.below hb2)
  have T2 := Lib.hid (T1.out.below hb2)
  have HB2 : Hid (Below w.heap.size w w2) := Lib.hid (HB1.out.trans (hb2.mono HB1.out.size))
  clear x1 x2 hb2
  generalize errN W = en at *
  generalize nextM W = nn at *
  go_wp2_with fail
  refine (begun_any _).mono ?_
  rintro e w3 ⟨rfl, hb3⟩
  have Y3 := Lib.hid (Y2.out.below hb3)
  have T3 := Lib.hid (T2.out.below hb3)
  have HB3 : Hid (Below w.heap.size w w3) := Lib.hid (HB2.out.trans (hb3.mono HB2.out.size))
  clear hb3
  generalize w1.heap.size = p1 at *
  by_cases h0 : ea = 0
  · subst h0
    obtain ⟨hA, hB, hC⟩ := HP.out rfl
    have HCA := Lib.hid hA
    have HCB := Lib.hid hB
    have HCC := Lib.hid hC
    clear hA hB hC HP HN0
    obtain ⟨ln, hln⟩ : ∃ ln, P.length = ln := ⟨_, rfl⟩
    have HLN := Lib.hid hln
    have hll : ln ≤ 9223372036854775807 := hln ▸ T3.out.len
    rw [hln]
    clear hln
    go_wp2
    go_loopw [10] (fun x wr => ∃ k : Nat, k ≤ ln ∧ x = .int .i64 (k : Int) ∧ Below w3.heap.size w3 wr) (fun x _ => ln - (intOf x).toNat)
    case atStart => exact ⟨0, by omega, rfl, Below.refl _ _⟩
    case round =>
      obtain ⟨k, hk, rfl, hb⟩ := hrel
      have HBl := Lib.hid hb
      clear hb
      by_cases hlt : k < ln
      · have hkn : (k : Int) < (ln : Int) := by omega
        obtain ⟨b, o, rfl, ht⟩ := (T3.out.below HBl.out).2.2.2 (by rw [HLN.out]; omega)
        have e1 := (ht.2 k (by rw [HLN.out]; exact hlt)).2
        obtain ⟨hc1, hc2⟩ := HCC.out k (by rw [HLN.out]; exact hlt)
        by_cases hk0 : k = 0
        · have HK0 := Lib.hid hk0
          have hk4 : decide (0 < k) = false := by simp; omega
          have hk5 : decide ((0 : Int) < (k : Int)) = false := by simp; omega
          clear hk0 ht hc2
          generalize (gt P k).tm = ta at *
          have hd : decide (a < ta) = false := by simp; omega
          clear hc1
          go_wp2
          go_quiet (fail)
          have HB2' : Hid (Below w3.heap.size w3 (wr.drewN nq)) := Lib.hid (HBl.out.trans (below_drewN _ _ _))
          generalize wr.drewN nq = w4 at *
          go_wp2
          go_roundw
          case rel => exact ⟨k + 1, by omega, by go_num, HB2'.out⟩
          case measure => simp [intOf]; omega
        · obtain ⟨m, hm⟩ : ∃ m, m = k - 1 := ⟨_, rfl⟩
          have e2 := (ht.2 (k - 1) (by rw [HLN.out]; omega)).2
          have hc3 := hc2 (by omega)
          rw [← hm] at e2 hc3
          have hk1 : decide ((0 : Int) < (k : Int)) = true := by simp; omega
          have hk2 : decide (0 < k) = true := by simp; omega
          have hk3 : (m : Int) < (ln : Int) := by omega
          have hk6 : m < ln := by omega
          have hk8 : (0 : Int) ≤ (m : Int) := by omega
          have hk9 : IntKind.i64.wrap ((k : Int) - 1) = (m : Int) := by rw [IntKind.wrap_i64]; omega
          have HM := Lib.hid hm
          have HK0 := Lib.hid hk0
          clear hm hk0 ht hc2
          generalize (gt P k).tm = ta at *
          generalize (gt P m).tm = tb at *
          have hd : decide (a < ta) = false := by simp; omega
          have hd2 : decide (ta < tb) = false := by simp; omega
          clear hc1 hc3
          go_wp2
          go_quiet (fail)
          have HB2' : Hid (Below w3.heap.size w3 (wr.drewN nq)) := Lib.hid (HBl.out.trans (below_drewN _ _ _))
          generalize wr.drewN nq = w4 at *
          clear hk9
          go_wp2
          go_roundw
          case rel => exact ⟨k + 1, by omega, by go_num, HB2'.out⟩
          case measure => simp [intOf]; omega
      · obtain rfl : k = ln := by omega
        clear hlt
        have Y4 := Lib.hid (Y3.out.below HBl.out)
        have T4 := Lib.hid (T3.out.below HBl.out)
        have HB4 : Hid (Below w.heap.size w wr) := Lib.hid (HB3.out.trans (HBl.out.mono HB3.out.size))
        obtain ⟨-, y1, y2, -⟩ := Y4.out
        go_wp2_with fail
        refine (next_any X A1 c1 _ Y4.out.grid).mono ?_
        rintro e w5 ⟨rfl, hb5⟩
        have T5 := Lib.hid (T4.out.below hb5)
        have HB5 : Hid (Below w.heap.size w w5) := Lib.hid (HB4.out.trans (hb5.mono HB4.out.size))
        clear hb5 y1 y2
        generalize errN X = ex at *
        generalize nextM X = nx at *
        have HCB2 : Hid ((ex = 5 ∧ True) ∨ (ex = 0 ∧ a < nx)) := Lib.hid (HCB.out.elim (fun h => .inl ⟨h, trivial⟩) .inr)
        rcases HCA.out with ⟨h1, h2⟩ | ⟨h1, h2, h3⟩ | ⟨h1, h2, h3, h4⟩
        · have hk0 : k = 0 := by rw [← HLN.out, h2]; rfl
          clear HCA HCC h2
          subst h1 hk0
          rcases HCB2.out with ⟨h5, -⟩ | ⟨h5, h6⟩
          · subst h5
            go_wp2
            go_ret
            exact ⟨rfl, HB5.out⟩
          · subst h5
            have hd : decide (nx ≤ a) = false := by simp; omega
            clear h6
            go_wp2
            go_ret
            exact ⟨rfl, HB5.out⟩
        · have hk0 : k = 0 := by rw [← HLN.out, h3]; rfl
          have hd1 : decide (a < nn) = true := by simpa using h2
          clear HCA HCC h3 h2
          subst h1 hk0
          rcases HCB2.out with ⟨h5, -⟩ | ⟨h5, h6⟩
          · subst h5
            go_wp2
            go_ret
            exact ⟨rfl, HB5.out⟩
          · subst h5
            have hd : decide (nx ≤ a) = false := by simp; omega
            clear h6
            go_wp2
            go_ret
            exact ⟨rfl, HB5.out⟩
        · obtain ⟨b, o, rfl, ht⟩ := T5.out.2.2.2 h3
          have e1 := (ht.2 0 h3).2
          rw [h4] at e1
          simp only [Nat.zero_mul, Nat.add_zero] at e1
          have hd1 : decide (a < nn) = false := by simp; omega
          have hkp : (0 : Int) < (k : Int) := by rw [HLN.out] at h3; omega
          have hkq : ((k : Int) == 0) = false := beq_false_of_ne (by omega)
          clear HCA HCC h2 h3 h4 ht
          subst h1
          rcases HCB2.out with ⟨h5, -⟩ | ⟨h5, h6⟩
          · subst h5
            go_wp2
            go_ret
            exact ⟨rfl, HB5.out⟩
          · subst h5
            have hd : decide (nx ≤ a) = false := by simp; omega
            clear h6
            go_wp2
            go_ret
            exact ⟨rfl, HB5.out⟩
  · have q : (ea != 0) = true := by simpa using h0
    have hP := HN0.out h0
    clear h0
    subst hP
    go_wp2
    go_ret
    exact ⟨rfl, HB3.out⟩

end Go.Proofs.Ytdhcbdoiodgfhaa.Whl
