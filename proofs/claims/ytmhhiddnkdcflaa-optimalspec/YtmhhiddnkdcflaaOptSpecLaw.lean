/-
  The walk of the law that compares package optimal with its reference.
-/
import Derived.Test.YtmhhiddnkdcflaaOptRef2
import Derived.Test.YtmhhiddnkdcflaaOptBegun
import Derived.Test.YtmhhiddnkdcflaaKeysRef
import Derived.Deep.DeepCutAuto
namespace Go.Proofs.Ytmhhiddnkdcflaa.Opt
open Go.RowKit
open Bst
open Lru (isRm isK keysE keysE_zero traceE trace_zero)
set_option linter.unusedVariables false
set_option maxRecDepth 100000

/-- A slice of n ints that reads as L. -/
def SI (w : World) (v : Value) (n : Nat) (L : List Int) : Prop := ∃ B d, v = .slice B n d ∧ L.length = n ∧ Ints w B d L
theorem SI.below {w w' : World} {v : Value} {n : Nat} {L : List Int} (h : SI w v n L) (hb : Below w.heap.size w w') : SI w' v n L := by
  obtain ⟨B, d, e, hn, hI⟩ := h
  exact ⟨B, d, e, hn, hI.below hb⟩
theorem sameI {w : World} {v u : Value} {n : Nat} {L : List Int} (h : SI w v n L) (k : SI w u n L) : Calls Try.prog 14 #[v, u] w fun e w' => e = .returned (.bool true) ∧ Below w.heap.size w w' := by
  obtain ⟨B, d, rfl, hn, hI⟩ := h
  obtain ⟨C, e, rfl, -, hJ⟩ := k
  subst hn
  have := sameInts_any B C d e L L w hI hJ
  rwa [decide_eq_true rfl] at this
theorem gone_ev (A : Option Addr) (c : Nat) (L : List Int) (r : Int) (w : World) (hI : Ints w A c L) (h : evE r L = 0) (ht : traceE L = 0) (hr : isRm r) :
    Calls Try.prog 11 #[.slice A L.length c, .int .i64 r] w fun e w' => ∃ v, e = .returned (.tuple #[v, .int .i64 (evm r L : Int)]) ∧ SI w' v (evs r L).length (evs r L) ∧ Below w.heap.size w w' := by
  refine (bestGone_any A c L r w hI (trace_zero.1 ht).1 hr).mono ?_
  rintro e w' ⟨B, d, rfl, hJ, hb⟩
  have e1 : evs r L = gsI r.toNat L L.length := by unfold evs; rw [if_pos h]
  have e2 : evm r L = mI r.toNat L L.length := by unfold evm; rw [if_pos h]
  rw [e1, e2]
  exact ⟨_, rfl, ⟨B, d, rfl, rfl, hJ⟩, hb⟩
theorem next_ev (A : Option Addr) (c : Nat) (L : List Int) (i : Int) (w : World) (hI : Ints w A c L) (h : nxE L i = 0) (h0 : 0 ≤ i) (hl : i < (L.length : Int)) :
    Calls Try.prog 12 #[.slice A L.length c, .int .i64 i] w fun e w' => e = .returned (.int .i64 (nxV L i)) ∧ Below w.heap.size w w' := by
  obtain ⟨k, rfl⟩ : ∃ k : Nat, i = (k : Int) := ⟨i.toNat, by omega⟩
  have := bestNext_any A c L k w hI (by omega)
  have e : nxV L k = (again L (k + 1) (gi L k) : Int) := by unfold nxV; rw [if_pos h, Int.toNat_natCast]
  rw [e]
  exact this

set_option maxHeartbeats 16000000 in
theorem optimalSpec_walk (A : Option Addr) (c : Nat) (xs : List Int) (r i m l : Int) (w : World) (hI : Ints w A c xs) :
    Calls Try.prog 3 #[.slice A xs.length c, .int .i64 r, .int .i64 i, .int .i64 m, .int .i64 l] w fun e w' => e = .returned (.bool true) ∧ Below w.heap.size w w' := by
  have HI := Lib.hid hI
  have HEv := Lib.hid (Evictions_any A c xs r w hI)
  have HNx := Lib.hid (fun (W : World) (h : Ints W A c xs) => Next_any A c xs i W h)
  have HBd := Lib.hid (fun (W : World) => Bound_any m r l W)
  have HTc := Lib.hid (fun (W : World) (h : Ints W A c xs) => Kr.traceCheck_any A c xs W h)
  have HBG := Lib.hid (fun (W : World) (h : Ints W A c xs) => gone_ev A c xs r W h)
  have HBN := Lib.hid (fun (W : World) (h : Ints W A c xs) => next_ev A c xs i W h)
  unfold ER at HEv
  clear hI
  obtain ⟨ln, hln⟩ : ∃ n, xs.length = n := ⟨_, rfl⟩
  have HLN := Lib.hid hln
  obtain ⟨vn, hvn⟩ : ∃ n, (evs r xs).length = n := ⟨_, rfl⟩
  have HVN := Lib.hid hvn
  simp only [hln, hvn] at HEv HNx HTc HBG HBN ⊢
  clear hln hvn
  go_enter Try.func3, Try.ntmps3
  go_wp2_with fail
  refine HEv.out.mono ?_
  rintro e w1 ⟨A1, c1, rfl, hI1, hb1⟩
  have HS1 : Hid (SI w1 (.slice A1 vn c1) vn (evs r xs)) := Lib.hid ⟨A1, c1, rfl, HVN.out, hI1⟩
  have HB1 := Lib.hid hb1
  clear hI1 hb1
  go_wp2_with fail
  refine (HNx.out w1 (HI.out.below HB1.out)).mono ?_
  rintro e w2 ⟨rfl, hb2⟩
  have HS2 := Lib.hid (HS1.out.below hb2)
  have HB2 : Hid (Below w.heap.size w w2) := Lib.hid (HB1.out.trans (hb2.mono HB1.out.size))
  clear hb2 HS1 HB1
  go_wp2_with fail
  refine (HBd.out w2).mono ?_
  rintro e w3 ⟨rfl, rfl⟩
  go_wp2_with fail
  refine (HTc.out w2 (HI.out.below HB2.out)).mono ?_
  rintro e w3 ⟨rfl, rfl⟩
  clear HEv HNx HBd HTc
  obtain ⟨bw, hbw⟩ : ∃ bw : Bool, bw = (decide (traceE xs = 0) && !decide (isRm r)) := ⟨_, rfl⟩
  have HBw := Lib.hid hbw
  clear hbw
  go_upto_region 8 with fail
  go_cut [59] (fun s59 wx => s59 = .bool bw ∧ w2 = wx)
  case first =>
    as_aux_lemma =>
      by_cases h0 : traceE xs = 0
      · have d0 : (traceE xs == 0) = true := by simpa using h0
        by_cases h1 : r < 1
        · have d1 : decide (r < 1) = true := by simpa using h1
          have HE : Hid (true = bw) := Lib.hid (by rw [HBw.out, decide_eq_true h0, decide_eq_false (fun k : isRm r => by have := k.1; omega)]; rfl)
          clear h0 h1
          go_wp2
          go_meet
          exact ⟨by rw [HE.out], rfl⟩
        · have d1 : decide (r < 1) = false := by simpa using h1
          have HE : Hid (decide (40 < r) = bw) := Lib.hid (by
            rw [HBw.out, decide_eq_true h0]
            by_cases h : 40 < r
            · rw [decide_eq_true h, decide_eq_false (fun k : isRm r => by have := k.2; omega)]; rfl
            · rw [decide_eq_false h, decide_eq_true (show isRm r from ⟨by omega, by omega⟩)]; rfl)
          clear h0 h1
          go_wp2
          go_meet
          exact ⟨by rw [HE.out], rfl⟩
      · have d0 : (traceE xs == 0) = false := by simpa using h0
        have HE : Hid (false = bw) := Lib.hid (by rw [HBw.out, decide_eq_false h0]; rfl)
        clear h0
        go_wp2
        go_meet
        exact ⟨by rw [HE.out], rfl⟩
  case rest =>
    as_aux_lemma =>
      obtain ⟨rfl, rfl⟩ := hcut
      go_upto_if 59 with fail
      go_cut [18] (fun s18 wx => s18 = .int .i64 (evE r xs) ∧ w2 = wx)
      case first =>
        as_aux_lemma =>
          by_cases hb : bw = true
          · have HE : Hid (evE r xs = 3) := Lib.hid (by
              rw [HBw.out, Bool.and_eq_true, decide_eq_true_eq, Bool.not_eq_true', decide_eq_false_iff_not] at hb
              unfold evE
              rw [if_pos hb.1, if_neg hb.2])
            subst hb
            go_wp2
            go_meet
            exact ⟨by rw [HE.out], rfl⟩
          · have hb : bw = false := by simpa using hb
            have HE : Hid (evE r xs = traceE xs) := Lib.hid (by
              rw [HBw.out, Bool.and_eq_false_iff, decide_eq_false_iff_not, Bool.not_eq_false', decide_eq_true_eq] at hb
              unfold evE
              by_cases h : traceE xs = 0
              · rw [if_pos h, if_pos (hb.resolve_left (fun k => k h)), h]
              · rw [if_neg h])
            subst hb
            go_wp2
            go_meet
            exact ⟨by rw [HE.out], rfl⟩
      case rest =>
        as_aux_lemma =>
          obtain ⟨rfl, rfl⟩ := hcut
          go_upto_if 61 with fail
          go_cut [21, 22] (fun s21 s22 wx => s22 = .int .i64 (evm r xs : Int) ∧ SI wx s21 vn (evs r xs) ∧ Below w2.heap.size w2 wx)
          case first =>
            as_aux_lemma =>
              by_cases h0 : evE r xs = 0
              · have d0 : (evE r xs == 0) = true := by simpa using h0
                have ht : traceE xs = 0 ∧ isRm r := by
                  unfold evE at h0
                  by_cases h : traceE xs = 0
                  · rw [if_pos h] at h0
                    by_cases h2 : isRm r
                    · exact ⟨h, h2⟩
                    · rw [if_neg h2] at h0; cases h0
                  · rw [if_neg h] at h0; exact absurd h0 h
                have HC := Lib.hid (HBG.out w2 (HI.out.below HB2.out) h0 ht.1 ht.2)
                clear h0 ht
                go_wp2_with fail
                refine HC.out.mono ?_
                rintro e w3 ⟨v3, rfl, hs3, hb3⟩
                have HS3 := Lib.hid hs3
                have HB3 := Lib.hid hb3
                clear hs3 hb3
                go_wp2
                go_meet
                exact ⟨rfl, HS3.out, HB3.out⟩
              · have d0 : (evE r xs == 0) = false := by simpa using h0
                have HE : Hid (evm r xs = 0 ∧ evs r xs = []) := Lib.hid (by unfold evm evs; rw [if_neg h0, if_neg h0]; exact ⟨rfl, rfl⟩)
                clear h0
                go_wp2
                go_meet
                exact ⟨by rw [HE.out.1]; rfl, ⟨none, 0, by rw [← HVN.out, HE.out.2]; rfl, HVN.out, by rw [HE.out.2]; exact Ints.none_ _⟩, Below.refl _ _⟩
          case rest =>
            as_aux_lemma =>
              obtain ⟨rfl, hs3, hb3⟩ := hcut
              have HS3 := Lib.hid hs3
              have HA3 := Lib.hid (HS2.out.below hb3)
              have HB3 : Hid (Below w.heap.size w wc) := Lib.hid (HB2.out.trans (hb3.mono HB2.out.size))
              obtain ⟨B, d, rfl, -, -⟩ := hs3
              clear hb3 HS2 HB2 HBG
              generalize wc = w3 at *
              obtain ⟨bu, hbu⟩ : ∃ bu : Bool, bu = (decide (traceE xs = 0) && !decide (0 ≤ i ∧ i < (ln : Int))) := ⟨_, rfl⟩
              have HBu := Lib.hid hbu
              clear hbu
              go_upto_region 12 with fail
              go_cut [79] (fun s79 wx => s79 = .bool bu ∧ w3 = wx)
              case first =>
                as_aux_lemma =>
                  by_cases h0 : traceE xs = 0
                  · have d0 : (traceE xs == 0) = true := by simpa using h0
                    by_cases h1 : i < 0
                    · have d1 : decide (i < 0) = true := by simpa using h1
                      have HE : Hid (true = bu) := Lib.hid (by rw [HBu.out, decide_eq_true h0, decide_eq_false (by omega)]; rfl)
                      clear h0 h1
                      go_wp2
                      go_meet
                      exact ⟨by rw [HE.out], rfl⟩
                    · have d1 : decide (i < 0) = false := by simpa using h1
                      have HE : Hid (decide ((ln : Int) ≤ i) = bu) := Lib.hid (by
                        rw [HBu.out, decide_eq_true h0]
                        by_cases h : (ln : Int) ≤ i
                        · rw [decide_eq_true h, decide_eq_false (by omega)]; rfl
                        · rw [decide_eq_false h, decide_eq_true (show 0 ≤ i ∧ i < (ln : Int) from ⟨by omega, by omega⟩)]; rfl)
                      clear h0 h1
                      go_wp2
                      go_meet
                      exact ⟨by rw [HE.out], rfl⟩
                  · have d0 : (traceE xs == 0) = false := by simpa using h0
                    have HE : Hid (false = bu) := Lib.hid (by rw [HBu.out, decide_eq_false h0]; rfl)
                    clear h0
                    go_wp2
                    go_meet
                    exact ⟨by rw [HE.out], rfl⟩
              case rest =>
                as_aux_lemma =>
                  obtain ⟨rfl, rfl⟩ := hcut
                  go_upto_if 79 with fail
                  go_cut [20, 23] (fun s20 s23 wx => s20 = .int .i64 (nxE xs i) ∧ s23 = .int .i64 (nxV xs i) ∧ Below w3.heap.size w3 wx)
                  case first =>
                    as_aux_lemma =>
                      by_cases h0 : traceE xs = 0
                      · have d0 : (traceE xs == 0) = true := by simpa using h0
                        by_cases h1 : 0 ≤ i ∧ i < (ln : Int)
                        · have hb : bu = false := by rw [HBu.out, decide_eq_true h0, decide_eq_true h1]; rfl
                          have hE : nxE xs i = 0 := by unfold nxE; rw [if_pos h0, if_pos (by rw [HLN.out]; exact h1)]
                          have HE : Hid (nxE xs i = traceE xs) := Lib.hid (by rw [hE, h0])
                          have HC := Lib.hid (HBN.out w3 (HI.out.below HB3.out) hE h1.1 h1.2)
                          subst hb
                          clear h0 h1 hE
                          go_wp2_with fail
                          refine HC.out.mono ?_
                          rintro e w4 ⟨rfl, hb4⟩
                          have HB4 := Lib.hid hb4
                          clear hb4
                          go_wp2
                          go_meet
                          exact ⟨by rw [HE.out], rfl, HB4.out⟩
                        · have hb : bu = true := by rw [HBu.out, decide_eq_true h0, decide_eq_false h1]; rfl
                          have HE : Hid (nxE xs i = 3) := Lib.hid (by unfold nxE; rw [if_pos h0, if_neg (by rw [HLN.out]; exact h1)])
                          have HV : Hid (nxV xs i = 0) := Lib.hid (by unfold nxV; rw [if_neg (by rw [HE.out]; decide)])
                          subst hb
                          clear h0 h1
                          go_wp2
                          go_meet
                          exact ⟨by rw [HE.out], by rw [HV.out], Below.refl _ _⟩
                      · have d0 : (traceE xs == 0) = false := by simpa using h0
                        have hb : bu = false := by rw [HBu.out, decide_eq_false h0]; rfl
                        have HE : Hid (nxE xs i = traceE xs) := Lib.hid (by unfold nxE; rw [if_neg h0])
                        have HV : Hid (nxV xs i = 0) := Lib.hid (by unfold nxV; rw [if_neg (by rw [HE.out]; exact h0)])
                        subst hb
                        clear h0
                        go_wp2
                        go_meet
                        exact ⟨by rw [HE.out], by rw [HV.out], Below.refl _ _⟩
                  case rest =>
                    as_aux_lemma =>
                      obtain ⟨rfl, rfl, hb4⟩ := hcut
                      have HS4 := Lib.hid (HS3.out.below hb4)
                      have HA4 := Lib.hid (HA3.out.below hb4)
                      have HB4 : Hid (Below w.heap.size w wc) := Lib.hid (HB3.out.trans (hb4.mono HB3.out.size))
                      clear hb4 HS3 HA3 HB3 HBN
                      generalize wc = w4 at *
                      generalize evE r xs = e1 at *
                      generalize evm r xs = n1 at *
                      generalize nxE xs i = e2 at *
                      generalize nxV xs i = n2 at *
                      generalize traceE xs = t0 at *
                      obtain ⟨bo, hbo⟩ : ∃ bo : Bool, bo = !decide (0 ≤ m ∧ m ≤ 200 ∧ isRm r ∧ isRm l) := ⟨_, rfl⟩
                      have HBo := Lib.hid hbo
                      clear hbo
                      go_upto_region 17 with fail
                      go_cut [106] (fun s106 wx => s106 = .bool bo ∧ w4 = wx)
                      case first =>
                        as_aux_lemma =>
                          have HT : Hid (¬ (0 ≤ m ∧ m ≤ 200 ∧ isRm r ∧ isRm l) → true = bo) := Lib.hid (fun h => by rw [HBo.out, decide_eq_false h]; rfl)
                          by_cases h1 : m < 0
                          · have d1 : decide (m < 0) = true := by simpa using h1
                            have HE := Lib.hid (HT.out (fun h => by omega))
                            clear h1
                            go_wp2
                            go_meet
                            exact ⟨by rw [HE.out], rfl⟩
                          · have d1 : decide (m < 0) = false := by simpa using h1
                            by_cases h2 : 200 < m
                            · have d2 : decide (200 < m) = true := by simpa using h2
                              have HE := Lib.hid (HT.out (fun h => by omega))
                              clear h1 h2
                              go_wp2
                              go_meet
                              exact ⟨by rw [HE.out], rfl⟩
                            · have d2 : decide (200 < m) = false := by simpa using h2
                              by_cases h3 : r < 1
                              · have d3 : decide (r < 1) = true := by simpa using h3
                                have HE := Lib.hid (HT.out (fun h => by have := h.2.2.1.1; omega))
                                clear h1 h2 h3
                                go_wp2
                                go_meet
                                exact ⟨by rw [HE.out], rfl⟩
                              · have d3 : decide (r < 1) = false := by simpa using h3
                                by_cases h4 : 40 < r
                                · have d4 : decide (40 < r) = true := by simpa using h4
                                  have HE := Lib.hid (HT.out (fun h => by have := h.2.2.1.2; omega))
                                  clear h1 h2 h3 h4
                                  go_wp2
                                  go_meet
                                  exact ⟨by rw [HE.out], rfl⟩
                                · have d4 : decide (40 < r) = false := by simpa using h4
                                  by_cases h5 : l < 1
                                  · have d5 : decide (l < 1) = true := by simpa using h5
                                    have HE := Lib.hid (HT.out (fun h => by have := h.2.2.2.1; omega))
                                    clear h1 h2 h3 h4 h5
                                    go_wp2
                                    go_meet
                                    exact ⟨by rw [HE.out], rfl⟩
                                  · have d5 : decide (l < 1) = false := by simpa using h5
                                    have HE : Hid (decide (40 < l) = bo) := Lib.hid (by
                                      rw [HBo.out]
                                      by_cases h : 40 < l
                                      · rw [decide_eq_true h, decide_eq_false (fun k => by have := k.2.2.2.2; omega)]; rfl
                                      · rw [decide_eq_false h, decide_eq_true (show 0 ≤ m ∧ m ≤ 200 ∧ isRm r ∧ isRm l from ⟨by omega, by omega, ⟨by omega, by omega⟩, ⟨by omega, by omega⟩⟩)]; rfl)
                                    clear h1 h2 h3 h4 h5
                                    go_wp2
                                    go_meet
                                    exact ⟨by rw [HE.out], rfl⟩
                      case rest =>
                        as_aux_lemma =>
                          obtain ⟨rfl, rfl⟩ := hcut
                          go_upto_if 106 with fail
                          go_cut [24, 25] (fun s24 s25 wx => s24 = .int .i64 (bndE m r l) ∧ s25 = .int .i64 (bndV m r l) ∧ w4 = wx)
                          case first =>
                            as_aux_lemma =>
                              by_cases h0 : 0 ≤ m ∧ m ≤ 200 ∧ isRm r ∧ isRm l
                              · have hb : bo = false := by rw [HBo.out, decide_eq_true h0]; rfl
                                subst hb
                                by_cases h1 : r < l
                                · have d1 : decide (r < l) = true := by simpa using h1
                                  have HE : Hid (bndE m r l = 4) := Lib.hid (by unfold bndE; rw [if_pos h0, if_pos h1])
                                  have HV : Hid (bndV m r l = 0) := Lib.hid (by unfold bndV; rw [if_neg (by rw [HE.out]; decide)])
                                  clear h0 h1
                                  go_wp2
                                  go_meet
                                  exact ⟨by rw [HE.out], by rw [HV.out], rfl⟩
                                · have d1 : decide (r < l) = false := by simpa using h1
                                  have HE : Hid (bndE m r l = 0) := Lib.hid (by unfold bndE; rw [if_pos h0, if_neg h1])
                                  have HV : Hid (bndV m r l = r * m / (r - l + 1) + r) := Lib.hid (by unfold bndV; rw [if_pos HE.out])
                                  obtain ⟨h2, h3, ⟨h4, h5⟩, h6, h7⟩ := h0
                                  have k1 : 0 ≤ r * m := Int.mul_nonneg (by omega) h2
                                  have k2 : r * m ≤ 8000 := by
                                    have a1 : r * m ≤ 40 * m := Int.mul_le_mul_of_nonneg_right (by omega) h2
                                    omega
                                  have k3 : 0 ≤ r * m / (r - l + 1) := Int.ediv_nonneg k1 (by omega)
                                  have k4 : r * m / (r - l + 1) ≤ r * m := Int.ediv_le_self _ k1
                                  have k5 : ∀ j : Int, (j + 1) * (r - l + 1) ≤ r * m ↔ j + 1 ≤ r * m / (r - l + 1) := fun j => (Int.le_ediv_iff_mul_le (by omega)).symm
                                  have k6 : ∀ j : Int, 0 ≤ j → j ≤ 8000 → 0 ≤ (j + 1) * (r - l + 1) ∧ (j + 1) * (r - l + 1) ≤ 8001 * 40 := fun j hj hj2 =>
                                    ⟨Int.mul_nonneg (by omega) (by omega), Int.mul_le_mul (by omega) (by omega) (by omega) (by omega)⟩
                                  have KK := Lib.hid k5
                                  have KL := Lib.hid k6
                                  have w1 : IntKind.i64.wrap (r * m) = r * m := by rw [IntKind.wrap_i64]; omega
                                  have w2' : IntKind.i64.wrap (r - l) = r - l := by rw [IntKind.wrap_i64]; omega
                                  have w3' : IntKind.i64.wrap (r - l + 1) = r - l + 1 := by rw [IntKind.wrap_i64]; omega
                                  generalize r * m / (r - l + 1) = q at *
                                  have HK : Hid (0 ≤ q ∧ q ≤ 8000 ∧ 1 ≤ r ∧ r ≤ 40) := Lib.hid ⟨k3, by omega, h4, h5⟩
                                  clear h1 h2 h3 h4 h5 h6 h7 k1 k2 k3 k4 k5 k6
                                  go_wp2
                                  go_loop [25] (fun s25 => ∃ j : Nat, (j : Int) ≤ q ∧ s25 = .int .i64 (r + (j : Int))) (fun s25 => (q + 1 - (intOf s25 - r)).toNat)
                                  case atStart => exact ⟨0, HK.out.1, by simp⟩
                                  case round =>
                                    obtain ⟨j, hj, rfl⟩ := hrel
                                    obtain ⟨x1, x2, x3, x4⟩ := HK.out
                                    obtain ⟨v, hv⟩ : ∃ v : Int, v = r + (j : Int) := ⟨_, rfl⟩
                                    have HV2 := Lib.hid hv
                                    have y1 : IntKind.i64.wrap (v - r) = (j : Int) := by rw [IntKind.wrap_i64]; omega
                                    have y2 : IntKind.i64.wrap ((j : Int) + 1) = (j : Int) + 1 := by rw [IntKind.wrap_i64]; omega
                                    have y3 : IntKind.i64.wrap (((j : Int) + 1) * (r - l + 1)) = ((j : Int) + 1) * (r - l + 1) := by
                                      have := KL.out j (by omega) (by omega)
                                      rw [IntKind.wrap_i64]; omega
                                    have y4 : IntKind.i64.wrap (v + 1) = v + 1 := by rw [IntKind.wrap_i64]; omega
                                    rw [← hv]
                                    by_cases hlt : (j : Int) + 1 ≤ q
                                    · have d2 : decide (((j : Int) + 1) * (r - l + 1) ≤ r * m) = true := decide_eq_true ((KK.out j).2 hlt)
                                      clear hv x1 x2 x3 x4
                                      go_wp2
                                      go_round
                                      case rel => exact ⟨j + 1, by omega, by have := HV2.out; have e : v + 1 = r + ((j + 1 : Nat) : Int) := by omega
                                                                             rw [e]⟩
                                      case measure => have := HV2.out; simp [intOf]; omega
                                    · have d2 : decide (((j : Int) + 1) * (r - l + 1) ≤ r * m) = false := decide_eq_false (fun h => hlt ((KK.out j).1 h))
                                      have HQ : Hid (bndV m r l = v) := Lib.hid (by rw [HV.out]; omega)
                                      clear hv x1 x2 x3 x4
                                      go_wp2
                                      go_meet
                                      exact ⟨by rw [HE.out], by rw [HQ.out], rfl⟩
                              · have hb : bo = true := by rw [HBo.out, decide_eq_false h0]; rfl
                                have HE : Hid (bndE m r l = 3) := Lib.hid (by unfold bndE; rw [if_neg h0])
                                have HV : Hid (bndV m r l = 0) := Lib.hid (by unfold bndV; rw [if_neg (by rw [HE.out]; decide)])
                                subst hb
                                clear h0
                                go_wp2
                                go_meet
                                exact ⟨by rw [HE.out], by rw [HV.out], rfl⟩
                          case rest =>
                            as_aux_lemma =>
                              obtain ⟨rfl, rfl, rfl⟩ := hcut
                              generalize bndE m r l = e3 at *
                              generalize bndV m r l = n3 at *
                              go_wp2_with fail
                              refine (begun_any _).mono ?_
                              rintro e w5 ⟨rfl, hb5⟩
                              have HS5 := Lib.hid (HS4.out.below hb5)
                              have HA5 := Lib.hid (HA4.out.below hb5)
                              have HB5 : Hid (Below w.heap.size w w5) := Lib.hid (HB4.out.trans (hb5.mono HB4.out.size))
                              clear hb5
                              go_wp2_with fail
                              refine (sameI HA5.out HS5.out).mono ?_
                              rintro e w6 ⟨rfl, hb6⟩
                              have HB6 : Hid (Below w.heap.size w w6) := Lib.hid (HB5.out.trans (hb6.mono HB5.out.size))
                              clear hb6
                              go_wp2
                              go_ret
                              exact ⟨rfl, HB6.out⟩

end Go.Proofs.Ytmhhiddnkdcflaa.Opt
