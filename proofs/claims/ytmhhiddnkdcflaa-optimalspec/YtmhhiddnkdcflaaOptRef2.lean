/-
  The reference: BestGone.
-/
import Derived.Test.YtmhhiddnkdcflaaOptRef
import Derived.Test.YtmhhiddnkdcflaaKeysRef
namespace Go.Proofs.Ytmhhiddnkdcflaa.Opt
open Go.RowKit
open Bst
open Two
open Lru (isRm isK)
set_option linter.unusedVariables false
set_option maxRecDepth 100000

theorem bestI_step {l S : List Int} {i j : Nat} : bestI (l.drop i) S (j + 1) = if ((again l i (gi S (bestI (l.drop i) S j)) : Int) < (again l i (gi S (j + 1)) : Int) ∨ ((again l i (gi S (j + 1)) : Int) = (again l i (gi S (bestI (l.drop i) S j)) : Int) ∧ gi S (j + 1) < gi S (bestI (l.drop i) S j))) then j + 1 else bestI (l.drop i) S j := by
  show (if Later _ _ _ then _ else _) = _
  by_cases h : Later (l.drop i) (gi S (j + 1)) (gi S (bestI (l.drop i) S j))
  · rw [if_pos h, if_pos (by have := later_again.1 h; omega)]
  · rw [if_neg h, if_neg (fun k => h (later_again.2 (by omega)))]

/-- What the round of BestGone keeps. -/
def GR (n0 : Nat) (w wr : World) (vi vg : Value) (S G : List Int) : Prop := OwnI wr n0 vi S ∧ OwnI wr n0 vg G ∧ Apart vi vg ∧ Below n0 w wr ∧ n0 ≤ wr.heap.size

set_option maxHeartbeats 16000000 in
theorem bestGone_any (A : Option Addr) (c : Nat) (L : List Int) (r : Int) (w : World) (hI : Ints w A c L) (hl200 : L.length ≤ 200) (hr : isRm r) :
    Calls Try.prog 11 #[.slice A L.length c, .int .i64 r] w fun e w' => ∃ B d, e = .returned (.tuple #[.slice B (gsI r.toNat L L.length).length d, .int .i64 (mI r.toNat L L.length : Int)]) ∧ Ints w' B d (gsI r.toNat L L.length) ∧ Below w.heap.size w w' := by
  have HI := Lib.hid hI
  obtain ⟨n, hn⟩ : ∃ n, L.length = n := ⟨_, rfl⟩
  have HN := Lib.hid hn
  obtain ⟨rn, hrn⟩ : ∃ rn, rn = r.toNat := ⟨_, rfl⟩
  have HRr : Hid ((rn : Int) = r ∧ 1 ≤ rn ∧ rn ≤ 40) := Lib.hid (by have := hr.1; have := hr.2; omega)
  rw [hn] at hl200 ⊢
  rw [← hrn]
  clear hI hn hrn hr
  obtain ⟨n0, hn0⟩ : ∃ n0, n0 = w.heap.size := ⟨_, rfl⟩
  have HN0 := Lib.hid hn0
  rw [← hn0]
  clear hn0
  go_enter Try.func11, Try.ntmps11
  go_wp2
  go_loopw [6, 7, 8, 9] (fun s6 s7 s8 s9 wr => ∃ (k : Nat), k ≤ n ∧ s9 = .int .i64 (k : Int) ∧ s8 = .int .i64 (mI rn L k : Int) ∧ GR n0 w wr s6 s7 (stI rn L k) (gsI rn L k)) (fun _ _ _ i _ => n - (intOf i).toNat)
  case atStart => exact ⟨0, by omega, rfl, rfl, own_none _ _, own_none _ _, fun g e => (by cases e), Below.refl _ _, by rw [HN0.out]; exact Nat.le_refl _⟩
  case round =>
    obtain ⟨k, hk, rfl, rfl, ho, hg, hap, hb, hs⟩ := hrel
    have HJ : Hid (∀ W, Below n0 w W → Ints W A c L) := Lib.hid (fun W hW => HI.out.below (by rw [← HN0.out]; exact hW))
    by_cases hlt : k < n
    · have hin : (k : Int) < (n : Int) := by omega
      have hiB : (0 : Int) ≤ (k : Int) := by omega
      have hkL : k < L.length := by rw [HN.out]; exact hlt
      have HKL := Lib.hid hkL
      obtain ⟨b, o, rfl, ht⟩ := (HJ.out wr hb).2.2.2 (by omega)
      have HBL : Hid (b < n0) := Lib.hid (by
        obtain ⟨b', o', e, ht'⟩ := HI.out.2.2.2 (by omega)
        cases e
        rw [HN0.out]; exact ht'.1)
      have e1 := ht.2 k hkL
      have hml : mI rn L k ≤ 200 := Nat.le_trans (mI_le rn L k) (by omega)
      have HGl : Hid ((gsI rn L k).length = k) := Lib.hid (gsI_len rn L k)
      have HSl : Hid ((stI rn L k).length ≤ rn) := Lib.hid (stI_len rn L k)
      have HST : Hid (stI rn L (k + 1) = stepI rn (stI rn L k) (gi L k) (L.drop k)) := Lib.hid rfl
      have HGS : Hid (gsI rn L (k + 1) = gsI rn L k ++ [outI rn (stI rn L k) (gi L k) (L.drop k)]) := Lib.hid rfl
      have HMS : Hid (mI rn L (k + 1) = mI rn L k + (if gi L k ∈ stI rn L k then 0 else 1)) := Lib.hid rfl
      have HCm := Lib.hid (fun (y : Int) (W : World) (hW : Ints W (some ⟨b, o, none⟩) c L) => comes_any (some ⟨b, o, none⟩) c L k y W hW (Nat.le_of_lt HKL.out))
      have HBI := Lib.hid (fun j => bestI_step (l := L) (S := stI rn L k) (i := k) (j := j))
      rw [HN.out] at HCm
      have HO := Lib.hid ho
      have HG := Lib.hid hg
      have HAp := Lib.hid hap
      have HB := Lib.hid hb
      have HS := Lib.hid hs
      clear ht ho hg hap hb hs hkL
      have hwm : IntKind.i64.wrap ((mI rn L k : Int) + 1) = (mI rn L k : Int) + 1 := by rw [IntKind.wrap_i64]; omega
      generalize mI rn L k = mm at *
      generalize stI rn L k = S at *
      generalize gsI rn L k = G at *
      obtain ⟨x, hx⟩ : ∃ x, x = gi L k := ⟨_, rfl⟩
      have HX : Hid (gi L k = x) := Lib.hid hx.symm
      rw [← hx] at e1 HST HGS HMS
      clear hx
      obtain ⟨Ai, ci, rfl, hIi⟩ := ints_of_own HO.out
      obtain ⟨Ag, cg, rfl, -⟩ := ints_of_own HG.out
      have HLl : Hid (S.length ≤ 1000 ∧ G.length ≤ 1000) := Lib.hid (by have h1 := HSl.out; have h2 := HRr.out.2.2; have h3 := HGl.out; omega)
      by_cases hm : x ∈ S
      · have HHas := Lib.hid (Kr.hasInt_b Ai ci S x true wr hIi (decide_eq_true hm))
        have HE : Hid (stepI rn S x (L.drop k) = S ∧ outI rn S x (L.drop k) = -1) := Lib.hid (by unfold stepI outI; rw [if_pos hm, if_pos hm]; exact ⟨rfl, rfl⟩)
        rw [if_pos hm] at HMS
        clear hm hIi
        generalize hSn : S.length = sn at *
        generalize hGn : G.length = gn at *
        have HGn := Lib.hid hGn
        clear hSn hGn
        go_wp2_with fail
        refine HHas.out.mono ?_
        rintro e w7 ⟨rfl, rfl⟩
        go_wp2_with (first
          | (at_builtin; refine wpList_append_lies1 rfl _ _ rfl n0 _ G rfl HG.out (-1) _ rfl (by rw [HGn.out]; exact HLl.out.2) HS.out ?_)
          | go_in)
        intro g cap w2 h3 h4 h5
        have HG2 : Hid (OwnI w2 n0 (.slice (some ⟨g, 0, none⟩) (G.length + 1) cap) (gsI rn L (k + 1))) := Lib.hid (by rw [HGS.out, HE.out.2]; exact h3)
        have HO2 : Hid (OwnI w2 n0 (.slice Ai sn ci) (stI rn L (k + 1))) := Lib.hid (by rw [HST.out, HE.out.1]; exact own_grown (own_al HO.out _) h4 HAp.out)
        have HA2 := Lib.hid (Apart.symm (apart_step (w' := w2) (n := G.length + 1) (c := cap) HAp.out.symm HO.out h5))
        have HB2 := Lib.hid ((bel_al HB.out HS.out _).grown h4 (Nat.le_trans HS.out (by simp)) (fun q hq => (HG.out.lt q hq).1))
        have HS2 : Hid (n0 ≤ w2.heap.size) := Lib.hid (Nat.le_trans HS.out (Nat.le_trans (by simp) h4.size))
        clear h3 h4 h5 e1
        go_wp2
        go_roundw
        case rel => exact ⟨k + 1, by omega, by go_num, by rw [HMS.out]; rfl, HO2.out, HG2.out, HA2.out, HB2.out, HS2.out⟩
        case measure => simp [intOf]; omega
      · have HHas := Lib.hid (Kr.hasInt_b Ai ci S x false wr hIi (decide_eq_false hm))
        rw [if_neg hm] at HMS
        by_cases hf : S.length < rn
        · have HE : Hid (stepI rn S x (L.drop k) = S ++ [x] ∧ outI rn S x (L.drop k) = -1) := Lib.hid (by unfold stepI outI; simp only [if_neg hm, if_pos hf, and_self])
          have d1 : decide ((S.length : Int) < r) = true := by have := HRr.out.1; simp; omega
          clear hm hIi hf
          generalize hSn : S.length = sn at *
          generalize hGn : G.length = gn at *
          have HGn := Lib.hid hGn
          have HSn := Lib.hid hSn
          clear hSn hGn
          go_wp2_with fail
          refine HHas.out.mono ?_
          rintro e w7 ⟨rfl, rfl⟩
          go_wp2_with (first
            | (at_builtin; refine wpList_append_lies1 rfl _ _ rfl n0 _ S rfl HO.out x _ rfl (by rw [HSn.out]; exact HLl.out.1) HS.out ?_)
            | go_in)
          intro gi1 cap1 w2 h3 h4 h5
          have HO2 := Lib.hid h3
          have HG2 : Hid (OwnI w2 n0 (.slice Ag gn cg) G) := Lib.hid (own_grown (own_al HG.out _) h4 HAp.out.symm)
          have HA2 := Lib.hid (apart_step (w' := w2) (n := S.length + 1) (c := cap1) HAp.out HG.out h5)
          have HB2 := Lib.hid ((bel_al HB.out HS.out _).grown h4 (Nat.le_trans HS.out (by simp)) (fun q hq => (HO.out.lt q hq).1))
          have HS2 : Hid (n0 ≤ w2.heap.size) := Lib.hid (Nat.le_trans HS.out (Nat.le_trans (by simp) h4.size))
          clear h3 h4 h5 e1
          go_wp2_with (first
            | (at_builtin; refine wpList_append_lies1 rfl _ _ rfl n0 _ G rfl HG2.out (-1) _ rfl (by rw [HGn.out]; exact HLl.out.2) HS2.out ?_)
            | go_in)
          intro g cap w3 h3 h4 h5
          have HG3 : Hid (OwnI w3 n0 (.slice (some ⟨g, 0, none⟩) (G.length + 1) cap) (gsI rn L (k + 1))) := Lib.hid (by rw [HGS.out, HE.out.2]; exact h3)
          have HO3 : Hid (OwnI w3 n0 (.slice (some ⟨gi1, 0, none⟩) (S.length + 1) cap1) (stI rn L (k + 1))) := Lib.hid (by rw [HST.out, HE.out.1]; exact own_grown (own_al HO2.out _) h4 HA2.out)
          have HA3 := Lib.hid (Apart.symm (apart_step (w' := w3) (n := G.length + 1) (c := cap) HA2.out.symm HO2.out h5))
          have HB3 := Lib.hid ((bel_al HB2.out HS2.out _).grown h4 (Nat.le_trans HS2.out (by simp)) (fun q hq => (HG2.out.lt q hq).1))
          have HS3 : Hid (n0 ≤ w3.heap.size) := Lib.hid (Nat.le_trans HS2.out (Nat.le_trans (by simp) h4.size))
          clear h3 h4 h5
          go_wp2
          go_roundw
          case rel => exact ⟨k + 1, by omega, by go_num, by rw [HMS.out]; go_num, HO3.out, HG3.out, HA3.out, HB3.out, HS3.out⟩
          case measure => simp [intOf]; omega
        · obtain ⟨m, hm1⟩ : ∃ m, S.length = m + 1 := ⟨S.length - 1, by have := HRr.out.2.1; omega⟩
          have HE : Hid (stepI rn S x (L.drop k) = S.set (bestI (L.drop k) S m) x ∧ outI rn S x (L.drop k) = gi S (bestI (L.drop k) S m)) := Lib.hid (by
            unfold stepI outI
            rw [show S.length - 1 = m by omega]
            simp only [if_neg hm, if_neg hf, and_self])
          have d1 : decide ((S.length : Int) < r) = false := by have := HRr.out.1; simp; omega
          have hm40 : m < 40 := by have h1 := HSl.out; have h2 := HRr.out.2.2; omega
          have HM1 := Lib.hid hm1
          obtain ⟨gi0, ci', e, hgb, hgs⟩ := own_form HO.out (by omega)
          cases e
          have HGB := Lib.hid hgb
          have HGW := Lib.hid hgs
          rw [hm1] at HO HHas d1 HAp ⊢
          generalize hGn : G.length = gn at *
          have HGn := Lib.hid hGn
          have HII : Hid (∀ W, Below wr.heap.size wr W → ∀ j, j < m + 1 → W.cell? ⟨gi0, j, none⟩ = some (.int .i64 (gi S j))) := Lib.hid (fun W hW j hj => (own_cells (own_bel HO.out hW) HM1.out.symm (by rw [HM1.out]; exact hj)).1)
          clear hm hIi hf hm1 hGn hgb hgs
          generalize hmn : m + 1 = mn at *
          have HMn := Lib.hid hmn
          go_wp2_with fail
          refine HHas.out.mono ?_
          rintro e w7 ⟨rfl, rfl⟩
          go_wp2
          clear e1
          generalize w7 = w5 at *
          go_loopw [10, 11] (fun s10 s11 wq => ∃ j : Nat, j ≤ m ∧ s11 = .int .i64 ((j + 1 : Nat) : Int) ∧ s10 = .int .i64 (bestI (L.drop k) S j : Int) ∧ Hid (Below w5.heap.size w5 wq)) (fun _ s11 _ => m + 1 - (intOf s11).toNat)
          case atStart => exact ⟨0, by omega, rfl, rfl, Lib.hid (Below.refl _ _)⟩
          case round =>
            obtain ⟨j, hj, rfl, rfl, HBq⟩ := hrel
            have hbl := bestI_le (L.drop k) S j
            have HBJ := Lib.hid (HBI.out j)
            obtain ⟨a, ha⟩ : ∃ a, a = bestI (L.drop k) S j := ⟨_, rfl⟩
            have HAe : Hid (bestI (L.drop k) S j = a) := Lib.hid ha.symm
            rw [← ha] at hbl HBJ ⊢
            clear ha
            have HA0 := Lib.hid hbl
            by_cases hjm : j < m
            · have hjn : ((j + 1 : Nat) : Int) < (mn : Int) := by omega
              have hjB : (0 : Int) ≤ ((j + 1 : Nat) : Int) := by omega
              have han : (a : Int) < (mn : Int) := by omega
              have haB : (0 : Int) ≤ (a : Int) := by omega
              have g1 := HII.out wr HBq.out (j + 1) (by omega)
              have g2 := HII.out wr HBq.out a (by omega)
              have HIq : Hid (Ints wr (some ⟨b, o, none⟩) c L) := Lib.hid (HJ.out wr (HB.out.trans (HBq.out.mono HS.out)))
              have HC1 := Lib.hid (HCm.out (gi S (j + 1)))
              have HC2 := Lib.hid (HCm.out (gi S a))
              generalize gi S (j + 1) = y1 at *
              generalize gi S a = y2 at *
              clear HBI
              generalize (again L k y1 : Int) = p1 at *
              generalize (again L k y2 : Int) = p2 at *
              by_cases c1 : p2 < p1
              · have t1 : decide (p2 < p1) = true := by simpa using c1
                have HV : Hid (bestI (L.drop k) S (j + 1) = j + 1) := Lib.hid (by rw [HBJ.out]; exact if_pos (.inl c1))
                clear HBJ
                go_wp2_with fail
                go_quiet (first | (go_at_call 27; (with_reducible refine Calls.quiet_of_same (HC1.out _ ?_)); exact dnI HIq.out _) | (go_at_call 27; (with_reducible refine Calls.quiet_of_same (HC2.out _ ?_)); exact dnI HIq.out _))
                have HBn : Hid (Below w5.heap.size w5 (wr.drewN nq)) := Lib.hid (bel_drewN HBq.out nq)
                have f1 : (wr.drewN nq).cell? ⟨gi0, j + 1, none⟩ = some (.int .i64 y1) := g1
                have f2 : (wr.drewN nq).cell? ⟨gi0, a, none⟩ = some (.int .i64 y2) := g2
                clear g1 g2
                generalize wr.drewN nq = w6 at *
                go_wp2_with fail
                go_quiet (fail)
                have HBo := Lib.hid (bel_drewN HBn.out nq)
                generalize w6.drewN nq = w8 at *
                clear f1 f2
                go_wp2
                go_roundw
                case rel => exact ⟨j + 1, by omega, by go_num, by first | (rw [HV.out]; done) | (rw [HV.out]; go_num), HBo⟩
                case measure => simp [intOf]; omega
              · have t1 : decide (p2 < p1) = false := by simpa using c1
                by_cases c2 : p1 = p2
                · have t2 : (p1 == p2) = true := by simpa using c2
                  by_cases c3 : y1 < y2
                  · have t3 : decide (y1 < y2) = true := by simpa using c3
                    have HV : Hid (bestI (L.drop k) S (j + 1) = j + 1) := Lib.hid (by rw [HBJ.out]; exact if_pos (.inr ⟨c2, c3⟩))
                    clear HBJ
                    go_wp2_with fail
                    go_quiet (first | (go_at_call 27; (with_reducible refine Calls.quiet_of_same (HC1.out _ ?_)); exact dnI HIq.out _) | (go_at_call 27; (with_reducible refine Calls.quiet_of_same (HC2.out _ ?_)); exact dnI HIq.out _))
                    have HBn : Hid (Below w5.heap.size w5 (wr.drewN nq)) := Lib.hid (bel_drewN HBq.out nq)
                    have f1 : (wr.drewN nq).cell? ⟨gi0, j + 1, none⟩ = some (.int .i64 y1) := g1
                    have f2 : (wr.drewN nq).cell? ⟨gi0, a, none⟩ = some (.int .i64 y2) := g2
                    clear g1 g2
                    generalize wr.drewN nq = w6 at *
                    go_wp2_with fail
                    go_quiet (fail)
                    have HBo := Lib.hid (bel_drewN HBn.out nq)
                    generalize w6.drewN nq = w8 at *
                    clear f1 f2
                    go_wp2
                    go_roundw
                    case rel => exact ⟨j + 1, by omega, by go_num, by first | (rw [HV.out]; done) | (rw [HV.out]; go_num), HBo⟩
                    case measure => simp [intOf]; omega
                  · have t3 : decide (y1 < y2) = false := by simpa using c3
                    have HV : Hid (bestI (L.drop k) S (j + 1) = a) := Lib.hid (by rw [HBJ.out]; exact if_neg (fun h => h.elim c1 (fun h => c3 h.2)))
                    clear HBJ
                    go_wp2_with fail
                    go_quiet (first | (go_at_call 27; (with_reducible refine Calls.quiet_of_same (HC1.out _ ?_)); exact dnI HIq.out _) | (go_at_call 27; (with_reducible refine Calls.quiet_of_same (HC2.out _ ?_)); exact dnI HIq.out _))
                    have HBn : Hid (Below w5.heap.size w5 (wr.drewN nq)) := Lib.hid (bel_drewN HBq.out nq)
                    have f1 : (wr.drewN nq).cell? ⟨gi0, j + 1, none⟩ = some (.int .i64 y1) := g1
                    have f2 : (wr.drewN nq).cell? ⟨gi0, a, none⟩ = some (.int .i64 y2) := g2
                    clear g1 g2
                    generalize wr.drewN nq = w6 at *
                    go_wp2_with fail
                    go_quiet (fail)
                    have HBo := Lib.hid (bel_drewN HBn.out nq)
                    generalize w6.drewN nq = w8 at *
                    clear f1 f2
                    go_wp2
                    go_roundw
                    case rel => exact ⟨j + 1, by omega, by go_num, by first | (rw [HV.out]; done) | (rw [HV.out]; go_num), HBo⟩
                    case measure => simp [intOf]; omega
                · have t2 : (p1 == p2) = false := by simpa using c2
                  have HV : Hid (bestI (L.drop k) S (j + 1) = a) := Lib.hid (by rw [HBJ.out]; exact if_neg (fun h => h.elim c1 (fun h => c2 h.1)))
                  clear HBJ
                  go_wp2_with fail
                  go_quiet (first | (go_at_call 27; (with_reducible refine Calls.quiet_of_same (HC1.out _ ?_)); exact dnI HIq.out _) | (go_at_call 27; (with_reducible refine Calls.quiet_of_same (HC2.out _ ?_)); exact dnI HIq.out _))
                  have HBn : Hid (Below w5.heap.size w5 (wr.drewN nq)) := Lib.hid (bel_drewN HBq.out nq)
                  have f1 : (wr.drewN nq).cell? ⟨gi0, j + 1, none⟩ = some (.int .i64 y1) := g1
                  have f2 : (wr.drewN nq).cell? ⟨gi0, a, none⟩ = some (.int .i64 y2) := g2
                  clear g1 g2
                  generalize wr.drewN nq = w6 at *
                  go_wp2_with fail
                  go_quiet (fail)
                  have HBo := Lib.hid (bel_drewN HBn.out nq)
                  generalize w6.drewN nq = w8 at *
                  clear f1 f2
                  go_wp2
                  go_roundw
                  case rel => exact ⟨j + 1, by omega, by go_num, by first | (rw [HV.out]; done) | (rw [HV.out]; go_num), HBo⟩
                  case measure => simp [intOf]; omega
            · obtain rfl : j = m := by omega
              have jd : decide (((j + 1 : Nat) : Int) < (mn : Int)) = false := by simp; omega
              have han : (a : Int) < (mn : Int) := by omega
              have haB : (0 : Int) ≤ (a : Int) := by omega
              have hamn : a < mn := by omega
              have g2 := HII.out wr HBq.out a hamn
              have HGq := Lib.hid (own_bel HG.out HBq.out)
              have HOq := Lib.hid (own_bel HO.out HBq.out)
              have HBQ : Hid (Below n0 w wr) := Lib.hid (HB.out.trans (HBq.out.mono HS.out))
              have HSQ : Hid (n0 ≤ wr.heap.size) := Lib.hid (Nat.le_trans HS.out HBq.out.size)
              generalize hy : gi S a = y at *
              have HY := Lib.hid hy
              clear hy HII HBq HBI HBJ HG HO
              go_wp2_with (first
                | (at_builtin; refine wpList_append_lies1 rfl _ _ rfl n0 _ G rfl HGq.out y _ rfl (by rw [HGn.out]; exact HLl.out.2) HSQ.out ?_)
                | go_in)
              intro g cap w3 h3 h4 h5
              have HG3 : Hid (OwnI w3 n0 (.slice (some ⟨g, 0, none⟩) (G.length + 1) cap) (gsI rn L (k + 1))) := Lib.hid (by rw [HGS.out, HE.out.2, HAe.out, HY.out]; exact h3)
              have HO3 : Hid (OwnI w3 n0 (.slice (some ⟨gi0, 0, none⟩) mn ci) S) := Lib.hid (own_grown (own_al HOq.out _) h4 HAp.out)
              have HA3 := Lib.hid (Apart.symm (apart_step (w' := w3) (n := G.length + 1) (c := cap) HAp.out.symm HOq.out h5))
              have HB3 := Lib.hid ((bel_al HBQ.out HSQ.out _).grown h4 (Nat.le_trans HSQ.out (by simp)) (fun q hq => (HGq.out.lt q hq).1))
              have HS3 : Hid (n0 ≤ w3.heap.size) := Lib.hid (Nat.le_trans HSQ.out (Nat.le_trans (by simp) h4.size))
              clear h3 h4 h5 g2
              have e1 : w3.cell? ⟨b, o + k, none⟩ = some (.int .i64 x) := by
                obtain ⟨b', o', e, ht⟩ := (HJ.out w3 HB3.out).2.2.2 (by have := HKL.out; omega)
                cases e
                rw [ht.2 k HKL.out, HX.out]
              obtain ⟨g2, f2⟩ := own_cells HO3.out HM1.out.symm (by rw [HM1.out]; exact hamn)
              have HO4 : Hid (OwnI (w3.setCell ⟨gi0, a, none⟩ (.int .i64 x)) n0 (.slice (some ⟨gi0, 0, none⟩) mn ci) (stI rn L (k + 1))) := Lib.hid (by rw [HST.out, HE.out.1, HAe.out]; exact own_put HO3.out HM1.out.symm a x)
              have HG4 : Hid (OwnI (w3.setCell ⟨gi0, a, none⟩ (.int .i64 x)) n0 (.slice (some ⟨g, 0, none⟩) (G.length + 1) cap) (gsI rn L (k + 1))) := Lib.hid (own_set HG3.out (fun e => HA3.out gi0 rfl e) a _)
              have HB4 : Hid (Below n0 w (w3.setCell ⟨gi0, a, none⟩ (.int .i64 x))) := Lib.hid (bel_set HB3.out (a := ⟨gi0, a, none⟩) HGB.out _)
              have HS4 : Hid (n0 ≤ (w3.setCell ⟨gi0, a, none⟩ (.int .i64 x)).heap.size) := Lib.hid (by simpa [World.setCell] using HS3.out)
              go_wp2
              generalize w3.setCell ⟨gi0, a, none⟩ (.int .i64 x) = w4 at *
              go_roundw
              case rel => exact ⟨k + 1, by omega, by go_num, by rw [HMS.out]; go_num, HO4.out, HG4.out, HA3.out, HB4.out, HS4.out⟩
              case measure => simp [intOf]; omega
    · obtain rfl : k = n := by omega
      obtain ⟨Ag, cg, rfl, hIg⟩ := ints_of_own hg
      have HIg := Lib.hid hIg
      have HGl : Hid ((gsI rn L k).length = k) := Lib.hid (gsI_len rn L k)
      have HBr := Lib.hid hb
      rw [HGl.out]
      clear ho hg hap hb hs hIg
      go_wp2
      refine bodyPost_ret (v := .tuple #[.slice Ag k cg, .int .i64 (mI rn L k : Int)]) (by simp [results, Try.results11, go_sem]) rfl ?_
      exact ⟨Ag, cg, by rw [HGl.out], HIg.out, HBr.out⟩

end Go.Proofs.Ytmhhiddnkdcflaa.Opt
