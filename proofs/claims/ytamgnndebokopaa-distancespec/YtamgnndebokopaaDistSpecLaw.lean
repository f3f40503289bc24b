/-
  The walk of the law that compares with the reference.
-/
import Derived.Test.YtamgnndebokopaaDistBegun
import Derived.Test.YtamgnndebokopaaDistRef
namespace Go.Proofs.Ytamgnndebokopaa.Dst
open Go.RowKit
open Lru (isRm isK traceE trace_zero take_one)
open Two
set_option linter.unusedVariables false
set_option maxRecDepth 100000

theorem same_t (A B : Option Addr) (c d n m : Nat) (L M : List Int) (w : World) (hn : L.length = n) (hm : M.length = m) (h : L = M) (ha : Ints w A c L) (hb : Ints w B d M) :
    Calls Try.prog 15 #[.slice A n c, .slice B m d] w fun e w' => e = .returned (.bool true) ∧ Below w.heap.size w w' := by
  subst hn hm
  have := sameInts_any A B c d L M w ha hb
  rwa [decide_eq_true h] at this
/-- The smallest room so far, as the law seeks it. -/
def nd (l : List Int) (q : Int) (k : Nat) : Nat := if okP q then need (enough l q) k else 0
theorem nd_stay {l : List Int} {q : Int} {k : Nat} (h : nd l q k ≠ 0) : nd l q (k + 1) = nd l q k := by
  unfold nd at *
  by_cases hq : okP q
  · rw [if_pos hq] at h
    rw [if_pos hq, if_pos hq]; exact need_stay h 1
  · rw [if_neg hq] at h; exact absurd rfl h
theorem nd_bad {l : List Int} {q : Int} {k : Nat} (h : ¬ okP q) : nd l q k = 0 := by unfold nd; rw [if_neg h]
theorem nd_yes {l : List Int} {q : Int} {k : Nat} (hq : okP q) (h0 : nd l q k = 0) (h : enough l q k = true) : nd l q (k + 1) = k + 1 := by
  unfold nd at *
  rw [if_pos hq] at h0
  rw [if_pos hq]; exact need_found h0 h (Nat.lt_succ_self k)
theorem nd_no {l : List Int} {q : Int} {k : Nat} (hq : okP q) (h0 : nd l q k = 0) (h : enough l q k = false) : nd l q (k + 1) = 0 := by
  unfold nd at *
  rw [if_pos hq] at h0
  rw [if_pos hq]; exact need_next h0 h
theorem nd_rm {l : List Int} {q : Int} (h : traceE l = 0) : rmV l q = nd l q 40 := by
  unfold rmV nd
  by_cases hq : okP q
  · rw [if_pos ⟨h, hq⟩, if_pos hq]
  · rw [if_neg (fun k => hq k.2), if_neg hq]
theorem nd_le (l : List Int) (q : Int) (k : Nat) : nd l q k ≤ k := by
  unfold nd
  split
  · exact need_le _ k
  · omega

set_option maxHeartbeats 32000000 in
theorem distanceSpec_walk (A : Option Addr) (c : Nat) (xs : List Int) (q : Int) (w : World) (hI : Ints w A c xs) :
    Calls Try.prog 3 #[.slice A xs.length c, .int .i64 q] w fun e w' => e = .returned (.bool true) ∧ Below w.heap.size w w' := by
  have HI := Lib.hid hI
  have HDs := Lib.hid (fun (W : World) (h : Ints W A c xs) => (Distances_any A c xs W h).mono (fun _ _ k => k.re))
  have HH := Lib.hid (fun (W : World) (h : Ints W A c xs) => (Hits_any A c xs W h).mono (fun _ _ k => k.re))
  have HM := Lib.hid (fun (W : World) (h : Ints W A c xs) => (Misses_any A c xs W h).mono (fun _ _ k => k.re))
  have HR := Lib.hid (fun (W : World) (h : Ints W A c xs) => Room_any A c xs q W h)
  have HT := Lib.hid (fun (W : World) (h : Ints W A c xs) => Kr.traceCheck_any A c xs W h)
  unfold RE at HDs HH HM
  clear hI
  by_cases h0 : traceE xs = 0
  · have HD : Hid (dsL xs = dI xs ∧ hsL xs = Dst.hI xs ∧ msL xs = Dst.mI xs) := Lib.hid ⟨by unfold dsL; rw [if_pos h0], by unfold hsL; rw [if_pos h0], by unfold msL; rw [if_pos h0]⟩
    have hl200 := (trace_zero.1 h0).1
    have HNd := Lib.hid (nd_rm (q := q) h0)
    have HRe : Hid (rmE xs q = if okP q then (if nd xs q 40 = 0 then 5 else 0) else 3) := Lib.hid (by
      unfold rmE nd
      rw [if_pos h0]
      by_cases hq : okP q
      · rw [if_pos hq, if_pos hq, if_pos hq]
      · rw [if_neg hq, if_neg hq])
    have HA := Lib.hid (fun (k : Nat) (W : World) (hk : k < xs.length) (h : Ints W A c xs) => deepAt_any A c xs k W h hk (by omega))
    have HB' := Lib.hid (fun (k : Nat) (W : World) (h : Ints W A c xs) => deepHits_any A c xs (k + 1) W h (by omega))
    rw [h0, HD.out.1, dI_len] at HDs
    rw [h0, HD.out.2.1, hI_len] at HH
    rw [h0, HD.out.2.2, mI_len] at HM
    rw [h0] at HT
    rw [HNd.out] at HR
    obtain ⟨n, hn⟩ : ∃ n, xs.length = n := ⟨_, rfl⟩
    have HN := Lib.hid hn
    simp only [hn] at HDs HH HM HR HT HA HB' hl200 ⊢
    clear h0 hn HD HNd
    go_enter Try.func3, Try.ntmps3
    go_wp2_with fail
    refine (HDs.out w HI.out).mono ?_
    rintro e w1 ⟨A1, c1, rfl, hI1, hb1⟩
    have HB1 := Lib.hid hb1
    have HJ1 := Lib.hid hI1
    clear hb1 hI1
    go_wp2_with fail
    refine (HH.out w1 (HI.out.below HB1.out)).mono ?_
    rintro e w2 ⟨A2, c2, rfl, hI2, hb2⟩
    have HB2 : Hid (Below w.heap.size w w2) := Lib.hid (HB1.out.trans (hb2.mono HB1.out.size))
    have HJ2 := Lib.hid (HJ1.out.below hb2)
    have HK2 := Lib.hid hI2
    clear hb2 hI2
    go_wp2_with fail
    refine (HM.out w2 (HI.out.below HB2.out)).mono ?_
    rintro e w3 ⟨A3, c3, rfl, hI3, hb3⟩
    have HB3 : Hid (Below w.heap.size w w3) := Lib.hid (HB2.out.trans (hb3.mono HB2.out.size))
    have HJ3 := Lib.hid (HJ2.out.below hb3)
    have HK3 := Lib.hid (HK2.out.below hb3)
    have HL3 := Lib.hid hI3
    clear hb3 hI3
    go_wp2_with fail
    refine (HR.out w3 (HI.out.below HB3.out)).mono ?_
    rintro e w4 ⟨rfl, hb4⟩
    have HB4 : Hid (Below w.heap.size w w4) := Lib.hid (HB3.out.trans (hb4.mono HB3.out.size))
    have HJ4 := Lib.hid (HJ3.out.below hb4)
    have HK4 := Lib.hid (HK3.out.below hb4)
    have HL4 := Lib.hid (HL3.out.below hb4)
    clear hb4
    go_wp2_with fail
    refine (HT.out w4 (HI.out.below HB4.out)).mono ?_
    rintro e w5 ⟨rfl, rfl⟩
    have HX4 := Lib.hid (fun (W : World) (h : Below w4.heap.size w4 W) => (HI.out.below HB4.out).below h)
    clear HJ1 HJ2 HJ3 HK2 HK3 HL3 HB1 HB2 HB3 HDs HH HM HR HT
    go_wp2
    go_loopw [16, 19] (fun s16 s19 wr => ∃ k : Nat, k ≤ n ∧ s19 = .int .i64 (k : Int) ∧ OwnI wr w4.heap.size s16 ((dI xs).take k) ∧ Below w4.heap.size w4 wr) (fun _ i _ => n - (intOf i).toNat)
    case atStart => exact ⟨0, by omega, rfl, own_none _ _, Below.refl _ _⟩
    case round =>
      obtain ⟨k, hk, rfl, ho, hb⟩ := hrel
      by_cases hlt : k < n
      · have hin : (k : Int) < (n : Int) := by omega
        have hkL : k < xs.length := by rw [HN.out]; exact hlt
        have HA2 := Lib.hid (HA.out k wr hlt (HX4.out wr hb))
        have HTk : Hid ((dI xs).take (k + 1) = (dI xs).take k ++ [(dst xs k : Int)]) := Lib.hid (by rw [take_one (by rw [dI_len]; exact hkL), dI_get hkL])
        have HGl : Hid (((dI xs).take k).length ≤ 1000) := Lib.hid (by rw [List.length_take]; omega)
        have HO := Lib.hid ho
        have HB := Lib.hid hb
        obtain ⟨Ag, cg, rfl, -⟩ := ints_of_own ho
        clear ho hb hkL
        generalize (dI xs).take k = G at *
        generalize dst xs k = z at *
        generalize hGn : G.length = gl at *
        have HGn := Lib.hid hGn
        clear hGn
        go_wp2_with fail
        refine HA2.out.mono ?_
        rintro e w7 ⟨rfl, hb7⟩
        have HO7 := Lib.hid (own_bel HO.out hb7)
        have HB7 : Hid (Below w4.heap.size w4 w7) := Lib.hid (HB.out.trans (hb7.mono HB.out.size))
        clear hb7
        go_wp2_with (first
          | (at_builtin; refine wpList_append_lies1 rfl _ _ rfl w4.heap.size _ G rfl HO7.out z _ rfl (by rw [HGn.out]; exact HGl.out) HB7.out.size ?_)
          | go_in)
        intro g cap w8 h3 h4 h5
        have HB8 := Lib.hid ((bel_al HB7.out HB7.out.size _).grown h4 (Nat.le_trans HB7.out.size (by simp)) (fun q hq => (HO7.out.lt q hq).1))
        have HO8 : Hid (OwnI w8 w4.heap.size (.slice (some ⟨g, 0, none⟩) (G.length + 1) cap) ((dI xs).take (k + 1))) := Lib.hid (by rw [HTk.out]; exact h3)
        clear h3 h4 h5
        go_wp2
        go_roundw
        case rel => exact ⟨k + 1, by omega, by go_num, HO8.out, HB8.out⟩
        case measure => simp [intOf]; omega
      · obtain rfl : k = n := by omega
        have HTe : Hid ((dI xs).take k = dI xs) := Lib.hid (List.take_of_length_le (by rw [dI_len, HN.out]; exact Nat.le_refl _))
        rw [HTe.out] at ho
        obtain ⟨A5, c5, rfl, hI5⟩ := ints_of_own ho
        rw [dI_len, HN.out]
        have HJ5 := Lib.hid (HJ4.out.below hb)
        have HK5 := Lib.hid (HK4.out.below hb)
        have HL5 := Lib.hid (HL4.out.below hb)
        have HI5 := Lib.hid hI5
        have HX5 := Lib.hid (fun (W : World) (h : Below wr.heap.size wr W) => HX4.out W (hb.trans (h.mono hb.size)))
        have HB5 : Hid (Below w.heap.size w wr) := Lib.hid (HB4.out.trans (hb.mono HB4.out.size))
        clear ho hb hI5 hlt HJ4 HK4 HL4 HX4 HB4 HA
        generalize wr = w5 at *
        go_wp2
        go_loopw [15, 17, 18, 20] (fun s15 s17 s18 s20 wr => ∃ j : Nat, j ≤ 40 ∧ s20 = .int .i64 ((j : Int) + 1) ∧ s15 = .int .i64 (nd xs q j : Int) ∧ OwnI wr w5.heap.size s17 ((Dst.hI xs).take j) ∧ OwnI wr w5.heap.size s18 ((Dst.mI xs).take j) ∧ Apart s17 s18 ∧ Below w5.heap.size w5 wr) (fun _ _ _ i _ => 41 - (intOf i).toNat)
        case atStart => exact ⟨0, by omega, rfl, by unfold nd; split <;> rfl, own_none _ _, own_none _ _, fun g e => (by cases e), Below.refl _ _⟩
        case round =>
          obtain ⟨j, hj, rfl, rfl, ho1, ho2, hap, hb⟩ := hrel
          by_cases hlt : j < 40
          · have hin : (j : Int) + 1 ≤ 40 := by omega
            have HA2 := Lib.hid (HB'.out j wr (HX5.out wr hb))
            rw [show ((j + 1 : Nat) : Int) = (j : Int) + 1 from rfl, ← hI_get hlt] at HA2
            have HT1 : Hid ((Dst.hI xs).take (j + 1) = (Dst.hI xs).take j ++ [gi (Dst.hI xs) j]) := Lib.hid (take_one (by rw [hI_len]; exact hlt))
            have HT2 : Hid ((Dst.mI xs).take (j + 1) = (Dst.mI xs).take j ++ [(k : Int) - gi (Dst.hI xs) j]) := Lib.hid (by rw [take_one (by rw [mI_len]; exact hlt), mI_get hlt, HN.out])
            have HGl : Hid (((Dst.hI xs).take j).length ≤ 1000 ∧ ((Dst.mI xs).take j).length ≤ 1000) := Lib.hid (by rw [List.length_take, List.length_take]; omega)
            have hle := hI_le (l := xs) hlt
            rw [HN.out] at hle
            have HEn : Hid (okP q → IntKind.i64.wrap (q * (k : Int)) = q * (k : Int) ∧ enough xs q j = decide (q * (k : Int) ≤ 100 * gi (Dst.hI xs) j)) := Lib.hid (fun hq => by
              have k1 : 0 ≤ q * (k : Int) := Int.mul_nonneg hq.1 (by omega)
              have k2 : q * (k : Int) ≤ 20000 := by
                have := Int.mul_le_mul_of_nonneg_right (c := (k : Int)) hq.2 (by omega)
                omega
              refine ⟨by rw [IntKind.wrap_i64]; omega, ?_⟩
              unfold enough
              rw [HN.out])
            have HS1 := Lib.hid (fun (h : nd xs q j ≠ 0) => nd_stay h)
            have HS2 := Lib.hid (fun (h : ¬ okP q) => And.intro (nd_bad (l := xs) (k := j) h) (nd_bad (l := xs) (k := j + 1) h))
            have HS3 := Lib.hid (fun (h : okP q) (h0 : nd xs q j = 0) (h1 : enough xs q j = true) => nd_yes h h0 h1)
            have HS4 := Lib.hid (fun (h : okP q) (h0 : nd xs q j = 0) (h1 : enough xs q j = false) => nd_no h h0 h1)
            have wr1 : IntKind.i64.wrap (gi (Dst.hI xs) j * 100) = gi (Dst.hI xs) j * 100 := by rw [IntKind.wrap_i64]; omega
            have wr2 : IntKind.i64.wrap ((k : Int) - gi (Dst.hI xs) j) = (k : Int) - gi (Dst.hI xs) j := by rw [IntKind.wrap_i64]; omega
            obtain ⟨W0, hW0⟩ : ∃ W0, IntKind.i64.wrap (q * (k : Int)) = W0 := ⟨_, rfl⟩
            rw [hW0] at HEn
            have HO1 := Lib.hid ho1
            have HO2 := Lib.hid ho2
            have HAp := Lib.hid hap
            have HB := Lib.hid hb
            obtain ⟨Ag, cg, rfl, -⟩ := ints_of_own ho1
            obtain ⟨Ah, ch, rfl, -⟩ := ints_of_own ho2
            clear ho1 ho2 hap hb hle
            generalize (Dst.hI xs).take j = G at *
            generalize (Dst.mI xs).take j = F at *
            generalize gi (Dst.hI xs) j = x at *
            generalize nd xs q j = v at *
            generalize enough xs q j = eb at *
            generalize hGn : G.length = gl at *
            generalize hFn : F.length = fl at *
            have HGn := Lib.hid hGn
            have HFn := Lib.hid hFn
            clear hGn hFn
            go_wp2_with fail
            refine HA2.out.mono ?_
            rintro e w7 ⟨rfl, hb7⟩
            have HO7 := Lib.hid (own_bel HO1.out hb7)
            have HP7 := Lib.hid (own_bel HO2.out hb7)
            have HB7 : Hid (Below w5.heap.size w5 w7) := Lib.hid (HB.out.trans (hb7.mono HB.out.size))
            clear hb7 HO1 HO2 HB
            go_wp2_with (first
              | (at_builtin; refine wpList_append_lies1 rfl _ _ rfl w5.heap.size _ G rfl HO7.out x _ rfl (by rw [HGn.out]; exact HGl.out.1) HB7.out.size ?_)
              | go_in)
            intro g cap w8 h3 h4 h5
            have HB8 := Lib.hid ((bel_al HB7.out HB7.out.size _).grown h4 (Nat.le_trans HB7.out.size (by simp)) (fun q hq => (HO7.out.lt q hq).1))
            have HO8 : Hid (OwnI w8 w5.heap.size (.slice (some ⟨g, 0, none⟩) (G.length + 1) cap) ((Dst.hI xs).take (j + 1))) := Lib.hid (by rw [HT1.out]; exact h3)
            have HP8 : Hid (OwnI w8 w5.heap.size (.slice Ah fl ch) F) := Lib.hid (own_grown (own_al HP7.out _) h4 HAp.out.symm)
            have HA8 := Lib.hid (apart_step (w' := w8) (n := G.length + 1) (c := cap) HAp.out HP7.out h5)
            clear h3 h4 h5 HO7 HP7 HB7
            go_wp2_with (first
              | (at_builtin; refine wpList_append_lies1 rfl _ _ rfl w5.heap.size _ F rfl HP8.out ((k : Int) - x) _ rfl (by rw [HFn.out]; exact HGl.out.2) HB8.out.size ?_)
              | go_in)
            intro g' cap' w9 h3 h4 h5
            have HB9 := Lib.hid ((bel_al HB8.out HB8.out.size _).grown h4 (Nat.le_trans HB8.out.size (by simp)) (fun q hq => (HP8.out.lt q hq).1))
            have HP9 : Hid (OwnI w9 w5.heap.size (.slice (some ⟨g', 0, none⟩) (F.length + 1) cap') ((Dst.mI xs).take (j + 1))) := Lib.hid (by rw [HT2.out]; exact h3)
            have HO9 : Hid (OwnI w9 w5.heap.size (.slice (some ⟨g, 0, none⟩) (G.length + 1) cap) ((Dst.hI xs).take (j + 1))) := Lib.hid (own_grown (own_al HO8.out _) h4 HA8.out)
            have HA9 := Lib.hid (Apart.symm (apart_step (w' := w9) (n := F.length + 1) (c := cap') HA8.out.symm HO8.out h5))
            clear h3 h4 h5 HO8 HP8 HB8 HA8 HAp
            have hw3 : IntKind.i64.wrap ((j : Int) + 1 + 1) = (j : Int) + 1 + 1 := by rw [IntKind.wrap_i64]; omega
            by_cases z0 : v = 0
            · have d0 : ((v : Int) == 0) = true := by simp [z0]
              by_cases z1 : W0 ≤ x * 100
              · have d1 : decide (W0 ≤ x * 100) = true := by simpa using z1
                by_cases z2 : 0 ≤ q
                · have d2 : decide (0 ≤ q) = true := by simpa using z2
                  by_cases z3 : q ≤ 100
                  · have d3 : decide (q ≤ 100) = true := by simpa using z3
                    have HE : Hid (nd xs q (j + 1) = j + 1) := Lib.hid (HS3.out ⟨z2, z3⟩ z0 (by obtain ⟨a, b⟩ := HEn.out ⟨z2, z3⟩; rw [b, ← a]; simp; omega))
                    clear z0 z1 z2 z3
                    go_wp2
                    go_roundw
                    case rel => exact ⟨j + 1, by omega, rfl, by rw [HE.out]; rfl, HO9.out, HP9.out, HA9.out, HB9.out⟩
                    case measure => simp [intOf]; omega
                  · have d3 : decide (q ≤ 100) = false := by simpa using z3
                    have HE : Hid (nd xs q (j + 1) = v) := Lib.hid (by obtain ⟨a, b⟩ := HS2.out (fun h => z3 h.2); rw [b, a])
                    clear z0 z1 z2 z3
                    go_wp2
                    go_roundw
                    case rel => exact ⟨j + 1, by omega, rfl, by rw [HE.out], HO9.out, HP9.out, HA9.out, HB9.out⟩
                    case measure => simp [intOf]; omega
                · have d2 : decide (0 ≤ q) = false := by simpa using z2
                  have HE : Hid (nd xs q (j + 1) = v) := Lib.hid (by obtain ⟨a, b⟩ := HS2.out (fun h => z2 h.1); rw [b, a])
                  clear z0 z1 z2
                  go_wp2
                  go_roundw
                  case rel => exact ⟨j + 1, by omega, rfl, by rw [HE.out], HO9.out, HP9.out, HA9.out, HB9.out⟩
                  case measure => simp [intOf]; omega
              · have d1 : decide (W0 ≤ x * 100) = false := by simpa using z1
                have HE : Hid (nd xs q (j + 1) = v) := Lib.hid (by
                  by_cases hq : okP q
                  · obtain ⟨a, b⟩ := HEn.out hq
                    rw [HS4.out hq z0 (by rw [b, ← a]; simp; omega), z0]
                  · obtain ⟨a, b⟩ := HS2.out hq; rw [b, a])
                clear z0 z1
                go_wp2
                go_roundw
                case rel => exact ⟨j + 1, by omega, rfl, by rw [HE.out], HO9.out, HP9.out, HA9.out, HB9.out⟩
                case measure => simp [intOf]; omega
            · have d0 : ((v : Int) == 0) = false := by simp; omega
              have HE : Hid (nd xs q (j + 1) = v) := Lib.hid (HS1.out z0)
              clear z0
              go_wp2
              go_roundw
              case rel => exact ⟨j + 1, by omega, rfl, by rw [HE.out], HO9.out, HP9.out, HA9.out, HB9.out⟩
              case measure => simp [intOf]; omega
          · obtain rfl : j = 40 := by omega
            rw [List.take_of_length_le (by rw [hI_len]; exact Nat.le_refl _)] at ho1
            rw [List.take_of_length_le (by rw [mI_len]; exact Nat.le_refl _)] at ho2
            obtain ⟨A6, c6, rfl, hI6⟩ := ints_of_own ho1
            obtain ⟨A7, c7, rfl, hI7⟩ := ints_of_own ho2
            rw [hI_len, mI_len]
            have HJ6 := Lib.hid (HJ5.out.below hb)
            have HK6 := Lib.hid (HK5.out.below hb)
            have HL6 := Lib.hid (HL5.out.below hb)
            have HI6 := Lib.hid (HI5.out.below hb)
            have HM6 := Lib.hid hI6
            have HN6 := Lib.hid hI7
            have HB6 : Hid (Below w.heap.size w wr) := Lib.hid (HB5.out.trans (hb.mono HB5.out.size))
            have HLd : Hid ((dI xs).length = k ∧ (Dst.hI xs).length = 40 ∧ (Dst.mI xs).length = 40) := Lib.hid ⟨by rw [dI_len, HN.out], hI_len xs, mI_len xs⟩
            clear ho1 ho2 hap hb hI6 hI7 hlt HJ5 HK5 HL5 HI5 HX5 HB5 HB'
            generalize wr = w6 at *
            have HE := Lib.hid HRe.out
            generalize nd xs q 40 = v at *
            generalize rmE xs q = re at *
            have dv : ((v : Int) == (v : Int)) = true := by simp
            by_cases z2 : q < 0
            · have d2 : decide (q < 0) = true := by simpa using z2
              rw [if_neg (fun h : okP q => by have := h.1; omega)] at HE
              obtain rfl := HE.out
              clear z2
              go_wp2_with fail
              refine (begun_any _).mono ?_
              rintro e w7 ⟨rfl, hb7⟩
              have HB7 : Hid (Below w.heap.size w w7) := Lib.hid (HB6.out.trans (hb7.mono HB6.out.size))
              have HC7 := Lib.hid hb7
              clear hb7
              go_wp2_with fail
              refine (same_t A1 A5 c1 c5 k k (dI xs) (dI xs) w7 HLd.out.1 HLd.out.1 rfl (HJ6.out.below HC7.out) (HI6.out.below HC7.out)).mono ?_
              rintro e w8 ⟨rfl, hb8⟩
              have HB8 : Hid (Below w.heap.size w w8) := Lib.hid (HB7.out.trans (hb8.mono HB7.out.size))
              have HC8 := Lib.hid (HC7.out.trans (hb8.mono HC7.out.size))
              clear hb8
              go_wp2_with fail
              refine (same_t A2 A6 c2 c6 40 40 (Dst.hI xs) (Dst.hI xs) w8 HLd.out.2.1 HLd.out.2.1 rfl (HK6.out.below HC8.out) (HM6.out.below HC8.out)).mono ?_
              rintro e w9 ⟨rfl, hb9⟩
              have HB9 : Hid (Below w.heap.size w w9) := Lib.hid (HB8.out.trans (hb9.mono HB8.out.size))
              have HC9 := Lib.hid (HC8.out.trans (hb9.mono HC8.out.size))
              clear hb9
              go_wp2_with fail
              refine (same_t A3 A7 c3 c7 40 40 (Dst.mI xs) (Dst.mI xs) w9 HLd.out.2.2 HLd.out.2.2 rfl (HL6.out.below HC9.out) (HN6.out.below HC9.out)).mono ?_
              rintro e w10 ⟨rfl, hb10⟩
              have HB10 : Hid (Below w.heap.size w w10) := Lib.hid (HB9.out.trans (hb10.mono HB9.out.size))
              clear hb10
              go_wp2
              go_ret
              exact ⟨rfl, HB10.out⟩
            · have d2 : decide (q < 0) = false := by simpa using z2
              by_cases z3 : 100 < q
              · have d3 : decide (100 < q) = true := by simpa using z3
                rw [if_neg (fun h : okP q => by have := h.2; omega)] at HE
                obtain rfl := HE.out
                clear z2 z3
                go_wp2_with fail
                refine (begun_any _).mono ?_
                rintro e w7 ⟨rfl, hb7⟩
                have HB7 : Hid (Below w.heap.size w w7) := Lib.hid (HB6.out.trans (hb7.mono HB6.out.size))
                have HC7 := Lib.hid hb7
                clear hb7
                go_wp2_with fail
                refine (same_t A1 A5 c1 c5 k k (dI xs) (dI xs) w7 HLd.out.1 HLd.out.1 rfl (HJ6.out.below HC7.out) (HI6.out.below HC7.out)).mono ?_
                rintro e w8 ⟨rfl, hb8⟩
                have HB8 : Hid (Below w.heap.size w w8) := Lib.hid (HB7.out.trans (hb8.mono HB7.out.size))
                have HC8 := Lib.hid (HC7.out.trans (hb8.mono HC7.out.size))
                clear hb8
                go_wp2_with fail
                refine (same_t A2 A6 c2 c6 40 40 (Dst.hI xs) (Dst.hI xs) w8 HLd.out.2.1 HLd.out.2.1 rfl (HK6.out.below HC8.out) (HM6.out.below HC8.out)).mono ?_
                rintro e w9 ⟨rfl, hb9⟩
                have HB9 : Hid (Below w.heap.size w w9) := Lib.hid (HB8.out.trans (hb9.mono HB8.out.size))
                have HC9 := Lib.hid (HC8.out.trans (hb9.mono HC8.out.size))
                clear hb9
                go_wp2_with fail
                refine (same_t A3 A7 c3 c7 40 40 (Dst.mI xs) (Dst.mI xs) w9 HLd.out.2.2 HLd.out.2.2 rfl (HL6.out.below HC9.out) (HN6.out.below HC9.out)).mono ?_
                rintro e w10 ⟨rfl, hb10⟩
                have HB10 : Hid (Below w.heap.size w w10) := Lib.hid (HB9.out.trans (hb10.mono HB9.out.size))
                clear hb10
                go_wp2
                go_ret
                exact ⟨rfl, HB10.out⟩
              · have d3 : decide (100 < q) = false := by simpa using z3
                rw [if_pos (show okP q from ⟨by omega, by omega⟩)] at HE
                by_cases z4 : v = 0
                · have d4 : ((v : Int) == 0) = true := by simp [z4]
                  rw [if_pos z4] at HE
                  obtain rfl := HE.out
                  clear z2 z3 z4
                  go_wp2_with fail
                  refine (begun_any _).mono ?_
                  rintro e w7 ⟨rfl, hb7⟩
                  have HB7 : Hid (Below w.heap.size w w7) := Lib.hid (HB6.out.trans (hb7.mono HB6.out.size))
                  have HC7 := Lib.hid hb7
                  clear hb7
                  go_wp2_with fail
                  refine (same_t A1 A5 c1 c5 k k (dI xs) (dI xs) w7 HLd.out.1 HLd.out.1 rfl (HJ6.out.below HC7.out) (HI6.out.below HC7.out)).mono ?_
                  rintro e w8 ⟨rfl, hb8⟩
                  have HB8 : Hid (Below w.heap.size w w8) := Lib.hid (HB7.out.trans (hb8.mono HB7.out.size))
                  have HC8 := Lib.hid (HC7.out.trans (hb8.mono HC7.out.size))
                  clear hb8
                  go_wp2_with fail
                  refine (same_t A2 A6 c2 c6 40 40 (Dst.hI xs) (Dst.hI xs) w8 HLd.out.2.1 HLd.out.2.1 rfl (HK6.out.below HC8.out) (HM6.out.below HC8.out)).mono ?_
                  rintro e w9 ⟨rfl, hb9⟩
                  have HB9 : Hid (Below w.heap.size w w9) := Lib.hid (HB8.out.trans (hb9.mono HB8.out.size))
                  have HC9 := Lib.hid (HC8.out.trans (hb9.mono HC8.out.size))
                  clear hb9
                  go_wp2_with fail
                  refine (same_t A3 A7 c3 c7 40 40 (Dst.mI xs) (Dst.mI xs) w9 HLd.out.2.2 HLd.out.2.2 rfl (HL6.out.below HC9.out) (HN6.out.below HC9.out)).mono ?_
                  rintro e w10 ⟨rfl, hb10⟩
                  have HB10 : Hid (Below w.heap.size w w10) := Lib.hid (HB9.out.trans (hb10.mono HB9.out.size))
                  clear hb10
                  go_wp2
                  go_ret
                  exact ⟨rfl, HB10.out⟩
                · have d4 : ((v : Int) == 0) = false := by simp; omega
                  rw [if_neg z4] at HE
                  obtain rfl := HE.out
                  clear z2 z3 z4
                  go_wp2_with fail
                  refine (begun_any _).mono ?_
                  rintro e w7 ⟨rfl, hb7⟩
                  have HB7 : Hid (Below w.heap.size w w7) := Lib.hid (HB6.out.trans (hb7.mono HB6.out.size))
                  have HC7 := Lib.hid hb7
                  clear hb7
                  go_wp2_with fail
                  refine (same_t A1 A5 c1 c5 k k (dI xs) (dI xs) w7 HLd.out.1 HLd.out.1 rfl (HJ6.out.below HC7.out) (HI6.out.below HC7.out)).mono ?_
                  rintro e w8 ⟨rfl, hb8⟩
                  have HB8 : Hid (Below w.heap.size w w8) := Lib.hid (HB7.out.trans (hb8.mono HB7.out.size))
                  have HC8 := Lib.hid (HC7.out.trans (hb8.mono HC7.out.size))
                  clear hb8
                  go_wp2_with fail
                  refine (same_t A2 A6 c2 c6 40 40 (Dst.hI xs) (Dst.hI xs) w8 HLd.out.2.1 HLd.out.2.1 rfl (HK6.out.below HC8.out) (HM6.out.below HC8.out)).mono ?_
                  rintro e w9 ⟨rfl, hb9⟩
                  have HB9 : Hid (Below w.heap.size w w9) := Lib.hid (HB8.out.trans (hb9.mono HB8.out.size))
                  have HC9 := Lib.hid (HC8.out.trans (hb9.mono HC8.out.size))
                  clear hb9
                  go_wp2_with fail
                  refine (same_t A3 A7 c3 c7 40 40 (Dst.mI xs) (Dst.mI xs) w9 HLd.out.2.2 HLd.out.2.2 rfl (HL6.out.below HC9.out) (HN6.out.below HC9.out)).mono ?_
                  rintro e w10 ⟨rfl, hb10⟩
                  have HB10 : Hid (Below w.heap.size w w10) := Lib.hid (HB9.out.trans (hb10.mono HB9.out.size))
                  clear hb10
                  go_wp2
                  go_ret
                  exact ⟨rfl, HB10.out⟩
  · have HD : Hid (dsL xs = [] ∧ hsL xs = [] ∧ msL xs = [] ∧ rmV xs q = 0 ∧ rmE xs q = traceE xs) := Lib.hid ⟨by unfold dsL; rw [if_neg h0], by unfold hsL; rw [if_neg h0], by unfold msL; rw [if_neg h0], by unfold rmV; rw [if_neg (fun h => h0 h.1)], by unfold rmE; rw [if_neg h0]⟩
    have d0 : (traceE xs == 0) = false := by simpa using h0
    have d1 : (traceE xs == traceE xs) = true := by simp
    rw [HD.out.1] at HDs
    rw [HD.out.2.1] at HH
    rw [HD.out.2.2.1] at HM
    rw [HD.out.2.2.2.1, HD.out.2.2.2.2] at HR
    clear h0 HD
    generalize traceE xs = t at *
    generalize xs.length = n at *
    go_enter Try.func3, Try.ntmps3
    go_wp2_with fail
    refine (HDs.out w HI.out).mono ?_
    rintro e w1 ⟨A1, c1, rfl, hI1, hb1⟩
    have HB1 := Lib.hid hb1
    have HJ1 := Lib.hid hI1
    clear hb1 hI1
    go_wp2_with fail
    refine (HH.out w1 (HI.out.below HB1.out)).mono ?_
    rintro e w2 ⟨A2, c2, rfl, hI2, hb2⟩
    have HB2 : Hid (Below w.heap.size w w2) := Lib.hid (HB1.out.trans (hb2.mono HB1.out.size))
    have HJ2 := Lib.hid (HJ1.out.below hb2)
    have HK2 := Lib.hid hI2
    clear hb2 hI2
    go_wp2_with fail
    refine (HM.out w2 (HI.out.below HB2.out)).mono ?_
    rintro e w3 ⟨A3, c3, rfl, hI3, hb3⟩
    have HB3 : Hid (Below w.heap.size w w3) := Lib.hid (HB2.out.trans (hb3.mono HB2.out.size))
    have HJ3 := Lib.hid (HJ2.out.below hb3)
    have HK3 := Lib.hid (HK2.out.below hb3)
    have HL3 := Lib.hid hI3
    clear hb3 hI3
    go_wp2_with fail
    refine (HR.out w3 (HI.out.below HB3.out)).mono ?_
    rintro e w4 ⟨rfl, hb4⟩
    have HB4 : Hid (Below w.heap.size w w4) := Lib.hid (HB3.out.trans (hb4.mono HB3.out.size))
    have HJ4 := Lib.hid (HJ3.out.below hb4)
    have HK4 := Lib.hid (HK3.out.below hb4)
    have HL4 := Lib.hid (HL3.out.below hb4)
    clear hb4
    go_wp2_with fail
    refine (HT.out w4 (HI.out.below HB4.out)).mono ?_
    rintro e w5 ⟨rfl, rfl⟩
    go_wp2_with fail
    refine (begun_any _).mono ?_
    rintro e w7 ⟨rfl, hb7⟩
    have HB7 : Hid (Below w.heap.size w w7) := Lib.hid (HB4.out.trans (hb7.mono HB4.out.size))
    have HC7 := Lib.hid hb7
    clear hb7
    go_wp2_with fail
    refine (same_t A1 none c1 0 0 0 [] [] w7 rfl rfl rfl (HJ4.out.below HC7.out) (Ints.none_ _)).mono ?_
    rintro e w8 ⟨rfl, hb8⟩
    have HB8 : Hid (Below w.heap.size w w8) := Lib.hid (HB7.out.trans (hb8.mono HB7.out.size))
    have HC8 := Lib.hid (HC7.out.trans (hb8.mono HC7.out.size))
    clear hb8
    go_wp2_with fail
    refine (same_t A2 none c2 0 0 0 [] [] w8 rfl rfl rfl (HK4.out.below HC8.out) (Ints.none_ _)).mono ?_
    rintro e w9 ⟨rfl, hb9⟩
    have HB9 : Hid (Below w.heap.size w w9) := Lib.hid (HB8.out.trans (hb9.mono HB8.out.size))
    have HC9 := Lib.hid (HC8.out.trans (hb9.mono HC8.out.size))
    clear hb9
    go_wp2_with fail
    refine (same_t A3 none c3 0 0 0 [] [] w9 rfl rfl rfl (HL4.out.below HC9.out) (Ints.none_ _)).mono ?_
    rintro e w10 ⟨rfl, hb10⟩
    have HB10 : Hid (Below w.heap.size w w10) := Lib.hid (HB9.out.trans (hb10.mono HB9.out.size))
    clear hb10
    go_wp2
    go_ret
    exact ⟨rfl, HB10.out⟩

end Go.Proofs.Ytamgnndebokopaa.Dst
