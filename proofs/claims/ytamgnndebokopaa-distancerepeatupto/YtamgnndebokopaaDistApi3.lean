/-
  Package distance: Misses, Room.
-/
import Derived.Test.YtamgnndebokopaaDistApi2
namespace Go.Proofs.Ytamgnndebokopaa.Dst
open Go.RowKit
open Lru (isRm isK traceE trace_zero)
open Two
set_option linter.unusedVariables false
set_option maxRecDepth 100000

set_option maxHeartbeats 4000000 in
theorem Misses_any (A : Option Addr) (c : Nat) (L : List Int) (w : World) (hI : Ints w A c L) :
    Calls Try.prog 9 #[.slice A L.length c] w (REO (msL L) (traceE L) w) := by
  have HC := Lib.hid (Hits_any A c L w hI)
  unfold REO at HC
  clear hI
  by_cases h0 : traceE L = 0
  · have HL : Hid (msL L = Dst.mI L) := Lib.hid (by unfold msL; rw [if_pos h0])
    have HD : Hid (hsL L = Dst.hI L) := Lib.hid (by unfold hsL; rw [if_pos h0])
    have hl200 := (trace_zero.1 h0).1
    rw [h0] at HC ⊢
    rw [HL.out]
    rw [HD.out] at HC
    obtain ⟨n, hn⟩ : ∃ n, L.length = n := ⟨_, rfl⟩
    have HN := Lib.hid hn
    rw [hn] at HC hl200 ⊢
    clear h0 hn HL HD
    go_enter Try.func9, Try.ntmps9
    go_wp2_with fail
    refine HC.out.mono ?_
    rintro e w2 ⟨v2, rfl, ho2, hb2⟩
    obtain ⟨g, d, rfl, hg, -⟩ := own_form ho2 (by rw [hI_len]; omega)
    rw [hI_len] at ho2 ⊢
    rw [mK_zero] at ho2
    have HO2 := Lib.hid ho2
    have HB2 := Lib.hid hb2
    clear ho2 hb2 HC
    go_wp2
    obtain ⟨n0, hn0⟩ : ∃ n0, w.heap.size = n0 := ⟨_, rfl⟩
    have HN0 := Lib.hid hn0
    rw [hn0] at HO2 HB2 hg
    clear hn0
    go_loopw [18] (fun s18 wr => ∃ k : Nat, k ≤ 40 ∧ s18 = .int .i64 (k : Int) ∧ OwnI wr n0 (.slice (some ⟨g, 0, none⟩) 40 d) (mK L k) ∧ Below n0 w wr) (fun i _ => 40 - (intOf i).toNat)
    case atStart => exact ⟨0, by omega, rfl, HO2.out, HB2.out⟩
    case round =>
      obtain ⟨k, hk, rfl, ho, hb⟩ := hrel
      by_cases hlt : k < 40
      · have hin : (k : Int) < 40 := by omega
        have hiB : (0 : Int) ≤ (k : Int) := by omega
        obtain ⟨e1, f1⟩ := own_cells ho (by rw [mK_len]) (i := k) (by rw [mK_len]; exact hlt)
        rw [mK_get hlt] at e1
        have HM : Hid ((mK L k).set k ((n : Int) - gi (Dst.hI L) k) = mK L (k + 1)) := Lib.hid (by rw [← HN.out]; exact mK_set hlt)
        have hle := hI_le (l := L) hlt
        rw [HN.out] at hle
        have hw1 : IntKind.i64.wrap ((n : Int) - gi (Dst.hI L) k) = (n : Int) - gi (Dst.hI L) k := by rw [IntKind.wrap_i64]; omega
        have HO := Lib.hid ho
        have HB := Lib.hid hb
        have HM40 : Hid ((40 : Nat) = (mK L k).length) := Lib.hid (by rw [mK_len])
        clear ho hb hle
        generalize gi (Dst.hI L) k = x at *
        go_wp2
        have HO5 : Hid (OwnI (wr.setCell ⟨g, k, none⟩ (.int .i64 ((n : Int) - x))) n0 (.slice (some ⟨g, 0, none⟩) 40 d) (mK L (k + 1))) := Lib.hid (by rw [← HM.out]; exact own_put HO.out HM40.out k _)
        have HB5 : Hid (Below n0 w (wr.setCell ⟨g, k, none⟩ (.int .i64 ((n : Int) - x)))) := Lib.hid (bel_set HB.out (a := ⟨g, k, none⟩) hg _)
        generalize wr.setCell ⟨g, k, none⟩ (.int .i64 ((n : Int) - x)) = w5 at *
        go_roundw
        case rel => exact ⟨k + 1, by omega, by go_num, HO5.out, HB5.out⟩
        case measure => simp [intOf]; omega
      · obtain rfl : k = 40 := by omega
        rw [mK_all] at ho
        have HO := Lib.hid ho
        have HB := Lib.hid hb
        clear ho hb hlt
        go_wp2
        refine bodyPost_ret (v := .tuple #[.slice (some ⟨g, 0, none⟩) 40 d, .int .i64 0]) (by simp [results, Try.results9, go_sem]) rfl ?_
        exact ⟨_, rfl, by rw [HN0.out]; exact HO.out, by rw [HN0.out]; exact HB.out⟩
  · have HL : Hid (msL L = []) := Lib.hid (by unfold msL; rw [if_neg h0])
    have q : (traceE L != 0) = true := by simpa using h0
    rw [HL.out]
    clear h0 HL
    generalize traceE L = t at *
    generalize L.length = n at *
    go_enter Try.func9, Try.ntmps9
    go_wp2_with fail
    refine HC.out.mono ?_
    rintro e w2 ⟨v2, rfl, ho2, hb2⟩
    obtain ⟨A2, c2, rfl, -⟩ := ints_of_own ho2
    have HB2 := Lib.hid hb2
    clear hb2 ho2
    go_wp2
    refine bodyPost_ret (v := .tuple #[.slice none 0 0, .int .i64 t]) (by simp [results, Try.results9, go_sem]) rfl ?_
    exact REO.bad HB2.out

set_option maxHeartbeats 4000000 in
theorem Room_any (A : Option Addr) (c : Nat) (L : List Int) (q : Int) (w : World) (hI : Ints w A c L) :
    Calls Try.prog 10 #[.slice A L.length c, .int .i64 q] w fun e w' => e = .returned (.tuple #[.int .i64 (rmV L q : Int), .int .i64 (rmE L q)]) ∧ Below w.heap.size w w' := by
  have HC := Lib.hid (Hits_any A c L w hI)
  unfold REO at HC
  clear hI
  by_cases h0 : traceE L = 0
  · have HD : Hid (hsL L = Dst.hI L) := Lib.hid (by unfold hsL; rw [if_pos h0])
    have hl200 := (trace_zero.1 h0).1
    have HT := Lib.hid h0
    rw [h0] at HC
    rw [HD.out] at HC
    obtain ⟨n, hn⟩ : ∃ n, L.length = n := ⟨_, rfl⟩
    have HN := Lib.hid hn
    rw [hn] at HC hl200 ⊢
    clear h0 hn HD
    by_cases hq : okP q
    · have HV : Hid (rmV L q = need (enough L q) 40) := Lib.hid (by unfold rmV; rw [if_pos ⟨HT.out, hq⟩])
      have HE : Hid (rmE L q = if need (enough L q) 40 = 0 then 5 else 0) := Lib.hid (by unfold rmE; rw [if_pos HT.out, if_pos hq])
      have hq1 := hq.1
      have hq2 := hq.2
      have p1 : decide (q < 0) = false := by simp; omega
      have p2 : decide (100 < q) = false := by simp; omega
      have k1 : 0 ≤ q * (n : Int) := Int.mul_nonneg hq1 (by omega)
      have k2 : q * (n : Int) ≤ 20000 := by
        have a1 : q * (n : Int) ≤ 100 * (n : Int) := Int.mul_le_mul_of_nonneg_right hq2 (by omega)
        omega
      obtain ⟨pr, hpr⟩ : ∃ pr, q * (n : Int) = pr := ⟨_, rfl⟩
      have HPR := Lib.hid hpr
      have hw1 : IntKind.i64.wrap (q * (n : Int)) = pr := by rw [IntKind.wrap_i64]; omega
      rw [hpr] at k1 k2
      clear hq hq1 hq2 hpr
      go_enter Try.func10, Try.ntmps10
      go_wp2_with fail
      refine HC.out.mono ?_
      rintro e w2 ⟨v2, rfl, ho2, hb2⟩
      obtain ⟨B, d, rfl, hI2⟩ := ints_of_own ho2
      rw [hI_len]
      obtain ⟨b, o, rfl, ht⟩ := hI2.2.2.2 (by rw [hI_len]; omega)
      have HTt := Lib.hid ht.2
      have HB2 := Lib.hid hb2
      clear ho2 hb2 hI2 ht HC
      go_wp2
      go_loop [26] (fun s26 => ∃ k : Nat, k ≤ 40 ∧ s26 = .int .i64 (k : Int) ∧ Hid (need (enough L q) k = 0)) (fun i => 40 - (intOf i).toNat)
      case atStart => exact ⟨0, by omega, rfl, Lib.hid rfl⟩
      case round =>
        obtain ⟨k, hk, rfl, HK⟩ := hrel
        by_cases hlt : k < 40
        · have hin : (k : Int) < 40 := by omega
          have hiB : (0 : Int) ≤ (k : Int) := by omega
          have e1 := HTt.out k (by rw [hI_len]; exact hlt)
          have hle := hI_le (l := L) hlt
          rw [HN.out] at hle
          have hw2 : IntKind.i64.wrap (100 * gi (Dst.hI L) k) = 100 * gi (Dst.hI L) k := by rw [IntKind.wrap_i64]; omega
          have HEn : Hid (enough L q k = decide (pr ≤ 100 * gi (Dst.hI L) k)) := Lib.hid (by unfold enough; rw [HN.out, HPR.out])
          by_cases hh : pr ≤ 100 * gi (Dst.hI L) k
          · have p3 : decide (pr ≤ 100 * gi (Dst.hI L) k) = true := by simpa using hh
            have HF : Hid (need (enough L q) 40 = k + 1) := Lib.hid (need_found HK.out (by rw [HEn.out]; exact p3) hlt)
            have hw3 : IntKind.i64.wrap ((k : Int) + 1) = (k : Int) + 1 := by rw [IntKind.wrap_i64]; omega
            clear hh hle HEn
            generalize gi (Dst.hI L) k = x at *
            go_wp2
            refine bodyPost_ret (v := .tuple #[.int .i64 ((k : Int) + 1), .int .i64 0]) (by simp [results, Try.results10, go_sem]) rfl ?_
            exact ⟨by rw [HV.out, HE.out, HF.out, if_neg (by omega)]; rfl, HB2.out⟩
          · have p3 : decide (pr ≤ 100 * gi (Dst.hI L) k) = false := by simpa using hh
            have HF : Hid (need (enough L q) (k + 1) = 0) := Lib.hid (need_next HK.out (by rw [HEn.out]; exact p3))
            clear hh hle HEn
            generalize gi (Dst.hI L) k = x at *
            go_wp2
            go_round
            case rel => exact ⟨k + 1, by omega, by go_num, HF⟩
            case measure => simp [intOf]; omega
        · obtain rfl : k = 40 := by omega
          clear hlt
          go_wp2
          refine bodyPost_ret (v := .tuple #[.int .i64 0, .int .i64 5]) (by simp [results, Try.results10, go_sem]) rfl ?_
          exact ⟨by rw [HV.out, HE.out, HK.out, if_pos rfl]; rfl, HB2.out⟩
    · have HV : Hid (rmV L q = 0) := Lib.hid (by unfold rmV; rw [if_neg (fun h => hq h.2)])
      have HE : Hid (rmE L q = 3) := Lib.hid (by unfold rmE; rw [if_pos HT.out, if_neg hq])
      rw [HV.out, HE.out]
      by_cases h1 : q < 0
      · have p1 : decide (q < 0) = true := by simpa using h1
        clear hq h1
        go_enter Try.func10, Try.ntmps10
        go_wp2_with fail
        refine HC.out.mono ?_
        rintro e w2 ⟨v2, rfl, ho2, hb2⟩
        obtain ⟨B, d, rfl, -⟩ := ints_of_own ho2
        have HB2 := Lib.hid hb2
        clear ho2 hb2 HC
        go_wp2
        refine bodyPost_ret (v := .tuple #[.int .i64 0, .int .i64 3]) (by simp [results, Try.results10, go_sem]) rfl ?_
        exact ⟨rfl, HB2.out⟩
      · have p1 : decide (q < 0) = false := by simpa using h1
        have p2 : decide (100 < q) = true := by unfold okP at hq; simp; omega
        clear hq h1
        go_enter Try.func10, Try.ntmps10
        go_wp2_with fail
        refine HC.out.mono ?_
        rintro e w2 ⟨v2, rfl, ho2, hb2⟩
        obtain ⟨B, d, rfl, -⟩ := ints_of_own ho2
        have HB2 := Lib.hid hb2
        clear ho2 hb2 HC
        go_wp2
        refine bodyPost_ret (v := .tuple #[.int .i64 0, .int .i64 3]) (by simp [results, Try.results10, go_sem]) rfl ?_
        exact ⟨rfl, HB2.out⟩
  · have HV : Hid (rmV L q = 0) := Lib.hid (by unfold rmV; rw [if_neg (fun h => h0 h.1)])
    have HE : Hid (rmE L q = traceE L) := Lib.hid (by unfold rmE; rw [if_neg h0])
    have p : (traceE L != 0) = true := by simpa using h0
    rw [HV.out, HE.out]
    clear h0 HV HE
    generalize traceE L = t at *
    generalize L.length = n at *
    go_enter Try.func10, Try.ntmps10
    go_wp2_with fail
    refine HC.out.mono ?_
    rintro e w2 ⟨v2, rfl, ho2, hb2⟩
    obtain ⟨A2, c2, rfl, -⟩ := ints_of_own ho2
    have HB2 := Lib.hid hb2
    clear hb2 ho2
    go_wp2
    refine bodyPost_ret (v := .tuple #[.int .i64 0, .int .i64 t]) (by simp [results, Try.results10, go_sem]) rfl ?_
    exact ⟨rfl, HB2.out⟩

end Go.Proofs.Ytamgnndebokopaa.Dst
