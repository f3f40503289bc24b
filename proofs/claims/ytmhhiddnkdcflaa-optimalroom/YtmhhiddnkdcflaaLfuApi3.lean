/-
  Run, Age and Victim of package lfu.
-/
import Derived.Test.YtmhhiddnkdcflaaLfuApi2
namespace Go.Proofs.Ytmhhiddnkdcflaa.Lfu
open Go.RowKit
open Lru (isRm isK keysE keysE_zero traceE trace_zero)
set_option linter.unusedVariables false
set_option maxRecDepth 100000

theorem take_one {xs : List Int} {k : Nat} (hk : k < xs.length) : xs.take (k + 1) = xs.take k ++ [gi xs k] := by rw [List.take_add_one, List.getElem?_eq_getElem hk, gi_get hk]; rfl
set_option maxHeartbeats 8000000 in
theorem run_any (r : Int) (A : Option Addr) (c : Nat) (F : List Us) (B : Option Addr) (d : Nat) (xs : List Int) (w : World) (hF : Uss w A c F) (hJ : Ints w B d xs) :
    Calls Try.prog 17 #[kv r (.slice A F.length c), .slice B xs.length d] w (NR r F xs w) := by
  obtain ⟨hk0, hz0, hb0⟩ := box2 w r (.slice A F.length c)
  have HK0 := Lib.hid hk0
  have HZ0 := Lib.hid hz0
  have HB0 := Lib.hid hb0
  have HF0 := Lib.hid (hF.below hb0)
  have HJ := Lib.hid hJ
  clear hk0 hz0 hb0 hF hJ
  have HC := Lib.hid (check_any r A c F _ HF0.out)
  by_cases h0 : checkK r F = 0
  · have HG := Lib.hid (check_zero.1 h0)
    rw [h0] at HC
    by_cases h1 : traceE xs = 0
    · have HE : Hid (rnE r F xs = 0) := Lib.hid (by unfold rnE; rw [if_pos h0, h1])
      have HT := Lib.hid (trace_zero.1 h1)
      have HCt := Lib.hid (fun (W : World) (hW : Ints W B d xs) => Lru.checkTrace_any B d xs W hW)
      rw [h1] at HCt
      clear h0 h1
      obtain ⟨ln, hln⟩ : ∃ ln, xs.length = ln := ⟨_, rfl⟩
      have HLN := Lib.hid hln
      have hl200 : ln ≤ 200 := by rw [← hln]; exact HT.out.1
      rw [hln] at HCt ⊢
      clear hln
      obtain ⟨x1, x2, -, -⟩ := HK0.out.cells
      go_enter Try.func17, Try.ntmps17
      go_wp2_with fail
      refine HC.out.mono ?_
      rintro e w1 ⟨rfl, hb1⟩
      have HK1 := Lib.hid (HK0.out.below hb1)
      have HZ1 := Lib.hid (HZ0.out.below hb1)
      have HB1 : Hid (Below w.heap.size w w1) := Lib.hid (HB0.out.trans (hb1.mono HB0.out.size))
      have HF1 := Lib.hid (HF0.out.below hb1)
      have HJ1 := Lib.hid (HJ.out.below HB1.out)
      clear hb1 x1 x2
      go_wp2_with fail
      refine (HCt.out _ HJ1.out).mono ?_
      rintro e w2 ⟨rfl, rfl⟩
      have HCl := Lib.hid (sclone_any A c F w1 HF1.out (by have := HG.out.len40; omega))
      obtain ⟨x1, x2, -, -⟩ := HK1.out.cells
      go_wp2_with fail
      refine HCl.out.mono ?_
      rintro e w2 ⟨v2, rfl, ho2, hb2⟩
      have HO2 := Lib.hid ho2
      have HL2 : Hid (w.heap.size + 1 < w1.heap.size) := Lib.hid HZ1.out.lt
      have HB2 : Hid (Below w1.heap.size w1 w2) := Lib.hid hb2
      clear hb2 ho2 x1 x2
      go_wp2
      go_loopw [9, 10, 31] (fun a q i wr => ∃ (k : Nat) (v : Value), k ≤ ln ∧ i = .int .i64 (k : Int) ∧ q = .int .i64 (hitsU r F (xs.take k) : Int) ∧ a = v ∧ OwnU wr w1.heap.size v (runU r F (xs.take k)) ∧ Below w1.heap.size w1 wr) (fun _ _ i _ => ln - (intOf i).toNat)
      case atStart => exact ⟨0, _, by omega, rfl, rfl, rfl, HO2.out, HB2.out⟩
      case round =>
        obtain ⟨k, v, hk, rfl, rfl, hv, hor, hbr⟩ := hrel
        have hv2 := hv.symm
        clear hv
        subst hv2
        have HOr := Lib.hid hor
        have HBr := Lib.hid hbr
        have HZr := Lib.hid (HZ1.out.below hbr)
        have HKr := Lib.hid (HK1.out.below hbr)
        have HJr := Lib.hid (HJ1.out.below hbr)
        clear hor hbr
        have HGr : Hid (Good r (runU r F (xs.take k))) := Lib.hid (runU_good HG.out (fun x hx => HT.out.2 x (List.mem_of_mem_take hx)))
        have hhl : hitsU r F (xs.take k) ≤ 200 := by have := hitsU_le r F (xs.take k); rw [List.length_take] at this; omega
        by_cases hlt : k < ln
        · have hin : (k : Int) < (ln : Int) := by omega
          have hiB : (0 : Int) ≤ (k : Int) := by omega
          have hkx : k < xs.length := by rw [HLN.out]; exact hlt
          obtain ⟨b, o, rfl, ht⟩ := HJr.out.2.2.2 (by omega)
          have e1 := ht.2 k hkx
          clear ht
          have HT1 := Lib.hid (take_one hkx)
          have HR1 : Hid (runU r F (xs.take (k + 1)) = tch r (runU r F (xs.take k)) (gi xs k)) := Lib.hid (by rw [HT1.out, runU_snoc])
          have HH1 : Hid (hitsU r F (xs.take (k + 1)) = hitsU r F (xs.take k) + (if gi xs k ∈ keys (runU r F (xs.take k)) then 1 else 0)) := Lib.hid (by rw [HT1.out, hitsU_snoc])
          have HU := Lib.hid (acc_any w1.heap.size v (runU r F (xs.take k)) r (gi xs k) wr HOr.out HBr.out.size HGr.out)
          obtain ⟨x1, x2, -, -⟩ := HKr.out.cells
          clear hkx
          generalize gi xs k = x at *
          generalize runU r F (xs.take k) = M at *
          generalize hitsU r F (xs.take k) = hh at *
          unfold UR at HU
          by_cases hm : x ∈ keys M
          · rw [if_pos hm] at HH1
            have HD : Hid (decide (x ∈ keys M) = true) := Lib.hid (by simpa using hm)
            clear hm
            go_wp2_with fail
            refine HU.out.mono ?_
            rintro e w4 ⟨v4, rfl, ho4, hb4⟩
            rw [HD.out]
            have HO4 := Lib.hid ho4
            have HB4 := Lib.hid (HBr.out.trans hb4)
            clear ho4 hb4 e1 x1 x2
            go_wp2
            go_roundw
            case rel => exact ⟨k + 1, v4, by omega, by go_num, by rw [HH1.out]; go_num, rfl, by rw [HR1.out]; exact HO4.out, HB4.out⟩
            case measure => simp [intOf]; omega
          · rw [if_neg hm] at HH1
            have HD : Hid (decide (x ∈ keys M) = false) := Lib.hid (by simpa using hm)
            clear hm
            go_wp2_with fail
            refine HU.out.mono ?_
            rintro e w4 ⟨v4, rfl, ho4, hb4⟩
            rw [HD.out]
            have HO4 := Lib.hid ho4
            have HB4 := Lib.hid (HBr.out.trans hb4)
            clear ho4 hb4 e1 x1 x2
            go_wp2
            go_roundw
            case rel => exact ⟨k + 1, v4, by omega, by go_num, by rw [HH1.out]; rfl, rfl, by rw [HR1.out]; exact HO4.out, HB4.out⟩
            case measure => simp [intOf]; omega
        · obtain rfl : k = ln := by omega
          have HtL : Hid (xs.take k = xs) := Lib.hid (by rw [← HLN.out]; exact List.take_length)
          rw [HtL.out] at HOr hhl ⊢
          obtain ⟨A4, c4, rfl, hF4, hA4⟩ := uss_of_own HOr.out
          have HF4 := Lib.hid hF4
          have HA4 := Lib.hid hA4
          have HA8 : Hid (∀ a, A4 = some a → w.heap.size + 1 ≠ a.block) := Lib.hid (fun a ha => by have := HA4.out a ha; have := HL2.out; omega)
          have HA9 : Hid (FA w A4) := Lib.hid (fun a ha => by have := HA4.out a ha; have := HL2.out; omega)
          have HB4 : Hid (Below w.heap.size w wr) := Lib.hid (HB1.out.trans (HBr.out.mono HB1.out.size))
          clear hF4 hA4 HGr HOr hlt
          obtain ⟨n4, hn4⟩ : ∃ n4, n4 = (runU r F xs).length := ⟨_, rfl⟩
          rw [← hn4]
          have HN4 := Lib.hid hn4
          clear hn4
          obtain ⟨x1, x2, -, -⟩ := HKr.out.cells
          obtain ⟨z1, z2, u1, u2⟩ := HZr.out.cells
          go_wp2
          refine bodyPost_ret (v := .tuple #[kv r (.slice A4 n4 c4), .int .i64 (hitsU r F xs : Int), .int .i64 0]) (by simp [results, Try.results17, go_sem, z1, z2]) rfl ?_
          exact NR.good HE.out HN4.out (HF4.out.set2 HA8.out _ _) HA9.out (bel_set2 HB4.out (p := w.heap.size + 1) (by omega) _ _)
    · have HE : Hid (rnE r F xs = traceE xs) := Lib.hid (by unfold rnE; rw [if_pos h0])
      have H1 := Lib.hid h1
      have q : (traceE xs != 0) = true := by simpa using h1
      clear h0 h1
      obtain ⟨x1, x2, -, -⟩ := HK0.out.cells
      go_enter Try.func17, Try.ntmps17
      go_wp2_with fail
      refine HC.out.mono ?_
      rintro e w1 ⟨rfl, hb1⟩
      have HZ1 := Lib.hid (HZ0.out.below hb1)
      have HB1 : Hid (Below w.heap.size w w1) := Lib.hid (HB0.out.trans (hb1.mono HB0.out.size))
      clear hb1 x1 x2
      go_wp2_with fail
      refine (Lru.checkTrace_any B d xs w1 (HJ.out.below HB1.out)).mono ?_
      rintro e w2 ⟨rfl, rfl⟩
      obtain ⟨z1, z2, u1, u2⟩ := HZ1.out.cells
      go_wp2
      refine bodyPost_ret (v := .tuple #[nk, .int .i64 0, .int .i64 (traceE xs)]) (by simp [results, Try.results17, go_sem, z1, z2]) rfl ?_
      exact NR.bad HE.out H1.out (bel_set2 HB1.out (p := w.heap.size + 1) (by omega) _ _)
  · have HE : Hid (rnE r F xs = checkK r F) := Lib.hid (by unfold rnE; rw [if_neg h0])
    have H0 := Lib.hid h0
    have q : (checkK r F != 0) = true := by simpa using h0
    clear h0
    obtain ⟨x1, x2, -, -⟩ := HK0.out.cells
    go_enter Try.func17, Try.ntmps17
    go_wp2_with fail
    refine HC.out.mono ?_
    rintro e w1 ⟨rfl, hb1⟩
    have HZ1 := Lib.hid (HZ0.out.below hb1)
    have HB1 : Hid (Below w.heap.size w w1) := Lib.hid (HB0.out.trans (hb1.mono HB0.out.size))
    clear hb1 x1 x2
    obtain ⟨z1, z2, u1, u2⟩ := HZ1.out.cells
    go_wp2
    refine bodyPost_ret (v := .tuple #[nk, .int .i64 0, .int .i64 (checkK r F)]) (by simp [results, Try.results17, go_sem, z1, z2]) rfl ?_
    exact NR.bad HE.out H0.out (bel_set2 HB1.out (p := w.heap.size + 1) (by omega) _ _)

end Go.Proofs.Ytmhhiddnkdcflaa.Lfu
