/-
  What Run of package segment returns.
-/
import Derived.Test.YtpjgfehhhgcjnaaSegApi
import Derived.Test.YtpjgfehhhgcjnaaLruApi2
namespace Go.Proofs.Ytpjgfehhhgcjnaa.Seg
open Go.RowKit Go.Maps
open Lru (isRm isK keysE keysE_zero traceE trace_zero touch take_one)
set_option linter.unusedVariables false
set_option maxRecDepth 100000

set_option maxHeartbeats 8000000 in
theorem run_any (f s : Int) (A B : Option Addr) (c d : Nat) (N O : List Int) (D : Option Addr) (dd : Nat) (xs : List Int) (w : World) (hN : Ints w A c N) (hO : Ints w B d O) (hJ : Ints w D dd xs) :
    Calls Try.prog 8 #[kv f s (.slice A N.length c) (.slice B O.length d), .slice D xs.length dd] w (NR f s (N, O) xs w) := by
  obtain ⟨hk0, hz0, hb0⟩ := box2 w f s (.slice A N.length c) (.slice B O.length d)
  have HK0 := Lib.hid hk0
  have HZ0 := Lib.hid hz0
  have HB0 := Lib.hid hb0
  have HN0 := Lib.hid (hN.below hb0)
  have HO0 := Lib.hid (hO.below hb0)
  have HJ := Lib.hid hJ
  clear hk0 hz0 hb0 hN hO hJ
  have HC := Lib.hid (check_any f s A B c d N O _ HN0.out HO0.out)
  by_cases h0 : checkS f s N O = 0
  · have HG := Lib.hid (check_zero.1 h0)
    rw [h0] at HC
    by_cases h1 : traceE xs = 0
    · have HE : Hid (rnE f s (N, O) xs = 0) := Lib.hid (by unfold rnE; rw [if_pos h0, h1])
      have HT := Lib.hid (trace_zero.1 h1)
      have HCt := Lib.hid (fun (W : World) (hW : Ints W D dd xs) => Lru.checkTrace_any D dd xs W hW)
      rw [h1] at HCt
      clear h0 h1
      obtain ⟨ln, hln⟩ : ∃ ln, xs.length = ln := ⟨_, rfl⟩
      have HLN := Lib.hid hln
      have hl200 : ln ≤ 200 := by rw [← hln]; exact HT.out.1
      rw [hln] at HCt ⊢
      clear hln
      obtain ⟨x1, x2, x3, x4⟩ := HK0.out.cells
      go_enter Try.func8, Try.ntmps8
      go_wp2_with fail
      refine HC.out.mono ?_
      rintro e w1 ⟨rfl, hb1⟩
      have HK1 := Lib.hid (HK0.out.below hb1)
      have HZ1 := Lib.hid (HZ0.out.below hb1)
      have HB1 : Hid (Below w.heap.size w w1) := Lib.hid (HB0.out.trans (hb1.mono HB0.out.size))
      have HN1 := Lib.hid (HN0.out.below hb1)
      have HO1 := Lib.hid (HO0.out.below hb1)
      have HJ1 := Lib.hid (HJ.out.below HB1.out)
      clear hb1 x1 x2 x3 x4
      go_wp2_with fail
      refine (HCt.out _ HJ1.out).mono ?_
      rintro e w2 ⟨rfl, rfl⟩
      have HCl := Lib.hid (clone_any f s A B c d N O w1 HN1.out HO1.out (by have := HG.out.lenN; omega) (by have := HG.out.lenO; omega))
      obtain ⟨x1, x2, x3, x4⟩ := HK1.out.cells
      go_wp2_with fail
      refine HCl.out.mono ?_
      rintro e w2 ⟨A2, c2, B2, d2, rfl, hn2, ho2, hap2, hb2⟩
      have HK2 := Lib.hid (Kb.new w2 f s (.slice A2 N.length c2) (.slice B2 O.length d2))
      have HN2 := Lib.hid (own_al hn2 (ko f s (.slice A2 N.length c2) (.slice B2 O.length d2)))
      have HO2 := Lib.hid (own_al ho2 (ko f s (.slice A2 N.length c2) (.slice B2 O.length d2)))
      have HAp2 := Lib.hid hap2
      have HL2 : Hid (w.heap.size + 1 < w1.heap.size) := Lib.hid HZ1.out.lt
      have HB2 : Hid (Below w1.heap.size w1 (w2.alloc (ko f s (.slice A2 N.length c2) (.slice B2 O.length d2)))) := Lib.hid (bel_al hb2 hb2.size _)
      have HQ : Hid (w1.heap.size ≤ w2.heap.size) := Lib.hid hb2.size
      clear hb2 hn2 ho2 hap2 x1 x2 x3 x4
      obtain ⟨pp, hpp⟩ : ∃ pp, pp = w2.heap.size := ⟨_, rfl⟩
      rw [← hpp] at HK2 HQ
      have HPP := Lib.hid hpp
      clear hpp
      go_wp2
      rw [← HPP.out]
      go_loopw [10, 30] (fun q i wr => ∃ (k : Nat) (A : Option Addr) (n c : Nat) (B : Option Addr) (m d : Nat), k ≤ ln ∧ i = .int .i64 (k : Int) ∧ q = .int .i64 (hitsS f s (N, O) (xs.take k) : Int) ∧ Kb wr pp f s (.slice A n c) (.slice B m d) ∧ OwnI wr w1.heap.size (.slice A n c) (runS f s (N, O) (xs.take k)).1 ∧ OwnI wr w1.heap.size (.slice B m d) (runS f s (N, O) (xs.take k)).2 ∧ Hid (Apart (.slice A n c) (.slice B m d)) ∧ Below w1.heap.size w1 wr) (fun _ i _ => ln - (intOf i).toNat)
      case atStart => exact ⟨0, A2, _, c2, B2, _, d2, by omega, rfl, rfl, HK2.out, HN2.out, HO2.out, HAp2, HB2.out⟩
      case round =>
        obtain ⟨k, A3, n3, c3, B3, m3, d3, hk, rfl, rfl, hkr, hnr, hor, HApr, hbr⟩ := hrel
        have HKr := Lib.hid hkr
        have HNr := Lib.hid hnr
        have HOr := Lib.hid hor
        have HBr := Lib.hid hbr
        have HZr := Lib.hid (HZ1.out.below hbr)
        have HJr := Lib.hid (HJ1.out.below hbr)
        clear hkr hnr hor hbr
        have HGr : Hid (Good f s (runS f s (N, O) (xs.take k)).1 (runS f s (N, O) (xs.take k)).2) := Lib.hid (runS_good (t := (N, O)) HG.out (fun x hx => HT.out.2 x (List.mem_of_mem_take hx)))
        have hhl : hitsS f s (N, O) (xs.take k) ≤ 200 := by have := hitsS_le f s (N, O) (xs.take k); rw [List.length_take] at this; omega
        by_cases hlt : k < ln
        · have hin : (k : Int) < (ln : Int) := by omega
          have hiB : (0 : Int) ≤ (k : Int) := by omega
          have hkx : k < xs.length := by rw [HLN.out]; exact hlt
          obtain ⟨b, o, rfl, ht⟩ := HJr.out.2.2.2 (by omega)
          have e1 := ht.2 k hkx
          clear ht
          have HT1 := Lib.hid (take_one hkx)
          have HR1 : Hid (runS f s (N, O) (xs.take (k + 1)) = tch f s (runS f s (N, O) (xs.take k)) (gi xs k)) := Lib.hid (by rw [HT1.out, runS_snoc])
          have HH1 : Hid (hitsS f s (N, O) (xs.take (k + 1)) = hitsS f s (N, O) (xs.take k) + (if isHit (runS f s (N, O) (xs.take k)) (gi xs k) then 1 else 0)) := Lib.hid (by rw [HT1.out, hitsS_snoc])
          have HU := Lib.hid (access_own f s A3 B3 c3 d3 n3 m3 w1.heap.size (runS f s (N, O) (xs.take k)).1 (runS f s (N, O) (xs.take k)).2 (gi xs k) wr HNr.out HOr.out HApr.out HBr.out.size HGr.out (HT.out.2 _ (gi_mem hkx)))
          have HQr : Hid (w1.heap.size ≤ pp ∧ pp < wr.heap.size) := Lib.hid ⟨HQ.out, HKr.out.lt⟩
          clear hkx
          generalize gi xs k = x at *
          generalize runS f s (N, O) (xs.take k) = M at *
          generalize hitsS f s (N, O) (xs.take k) = hh at *
          obtain ⟨x1, x2, x3, x4⟩ := HKr.out.cells
          unfold UR at HU
          by_cases hm : isHit M x
          · rw [if_pos hm] at HH1
            have HD : Hid (decide (isHit M x) = true) := Lib.hid (by simpa using hm)
            clear hm
            go_wp2_with fail
            refine HU.out.mono ?_
            rintro e w4 ⟨A4, c4, B4, d4, E4, k4, rfl, hn4, ho4, hap4, -, hb4, hg4⟩
            rw [HD.out]
            generalize tch f s M x = T at *
            obtain ⟨n4, hn4'⟩ : ∃ n4, T.1.length = n4 := ⟨_, rfl⟩
            obtain ⟨m4, hm4'⟩ : ∃ m4, T.2.length = m4 := ⟨_, rfl⟩
            rw [hn4'] at hn4 hap4 ⊢
            rw [hm4'] at ho4 hap4 ⊢
            have HK4 := Lib.hid (HKr.out.grown HNr.out hg4)
            have HK5 := Lib.hid (HK4.out.put4 f s (.slice A4 n4 c4) (.slice B4 m4 d4))
            have HN5 := Lib.hid (own_set4 hn4 (HK4.out.own hn4) (.int .i64 f) (.int .i64 s) (.slice A4 n4 c4) (.slice B4 m4 d4))
            have HO5 := Lib.hid (own_set4 ho4 (HK4.out.own ho4) (.int .i64 f) (.int .i64 s) (.slice A4 n4 c4) (.slice B4 m4 d4))
            have HAp5 := Lib.hid hap4
            have HB5 := Lib.hid (bel_set4 (HBr.out.trans hb4) HQr.out.1 (.int .i64 f) (.int .i64 s) (.slice A4 n4 c4) (.slice B4 m4 d4))
            clear hn4 ho4 hap4 hb4 hg4 hn4' hm4' x1 x2 x3 x4 e1
            obtain ⟨x1, x2, x3, x4⟩ := HK4.out.cells
            obtain ⟨y1, y2, y3, y4⟩ := HK4.out.free
            go_wp2
            go_roundw
            case rel => exact ⟨k + 1, A4, n4, c4, B4, m4, d4, by omega, by go_num, by rw [HH1.out]; go_num, HK5.out, by rw [HR1.out]; exact HN5.out, by rw [HR1.out]; exact HO5.out, HAp5, HB5.out⟩
            case measure => simp [intOf]; omega
          · rw [if_neg hm] at HH1
            have HD : Hid (decide (isHit M x) = false) := Lib.hid (by simpa using hm)
            clear hm
            go_wp2_with fail
            refine HU.out.mono ?_
            rintro e w4 ⟨A4, c4, B4, d4, E4, k4, rfl, hn4, ho4, hap4, -, hb4, hg4⟩
            rw [HD.out]
            generalize tch f s M x = T at *
            obtain ⟨n4, hn4'⟩ : ∃ n4, T.1.length = n4 := ⟨_, rfl⟩
            obtain ⟨m4, hm4'⟩ : ∃ m4, T.2.length = m4 := ⟨_, rfl⟩
            rw [hn4'] at hn4 hap4 ⊢
            rw [hm4'] at ho4 hap4 ⊢
            have HK4 := Lib.hid (HKr.out.grown HNr.out hg4)
            have HK5 := Lib.hid (HK4.out.put4 f s (.slice A4 n4 c4) (.slice B4 m4 d4))
            have HN5 := Lib.hid (own_set4 hn4 (HK4.out.own hn4) (.int .i64 f) (.int .i64 s) (.slice A4 n4 c4) (.slice B4 m4 d4))
            have HO5 := Lib.hid (own_set4 ho4 (HK4.out.own ho4) (.int .i64 f) (.int .i64 s) (.slice A4 n4 c4) (.slice B4 m4 d4))
            have HAp5 := Lib.hid hap4
            have HB5 := Lib.hid (bel_set4 (HBr.out.trans hb4) HQr.out.1 (.int .i64 f) (.int .i64 s) (.slice A4 n4 c4) (.slice B4 m4 d4))
            clear hn4 ho4 hap4 hb4 hg4 hn4' hm4' x1 x2 x3 x4 e1
            obtain ⟨x1, x2, x3, x4⟩ := HK4.out.cells
            obtain ⟨y1, y2, y3, y4⟩ := HK4.out.free
            go_wp2
            go_roundw
            case rel => exact ⟨k + 1, A4, n4, c4, B4, m4, d4, by omega, by go_num, by rw [HH1.out]; rfl, HK5.out, by rw [HR1.out]; exact HN5.out, by rw [HR1.out]; exact HO5.out, HAp5, HB5.out⟩
            case measure => simp [intOf]; omega
        · obtain rfl : k = ln := by omega
          have HtL : Hid (xs.take k = xs) := Lib.hid (by rw [← HLN.out]; exact List.take_length)
          rw [HtL.out] at HNr HOr hhl ⊢
          have HB4 : Hid (Below w.heap.size w wr) := Lib.hid (HB1.out.trans (HBr.out.mono HB1.out.size))
          have HLw : Hid (w.heap.size ≤ w1.heap.size) := Lib.hid HB1.out.size
          have HP := Lib.hid (NR.good (w' := set4 wr (w.heap.size + 1) (.int .i64 f) (.int .i64 s) (.slice A3 n3 c3) (.slice B3 m3 d3)) HE.out rfl rfl (own_set4 (own_le HNr.out HLw.out) (HZr.out.own HNr.out) _ _ _ _) (own_set4 (own_le HOr.out HLw.out) (HZr.out.own HOr.out) _ _ _ _) (bel_set4 HB4.out (Nat.le_succ _) _ _ _ _))
          clear HGr hlt
          obtain ⟨x1, x2, x3, x4⟩ := HKr.out.cells
          obtain ⟨z1, z2, z3, z4⟩ := HZr.out.cells
          obtain ⟨u1, u2, u3, u4⟩ := HZr.out.free
          go_wp2
          refine bodyPost_ret (v := .tuple #[kv f s (.slice A3 n3 c3) (.slice B3 m3 d3), .int .i64 (hitsS f s (N, O) xs : Int), .int .i64 0]) (by simp [results, Try.results8, go_sem, z1, z2, z3, z4]) rfl ?_
          exact HP.out
    · have HE : Hid (rnE f s (N, O) xs = traceE xs) := Lib.hid (by unfold rnE; rw [if_pos h0])
      have H1 := Lib.hid h1
      have q : (traceE xs != 0) = true := by simpa using h1
      clear h0 h1
      obtain ⟨x1, x2, x3, x4⟩ := HK0.out.cells
      go_enter Try.func8, Try.ntmps8
      go_wp2_with fail
      refine HC.out.mono ?_
      rintro e w1 ⟨rfl, hb1⟩
      have HZ1 := Lib.hid (HZ0.out.below hb1)
      have HB1 : Hid (Below w.heap.size w w1) := Lib.hid (HB0.out.trans (hb1.mono HB0.out.size))
      clear hb1 x1 x2 x3 x4
      go_wp2_with fail
      refine (Lru.checkTrace_any D dd xs w1 (HJ.out.below HB1.out)).mono ?_
      rintro e w2 ⟨rfl, rfl⟩
      obtain ⟨z1, z2, z3, z4⟩ := HZ1.out.cells
      obtain ⟨u1, u2, u3, u4⟩ := HZ1.out.free
      go_wp2
      refine bodyPost_ret (v := .tuple #[nk, .int .i64 0, .int .i64 (traceE xs)]) (by simp [results, Try.results8, go_sem, z1, z2, z3, z4]) rfl ?_
      exact NR.bad HE.out H1.out (bel_set4 HB1.out (p := w.heap.size + 1) (by omega) _ _ _ _)
  · have HE : Hid (rnE f s (N, O) xs = checkS f s N O) := Lib.hid (by unfold rnE; rw [if_neg h0])
    have H0 := Lib.hid h0
    have q : (checkS f s N O != 0) = true := by simpa using h0
    clear h0
    obtain ⟨x1, x2, x3, x4⟩ := HK0.out.cells
    go_enter Try.func8, Try.ntmps8
    go_wp2_with fail
    refine HC.out.mono ?_
    rintro e w1 ⟨rfl, hb1⟩
    have HZ1 := Lib.hid (HZ0.out.below hb1)
    have HB1 : Hid (Below w.heap.size w w1) := Lib.hid (HB0.out.trans (hb1.mono HB0.out.size))
    clear hb1 x1 x2 x3 x4
    obtain ⟨z1, z2, z3, z4⟩ := HZ1.out.cells
    obtain ⟨u1, u2, u3, u4⟩ := HZ1.out.free
    go_wp2
    refine bodyPost_ret (v := .tuple #[nk, .int .i64 0, .int .i64 (checkS f s N O)]) (by simp [results, Try.results8, go_sem, z1, z2, z3, z4]) rfl ?_
    exact NR.bad HE.out H0.out (bel_set4 HB1.out (p := w.heap.size + 1) (by omega) _ _ _ _)

end Go.Proofs.Ytpjgfehhhgcjnaa.Seg
