/-
  What Run and Resize of package lru return.
-/
import Derived.Test.YtjmhemkbfephpaaLruApi
namespace Go.Proofs.Ytjmhemkbfephpaa.Lru
open Go.RowKit Go.Maps
set_option linter.unusedVariables false

theorem take_one {xs : List Int} {k : Nat} (hk : k < xs.length) : xs.take (k + 1) = xs.take k ++ [gi xs k] := by rw [List.take_add_one, List.getElem?_eq_getElem hk, gi_get hk]; rfl

set_option maxHeartbeats 4000000 in
theorem run_any (r : Int) (A B : Option Addr) (c d : Nat) (L xs : List Int) (w : World) (hI : Ints w A c L) (hJ : Ints w B d xs) :
    Calls Try.prog 23 #[cv r A c L, .slice B xs.length d] w (NR r L xs w) := by
  have HS := Lib.hid (CS.new (n := w.heap.size) (r := r) (A := A) (c := c) (L := L) w rfl)
  have HB0 : Hid (Below w.heap.size w (w.alloc (co r A c L))) := Lib.hid ((Below.refl _ w).alloc (Nat.le_refl _) (co r A c L))
  have HI := Lib.hid hI
  have HJ := Lib.hid hJ
  clear hI hJ
  by_cases h0 : checkC r L = 0
  · have H0 := Lib.hid h0
    have HGd := Lib.hid (check_zero.1 h0)
    by_cases h1 : traceE xs = 0
    · have HE : Hid (rnE r L xs = 0) := Lib.hid (by unfold rnE; rw [if_pos h0, h1])
      have H1 := Lib.hid h1
      have HT := Lib.hid (trace_zero.1 h1)
      clear h0 h1
      obtain ⟨ln, hln⟩ : ∃ ln, xs.length = ln := ⟨_, rfl⟩
      have HLN := Lib.hid hln
      have hl200 : ln ≤ 200 := by rw [← hln]; exact HT.out.1
      rw [hln]
      clear hln
      go_enter Try.func23, Try.ntmps23
      go_wp2_with fail
      refine (check_any r A c L _ (HI.out.below (HB0.out.trans ((CS.below HS.out).mono (by omega))))).mono ?_
      rintro e w1 ⟨rfl, hb1⟩
      have HS1 := Lib.hid (CS.next HS.out (CS.size HS.out) hb1)
      clear hb1 HS
      generalize (w.alloc (co r A c L)) = w0 at *
      generalize hn : w.heap.size = n at *
      have HN := Lib.hid hn
      clear hn
      rw [H0.out]
      have HB1 : Hid (Below w.heap.size w w1) := Lib.hid (by rw [HN.out]; exact HB0.out.trans ((CS.below HS1.out).mono (by omega)))
      have HI1 : Hid (Ints w1 A c L) := Lib.hid (HI.out.below HB1.out)
      have HJ1 : Hid (Ints w1 B d xs) := Lib.hid (HJ.out.below HB1.out)
      have HCt := Lib.hid (checkTrace_any B d xs w1 HJ1.out)
      rw [HLN.out, H1.out] at HCt
      go_wp2_with fail
      refine HCt.out.mono ?_
      rintro e w2 ⟨rfl, rfl⟩
      have HZ1 := Lib.hid (CS.size HS1.out)
      obtain ⟨x0, x1, -⟩ := HS1.out
      go_wp2_with fail
      refine (clone_any A c L w1 HI1.out (by have := HGd.out.few; have := HGd.out.room.2; omega)).mono ?_
      rintro e w2 ⟨v2, rfl, ho2, hb2⟩
      have HO2 := Lib.hid ho2
      have HB2 := Lib.hid hb2
      clear ho2 hb2 x0 x1
      go_wp2
      go_loopw [9, 10, 31] (fun v h i wr => ∃ k : Nat, k ≤ ln ∧ i = .int .i64 (k : Int) ∧ h = .int .i64 (hitsM r L (xs.take k) : Int) ∧ OwnI wr w1.heap.size v (runL r L (xs.take k)) ∧ Below w1.heap.size w1 wr) (fun _ _ i _ => ln - (intOf i).toNat)
      case atStart => exact ⟨0, by omega, rfl, rfl, HO2.out, HB2.out⟩
      case round =>
        obtain ⟨k, hk, rfl, rfl, ho, hb⟩ := hrel
        have HO := Lib.hid ho
        have HBr := Lib.hid hb
        have HSr := Lib.hid (CS.next HS1.out HZ1.out hb)
        have HJr := Lib.hid (HJ1.out.below hb)
        clear ho hb
        have HGr : Hid (Good r (runL r L (xs.take k))) := Lib.hid (runL_good HGd.out (fun x hx => HT.out.2 x (List.mem_of_mem_take hx)))
        have hhl : hitsM r L (xs.take k) ≤ 200 := by have := hitsM_le r L (xs.take k); rw [List.length_take] at this; omega
        generalize u9 = v at *
        by_cases hlt : k < ln
        · have hin : (k : Int) < (ln : Int) := by omega
          have hiB : (0 : Int) ≤ (k : Int) := by omega
          have hkx : k < xs.length := by rw [HLN.out]; exact hlt
          obtain ⟨b, o, rfl, ht⟩ := HJr.out.2.2.2 (by omega)
          have e1 := ht.2 k hkx
          clear ht
          have HT1 := Lib.hid (take_one hkx)
          have HR1 : Hid (runL r L (xs.take (k + 1)) = touch r (runL r L (xs.take k)) (gi xs k)) := Lib.hid (by rw [HT1.out, runL_snoc])
          have HH1 : Hid (hitsM r L (xs.take (k + 1)) = hitsM r L (xs.take k) + (if gi xs k ∈ runL r L (xs.take k) then 1 else 0)) := Lib.hid (by rw [HT1.out, hitsM_snoc])
          have HU := Lib.hid (use_any w1.heap.size v (runL r L (xs.take k)) r (gi xs k) wr HO.out HBr.out.size HGr.out.room HGr.out.few)
          clear hkx
          generalize gi xs k = x at *
          generalize runL r L (xs.take k) = M at *
          generalize hitsM r L (xs.take k) = hh at *
          obtain ⟨x0, x1, -⟩ := HSr.out
          by_cases hm : x ∈ M
          · rw [if_pos hm] at HH1
            have HD : Hid (decide (x ∈ M) = true) := Lib.hid (by simpa using hm)
            clear hm
            go_wp2_with fail
            refine HU.out.mono ?_
            rintro e w4 ⟨v4, rfl, ho4, hb4⟩
            rw [HD.out]
            have HO4 := Lib.hid ho4
            have HB4 := Lib.hid (HBr.out.trans hb4)
            clear ho4 hb4 x0 x1 e1
            go_wp2
            go_roundw
            case rel => exact ⟨k + 1, by omega, by go_num, by rw [HH1.out]; go_num, by rw [HR1.out]; exact HO4.out, HB4.out⟩
            case measure => simp [intOf]; omega
          · rw [if_neg hm] at HH1
            have HD : Hid (decide (x ∈ M) = false) := Lib.hid (by simpa using hm)
            clear hm
            go_wp2_with fail
            refine HU.out.mono ?_
            rintro e w4 ⟨v4, rfl, ho4, hb4⟩
            rw [HD.out]
            have HO4 := Lib.hid ho4
            have HB4 := Lib.hid (HBr.out.trans hb4)
            clear ho4 hb4 x0 x1 e1
            go_wp2
            go_roundw
            case rel => exact ⟨k + 1, by omega, by go_num, by rw [HH1.out]; rfl, by rw [HR1.out]; exact HO4.out, HB4.out⟩
            case measure => simp [intOf]; omega
        · obtain rfl : k = ln := by omega
          have HtL : Hid (xs.take k = xs) := Lib.hid (by rw [← HLN.out]; exact List.take_length)
          rw [HtL.out] at HO hhl ⊢
          obtain ⟨A5, c5, rfl, hI5, hA5⟩ := ints_of_own2 HO.out
          have HI5 := Lib.hid hI5
          have HA5 := Lib.hid hA5
          clear hI5 hA5 HGr HO
          obtain ⟨x0, x1, r0, r1, f0, f1, -, -⟩ := HSr.out
          obtain ⟨LL, hLL⟩ : ∃ LL, LL = runL r L xs := ⟨_, rfl⟩
          rw [← hLL] at HI5 ⊢
          have HLL := Lib.hid hLL
          clear hLL hlt
          go_wp2
          refine bodyPost_ret (v := .tuple #[cv r A5 c5 LL, .int .i64 (hitsM r L xs : Int), .int .i64 0]) (by simp [results, Try.results23, go_sem, r0, r1]) rfl ?_
          refine ⟨A5, c5, ?_, ?_, fun a ha => by have := HA5.out a ha; have := HZ1.out; rw [HN.out]; omega, by rw [HN.out]; exact HB0.out.trans (below_set2 (CS.below HSr.out) _ _ |>.mono (by omega))⟩
          · unfold rnR rnL rnH; rw [HE.out, if_pos rfl, if_pos rfl, if_pos rfl, HLL.out]
          · unfold rnL; rw [HE.out, if_pos rfl, ← HLL.out]
            exact ints_set2 HI5.out (fun a ha => Nat.lt_of_lt_of_le HZ1.out (HA5.out a ha)) _ _
    · have HE : Hid (rnE r L xs = traceE xs) := Lib.hid (by unfold rnE; rw [if_pos h0])
      have H1 := Lib.hid h1
      have q : (traceE xs != 0) = true := by simpa using h1
      clear h0 h1
      go_enter Try.func23, Try.ntmps23
      go_wp2_with fail
      refine (check_any r A c L _ (HI.out.below (HB0.out.trans ((CS.below HS.out).mono (by omega))))).mono ?_
      rintro e w1 ⟨rfl, hb1⟩
      have HS1 := Lib.hid (CS.next HS.out (CS.size HS.out) hb1)
      clear hb1 HS
      generalize (w.alloc (co r A c L)) = w0 at *
      generalize hn : w.heap.size = n at *
      have HN := Lib.hid hn
      clear hn
      rw [H0.out]
      have HB1 : Hid (Below w.heap.size w w1) := Lib.hid (by rw [HN.out]; exact HB0.out.trans ((CS.below HS1.out).mono (by omega)))
      go_wp2_with fail
      refine (checkTrace_any B d xs w1 (HJ.out.below HB1.out)).mono ?_
      rintro e w2 ⟨rfl, rfl⟩
      obtain ⟨-, -, r0, r1, f0, f1, -, -⟩ := HS1.out
      go_wp2
      refine bodyPost_ret (v := .tuple #[cv 0 none 0 [], .int .i64 0, .int .i64 (traceE xs)]) (by simp [results, Try.results23, go_sem, r0, r1]; try exact ⟨rfl, rfl⟩) rfl ?_
      exact NR.bad HE.out H1.out (by rw [HN.out]; exact HB0.out.trans (below_set2 (CS.below HS1.out) _ _ |>.mono (by omega)))
  · have HE : Hid (rnE r L xs = checkC r L) := Lib.hid (by unfold rnE; rw [if_neg h0])
    have H0 := Lib.hid h0
    have q : (checkC r L != 0) = true := by simpa using h0
    clear h0
    go_enter Try.func23, Try.ntmps23
    go_wp2_with fail
    refine (check_any r A c L _ (HI.out.below (HB0.out.trans ((CS.below HS.out).mono (by omega))))).mono ?_
    rintro e w1 ⟨rfl, hb1⟩
    have HS1 := Lib.hid (CS.next HS.out (CS.size HS.out) hb1)
    clear hb1 HS
    generalize (w.alloc (co r A c L)) = w0 at *
    generalize hn : w.heap.size = n at *
    have HN := Lib.hid hn
    clear hn
    obtain ⟨-, -, r0, r1, f0, f1, -, -⟩ := HS1.out
    go_wp2
    refine bodyPost_ret (v := .tuple #[cv 0 none 0 [], .int .i64 0, .int .i64 (checkC r L)]) (by simp [results, Try.results23, go_sem, r0, r1]; try exact ⟨rfl, rfl⟩) rfl ?_
    exact NR.bad HE.out H0.out (by rw [HN.out]; exact HB0.out.trans (below_set2 (CS.below HS1.out) _ _ |>.mono (by omega)))

end Go.Proofs.Ytjmhemkbfephpaa.Lru
