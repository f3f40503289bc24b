/-
  What Run and Resize of package lru return.
-/
import Derived.Test.YticfkhmmmpnmdaaLruApi
namespace Go.Proofs.Yticfkhmmmpnmdaa.Lru
open Go.RowKit Go.Maps
set_option linter.unusedVariables false

theorem take_one {xs : List Int} {k : Nat} (hk : k < xs.length) : xs.take (k + 1) = xs.take k ++ [gi xs k] := by rw [List.take_add_one, List.getElem?_eq_getElem hk, gi_get hk]; rfl

set_option maxHeartbeats 4000000 in
theorem run_any (r : Int) (A B : Option Addr) (c d : Nat) (L xs : List Int) (w : World) (hI : Ints w A c L) (hJ : Ints w B d xs) :
    Calls Try.prog 11 #[cv r A c L, .slice B xs.length d] w (NR r L xs w) := by
  have HS := Lib.hid (CS.new (n := w.heap.size) (r := r) (A := A) (c := c) (L := L) w rfl)
  have HB0 : Hid (Below w.heap.size w (w.alloc (co r A c L))) := Lib.hid ((Below.refl _ w).alloc (Nat.le_refl _) (co r A c L))
  have HI := Lib.hid hI
  have HJ := Lib.hid hJ
  clear hI hJ
  by_cases h0 : checkC r L = 0
  · have H0 := Lib.hid h0
    have HGd := Lib.hid (check_zero.1 h0)
    by_cases h1 : traceE xs = 0
    · have HE : Hid (rnE r L xs = 0) := Lib.hid (by unfold rnE; rw [if_pos h0, h1])
      have H1 := Lib.hid h1
      have HT := Lib.hid (trace_zero.1 h1)
      clear h0 h1
      obtain ⟨ln, hln⟩ : ∃ ln, xs.length = ln := ⟨_, rfl⟩
      have HLN := Lib.hid hln
      have hl200 : ln ≤ 200 := by rw [← hln]; exact HT.out.1
      rw [hln]
      clear hln
      go_enter Try.func11, Try.ntmps11
      go_wp2_with fail
      refine (check_any r A c L _ (HI.out.below (HB0.out.trans ((CS.below HS.out).mono (by omega))))).mono ?_
      rintro e w1 ⟨rfl, hb1⟩
      have HS1 := Lib.hid (CS.next HS.out (CS.size HS.out) hb1)
      clear hb1 HS
      generalize (w.alloc (co r A c L)) = w0 at *
      generalize hn : w.heap.size = n at *
      have HN := Lib.hid hn
      clear hn
      rw [H0.out]
      have HB1 : Hid (Below w.heap.size w w1) := Lib.hid (by rw [HN.out]; exact HB0.out.trans ((CS.below HS1.out).mono (by omega)))
      have HI1 : Hid (Ints w1 A c L) := Lib.hid (HI.out.below HB1.out)
      have HJ1 : Hid (Ints w1 B d xs) := Lib.hid (HJ.out.below HB1.out)
      have HCt := Lib.hid (checkTrace_any B d xs w1 HJ1.out)
      rw [HLN.out, H1.out] at HCt
      go_wp2_with fail
      refine HCt.out.mono ?_
      rintro e w2 ⟨rfl, rfl⟩
      have HZ1 := Lib.hid (CS.size HS1.out)
      obtain ⟨x0, x1, -⟩ := HS1.out
      go_wp2_with fail
      refine (clone_any A c L w1 HI1.out (by have := HGd.out.few; have := HGd.out.room.2; omega)).mono ?_
      rintro e w2 ⟨v2, rfl, ho2, hb2⟩
      have HO2 := Lib.hid ho2
      have HB2 := Lib.hid hb2
      clear ho2 hb2 x0 x1
      go_wp2
      go_loopw [9, 10, 31] (fun v h i wr => ∃ k : Nat, k ≤ ln ∧ i = .int .i64 (k : Int) ∧ h = .int .i64 (hitsM r L (xs.take k) : Int) ∧ OwnI wr w1.heap.size v (runL r L (xs.take k)) ∧ Below w1.heap.size w1 wr) (fun _ _ i _ => ln - (intOf i).toNat)
      case atStart => exact ⟨0, by omega, rfl, rfl, HO2.out, HB2.out⟩
      case round =>
        obtain ⟨k, hk, rfl, rfl, ho, hb⟩ := hrel
        have HO := Lib.hid ho
        have HBr := Lib.hid hb
        have HSr := Lib.hid (CS.next HS1.out HZ1.out hb)
        have HJr := Lib.hid (HJ1.out.below hb)
        clear ho hb
        have HGr : Hid (Good r (runL r L (xs.take k))) := Lib.hid (runL_good HGd.out (fun x hx => HT.out.2 x (List.mem_of_mem_take hx)))
        have hhl : hitsM r L (xs.take k) ≤ 200 := by have := hitsM_le r L (xs.take k); rw [List.length_take] at this; omega
        generalize u9 = v at *
        by_cases hlt : k < ln
        · have hin : (k : Int) < (ln : Int) := by omega
          have hiB : (0 : Int) ≤ (k : Int) := by omega
          have hkx : k < xs.length := by rw [HLN.out]; exact hlt
          obtain ⟨b, o, rfl, ht⟩ := HJr.out.2.2.2 (by omega)
          have e1 := ht.2 k hkx
          clear ht
          have HT1 := Lib.hid (take_one hkx)
          have HR1 : Hid (runL r L (xs.take (k + 1)) = touch r (runL r L (xs.take k)) (gi xs k)) := Lib.hid (by rw [HT1.out, runL_snoc])
          have HH1 : Hid (hitsM r L (xs.take (k + 1)) = hitsM r L (xs.take k) + (if gi xs k ∈ runL r L (xs.take k) then 1 else 0)) := Lib.hid (by rw [HT1.out, hitsM_snoc])
          have HU := Lib.hid (use_any w1.heap.size v (runL r L (xs.take k)) r (gi xs k) wr HO.out HBr.out.size HGr.out.room HGr.out.few)
          clear hkx
          generalize gi xs k = x at *
          generalize runL r L (xs.take k) = M at *
          generalize hitsM r L (xs.take k) = hh at *
          obtain ⟨x0, x1, -⟩ := HSr.out
          by_cases hm : x ∈ M
          · rw [if_pos hm] at HH1
            have HD : Hid (decide (x ∈ M) = true) := Lib.hid (by simpa using hm)
            clear hm
            go_wp2_with fail
            refine HU.out.mono ?_
            rintro e w4 ⟨v4, rfl, ho4, hb4⟩
            rw [HD.out]
            have HO4 := Lib.hid ho4
            have HB4 := Lib.hid (HBr.out.trans hb4)
            clear ho4 hb4 x0 x1 e1
            go_wp2
            go_roundw
            case rel => exact ⟨k + 1, by omega, by go_num, by rw [HH1.out]; go_num, by rw [HR1.out]; exact HO4.out, HB4.out⟩
            case measure => simp [intOf]; omega
          · rw [if_neg hm] at HH1
            have HD : Hid (decide (x ∈ M) = false) := Lib.hid (by simpa using hm)
            clear hm
            go_wp2_with fail
            refine HU.out.mono ?_
            rintro e w4 ⟨v4, rfl, ho4, hb4⟩
            rw [HD.out]
            have HO4 := Lib.hid ho4
            have HB4 := Lib.hid (HBr.out.trans hb4)
            clear ho4 hb4 x0 x1 e1
            go_wp2
            go_roundw
            case rel => exact ⟨k + 1, by omega, by go_num, by rw [HH1.out]; rfl, by rw [HR1.out]; exact HO4.out, HB4.out⟩
            case measure => simp [intOf]; omega
        · obtain rfl : k = ln := by omega
          have HtL : Hid (xs.take k = xs) := Lib.hid (by rw [← HLN.out]; exact List.take_length)
          rw [HtL.out] at HO hhl ⊢
          obtain ⟨A5, c5, rfl, hI5, hA5⟩ := ints_of_own2 HO.out
          have HI5 := Lib.hid hI5
          have HA5 := Lib.hid hA5
          clear hI5 hA5 HGr HO
          obtain ⟨x0, x1, r0, r1, f0, f1, -, -⟩ := HSr.out
          obtain ⟨LL, hLL⟩ : ∃ LL, LL = runL r L xs := ⟨_, rfl⟩
          rw [← hLL] at HI5 ⊢
          have HLL := Lib.hid hLL
          clear hLL hlt
          go_wp2
          refine bodyPost_ret (v := .tuple #[cv r A5 c5 LL, .int .i64 (hitsM r L xs : Int), .int .i64 0]) (by simp [results, Try.results11, go_sem, r0, r1]) rfl ?_
          refine ⟨A5, c5, ?_, ?_, fun a ha => by have := HA5.out a ha; have := HZ1.out; rw [HN.out]; omega, by rw [HN.out]; exact HB0.out.trans (below_set2 (CS.below HSr.out) _ _ |>.mono (by omega))⟩
          · unfold rnR rnL rnH; rw [HE.out, if_pos rfl, if_pos rfl, if_pos rfl, HLL.out]
          · unfold rnL; rw [HE.out, if_pos rfl, ← HLL.out]
            exact ints_set2 HI5.out (fun a ha => Nat.lt_of_lt_of_le HZ1.out (HA5.out a ha)) _ _
    · have HE : Hid (rnE r L xs = traceE xs) := Lib.hid (by unfold rnE; rw [if_pos h0])
      have H1 := Lib.hid h1
      have q : (traceE xs != 0) = true := by simpa using h1
      clear h0 h1
      go_enter Try.func11, Try.ntmps11
      go_wp2_with fail
      refine (check_any r A c L _ (HI.out.below (HB0.out.trans ((CS.below HS.out).mono (by omega))))).mono ?_
      rintro e w1 ⟨rfl, hb1⟩
      have HS1 := Lib.hid (CS.next HS.out (CS.size HS.out) hb1)
      clear hb1 HS
      generalize (w.alloc (co r A c L)) = w0 at *
      generalize hn : w.heap.size = n at *
      have HN := Lib.hid hn
      clear hn
      rw [H0.out]
      have HB1 : Hid (Below w.heap.size w w1) := Lib.hid (by rw [HN.out]; exact HB0.out.trans ((CS.below HS1.out).mono (by omega)))
      go_wp2_with fail
      refine (checkTrace_any B d xs w1 (HJ.out.below HB1.out)).mono ?_
      rintro e w2 ⟨rfl, rfl⟩
      obtain ⟨-, -, r0, r1, f0, f1, -, -⟩ := HS1.out
      go_wp2
      refine bodyPost_ret (v := .tuple #[cv 0 none 0 [], .int .i64 0, .int .i64 (traceE xs)]) (by simp [results, Try.results11, go_sem, r0, r1]; try exact ⟨rfl, rfl⟩) rfl ?_
      exact NR.bad HE.out H1.out (by rw [HN.out]; exact HB0.out.trans (below_set2 (CS.below HS1.out) _ _ |>.mono (by omega)))
  · have HE : Hid (rnE r L xs = checkC r L) := Lib.hid (by unfold rnE; rw [if_neg h0])
    have H0 := Lib.hid h0
    have q : (checkC r L != 0) = true := by simpa using h0
    clear h0
    go_enter Try.func11, Try.ntmps11
    go_wp2_with fail
    refine (check_any r A c L _ (HI.out.below (HB0.out.trans ((CS.below HS.out).mono (by omega))))).mono ?_
    rintro e w1 ⟨rfl, hb1⟩
    have HS1 := Lib.hid (CS.next HS.out (CS.size HS.out) hb1)
    clear hb1 HS
    generalize (w.alloc (co r A c L)) = w0 at *
    generalize hn : w.heap.size = n at *
    have HN := Lib.hid hn
    clear hn
    obtain ⟨-, -, r0, r1, f0, f1, -, -⟩ := HS1.out
    go_wp2
    refine bodyPost_ret (v := .tuple #[cv 0 none 0 [], .int .i64 0, .int .i64 (checkC r L)]) (by simp [results, Try.results11, go_sem, r0, r1]; try exact ⟨rfl, rfl⟩) rfl ?_
    exact NR.bad HE.out H0.out (by rw [HN.out]; exact HB0.out.trans (below_set2 (CS.below HS1.out) _ _ |>.mono (by omega)))

set_option maxHeartbeats 4000000 in
theorem resize_any (r : Int) (A : Option Addr) (c : Nat) (L : List Int) (q : Int) (w : World) (hI : Ints w A c L) :
    Calls Try.prog 12 #[cv r A c L, .int .i64 q] w (ZR r L q w) := by
  have HS := Lib.hid (CS.new (n := w.heap.size) (r := r) (A := A) (c := c) (L := L) w rfl)
  have HB0 : Hid (Below w.heap.size w (w.alloc (co r A c L))) := Lib.hid ((Below.refl _ w).alloc (Nat.le_refl _) (co r A c L))
  have HI := Lib.hid hI
  clear hI
  by_cases h0 : checkC r L = 0
  · have H0 := Lib.hid h0
    have HGd := Lib.hid (check_zero.1 h0)
    by_cases h1 : isRm q
    · have HE : Hid (rzE r L q = 0) := Lib.hid (by unfold rzE; rw [if_pos h0, if_pos h1])
      have p1 : decide (isRm q) = true := by simpa using h1
      have hq1 := h1.1
      have hl40 : L.length ≤ 40 := by have := HGd.out.few; have := HGd.out.room.2; omega
      obtain ⟨k, hkd⟩ : ∃ k : Nat, (k : Int) = min (L.length : Int) q := ⟨(min (L.length : Int) q).toNat, by omega⟩
      have HKT : Hid (L.take q.toNat = L.take k ∧ L.drop q.toNat = L.drop k) := Lib.hid (by
        by_cases hh : (L.length : Int) ≤ q
        · have : k = L.length := by omega
          subst this
          rw [List.take_of_length_le (by omega), List.take_length, List.drop_of_length_le (by omega), List.drop_length]
          exact ⟨rfl, rfl⟩
        · have : q.toNat = k := by omega
          rw [this]; exact ⟨rfl, rfl⟩)
      have hkl : k ≤ L.length := by omega
      have hmin : min (L.length : Int) q = (k : Int) := hkd.symm
      clear h0 h1
      go_enter Try.func12, Try.ntmps12
      go_wp2_with fail
      refine (check_any r A c L _ (HI.out.below (HB0.out.trans ((CS.below HS.out).mono (by omega))))).mono ?_
      rintro e w1 ⟨rfl, hb1⟩
      have HS1 := Lib.hid (CS.next HS.out (CS.size HS.out) hb1)
      clear hb1 HS
      generalize (w.alloc (co r A c L)) = w0 at *
      generalize hn : w.heap.size = n at *
      have HN := Lib.hid hn
      clear hn
      rw [H0.out]
      go_wp2_with fail
      refine (isRoom_any _ _).mono ?_
      rintro e w2 ⟨rfl, rfl⟩
      rw [p1]
      have HI1 : Hid (Ints w1 A c L) := Lib.hid (HI.out.below (w' := w1) (by rw [HN.out]; exact HB0.out.trans ((CS.below HS1.out).mono (by omega))))
      have HZ1 := Lib.hid (CS.size HS1.out)
      obtain ⟨A2, c2, hsf, hI2⟩ := slice_from HI1.out hkl
      obtain ⟨A3, hsu, hI3, -⟩ := slice_upto HI1.out hkl
      have HI2 := Lib.hid hI2
      have HI3 := Lib.hid hI3
      have HLd : Hid ((L.drop k).length ≤ 1048576 ∧ (L.take k).length ≤ 1048576) := Lib.hid ⟨by rw [List.length_drop]; omega, by rw [List.length_take]; omega⟩
      clear hI2 hI3 hkd hkl hl40
      have HC2 := Lib.hid (clone_any A2 c2 (L.drop k) w1 HI2.out HLd.out.1)
      have HC3 := Lib.hid (fun (W : World) (hb : Below w1.heap.size w1 W) => clone_any A3 c (L.take k) W (HI3.out.below hb) HLd.out.2)
      obtain ⟨ld, hld⟩ : ∃ ld, (L.drop k).length = ld := ⟨_, rfl⟩
      obtain ⟨lt, hlt⟩ : ∃ lt, (L.take k).length = lt := ⟨_, rfl⟩
      rw [hld] at hsf HC2
      simp only [hlt] at hsu HC3
      have HLt := Lib.hid hlt
      clear hld hlt
      obtain ⟨x0, x1, -⟩ := HS1.out
      go_wp2_with fail
      refine HC2.out.mono ?_
      rintro e w2 ⟨v2, rfl, ho2, hb2⟩
      have HB2 := Lib.hid hb2
      have HRv := Lib.hid (reverse_own w1.heap.size v2 (L.drop k) w2 ho2 hb2.size)
      clear x0 x1 ho2 hb2
      go_wp2_with fail
      refine HRv.out.mono ?_
      rintro e w3 ⟨rfl, ho3, hb3⟩
      have HB3 := Lib.hid (HB2.out.trans hb3)
      have HO3 := Lib.hid ho3
      have HS3 := Lib.hid (CS.next HS1.out HZ1.out HB3.out)
      clear ho3 hb3
      obtain ⟨x0, x1, -⟩ := HS3.out
      have HC4 := Lib.hid (HC3.out w3 HB3.out)
      go_wp2_with fail
      refine HC4.out.mono ?_
      rintro e w4 ⟨v4, rfl, ho4, hb4⟩
      have HS4 := Lib.hid (CS.next HS3.out (CS.size HS3.out) hb4)
      obtain ⟨B, d, rfl, hI5, hA5⟩ := ints_of_own2 HO3.out
      obtain ⟨A6, c6, rfl, hI6, hA6⟩ := ints_of_own2 ho4
      have HI5 := Lib.hid (hI5.below hb4)
      have HA5 := Lib.hid hA5
      have HI6 := Lib.hid hI6
      have HA6 := Lib.hid hA6
      have HZ3 := Lib.hid (CS.size HS3.out)
      clear x0 x1 ho4 hb4 hI5 hA5 hI6 hA6 HO3
      obtain ⟨M, hM⟩ : ∃ M, M = L.take k := ⟨_, rfl⟩
      obtain ⟨O, hO⟩ : ∃ O, O = (L.drop k).reverse := ⟨_, rfl⟩
      rw [← hM] at HI6 ⊢
      rw [← hO] at HI5 ⊢
      have HM := Lib.hid hM
      have HO := Lib.hid hO
      clear hM hO
      obtain ⟨x0, x1, r0, r1, f0, f1, -, -⟩ := HS4.out
      go_wp2
      refine bodyPost_ret (v := .tuple #[cv q A6 c6 M, .slice B O.length d, .int .i64 0]) (by simp [results, Try.results12, go_sem, r0, r1]) rfl ?_
      refine ⟨A6, c6, B, d, ?_, ?_, ?_, fun a ha => by have := HA6.out a ha; have := HZ3.out; rw [HN.out]; omega, fun a ha => by have := HA5.out a ha; have := HZ1.out; rw [HN.out]; omega, by rw [HN.out]; exact HB0.out.trans (below_set2 (CS.below HS4.out) _ _ |>.mono (by omega))⟩
      · unfold rzR rzL rzO; rw [HE.out, if_pos rfl, if_pos rfl, if_pos rfl, HKT.out.1, HKT.out.2, HM.out, HO.out]
      · unfold rzL; rw [HE.out, if_pos rfl, HKT.out.1, ← HM.out]
        exact ints_set2 HI6.out (fun a ha => Nat.lt_of_lt_of_le HZ3.out (HA6.out a ha)) _ _
      · unfold rzO; rw [HE.out, if_pos rfl, HKT.out.2, ← HO.out]
        exact ints_set2 HI5.out (fun a ha => Nat.lt_of_lt_of_le HZ1.out (HA5.out a ha)) _ _
    · have HE : Hid (rzE r L q = 3) := Lib.hid (by unfold rzE; rw [if_pos h0, if_neg h1])
      have p1 : decide (isRm q) = false := by simpa using h1
      clear h0 h1
      go_enter Try.func12, Try.ntmps12
      go_wp2_with fail
      refine (check_any r A c L _ (HI.out.below (HB0.out.trans ((CS.below HS.out).mono (by omega))))).mono ?_
      rintro e w1 ⟨rfl, hb1⟩
      have HS1 := Lib.hid (CS.next HS.out (CS.size HS.out) hb1)
      clear hb1 HS
      generalize (w.alloc (co r A c L)) = w0 at *
      generalize hn : w.heap.size = n at *
      have HN := Lib.hid hn
      clear hn
      rw [H0.out]
      go_wp2_with fail
      refine (isRoom_any _ _).mono ?_
      rintro e w2 ⟨rfl, rfl⟩
      rw [p1]
      obtain ⟨-, -, r0, r1, f0, f1, -, -⟩ := HS1.out
      go_wp2
      refine bodyPost_ret (v := .tuple #[cv 0 none 0 [], .slice none 0 0, .int .i64 3]) (by simp [results, Try.results12, go_sem, r0, r1]; try exact ⟨rfl, rfl⟩) rfl ?_
      exact ZR.bad HE.out (by decide) (by rw [HN.out]; exact HB0.out.trans (below_set2 (CS.below HS1.out) _ _ |>.mono (by omega)))
  · have HE : Hid (rzE r L q = checkC r L) := Lib.hid (by unfold rzE; rw [if_neg h0])
    have H0 := Lib.hid h0
    have q0 : (checkC r L != 0) = true := by simpa using h0
    clear h0
    go_enter Try.func12, Try.ntmps12
    go_wp2_with fail
    refine (check_any r A c L _ (HI.out.below (HB0.out.trans ((CS.below HS.out).mono (by omega))))).mono ?_
    rintro e w1 ⟨rfl, hb1⟩
    have HS1 := Lib.hid (CS.next HS.out (CS.size HS.out) hb1)
    clear hb1 HS
    generalize (w.alloc (co r A c L)) = w0 at *
    generalize hn : w.heap.size = n at *
    have HN := Lib.hid hn
    clear hn
    obtain ⟨-, -, r0, r1, f0, f1, -, -⟩ := HS1.out
    go_wp2
    refine bodyPost_ret (v := .tuple #[cv 0 none 0 [], .slice none 0 0, .int .i64 (checkC r L)]) (by simp [results, Try.results12, go_sem, r0, r1]; try exact ⟨rfl, rfl⟩) rfl ?_
    exact ZR.bad HE.out H0.out (by rw [HN.out]; exact HB0.out.trans (below_set2 (CS.below HS1.out) _ _ |>.mono (by omega)))

end Go.Proofs.Yticfkhmmmpnmdaa.Lru
