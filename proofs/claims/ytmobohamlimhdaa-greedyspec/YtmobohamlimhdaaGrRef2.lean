/-
  The reference of items: HoardCheck; SameHoard of two caches that are one.
-/
import Derived.Test.YtmobohamlimhdaaGrRef
import Derived.Test.YtmobohamlimhdaaGrBegun
namespace Go.Proofs.Ytmobohamlimhdaa.Grd
open Go.RowKit
open Lru (isK)
set_option linter.unusedVariables false
set_option maxRecDepth 100000

theorem BtC.of (n a b : Int) {p : Prop} [Decidable p] (h : (a ≤ n ∧ n ≤ b) ↔ p) : BtC n a b (decide p) := fun W => by
  have := between_any n a b W
  rwa [show decide (a ≤ n ∧ n ≤ b) = decide p from decide_eq_decide.2 h] at this
theorem bt_bel {n a b : Int} {r : Bool} (h : BtC n a b r) (W : World) : Calls Try.prog 28 #[.int .i64 n, .int .i64 a, .int .i64 b] W fun e w' => e = .returned (.bool r) ∧ Below W.heap.size W w' :=
  (h W).mono (fun e w' ⟨h1, h2⟩ => ⟨h1, by rw [h2]; exact Below.refl _ _⟩)
theorem key_at {M : List It} {j : Nat} {x : Int} (h : j < M.length) (h1 : ¬ x ∈ keys (M.take j)) (h2 : ¬ (gt M j).key = x) : ¬ x ∈ keys (M.take (j + 1)) := by
  unfold keys at *
  rw [List.take_add_one, List.getElem?_eq_getElem h, Option.toList_some, List.map_append, List.mem_append, ← gt_get h]
  rintro (a | a)
  · exact h1 a
  · simp only [List.map_cons, List.map_nil, List.mem_singleton] at a
    exact h2 a.symm

set_option maxHeartbeats 8000000 in
theorem hcheck_any (r fl : Int) (A : Option Addr) (c : Nat) (F : List It) (w : World) (hF : Tss w A c F) :
    Calls Try.prog 10 #[kv r fl (.slice A F.length c)] w fun e w' => e = .returned (.int .i64 (checkG 8 r fl F)) ∧ Below w.heap.size w w' := by
  have HK0 : Hid (Kb (w.alloc (ko r fl (.slice A F.length c))) w.heap.size r fl (.slice A F.length c)) := Lib.hid (Kb.new w r fl _)
  have HB0 : Hid (Below w.heap.size w (w.alloc (ko r fl (.slice A F.length c)))) := Lib.hid (bel_al (Below.refl _ _) (Nat.le_refl _) _)
  have HF1 : Hid (Tss (w.alloc (ko r fl (.slice A F.length c))) A c F) := Lib.hid (hF.alloc _)
  have hlen := hF.len
  have H1 : Hid (BtC r 1 1048576 (decide (isSz r))) := Lib.hid (BtC.of r 1 1048576 Iff.rfl)
  have H2 : Hid (BtC fl 0 1125899906842624 (decide (isWo fl))) := Lib.hid (BtC.of fl 0 1125899906842624 Iff.rfl)
  obtain ⟨x0, x1, x2⟩ := HK0.out.cells
  clear hF
  by_cases h1 : isSz r
  · rw [decide_eq_true h1] at H1
    by_cases h2 : isWo fl
    · rw [decide_eq_true h2] at H2
      have hR : isSz r ∧ isWo fl := ⟨h1, h2⟩
      clear h1 h2
      by_cases h4 : 40 < F.length
      · have p4 : decide ((40 : Int) < (F.length : Int)) = true := by simp; omega
        have HE : Hid (checkG 8 r fl F = 2) := Lib.hid (by unfold checkG; rw [if_pos hR, if_pos h4])
        clear hR h4
        go_enter Try.func10, Try.ntmps10
        go_wp2_with (first | (with_reducible refine (H1.out _).mono ?_; rintro e w2 ⟨rfl, rfl⟩) | (with_reducible refine (H2.out _).mono ?_; rintro e w2 ⟨rfl, rfl⟩))
        go_ret
        exact ⟨ret_int HE.out.symm, HB0.out⟩
      · have p4 : decide ((40 : Int) < (F.length : Int)) = false := by simp; omega
        have HE : Hid (checkG 8 r fl F = if itE fl [] F = 0 then (if r < sizes F then 8 else 0) else itE fl [] F) := Lib.hid (by unfold checkG; rw [if_pos hR, if_neg h4])
        have H40 : Hid (F.length ≤ 40) := Lib.hid (by omega)
        clear hR h4
        obtain ⟨ln, hln⟩ : ∃ ln, F.length = ln := ⟨_, rfl⟩
        have HLN := Lib.hid hln
        rw [hln] at HK0 HB0 HF1 x0 x1 x2 p4 hlen
        rw [hln]
        clear hln
        go_enter Try.func10, Try.ntmps10
        go_wp2_with (first | (with_reducible refine (H1.out _).mono ?_; rintro e w2 ⟨rfl, rfl⟩) | (with_reducible refine (H2.out _).mono ?_; rintro e w2 ⟨rfl, rfl⟩))
        go_loopw [3] (fun i wr => ∃ k : Nat, k ≤ ln ∧ i = .int .i64 (k : Int) ∧ Hid (itE fl [] F = itE fl (F.take k) (F.drop k)) ∧ Hid (Below (w.alloc (ko r fl (.slice A ln c))).heap.size (w.alloc (ko r fl (.slice A ln c))) wr)) (fun i _ => ln - (intOf i).toNat)
        case atStart => exact ⟨0, by omega, rfl, Lib.hid rfl, Lib.hid (Below.refl _ _)⟩
        case round =>
          obtain ⟨k, hk, rfl, HA, HBr⟩ := hrel
          clear x0 x1 x2 p4
          have HKr := Lib.hid (HK0.out.below HBr.out)
          have HFr := Lib.hid (HF1.out.below HBr.out)
          obtain ⟨x0, x1, x2⟩ := HKr.out.cells
          by_cases hlt : k < ln
          · have hin : (k : Int) < (ln : Int) := by omega
            have hiB : (0 : Int) ≤ (k : Int) := by omega
            have HKL : Hid (k < F.length) := Lib.hid (by rw [HLN.out]; exact hlt)
            obtain ⟨b, o, rfl, -, -, -, -⟩ := HFr.out.us HKL.out
            have HAt := Lib.hid (itE_at (fl := fl) (L := F) (k := k) HKL.out)
            have HSx : Hid (∀ W, Below wr.heap.size wr W → W.cell? ⟨b, o + k * 4, none⟩ = some (.int .i64 (gt F k).key) ∧ W.cell? ⟨b, o + k * 4 + 1, none⟩ = some (.int .i64 (gt F k).size) ∧ W.cell? ⟨b, o + k * 4 + 2, none⟩ = some (.int .i64 (gt F k).cost) ∧ W.cell? ⟨b, o + k * 4 + 3, none⟩ = some (.int .i64 (gt F k).worth)) := Lib.hid (fun W hW => by
              obtain ⟨b', o', e, h⟩ := (HFr.out.below hW).us HKL.out
              cases e; exact h)
            have HTh : Hid (∀ W : World, Calls Try.prog 11 #[fv (gt F k)] W fun e w' => e = .returned (.bool (decide (okI (gt F k)))) ∧ Below W.heap.size W w') := Lib.hid (fun W => thing_any (gt F k) W)
            have HBt := Lib.hid (bt_bel (BtC.of (gt F k).worth fl 1125899906842624 (p := fl ≤ (gt F k).worth ∧ (gt F k).worth ≤ 1125899906842624) Iff.rfl))
            have HBx : Hid (∀ W, Below wr.heap.size wr W → Below w.heap.size w W) := Lib.hid (fun W hW => HB0.out.trans ((HBr.out.trans (hW.mono HBr.out.size)).mono HB0.out.size))
            have HBy : Hid (∀ W, Below wr.heap.size wr W → Below (w.alloc (ko r fl (.slice (some ⟨b, o, none⟩) ln c))).heap.size (w.alloc (ko r fl (.slice (some ⟨b, o, none⟩) ln c))) W) := Lib.hid (fun W hW => HBr.out.trans (hW.mono HBr.out.size))
            generalize gt F k = f at *
            obtain ⟨x, z, cc, u⟩ := f
            dsimp only at HAt HSx HBt
            have hS0 : ∀ v : Bw wr, v.w.cell? ⟨b, o + k * 4, none⟩ = some (.int .i64 x) := fun v => (HSx.out _ v.h).1
            have hS1 : ∀ v : Bw wr, v.w.cell? ⟨b, o + k * 4 + 1, none⟩ = some (.int .i64 z) := fun v => (HSx.out _ v.h).2.1
            have hS2 : ∀ v : Bw wr, v.w.cell? ⟨b, o + k * 4 + 2, none⟩ = some (.int .i64 cc) := fun v => (HSx.out _ v.h).2.2.1
            have hS3 : ∀ v : Bw wr, v.w.cell? ⟨b, o + k * 4 + 3, none⟩ = some (.int .i64 u) := fun v => (HSx.out _ v.h).2.2.2
            have hS4 : ∀ v : Bw wr, v.w.cell? ⟨w.heap.size, 1, none⟩ = some (.int .i64 fl) := fun v => (HKr.out.below v.h).cells.2.1
            have hS5 : ∀ v : Bw wr, v.w.cell? ⟨w.heap.size, 2, none⟩ = some (.slice (some ⟨b, o, none⟩) ln c) := fun v => (HKr.out.below v.h).cells.2.2
            by_cases q1 : okI ⟨x, z, cc, u⟩
            · rw [decide_eq_true q1] at HTh
              by_cases q2 : fl ≤ u ∧ u ≤ 1125899906842624
              · rw [decide_eq_true q2] at HBt
                rw [if_pos ⟨q1, q2⟩] at HAt
                clear q1 q2
                go_wp2_with fail
                refine wp_region_below (by kernel_rfl) (by kernel_rfl) ?_
                repeat (go_big_quiet_step ((first | (go_at_call 11; (with_reducible exact calls_bw (HTh.out _))) | (go_at_call 28; (with_reducible exact calls_bw (HBt.out _))))))
                refine wpQuiet_nil ?_
                intro _ hw'
                obtain ⟨u9, hw''⟩ := hw'
                subst hw''
                clear hS0 hS1 hS2 hS3 hS4 hS5
                have hb9 := u9.h
                generalize u9.w = w9 at *
                clear u9
                have HB9 := Lib.hid hb9
                clear hb9 x0 x1 x2
                go_wp2_with fail
                go_loopw [4] (fun s4 wj => ∃ j : Nat, j ≤ k ∧ s4 = .int .i64 (j : Int) ∧ ¬ x ∈ keys (F.take j) ∧ Hid (Below wr.heap.size wr wj)) (fun s4 _ => k - (intOf s4).toNat)
                case atStart => exact ⟨0, by omega, rfl, by simp [keys], HB9⟩
                case round =>
                  rename World => wj
                  obtain ⟨j, hj, rfl, hnk, HBj⟩ := hrel
                  obtain ⟨x0, x1, x2⟩ := (HKr.out.below HBj.out).cells
                  by_cases hjl : j < k
                  · have hjn : (j : Int) < (k : Int) := by omega
                    have hj0 : (0 : Int) ≤ (j : Int) := by omega
                    have hjn' : (j : Int) < (ln : Int) := by omega
                    have hjF : j < F.length := by rw [HLN.out]; omega
                    have f0 := (HSx.out _ HBj.out).1
                    obtain ⟨b2, o2, e, g0, -, -, -⟩ := (HFr.out.below HBj.out).us hjF
                    cases e
                    have HNx := Lib.hid (fun (h2 : ¬ (gt F j).key = x) => key_at hjF hnk h2)
                    have HYe : Hid ((gt F j).key = x → x ∈ keys (F.take k)) := Lib.hid (fun e => by
                      unfold keys
                      refine List.mem_map.2 ⟨gt F j, ?_, e⟩
                      rw [gt_get hjF]
                      exact List.mem_take_iff_getElem.2 ⟨j, by rw [HLN.out]; omega, rfl⟩)
                    generalize (gt F j).key = y at *
                    by_cases q4 : y = x
                    · have d4 : (y == x) = true := by simpa using q4
                      rw [if_pos (HYe.out q4)] at HAt
                      have HR : Hid (checkG 8 r fl F = 6) := Lib.hid (by have e : itE fl [] F = 6 := HA.out.trans HAt.out; rw [HE.out, e]; rfl)
                      have HB5 := Lib.hid (fun n => HBx.out _ (bel_drewN HBj.out n))
                      clear q4 HNx HYe hnk
                      go_wp2_with fail
                      go_quiet (fail)
                      have HB6 := Lib.hid (HB5.out nq)
                      generalize wj.drewN nq = w5 at *
                      go_wp2
                      go_ret
                      exact ⟨ret_int HR.out.symm, HB6.out⟩
                    · have d4 : (y == x) = false := by simpa using q4
                      have HN2 := Lib.hid (HNx.out q4)
                      clear q4 HNx HYe hnk
                      go_wp2_with fail
                      go_quiet (fail)
                      have HB6 : Hid (Below wr.heap.size wr (wj.drewN nq)) := Lib.hid (bel_drewN HBj.out nq)
                      clear x0 x1 x2 f0 g0
                      generalize wj.drewN nq = w5 at *
                      go_wp2
                      go_roundw
                      case rel => exact ⟨j + 1, by omega, by go_num, HN2.out, HB6⟩
                      case measure => simp [intOf]; omega
                  · obtain rfl : j = k := by omega
                    rw [if_neg hnk] at HAt
                    have HB6 := Lib.hid (HBy.out _ HBj.out)
                    clear hnk
                    go_wp2
                    go_roundw
                    case rel => exact ⟨j + 1, by omega, by go_num, Lib.hid (HA.out.trans HAt.out), HB6⟩
                    case measure => simp [intOf]; omega
              · rw [decide_eq_false q2] at HBt
                rw [if_neg (fun hh => q2 hh.2)] at HAt
                have HR : Hid (checkG 8 r fl F = 3) := Lib.hid (by have e : itE fl [] F = 3 := HA.out.trans HAt.out; rw [HE.out, e]; rfl)
                clear q1 q2
                go_wp2_with fail
                refine wp_region_below (by kernel_rfl) (by kernel_rfl) ?_
                repeat (go_big_quiet_step ((first | (go_at_call 11; (with_reducible exact calls_bw (HTh.out _))) | (go_at_call 28; (with_reducible exact calls_bw (HBt.out _))))))
                refine wpQuiet_nil ?_
                intro _ hw'
                obtain ⟨u9, hw''⟩ := hw'
                subst hw''
                clear hS0 hS1 hS2 hS3 hS4 hS5
                have hb9 := u9.h
                generalize u9.w = w9 at *
                clear u9
                have HB9 := Lib.hid (HBx.out _ hb9)
                go_wp2
                go_ret
                exact ⟨ret_int HR.out.symm, HB9.out⟩
            · rw [decide_eq_false q1] at HTh
              rw [if_neg (fun hh => q1 hh.1)] at HAt
              have HR : Hid (checkG 8 r fl F = 3) := Lib.hid (by have e : itE fl [] F = 3 := HA.out.trans HAt.out; rw [HE.out, e]; rfl)
              clear q1
              go_wp2_with fail
              refine wp_region_below (by kernel_rfl) (by kernel_rfl) ?_
              repeat (go_big_quiet_step ((first | (go_at_call 11; (with_reducible exact calls_bw (HTh.out _))) | (go_at_call 28; (with_reducible exact calls_bw (HBt.out _))))))
              refine wpQuiet_nil ?_
              intro _ hw'
              obtain ⟨u9, hw''⟩ := hw'
              subst hw''
              clear hS0 hS1 hS2 hS3 hS4 hS5
              have hb9 := u9.h
              generalize u9.w = w9 at *
              clear u9
              have HB9 := Lib.hid (HBx.out _ hb9)
              go_wp2
              go_ret
              exact ⟨ret_int HR.out.symm, HB9.out⟩
          · obtain rfl : k = ln := by omega
            have hI9 : itE fl [] F = 0 := HA.out.trans (itE_end HLN.out)
            have HE2 : Hid (checkG 8 r fl F = if r < sizes F then 8 else 0) := Lib.hid (by rw [HE.out, if_pos hI9])
            have HT := Lib.hid (fun (W : World) (hW : Tss W A c F) => (hsizes_any A c F W hW H40.out (fun t ht => ((itE_zero.1 hI9).1 t ht).1)).mono (fun e w' ⟨h1, h2⟩ => (⟨h1, by rw [h2]; exact Below.refl _ _⟩ : e = Ending.returned (.int .i64 (sizes F)) ∧ Below W.heap.size W w')))
            rw [HLN.out] at HT
            have HBq : Hid (Below w.heap.size w wr) := Lib.hid (HB0.out.trans (HBr.out.mono HB0.out.size))
            have hS4 : ∀ v : Bw wr, v.w.cell? ⟨w.heap.size, 0, none⟩ = some (.int .i64 r) := fun v => (HKr.out.below v.h).cells.1
            have hS5 : ∀ v : Bw wr, v.w.cell? ⟨w.heap.size, 2, none⟩ = some (.slice A k c) := fun v => (HKr.out.below v.h).cells.2.2
            clear hI9 hlt HE HA hk HB0 HK0 HF1 HBr
            by_cases q5 : r < sizes F
            · have d5 : decide (r < sizes F) = true := by simpa using q5
              rw [if_pos q5] at HE2
              clear q5
              go_wp2_with fail
              refine wp_region_below (by kernel_rfl) (by kernel_rfl) ?_
              repeat (go_big_quiet_step ((first | (go_at_call 13; (with_reducible refine calls_bw (HT.out _ ?_)); exact HFr.out.below (Bw.h _)))))
              refine wpQuiet_nil ?_
              intro _ hw'
              obtain ⟨u9, hw''⟩ := hw'
              subst hw''
              clear hS4 hS5
              have hb9 := u9.h
              generalize u9.w = w9 at *
              clear u9
              have HB9 : Hid (Below w.heap.size w w9) := Lib.hid (HBq.out.trans (hb9.mono HBq.out.size))
              go_wp2
              go_ret
              exact ⟨ret_int HE2.out.symm, HB9.out⟩
            · have d5 : decide (r < sizes F) = false := by simpa using q5
              rw [if_neg q5] at HE2
              clear q5
              go_wp2_with fail
              refine wp_region_below (by kernel_rfl) (by kernel_rfl) ?_
              repeat (go_big_quiet_step ((first | (go_at_call 13; (with_reducible refine calls_bw (HT.out _ ?_)); exact HFr.out.below (Bw.h _)))))
              refine wpQuiet_nil ?_
              intro _ hw'
              obtain ⟨u9, hw''⟩ := hw'
              subst hw''
              clear hS4 hS5
              have hb9 := u9.h
              generalize u9.w = w9 at *
              clear u9
              have HB9 : Hid (Below w.heap.size w w9) := Lib.hid (HBq.out.trans (hb9.mono HBq.out.size))
              go_wp2
              go_ret
              exact ⟨ret_int HE2.out.symm, HB9.out⟩
    · rw [decide_eq_false h2] at H2
      have HE : Hid (checkG 8 r fl F = 3) := Lib.hid (by unfold checkG; rw [if_neg (fun hh => h2 hh.2)])
      clear h1 h2
      go_enter Try.func10, Try.ntmps10
      go_wp2_with (first | (with_reducible refine (H1.out _).mono ?_; rintro e w2 ⟨rfl, rfl⟩) | (with_reducible refine (H2.out _).mono ?_; rintro e w2 ⟨rfl, rfl⟩))
      go_ret
      exact ⟨ret_int HE.out.symm, HB0.out⟩
  · rw [decide_eq_false h1] at H1
    have HE : Hid (checkG 8 r fl F = 3) := Lib.hid (by unfold checkG; rw [if_neg (fun hh => h1 hh.1)])
    clear h1
    go_enter Try.func10, Try.ntmps10
    go_wp2_with (first | (with_reducible refine (H1.out _).mono ?_; rintro e w2 ⟨rfl, rfl⟩) | (with_reducible refine (H2.out _).mono ?_; rintro e w2 ⟨rfl, rfl⟩))
    go_ret
    exact ⟨ret_int HE.out.symm, HB0.out⟩

/-- What '==' of two items wants to know of their type. -/
theorem eq_facts : Try.prog.underlying 26 = some (.struct #[⟨"Key", 3, 0, false, "", "", 0⟩, ⟨"Size", 3, 1, false, "", "", 8⟩, ⟨"Cost", 3, 2, false, "", "", 16⟩, ⟨"Worth", 3, 3, false, "", "", 24⟩]) ∧ Try.prog.stoodInHeld 26 = false ∧ Try.prog.eqGuardType Try.prog.depth 26 = false ∧ Try.prog.underlying 3 = some (.int .i64) :=
  ⟨by kernel_rfl, by kernel_rfl, by kernel_rfl, by kernel_rfl⟩

set_option maxHeartbeats 4000000 in
theorem same_any (r fl : Int) (A B : Option Addr) (c d n : Nat) (L : List It) (w : World) (hA : Tss w A c L) (hB : Tss w B d L) (hn : L.length = n) :
    Calls Try.prog 17 #[kv r fl (.slice A n c), kv r fl (.slice B n d)] w fun e w' => e = .returned (.bool true) ∧ Below w.heap.size w w' := by
  have hk1 : Kb ((w.alloc (ko r fl (.slice A n c))).alloc (ko r fl (.slice B n d))) w.heap.size r fl (.slice A n c) := (Kb.new w _ _ _).alloc _
  have hk2 : Kb ((w.alloc (ko r fl (.slice A n c))).alloc (ko r fl (.slice B n d))) (w.heap.size + 1) r fl (.slice B n d) := by
    have := Kb.new (w.alloc (ko r fl (.slice A n c))) r fl (.slice B n d)
    rwa [show (w.alloc (ko r fl (.slice A n c))).heap.size = w.heap.size + 1 by simp] at this
  have HA := Lib.hid ((hA.alloc (ko r fl (.slice A n c))).alloc (ko r fl (.slice B n d)))
  have HB := Lib.hid ((hB.alloc (ko r fl (.slice A n c))).alloc (ko r fl (.slice B n d)))
  have HW : Hid (Below w.heap.size w ((w.alloc (ko r fl (.slice A n c))).alloc (ko r fl (.slice B n d)))) := Lib.hid (bel_al (bel_al (Below.refl _ _) (Nat.le_refl _) _) (by simp) _)
  have HK1 := Lib.hid hk1
  have HK2 := Lib.hid hk2
  have HN := Lib.hid hn
  have hn9 : n ≤ 9223372036854775807 := by rw [← hn]; exact hA.len
  clear hA hB hk1 hk2 hn
  obtain ⟨x0, x1, x2⟩ := HK1.out.cells
  obtain ⟨y0, y1, y2⟩ := HK2.out.cells
  obtain ⟨t1, t2, t3, t4⟩ := eq_facts
  go_enter Try.func17, Try.ntmps17
  go_wp2_with fail
  clear x0 x1 x2 y0 y1 y2
  generalize ((w.alloc (ko r fl (.slice A n c))).alloc (ko r fl (.slice B n d))) = w1 at *
  go_loopw [5] (fun i wr => ∃ k : Nat, k ≤ n ∧ i = .int .i64 (k : Int) ∧ Hid (Below w1.heap.size w1 wr)) (fun i _ => n - (intOf i).toNat)
  case atStart => exact ⟨0, by omega, rfl, Lib.hid (Below.refl _ _)⟩
  case round =>
    obtain ⟨k, hk, rfl, HBr⟩ := hrel
    obtain ⟨x0, x1, x2⟩ := (HK1.out.below HBr.out).cells
    obtain ⟨y0, y1, y2⟩ := (HK2.out.below HBr.out).cells
    by_cases hlt : k < n
    · have hin : (k : Int) < (n : Int) := by omega
      have hiB : (0 : Int) ≤ (k : Int) := by omega
      have hkl : k < L.length := by rw [HN.out]; exact hlt
      obtain ⟨b1, o1, rfl, a0, a1, a2, a3⟩ := (HA.out.below HBr.out).us hkl
      obtain ⟨b2, o2, rfl, c0, c1, c2, c3⟩ := (HB.out.below HBr.out).us hkl
      generalize gt L k = f at *
      obtain ⟨x, z, cc, u⟩ := f
      dsimp only at a0 a1 a2 a3 c0 c1 c2 c3
      clear hkl
      go_wp2_with fail
      go_quiet (fail)
      have HB5 : Hid (Below w1.heap.size w1 (wr.drewN nq)) := Lib.hid (bel_drewN HBr.out nq)
      clear x0 x1 x2 y0 y1 y2 a0 a1 a2 a3 c0 c1 c2 c3
      generalize wr.drewN nq = w5 at *
      go_wp2
      go_roundw
      case rel => exact ⟨k + 1, by omega, by go_num, HB5⟩
      case measure => simp [intOf]; omega
    · obtain rfl : k = n := by omega
      have HB6 : Hid (Below w.heap.size w wr) := Lib.hid (HW.out.trans (HBr.out.mono HW.out.size))
      go_wp2
      go_ret
      exact ⟨rfl, HB6.out⟩

end Go.Proofs.Ytmobohamlimhdaa.Grd
