/-
  Package greedy: Check.
-/
import Derived.Test.YtmobohamlimhdaaGrUse
namespace Go.Proofs.Ytmobohamlimhdaa.Grd
open Go.RowKit
open Lru (isK)
set_option linter.unusedVariables false
set_option maxRecDepth 100000

theorem itE_at {fl : Int} {L : List It} {k : Nat} (hk : k < L.length) : itE fl (L.take k) (L.drop k) = if okI (gt L k) ∧ fl ≤ (gt L k).worth ∧ (gt L k).worth ≤ 1125899906842624 then (if (gt L k).key ∈ keys (L.take k) then 6 else itE fl (L.take (k + 1)) (L.drop (k + 1))) else 3 := by
  rw [gt_get hk, List.drop_eq_getElem_cons hk]
  have : L.take (k + 1) = L.take k ++ [L[k]] := by rw [List.take_add_one, List.getElem?_eq_getElem hk]; rfl
  rw [this]
  rfl
theorem itE_end {fl : Int} {L : List It} {n : Nat} (h : L.length = n) : itE fl (L.take n) (L.drop n) = 0 := by
  rw [List.drop_of_length_le (by omega)]; rfl

abbrev CkC (r fl : Int) (v : Value) (F : List It) (W : World) : Prop := Calls Try.prog 16 #[kv r fl v] W fun e w' => e = .returned (.int .i64 (checkG 8 r fl F)) ∧ Below W.heap.size W w'

set_option maxHeartbeats 4000000 in
theorem check_any (r fl : Int) (A : Option Addr) (c : Nat) (F : List It) (w : World) (hF : Tss w A c F) : CkC r fl (.slice A F.length c) F w := by
  unfold CkC
  have HK0 : Hid (Kb (w.alloc (ko r fl (.slice A F.length c))) w.heap.size r fl (.slice A F.length c)) := Lib.hid (Kb.new w r fl _)
  have HB0 : Hid (Below w.heap.size w (w.alloc (ko r fl (.slice A F.length c)))) := Lib.hid (bel_al (Below.refl _ _) (Nat.le_refl _) _)
  have HF1 : Hid (Tss (w.alloc (ko r fl (.slice A F.length c))) A c F) := Lib.hid (hF.alloc _)
  have hlen := hF.len
  have H1 : Hid (∀ W : World, Calls Try.prog 30 #[.int .i64 r] W fun e w' => e = .returned (.bool (decide (isSz r))) ∧ W = w') := Lib.hid (fun W => isSize_any r W)
  obtain ⟨x0, x1, x2⟩ := HK0.out.cells
  clear hF
  by_cases h1 : isSz r
  · rw [decide_eq_true h1] at H1
    by_cases h2 : fl < 0
    · have p2 : decide (fl < 0) = true := by simpa using h2
      have HE : Hid (checkG 8 r fl F = 3) := Lib.hid (by unfold checkG; rw [if_neg (fun hh => by have := hh.2.1; omega)])
      clear h1 h2
      go_enter Try.func16, Try.ntmps16
      go_wp2_with (with_reducible refine (H1.out _).mono ?_; rintro e w2 ⟨rfl, rfl⟩)
      go_ret
      exact ⟨ret_int HE.out.symm, HB0.out⟩
    · have p2 : decide (fl < 0) = false := by simpa using h2
      by_cases h3 : 1125899906842624 < fl
      · have p3 : decide (1125899906842624 < fl) = true := by simpa using h3
        have HE : Hid (checkG 8 r fl F = 3) := Lib.hid (by unfold checkG; rw [if_neg (fun hh => by have := hh.2.2; omega)])
        clear h1 h2 h3
        go_enter Try.func16, Try.ntmps16
        go_wp2_with (with_reducible refine (H1.out _).mono ?_; rintro e w2 ⟨rfl, rfl⟩)
        go_ret
        exact ⟨ret_int HE.out.symm, HB0.out⟩
      · have p3 : decide (1125899906842624 < fl) = false := by simpa using h3
        have hR : isSz r ∧ isWo fl := ⟨h1, by omega, by omega⟩
        clear h1 h2 h3
        by_cases h4 : 40 < F.length
        · have p4 : decide ((40 : Int) < (F.length : Int)) = true := by simp; omega
          have HE : Hid (checkG 8 r fl F = 2) := Lib.hid (by unfold checkG; rw [if_pos hR, if_pos h4])
          clear hR h4
          go_enter Try.func16, Try.ntmps16
          go_wp2_with (with_reducible refine (H1.out _).mono ?_; rintro e w2 ⟨rfl, rfl⟩)
          go_ret
          exact ⟨ret_int HE.out.symm, HB0.out⟩
        · have p4 : decide ((40 : Int) < (F.length : Int)) = false := by simp; omega
          have HE : Hid (checkG 8 r fl F = if itE fl [] F = 0 then (if r < sizes F then 8 else 0) else itE fl [] F) := Lib.hid (by unfold checkG; rw [if_pos hR, if_neg h4])
          have H40 : Hid (F.length ≤ 40) := Lib.hid (by omega)
          clear hR h4
          obtain ⟨ln, hln⟩ : ∃ ln, F.length = ln := ⟨_, rfl⟩
          have HLN := Lib.hid hln
          rw [hln] at HK0 HB0 HF1 x0 x1 x2 p4 hlen
          rw [hln]
          clear hln
          go_enter Try.func16, Try.ntmps16
          go_wp2_with (with_reducible refine (H1.out _).mono ?_; rintro e w2 ⟨rfl, rfl⟩)
          go_loopw [28] (fun i wr => ∃ k : Nat, k ≤ ln ∧ i = .int .i64 (k : Int) ∧ Hid (itE fl [] F = itE fl (F.take k) (F.drop k)) ∧ Hid (Below (w.alloc (ko r fl (.slice A ln c))).heap.size (w.alloc (ko r fl (.slice A ln c))) wr)) (fun i _ => ln - (intOf i).toNat)
          case atStart => exact ⟨0, by omega, rfl, Lib.hid rfl, Lib.hid (Below.refl _ _)⟩
          case round =>
            obtain ⟨k, hk, rfl, HA, HBr⟩ := hrel
            clear x0 x1 x2 p4
            have HKr := Lib.hid (HK0.out.below HBr.out)
            have HFr := Lib.hid (HF1.out.below HBr.out)
            by_cases hlt : k < ln
            · have hin : (k : Int) < (ln : Int) := by omega
              have hiB : (0 : Int) ≤ (k : Int) := by omega
              have HKL : Hid (k < F.length) := Lib.hid (by rw [HLN.out]; exact hlt)
              obtain ⟨b, o, rfl, e1, e2, e3, e4⟩ := HFr.out.us HKL.out
              have HAt := Lib.hid (itE_at (fl := fl) (L := F) (k := k) HKL.out)
              obtain ⟨A', hsl, hT'⟩ := tss_upto HFr.out (k := k) (by rw [HLN.out]; exact hk)
              have HT' := Lib.hid hT'
              rw [HLN.out] at hsl
              have HW1 := Lib.hid (bel_al (Below.refl wr.heap.size wr) (Nat.le_refl _) (fo (gt F k)))
              have HFi := Lib.hid (fun (W : World) (hW : Below wr.heap.size wr W) => find_any A' c (F.take k) (gt F k).key W (HT'.out.below hW))
              rw [List.length_take, HLN.out, Nat.min_eq_left hk] at HFi
              have HKa : Hid (Kb (wr.alloc (fo (gt F k))) w.heap.size r fl (.slice (some ⟨b, o, none⟩) ln c)) := Lib.hid (HKr.out.below HW1.out)
              have HIa : Hid (Ib (wr.alloc (fo (gt F k))) wr.heap.size (gt F k)) := Lib.hid (Ib.new wr _)
              have HD := Lib.hid (idx_neg (F := F.take k) (x := (gt F k).key))
              have HIs : Hid (∀ W : World, Calls Try.prog 21 #[fv (gt F k)] W fun e w' => e = .returned (.bool (decide (okI (gt F k)))) ∧ Below W.heap.size W w') := Lib.hid (fun W => isItem_any (gt F k) W)
              clear hT'
              generalize gt F k = f at *
              obtain ⟨x, z, cc, u⟩ := f
              dsimp only at e1 e2 e3 e4 HAt HFi HD
              have HIs' : Hid (Calls Try.prog 21 #[fv ⟨x, z, cc, u⟩] (wr.alloc (fo ⟨x, z, cc, u⟩)) fun e w' => e = .returned (.bool (decide (okI ⟨x, z, cc, u⟩))) ∧ Kb w' w.heap.size r fl (.slice (some ⟨b, o, none⟩) ln c) ∧ Ib w' wr.heap.size ⟨x, z, cc, u⟩ ∧ Below wr.heap.size wr w') := Lib.hid (by
                refine (HIs.out _).mono ?_
                rintro e w' ⟨rfl, hb⟩
                exact ⟨rfl, HKa.out.below hb, HIa.out.below hb, HW1.out.trans (hb.mono HW1.out.size)⟩)
              have HBx : Hid (∀ W, Below wr.heap.size wr W → Below w.heap.size w W) := Lib.hid (fun W hW => HB0.out.trans ((HBr.out.trans (hW.mono HBr.out.size)).mono HB0.out.size))
              have HBy : Hid (∀ W, Below wr.heap.size wr W → Below (w.alloc (ko r fl (.slice (some ⟨b, o, none⟩) ln c))).heap.size (w.alloc (ko r fl (.slice (some ⟨b, o, none⟩) ln c))) W) := Lib.hid (fun W hW => HBr.out.trans (hW.mono HBr.out.size))
              clear HIs HKa HIa HW1
              obtain ⟨n0, n1, n2, n3⟩ := (Ib.new wr ⟨x, z, cc, u⟩).cells
              by_cases q1 : okI ⟨x, z, cc, u⟩
              · rw [decide_eq_true q1] at HIs'
                by_cases q2 : u < fl
                · have d2 : decide (u < fl) = true := by simpa using q2
                  rw [if_neg (fun hh => by have := hh.2.1; omega)] at HAt
                  have HR : Hid (checkG 8 r fl F = 3) := Lib.hid (by have e : itE fl [] F = 3 := HA.out.trans HAt.out; rw [HE.out, e]; rfl)
                  clear q1 q2
                  go_wp2_with fail
                  refine HIs'.out.mono ?_
                  rintro e w2 ⟨rfl, hk2, hi2, hb2⟩
                  have HB2 := Lib.hid hb2
                  obtain ⟨x0, x1, x2⟩ := hk2.cells
                  obtain ⟨i0, i1, i2, i3⟩ := hi2.cells
                  clear hk2 hi2 hb2 n0 n1 n2 n3
                  go_wp2
                  go_ret
                  exact ⟨ret_int HR.out.symm, HBx.out _ HB2.out⟩
                · have d2 : decide (u < fl) = false := by simpa using q2
                  by_cases q3 : 1125899906842624 < u
                  · have d3 : decide (1125899906842624 < u) = true := by simpa using q3
                    rw [if_neg (fun hh => by have := hh.2.2; omega)] at HAt
                    have HR : Hid (checkG 8 r fl F = 3) := Lib.hid (by have e : itE fl [] F = 3 := HA.out.trans HAt.out; rw [HE.out, e]; rfl)
                    clear q1 q2 q3
                    go_wp2_with fail
                    refine HIs'.out.mono ?_
                    rintro e w2 ⟨rfl, hk2, hi2, hb2⟩
                    have HB2 := Lib.hid hb2
                    obtain ⟨x0, x1, x2⟩ := hk2.cells
                    obtain ⟨i0, i1, i2, i3⟩ := hi2.cells
                    clear hk2 hi2 hb2 n0 n1 n2 n3
                    go_wp2
                    go_ret
                    exact ⟨ret_int HR.out.symm, HBx.out _ HB2.out⟩
                  · have d3 : decide (1125899906842624 < u) = false := by simpa using q3
                    rw [if_pos ⟨q1, by omega, by omega⟩] at HAt
                    by_cases q4 : x ∈ keys (F.take k)
                    · rw [if_pos q4] at HAt
                      have d4 : decide ((0 : Int) ≤ fnd (F.take k) x) = true := HD.out.trans (by simpa using q4)
                      have HR : Hid (checkG 8 r fl F = 6) := Lib.hid (by have e : itE fl [] F = 6 := HA.out.trans HAt.out; rw [HE.out, e]; rfl)
                      clear q1 q2 q3 q4 HD
                      generalize fnd (F.take k) x = fi at *
                      go_wp2_with fail
                      refine HIs'.out.mono ?_
                      rintro e w2 ⟨rfl, hk2, hi2, hb2⟩
                      have HB2 := Lib.hid hb2
                      obtain ⟨x0, x1, x2⟩ := hk2.cells
                      obtain ⟨i0, i1, i2, i3⟩ := hi2.cells
                      have HS : Hid (∀ W, Below w2.heap.size w2 W → W.cell? ⟨w.heap.size, 2, none⟩ = some (.slice (some ⟨b, o, none⟩) ln c) ∧ W.cell? ⟨wr.heap.size, 0, none⟩ = some (.int .i64 x)) := Lib.hid (fun W hW => ⟨(hk2.below hW).cells.2.2, (hi2.below hW).cells.1⟩)
                      have HF2 := Lib.hid (HFi.out w2.drew hb2.drew)
                      clear hk2 hi2 hb2 n0 n1 n2 n3
                      obtain ⟨pp, hpp⟩ : ∃ pp, pp = wr.heap.size := ⟨_, rfl⟩
                      rw [← hpp] at HS i0 i1 i2 i3 ⊢
                      clear hpp
                      go_wp2
                      clear i0 i1 i2 i3 x0 x1 x2
                      go_region_held3 (fun w' => w'.cell? ⟨w.heap.size, 2, none⟩ = some (.slice (some ⟨b, o, none⟩) ln c) ∧ w'.cell? ⟨pp, 0, none⟩ = some (.int .i64 x))
                        (first | exact HS.out _ hB5 | exact HS.out _ (Below.refl _ _).drew)
                        (first | (go_at_call 23; refine HF2.out.mono ?_; rintro e w5 ⟨rfl, hb5⟩; have hB5 : Below w2.heap.size w2 w5 := (Below.refl _ _).drew.trans hb5))
                      rename_i hHH
                      have HB5 := Lib.hid (HBx.out _ (HB2.out.trans (hB5.mono HB2.out.size)))
                      clear hHH hB5 hb5
                      go_wp2
                      go_ret
                      exact ⟨ret_int HR.out.symm, HB5.out⟩
                    · rw [if_neg q4] at HAt
                      have d4 : decide ((0 : Int) ≤ fnd (F.take k) x) = false := HD.out.trans (by simpa using q4)
                      clear q1 q2 q3 q4 HD
                      generalize fnd (F.take k) x = fi at *
                      go_wp2_with fail
                      refine HIs'.out.mono ?_
                      rintro e w2 ⟨rfl, hk2, hi2, hb2⟩
                      have HB2 := Lib.hid hb2
                      obtain ⟨x0, x1, x2⟩ := hk2.cells
                      obtain ⟨i0, i1, i2, i3⟩ := hi2.cells
                      have HS : Hid (∀ W, Below w2.heap.size w2 W → W.cell? ⟨w.heap.size, 2, none⟩ = some (.slice (some ⟨b, o, none⟩) ln c) ∧ W.cell? ⟨wr.heap.size, 0, none⟩ = some (.int .i64 x)) := Lib.hid (fun W hW => ⟨(hk2.below hW).cells.2.2, (hi2.below hW).cells.1⟩)
                      have HF2 := Lib.hid (HFi.out w2.drew hb2.drew)
                      clear hk2 hi2 hb2 n0 n1 n2 n3
                      obtain ⟨pp, hpp⟩ : ∃ pp, pp = wr.heap.size := ⟨_, rfl⟩
                      rw [← hpp] at HS i0 i1 i2 i3 ⊢
                      clear hpp
                      go_wp2
                      clear i0 i1 i2 i3 x0 x1 x2
                      go_region_held3 (fun w' => w'.cell? ⟨w.heap.size, 2, none⟩ = some (.slice (some ⟨b, o, none⟩) ln c) ∧ w'.cell? ⟨pp, 0, none⟩ = some (.int .i64 x))
                        (first | exact HS.out _ hB5 | exact HS.out _ (Below.refl _ _).drew)
                        (first | (go_at_call 23; refine HF2.out.mono ?_; rintro e w5 ⟨rfl, hb5⟩; have hB5 : Below w2.heap.size w2 w5 := (Below.refl _ _).drew.trans hb5))
                      rename_i hHH
                      have HB5 := Lib.hid (HBy.out _ (HB2.out.trans (hB5.mono HB2.out.size)))
                      clear hHH hB5 hb5
                      go_wp2
                      go_roundw
                      case rel => exact ⟨k + 1, by omega, by go_num, Lib.hid (HA.out.trans HAt.out), HB5⟩
                      case measure => simp [intOf]; omega
              · rw [decide_eq_false q1] at HIs'
                rw [if_neg (fun hh => q1 hh.1)] at HAt
                have HR : Hid (checkG 8 r fl F = 3) := Lib.hid (by have e : itE fl [] F = 3 := HA.out.trans HAt.out; rw [HE.out, e]; rfl)
                clear q1
                go_wp2_with fail
                refine HIs'.out.mono ?_
                rintro e w2 ⟨rfl, hk2, hi2, hb2⟩
                have HB2 := Lib.hid hb2
                clear hk2 hi2 hb2 n0 n1 n2 n3
                go_wp2
                go_ret
                exact ⟨ret_int HR.out.symm, HBx.out _ HB2.out⟩
            · obtain rfl : k = ln := by omega
              have hI9 : itE fl [] F = 0 := HA.out.trans (itE_end HLN.out)
              have HE2 : Hid (checkG 8 r fl F = if r < sizes F then 8 else 0) := Lib.hid (by rw [HE.out, if_pos hI9])
              have HT := Lib.hid (total_any A c F wr HFr.out H40.out (fun t ht => ((itE_zero.1 hI9).1 t ht).1))
              rw [HLN.out] at HT
              have HBq : Hid (Below w.heap.size w wr) := Lib.hid (HB0.out.trans (HBr.out.mono HB0.out.size))
              clear hI9 hlt HE HA hk HB0 HK0 HF1 HBr
              obtain ⟨x0, x1, x2⟩ := HKr.out.cells
              by_cases q5 : r < sizes F
              · have d5 : decide (r < sizes F) = true := by simpa using q5
                rw [if_pos q5] at HE2
                clear q5
                go_wp2_with fail
                refine HT.out.mono ?_
                rintro e w2 ⟨rfl, hb2⟩
                obtain ⟨y0, y1, y2⟩ := (HKr.out.below hb2).cells
                have HB2 : Hid (Below w.heap.size w w2) := Lib.hid (HBq.out.trans (hb2.mono HBq.out.size))
                clear hb2 x0 x1 x2
                go_wp2
                go_ret
                exact ⟨ret_int HE2.out.symm, HB2.out⟩
              · have d5 : decide (r < sizes F) = false := by simpa using q5
                rw [if_neg q5] at HE2
                clear q5
                go_wp2_with fail
                refine HT.out.mono ?_
                rintro e w2 ⟨rfl, hb2⟩
                obtain ⟨y0, y1, y2⟩ := (HKr.out.below hb2).cells
                have HB2 : Hid (Below w.heap.size w w2) := Lib.hid (HBq.out.trans (hb2.mono HBq.out.size))
                clear hb2 x0 x1 x2
                go_wp2
                go_ret
                exact ⟨ret_int HE2.out.symm, HB2.out⟩
  · rw [decide_eq_false h1] at H1
    have HE : Hid (checkG 8 r fl F = 3) := Lib.hid (by unfold checkG; rw [if_neg (fun hh => h1 hh.1)])
    clear h1
    go_enter Try.func16, Try.ntmps16
    go_wp2_with (with_reducible refine (H1.out _).mono ?_; rintro e w2 ⟨rfl, rfl⟩)
    go_ret
    exact ⟨ret_int HE.out.symm, HB0.out⟩

end Go.Proofs.Ytmobohamlimhdaa.Grd
