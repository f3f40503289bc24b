/-
  Package lfu: Check.
-/
import Derived.Test.YtmhhiddnkdcflaaLfuUse
import Derived.Test.YtmhhiddnkdcflaaLruWalks
namespace Go.Proofs.Ytmhhiddnkdcflaa.Lfu
open Go.RowKit
open Lru (isRm isK keysE keysE_zero traceE trace_zero)
set_option linter.unusedVariables false
set_option maxRecDepth 100000

set_option maxHeartbeats 4000000 in
theorem check_any (r : Int) (A : Option Addr) (c : Nat) (F : List Us) (w : World) (hF : Uss w A c F) :
    Calls Try.prog 35 #[kv r (.slice A F.length c)] w fun e w' => e = .returned (.int .i64 (checkK r F)) ∧ Below w.heap.size w w' := by
  have HK0 : Hid (Kb (w.alloc (ko r (.slice A F.length c))) w.heap.size r (.slice A F.length c)) := Lib.hid (Kb.new w r _)
  have HB0 : Hid (Below w.heap.size w (w.alloc (ko r (.slice A F.length c)))) := Lib.hid (bel_al (Below.refl _ _) (Nat.le_refl _) _)
  have HF1 : Hid (Uss (w.alloc (ko r (.slice A F.length c))) A c F) := Lib.hid (hF.alloc _)
  have hlen := hF.len
  obtain ⟨x1, x2, -, -⟩ := HK0.out.cells
  clear hF
  by_cases h1 : 1 ≤ r
  · have p1 : decide (r < 1) = false := by simp; omega
    by_cases h2 : r ≤ 40
    · have p2 : decide (40 < r) = false := by simp; omega
      have hR : isRm r := ⟨h1, h2⟩
      by_cases h3 : r < (F.length : Int)
      · have p3 : decide (r < (F.length : Int)) = true := by simpa using h3
        have HE : Hid (checkK r F = 2) := Lib.hid (by unfold checkK; rw [if_pos hR, if_pos h3])
        clear hR h1 h2 h3
        go_enter Try.func35, Try.ntmps35
        go_wp2
        go_ret
        exact ⟨ret_int HE.out.symm, HB0.out⟩
      · have p3 : decide (r < (F.length : Int)) = false := by simpa using h3
        have HE : Hid (checkK r F = if keysE [] (keys F) = 0 then (if (∀ v ∈ F, okC v.cnt) then 0 else 3) else keysE [] (keys F)) := Lib.hid (by unfold checkK; rw [if_pos hR, if_neg h3])
        clear hR h1 h2 h3
        obtain ⟨ln, hln⟩ : ∃ ln, F.length = ln := ⟨_, rfl⟩
        have HLN := Lib.hid hln
        rw [hln] at HK0 HB0 HF1 x1 x2 p3 hlen
        rw [hln]
        clear hln
        go_enter Try.func35, Try.ntmps35
        go_wp2
        go_loopw [24] (fun i wr => ∃ k : Nat, k ≤ ln ∧ i = .int .i64 (k : Int) ∧ Hid (keysE [] (keys F) = keysE ((keys F).take k) ((keys F).drop k)) ∧ Hid (Below (w.alloc (ko r (.slice A ln c))).heap.size (w.alloc (ko r (.slice A ln c))) wr)) (fun i _ => ln - (intOf i).toNat)
        case atStart => exact ⟨0, by omega, rfl, Lib.hid rfl, Lib.hid (Below.refl _ _)⟩
        case round =>
          obtain ⟨k, hk, rfl, HA, HBr⟩ := hrel
          clear x1 x2
          have HKr := Lib.hid (HK0.out.below HBr.out)
          have HFr := Lib.hid (HF1.out.below HBr.out)
          by_cases hlt : k < ln
          · have hin : (k : Int) < (ln : Int) := by omega
            have hiB : (0 : Int) ≤ (k : Int) := by omega
            have HKL : Hid (k < F.length) := Lib.hid (by rw [HLN.out]; exact hlt)
            obtain ⟨b, o, rfl, e1, e2⟩ := HFr.out.us HKL.out
            have HAt := Lib.hid (keysK_at (L := keys F) (k := k) (x := (gu F k).key) (by rw [keys_len]; exact HKL.out) (keys_get HKL.out))
            obtain ⟨A', hsl, hT'⟩ := uss_upto HFr.out (k := k) (by rw [HLN.out]; exact hk)
            have HT' := Lib.hid hT'
            rw [HLN.out] at hsl
            have hw1 := bel_al (Below.refl wr.heap.size wr) (Nat.le_refl _) (fo (gu F k))
            have HW1 := Lib.hid hw1
            have HFi := Lib.hid (fun (W : World) (hW : Below wr.heap.size wr W) => find_any A' c (F.take k) (gu F k).key W (HT'.out.below hW))
            rw [List.length_take, HLN.out, Nat.min_eq_left hk] at HFi
            have HKa : Hid (Kb (wr.alloc (fo (gu F k))) w.heap.size r (.slice (some ⟨b, o, none⟩) ln c)) := Lib.hid (HKr.out.below HW1.out)
            clear hw1 hT'
            generalize gu F k = f at *
            obtain ⟨x, u⟩ := f
            dsimp only at e1 e2 HAt HFi
            obtain ⟨x1, x2, -, -⟩ := HKr.out.cells
            by_cases q1 : isK x
            · have d1 : decide (isK x) = true := by simpa using q1
              rw [if_pos q1] at HAt
              clear q1
              have HD := Lib.hid (idx_neg (F := F.take k) (x := x))
              rw [keys_take] at HD
              by_cases q2 : x ∈ (keys F).take k
              · rw [if_pos q2] at HAt
                have d2 : decide ((0 : Int) ≤ fnd (F.take k) x) = true := HD.out.trans (by simpa using q2)
                have HR : Hid (checkK r F = 6) := Lib.hid (by have e : keysE [] (keys F) = 6 := HA.out.trans HAt.out; rw [HE.out, e]; rfl)
                clear q2
                generalize fnd (F.take k) x = fi at *
                go_wp2_with fail
                refine (isKey_any x _).mono ?_
                rintro e w2 ⟨rfl, rfl⟩
                rw [d1]
                clear x1 x2 e1 e2
                have HXa : Hid ((wr.alloc (fo ⟨x, u⟩)).cell? ⟨wr.heap.size, 0, none⟩ = some (.int .i64 x)) := Lib.hid (by simp [go_sem])
                have HS : Hid (∀ W, Below (wr.alloc (fo ⟨x, u⟩)).heap.size (wr.alloc (fo ⟨x, u⟩)) W → W.cell? ⟨w.heap.size, 1, none⟩ = some (.slice (some ⟨b, o, none⟩) ln c) ∧ W.cell? ⟨wr.heap.size, 0, none⟩ = some (.int .i64 x)) := Lib.hid (fun W hW => ⟨(HKa.out.below hW).cells.2.1, (hW.cell (p := ⟨wr.heap.size, 0, none⟩) (by simp)).trans HXa.out⟩)
                have HW2 : Hid (∀ W, Below (wr.alloc (fo ⟨x, u⟩)).heap.size (wr.alloc (fo ⟨x, u⟩)) W → Below wr.heap.size wr W) := Lib.hid (fun W hW => HW1.out.trans (hW.mono HW1.out.size))
                obtain ⟨pp, hpp⟩ : ∃ pp, pp = wr.heap.size := ⟨_, rfl⟩
                rw [← hpp] at HS ⊢
                clear hpp HXa
                generalize wr.alloc (.cells #[.int .i64 x, .int .i64 u] 75) = wa at *
                have HF2 := Lib.hid (HFi.out wa.drew (HW2.out _ (Below.refl _ _).drew))
                go_wp2
                go_region_held3 (fun w' => w'.cell? ⟨w.heap.size, 1, none⟩ = some (.slice (some ⟨b, o, none⟩) ln c) ∧ w'.cell? ⟨pp, 0, none⟩ = some (.int .i64 x))
                  (first | exact HS.out _ hB5 | exact HS.out _ (Below.refl _ _).drew)
                  (first | (go_at_call 51; refine HF2.out.mono ?_; rintro e w5 ⟨rfl, hb5⟩; have hB5 : Below wa.heap.size wa w5 := (Below.refl _ _).drew.trans hb5))
                rename_i hHH
                have HB5 : Hid (Below w.heap.size w w5) := Lib.hid (HB0.out.trans ((HBr.out.trans ((HW2.out _ hB5).mono HBr.out.size)).mono HB0.out.size))
                have HB6 := Lib.hid (HBr.out.trans ((HW2.out _ hB5).mono HBr.out.size))
                clear hHH hB5 hb5
                go_wp2
                go_ret
                exact ⟨ret_int HR.out.symm, HB5.out⟩
              · rw [if_neg q2] at HAt
                have d2 : decide ((0 : Int) ≤ fnd (F.take k) x) = false := HD.out.trans (by simpa using q2)
                clear q2
                generalize fnd (F.take k) x = fi at *
                go_wp2_with fail
                refine (isKey_any x _).mono ?_
                rintro e w2 ⟨rfl, rfl⟩
                rw [d1]
                clear x1 x2 e1 e2
                have HXa : Hid ((wr.alloc (fo ⟨x, u⟩)).cell? ⟨wr.heap.size, 0, none⟩ = some (.int .i64 x)) := Lib.hid (by simp [go_sem])
                have HS : Hid (∀ W, Below (wr.alloc (fo ⟨x, u⟩)).heap.size (wr.alloc (fo ⟨x, u⟩)) W → W.cell? ⟨w.heap.size, 1, none⟩ = some (.slice (some ⟨b, o, none⟩) ln c) ∧ W.cell? ⟨wr.heap.size, 0, none⟩ = some (.int .i64 x)) := Lib.hid (fun W hW => ⟨(HKa.out.below hW).cells.2.1, (hW.cell (p := ⟨wr.heap.size, 0, none⟩) (by simp)).trans HXa.out⟩)
                have HW2 : Hid (∀ W, Below (wr.alloc (fo ⟨x, u⟩)).heap.size (wr.alloc (fo ⟨x, u⟩)) W → Below wr.heap.size wr W) := Lib.hid (fun W hW => HW1.out.trans (hW.mono HW1.out.size))
                obtain ⟨pp, hpp⟩ : ∃ pp, pp = wr.heap.size := ⟨_, rfl⟩
                rw [← hpp] at HS ⊢
                clear hpp HXa
                generalize wr.alloc (.cells #[.int .i64 x, .int .i64 u] 75) = wa at *
                have HF2 := Lib.hid (HFi.out wa.drew (HW2.out _ (Below.refl _ _).drew))
                go_wp2
                go_region_held3 (fun w' => w'.cell? ⟨w.heap.size, 1, none⟩ = some (.slice (some ⟨b, o, none⟩) ln c) ∧ w'.cell? ⟨pp, 0, none⟩ = some (.int .i64 x))
                  (first | exact HS.out _ hB5 | exact HS.out _ (Below.refl _ _).drew)
                  (first | (go_at_call 51; refine HF2.out.mono ?_; rintro e w5 ⟨rfl, hb5⟩; have hB5 : Below wa.heap.size wa w5 := (Below.refl _ _).drew.trans hb5))
                rename_i hHH
                have HB5 : Hid (Below w.heap.size w w5) := Lib.hid (HB0.out.trans ((HBr.out.trans ((HW2.out _ hB5).mono HBr.out.size)).mono HB0.out.size))
                have HB6 := Lib.hid (HBr.out.trans ((HW2.out _ hB5).mono HBr.out.size))
                clear hHH hB5 hb5
                go_wp2
                go_roundw
                case rel => exact ⟨k + 1, by omega, by go_num, Lib.hid (HA.out.trans HAt.out), HB6⟩
                case measure => simp [intOf]; omega
            · have d1 : decide (isK x) = false := by simpa using q1
              rw [if_neg q1] at HAt
              have HR : Hid (checkK r F = 3) := Lib.hid (by have e : keysE [] (keys F) = 3 := HA.out.trans HAt.out; rw [HE.out, e]; rfl)
              have HB5 : Hid (Below w.heap.size w (wr.alloc (fo ⟨x, u⟩))) := Lib.hid (HB0.out.trans ((HBr.out.trans (HW1.out.mono HBr.out.size)).mono HB0.out.size))
              clear q1
              go_wp2_with fail
              refine (isKey_any x _).mono ?_
              rintro e w2 ⟨rfl, rfl⟩
              rw [d1]
              go_wp2
              go_ret
              exact ⟨ret_int HR.out.symm, HB5.out⟩
          · obtain rfl : k = ln := by omega
            have HK9 : Hid (keysE [] (keys F) = 0) := Lib.hid (by rw [HA.out, List.drop_of_length_le (by rw [keys_len, HLN.out]; exact Nat.le_refl _)]; cases (keys F).take k <;> rfl)
            have HE2 : Hid (checkK r F = if (∀ v ∈ F, okC v.cnt) then 0 else 3) := Lib.hid (by rw [HE.out, if_pos HK9.out])
            obtain ⟨x1, x2, -, -⟩ := HKr.out.cells
            clear hlt HE HA hk HB0 HK0 HF1
            have HBq : Hid (Below w.heap.size w wr) := Lib.hid ((bel_al (Below.refl _ _) (Nat.le_refl _) _).trans (HBr.out.mono (by simp)))
            clear HBr
            generalize wr = w5 at *
            go_wp2
            go_loopw [45] (fun i wr => ∃ j : Nat, j ≤ k ∧ i = .int .i64 (j : Int) ∧ Hid (∀ m, m < j → okC (gu F m).cnt) ∧ Hid (Below w5.heap.size w5 wr)) (fun i _ => k - (intOf i).toNat)
            case atStart => exact ⟨0, by omega, rfl, Lib.hid (fun m hm => by omega), Lib.hid (Below.refl _ _)⟩
            case round =>
              obtain ⟨j, hj, rfl, HC, HBw⟩ := hrel
              clear x1 x2
              have HFq := Lib.hid (HFr.out.below HBw.out)
              have HBf : Hid (Below w.heap.size w wr) := Lib.hid (HBq.out.trans (HBw.out.mono HBq.out.size))
              by_cases hlt : j < k
              · have hin : (j : Int) < (k : Int) := by omega
                have hiB : (0 : Int) ≤ (j : Int) := by omega
                have HJL : Hid (j < F.length) := Lib.hid (by rw [HLN.out]; exact hlt)
                obtain ⟨b, o, rfl, e1, e2⟩ := HFq.out.us HJL.out
                have HBa : Hid (Below w.heap.size w (wr.alloc (fo (gu F j)))) := Lib.hid (bel_al HBf.out HBf.out.size _)
                have HBb : Hid (Below w5.heap.size w5 (wr.alloc (fo (gu F j)))) := Lib.hid (bel_al HBw.out HBw.out.size _)
                have HFa : Hid ((gu F j) ∈ F) := Lib.hid (gu_mem HJL.out)
                have HCj : Hid (∀ q, okC (gu F j).cnt → ∀ m, m < q → q = j + 1 → okC (gu F m).cnt) := Lib.hid (fun q hc m hm hq => by
                  subst hq
                  rcases Nat.lt_or_ge m j with e | e
                  · exact HC.out m e
                  · obtain rfl : m = j := by omega
                    exact hc)
                have n1 : (wr.alloc (fo (gu F j))).cell? ⟨wr.heap.size, 1, none⟩ = some (.int .i64 (gu F j).cnt) := by simp [go_sem]
                generalize gu F j = f at *
                obtain ⟨x, u⟩ := f
                dsimp only at e1 e2 n1 HCj HFa
                by_cases q1 : u < 1
                · have d1 : decide (u < 1) = true := by simpa using q1
                  have HR : Hid (checkK r F = 3) := Lib.hid (by rw [HE2.out, if_neg (fun hh => by have := (hh _ HFa.out).1; dsimp only at this; omega)])
                  clear q1
                  go_wp2
                  go_ret
                  exact ⟨ret_int HR.out.symm, HBa.out⟩
                · have d1 : decide (u < 1) = false := by simpa using q1
                  by_cases q2 : 1099511627776 < u
                  · have d2 : decide (1099511627776 < u) = true := by simpa using q2
                    have HR : Hid (checkK r F = 3) := Lib.hid (by rw [HE2.out, if_neg (fun hh => by have := (hh _ HFa.out).2; dsimp only at this; omega)])
                    clear q1 q2
                    go_wp2
                    go_ret
                    exact ⟨ret_int HR.out.symm, HBa.out⟩
                  · have d2 : decide (1099511627776 < u) = false := by simpa using q2
                    have HO : Hid (okC u) := Lib.hid ⟨by omega, by omega⟩
                    clear q1 q2
                    go_wp2
                    go_roundw
                    case rel => exact ⟨j + 1, by omega, by go_num, Lib.hid (fun m hm => HCj.out (j + 1) HO.out m hm rfl), HBb⟩
                    case measure => simp [intOf]; omega
              · obtain rfl : j = k := by omega
                have HR : Hid (checkK r F = 0) := Lib.hid (by
                  rw [HE2.out, if_pos]
                  intro v hv
                  obtain ⟨m, hm, e⟩ := List.getElem_of_mem hv
                  have := HC.out m (by rw [← HLN.out]; exact hm)
                  rwa [gu_get hm, e] at this)
                go_wp2
                go_ret
                exact ⟨ret_int HR.out.symm, HBf.out⟩
    · have p2 : decide (40 < r) = true := by simp; omega
      have HE : Hid (checkK r F = 3) := Lib.hid (by unfold checkK; rw [if_neg (fun hh => h2 hh.2)])
      clear h1 h2
      go_enter Try.func35, Try.ntmps35
      go_wp2
      go_ret
      exact ⟨ret_int HE.out.symm, HB0.out⟩
  · have p1 : decide (r < 1) = true := by simp; omega
    have HE : Hid (checkK r F = 3) := Lib.hid (by unfold checkK; rw [if_neg (fun hh => h1 hh.1)])
    clear h1
    go_enter Try.func35, Try.ntmps35
    go_wp2
    go_ret
    exact ⟨ret_int HE.out.symm, HB0.out⟩

end Go.Proofs.Ytmhhiddnkdcflaa.Lfu
