/-
  Package shard: Check.
-/
import Derived.Test.YtjmhemkbfephpaaShWalks
namespace Go.Proofs.Ytjmhemkbfephpaa.Shd
open Go.RowKit
set_option linter.unusedVariables false
set_option maxRecDepth 100000

set_option maxHeartbeats 4000000 in
theorem check_any (A : Option Addr) (c : Nat) (F : List Sh) (w : World) (hF : Shs w A c F) (hN : Nms F) :
    Calls Try.prog 45 #[.slice A F.length c] w fun e w' => e = .returned (.int .i64 (chk F)) ∧ Below w.heap.size w w' := by
  have hlen := hF.len
  by_cases h1 : 20 < F.length
  · have p1 : decide ((20 : Int) < (F.length : Int)) = true := by simp; omega
    have HE : Hid (chk F = 2) := Lib.hid (by unfold chk; rw [if_pos h1])
    clear h1 hF
    go_enter Try.func45, Try.ntmps45
    go_wp2
    go_ret
    exact ⟨ret_int HE.out.symm, Below.refl _ _⟩
  · have p1 : decide ((20 : Int) < (F.length : Int)) = false := by simp; omega
    have HE : Hid (chk F = scan (atE F) 0 F.length) := Lib.hid (by unfold chk; rw [if_neg h1])
    clear h1
    have HF := Lib.hid hF
    have HN := Lib.hid hN
    clear hF hN
    obtain ⟨ln, hln⟩ : ∃ ln, F.length = ln := ⟨_, rfl⟩
    have HLN := Lib.hid hln
    rw [hln] at p1 hlen HE
    rw [hln]
    clear hln
    go_enter Try.func45, Try.ntmps45
    go_wp2
    go_loopw [10] (fun i wr => ∃ k : Nat, k ≤ ln ∧ i = .int .i64 (k : Int) ∧ Hid (scan (atE F) 0 ln = scan (atE F) k (ln - k)) ∧ Hid (Below w.heap.size w wr)) (fun i _ => ln - (intOf i).toNat)
    case atStart => exact ⟨0, by omega, rfl, Lib.hid rfl, Lib.hid (Below.refl _ _)⟩
    case round =>
      obtain ⟨k, hk, rfl, HA, HBr⟩ := hrel
      clear p1
      have HFr := Lib.hid (HF.out.below HBr.out)
      by_cases hlt : k < ln
      · have hin : (k : Int) < (ln : Int) := by omega
        have hiB : (0 : Int) ≤ (k : Int) := by omega
        have HKL : Hid (k < F.length) := Lib.hid (by rw [HLN.out]; exact hlt)
        obtain ⟨b, o, rfl, e1, e2⟩ := HFr.out.sh HKL.out
        have hs := HN.out k HKL.out
        unfold maxLen at hs
        obtain ⟨A', hsl, hT'⟩ := shs_upto HFr.out (k := k) (by rw [HLN.out]; exact hk)
        have HT' := Lib.hid hT'
        rw [HLN.out] at hsl
        have HSL := Lib.hid hsl
        have HD := Lib.hid (hn_dup (L := F) (i := k) HKL.out)
        have HGO := Lib.hid (fun (e : atE F k = 0) => HA.out.trans (scan_go hlt e))
        have HHIT := Lib.hid (fun (e : atE F k ≠ 0) => HE.out.trans (HA.out.trans (scan_hit hlt e)))
        have HONE := Lib.hid (fun (h : oneE (gs F k) ≠ 0) => atE_one h)
        have HDUP := Lib.hid (fun (h : oneE (gs F k) = 0) (hd : dup F k) => atE_dup h hd)
        have HOK := Lib.hid (fun (h : oneE (gs F k) = 0) (hd : ¬ dup F k) => atE_ok h hd)
        have HIa : Hid (Sb (wr.alloc (fo (gs F k))) wr.heap.size (gs F k)) := Lib.hid (Sb.new wr _)
        have HBa : Hid (Below w.heap.size w (wr.alloc (fo (gs F k)))) := Lib.hid (bel_al HBr.out HBr.out.size _)
        have HFi := Lib.hid (fun (W : World) (hW : Below wr.heap.size wr W) => hasName_any A' c (F.take k) (gs F k).name W (HT'.out.below hW))
        rw [List.length_take, HLN.out, Nat.min_eq_left hk] at HFi
        have HFa : Hid (∀ (W : World), Below (wr.alloc (fo (gs F k))).heap.size (wr.alloc (fo (gs F k))) W → Below wr.heap.size wr W) := Lib.hid (fun W hW => (bel_al (Below.refl wr.heap.size wr) (Nat.le_refl _) (fo (gs F k))).trans (hW.mono (bel_al (Below.refl wr.heap.size wr) (Nat.le_refl _) (fo (gs F k))).size))
        clear hT' hsl
        generalize gs F k = f at *
        obtain ⟨nm, wt⟩ := f
        dsimp only at e1 e2 hs HFi HD HONE HDUP HOK
        obtain ⟨i0, i1⟩ := HIa.out.cells
        dsimp only at i0 i1
        by_cases q1 : wt < 1
        · have d1 : decide (wt < 1) = true := by simpa using q1
          have ho : oneE ⟨nm, wt⟩ = 3 := by unfold oneE; rw [if_pos (fun hh => by have h' : 1 ≤ wt := hh.1; omega)]
          have HR : Hid (chk F = 3) := Lib.hid (by have e := HONE.out (by rw [ho]; decide); rw [HHIT.out (by rw [e, ho]; decide), e, ho])
          clear q1 ho
          go_wp2
          go_ret
          exact ⟨ret_int HR.out.symm, HBa.out⟩
        · have d1 : decide (wt < 1) = false := by simpa using q1
          by_cases q2 : 8 < wt
          · have d2 : decide (8 < wt) = true := by simpa using q2
            have ho : oneE ⟨nm, wt⟩ = 3 := by unfold oneE; rw [if_pos (fun hh => by have h' : wt ≤ 8 := hh.2; omega)]
            have HR : Hid (chk F = 3) := Lib.hid (by have e := HONE.out (by rw [ho]; decide); rw [HHIT.out (by rw [e, ho]; decide), e, ho])
            clear q1 q2 ho
            go_wp2
            go_ret
            exact ⟨ret_int HR.out.symm, HBa.out⟩
          · have d2 : decide (8 < wt) = false := by simpa using q2
            by_cases q3 : 40 < nm.size
            · have d3 : decide ((40 : Int) < (nm.size : Int)) = true := by simp; omega
              have ho : oneE ⟨nm, wt⟩ = 2 := by unfold oneE; rw [if_neg (fun hh => hh ⟨by show 1 ≤ wt; omega, by show wt ≤ 8; omega⟩), if_pos q3]
              have HR : Hid (chk F = 2) := Lib.hid (by have e := HONE.out (by rw [ho]; decide); rw [HHIT.out (by rw [e, ho]; decide), e, ho])
              clear q1 q2 q3 ho
              go_wp2
              go_ret
              exact ⟨ret_int HR.out.symm, HBa.out⟩
            · have d3 : decide ((40 : Int) < (nm.size : Int)) = false := by simp; omega
              have ho : oneE ⟨nm, wt⟩ = 0 := oneE_zero.2 ⟨⟨by show 1 ≤ wt; omega, by show wt ≤ 8; omega⟩, by show nm.size ≤ 40; omega⟩
              have HS : Hid (∀ W, Below (wr.alloc (fo ⟨nm, wt⟩)).heap.size (wr.alloc (fo ⟨nm, wt⟩)) W → W.cell? ⟨wr.heap.size, 0, none⟩ = some (.string nm)) := Lib.hid (fun W hW => (HIa.out.below hW).cells.1)
              obtain ⟨bd, hbd⟩ : ∃ bd, hn (F.take k) nm = bd := ⟨_, rfl⟩
              rw [hbd] at HFi HD
              have HOo := Lib.hid ho
              clear q1 q2 q3 hbd ho
              cases bd with
              | true =>
                have HR : Hid (chk F = 6) := Lib.hid (by have e := HDUP.out HOo.out (HD.out.1 rfl); rw [HHIT.out (by rw [e]; decide), e])
                have HF2 := Lib.hid (HFi.out (wr.alloc (fo ⟨nm, wt⟩)).drew (HFa.out _ (Below.refl _ _).drew))
                go_wp2
                clear i0 i1
                have hsl := HSL.out
                obtain ⟨pp, hpp⟩ : ∃ pp, pp = wr.heap.size := ⟨_, rfl⟩
                rw [← hpp] at HS ⊢
                clear hpp
                generalize wr.alloc (fo ⟨nm, wt⟩) = w2 at *
                go_region_held3 (fun w' => w'.cell? ⟨pp, 0, none⟩ = some (.string nm))
                  (first | exact HS.out _ hB5 | exact HS.out _ (Below.refl _ _).drew)
                  (first | (go_at_call 63; refine HF2.out.mono ?_; rintro e w5 ⟨rfl, hb5⟩; have hB5 : Below w2.heap.size w2 w5 := (Below.refl _ _).drew.trans hb5))
                rename_i hHH
                have HB5 := Lib.hid (HBa.out.trans (hB5.mono HBa.out.size))
                clear hHH hB5 hb5
                go_wp2
                go_ret
                exact ⟨ret_int HR.out.symm, HB5.out⟩
              | false =>
                have HA' : Hid (scan (atE F) 0 ln = scan (atE F) (k + 1) (ln - (k + 1))) := Lib.hid (HGO.out (HOK.out HOo.out (fun hd => by have := HD.out.2 hd; cases this)))
                have HF2 := Lib.hid (HFi.out (wr.alloc (fo ⟨nm, wt⟩)).drew (HFa.out _ (Below.refl _ _).drew))
                go_wp2
                clear i0 i1
                have hsl := HSL.out
                obtain ⟨pp, hpp⟩ : ∃ pp, pp = wr.heap.size := ⟨_, rfl⟩
                rw [← hpp] at HS ⊢
                clear hpp
                generalize wr.alloc (fo ⟨nm, wt⟩) = w2 at *
                go_region_held3 (fun w' => w'.cell? ⟨pp, 0, none⟩ = some (.string nm))
                  (first | exact HS.out _ hB5 | exact HS.out _ (Below.refl _ _).drew)
                  (first | (go_at_call 63; refine HF2.out.mono ?_; rintro e w5 ⟨rfl, hb5⟩; have hB5 : Below w2.heap.size w2 w5 := (Below.refl _ _).drew.trans hb5))
                rename_i hHH
                have HB5 := Lib.hid (HBa.out.trans (hB5.mono HBa.out.size))
                clear hHH hB5 hb5
                go_wp2
                go_roundw
                case rel => exact ⟨k + 1, by omega, by go_num, HA', HB5⟩
                case measure => simp [intOf]; omega
      · obtain rfl : k = ln := by omega
        have HR : Hid (chk F = 0) := Lib.hid (HE.out.trans (HA.out.trans (scan_nil _ (Nat.le_refl _))))
        go_wp2
        go_ret
        exact ⟨ret_int HR.out.symm, HBr.out⟩

end Go.Proofs.Ytjmhemkbfephpaa.Shd
