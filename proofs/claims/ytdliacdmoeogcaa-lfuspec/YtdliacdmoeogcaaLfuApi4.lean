/-
  Age and Victim of package lfu.
-/
import Derived.Test.YtdliacdmoeogcaaLfuApi2
namespace Go.Proofs.Ytdliacdmoeogcaa.Lfu
open Go.RowKit
open Lru (isRm isK keysE keysE_zero traceE trace_zero)
set_option linter.unusedVariables false
set_option maxRecDepth 100000

/-- The first k counts halved. -/
def halfK (F : List Us) (k : Nat) : List Us := half (F.take k) ++ F.drop k
theorem halfK_len (F : List Us) (k : Nat) : (halfK F k).length = F.length := by unfold halfK half; simp; omega
theorem halfK_all {F : List Us} {k : Nat} (h : F.length ≤ k) : halfK F k = half F := by unfold halfK; rw [List.take_of_length_le h, List.drop_of_length_le h, List.append_nil]
theorem halfK_at {F : List Us} {k : Nat} (hk : k < F.length) : gu (halfK F k) k = gu F k := by
  have hl : (half (F.take k)).length = k := by unfold half; simp; omega
  rw [gu_get (by rw [halfK_len]; exact hk), gu_get hk]
  unfold halfK
  rw [List.getElem_append_right (by omega)]
  simp [hl]
theorem halfK_step {F : List Us} {k : Nat} (hk : k < F.length) : (halfK F k).set k ⟨(gu F k).key, max ((gu F k).cnt / 2) 1⟩ = halfK F (k + 1) := by
  have hl : (half (F.take k)).length = k := by unfold half; simp; omega
  rw [gu_get hk]
  unfold halfK
  have e2 : half (F.take (k + 1)) = half (F.take k) ++ [⟨F[k].key, max (F[k].cnt / 2) 1⟩] := by
    rw [List.take_add_one, List.getElem?_eq_getElem hk]
    simp only [half, List.map_append, Option.toList, List.map_cons, List.map_nil]
  rw [List.set_append_right _ _ (by omega), hl, Nat.sub_self, List.drop_eq_getElem_cons hk, List.set_cons_zero, e2, List.append_assoc]
  rfl

set_option maxHeartbeats 4000000 in
theorem age_any (r : Int) (A : Option Addr) (c : Nat) (F : List Us) (w : World) (hF : Uss w A c F) :
    Calls Try.prog 9 #[kv r (.slice A F.length c)] w (GR r F w) := by
  obtain ⟨hk0, hz0, hb0⟩ := box2 w r (.slice A F.length c)
  have HK0 := Lib.hid hk0
  have HZ0 := Lib.hid hz0
  have HB0 := Lib.hid hb0
  have HF0 := Lib.hid (hF.below hb0)
  clear hk0 hz0 hb0 hF
  have HC := Lib.hid (check_any r A c F _ HF0.out)
  by_cases h0 : checkK r F = 0
  · have HG := Lib.hid (check_zero.1 h0)
    have HE := Lib.hid h0
    rw [h0] at HC
    clear h0
    obtain ⟨ln, hln⟩ : ∃ ln, F.length = ln := ⟨_, rfl⟩
    have HLN := Lib.hid hln
    have hl40 : ln ≤ 40 := by rw [← hln]; exact HG.out.len40
    have HCl := Lib.hid (fun (W : World) (hW : Uss W A c F) => sclone_any A c F W hW (by have := HG.out.len40; omega))
    rw [hln] at HC HK0 HZ0 HB0 HF0 ⊢
    simp only [hln] at HCl
    clear hln
    obtain ⟨x1, x2, -, -⟩ := HK0.out.cells
    go_enter Try.func9, Try.ntmps9
    go_wp2_with fail
    refine HC.out.mono ?_
    rintro e w1 ⟨rfl, hb1⟩
    have HK1 := Lib.hid (HK0.out.below hb1)
    have HZ1 := Lib.hid (HZ0.out.below hb1)
    have HB1 : Hid (Below w.heap.size w w1) := Lib.hid (HB0.out.trans (hb1.mono HB0.out.size))
    have HF1 := Lib.hid (HF0.out.below hb1)
    clear hb1 x1 x2
    obtain ⟨x1, x2, -, -⟩ := HK1.out.cells
    go_wp2_with fail
    refine (HCl.out _ HF1.out).mono ?_
    rintro e w2 ⟨v2, rfl, ho2, hb2⟩
    have HL2 : Hid (w.heap.size + 1 < w1.heap.size) := Lib.hid HZ1.out.lt
    obtain ⟨A2, c2, rfl, -, hA2⟩ := uss_of_own ho2
    rw [HLN.out] at ho2 ⊢
    have HO2 := Lib.hid ho2
    have HA8 : Hid (∀ a, A2 = some a → w.heap.size + 1 ≠ a.block) := Lib.hid (fun a ha => by have := hA2 a ha; have := HL2.out; omega)
    have HA9 : Hid (FA w A2) := Lib.hid (fun a ha => by have := hA2 a ha; have := HL2.out; omega)
    have HA7 : Hid (∀ g o, A2 = some ⟨g, o, none⟩ → w1.heap.size ≤ g) := Lib.hid (fun g o e => hA2 _ e)
    have HB2 : Hid (Below w1.heap.size w1 w2) := Lib.hid hb2
    clear ho2 hb2 hA2 x1 x2
    go_wp2
    go_loopw [18] (fun i wr => ∃ k : Nat, k ≤ ln ∧ i = .int .i64 (k : Int) ∧ OwnU wr w1.heap.size (.slice A2 ln c2) (halfK F k) ∧ Below w1.heap.size w1 wr) (fun i _ => ln - (intOf i).toNat)
    case atStart => exact ⟨0, by omega, rfl, HO2.out, HB2.out⟩
    case round =>
      obtain ⟨k, hk, rfl, hor, hbr⟩ := hrel
      have HOr := Lib.hid hor
      have HBr := Lib.hid hbr
      clear hor hbr
      by_cases hlt : k < ln
      · have hin : (k : Int) < (ln : Int) := by omega
        have hiB : (0 : Int) ≤ (k : Int) := by omega
        have hkF : k < F.length := by rw [HLN.out]; exact hlt
        obtain ⟨g, c3, e, hg⟩ := HOr.out.form (by rw [halfK_len]; omega)
        rw [halfK_len, HLN.out] at e
        cases e
        obtain ⟨-, z2, z3, z4⟩ := HOr.out.cells (by rw [halfK_len, HLN.out]) (i := k) (by rw [halfK_len]; exact hkF)
        rw [halfK_at hkF] at z2
        have hc := HG.out.cnts _ (gu_mem hkF)
        unfold okC at hc
        have HOn := Lib.hid (HOr.out.putU (by rw [halfK_len, HLN.out]) (i := k) (by rw [halfK_len]; exact hkF) (max ((gu F k).cnt / 2) 1))
        rw [halfK_at hkF, halfK_step hkF] at HOn
        have hq : ((gu F k).cnt).tdiv 2 = (gu F k).cnt / 2 := Int.tdiv_eq_ediv_of_nonneg (by omega)
        have hw : IntKind.i64.wrap ((gu F k).cnt / 2) = (gu F k).cnt / 2 := by rw [IntKind.wrap_i64]; omega
        have HBn := Lib.hid (bel_set HBr.out (a := ⟨g, k * 2 + 1, none⟩) hg (.int .i64 (max ((gu F k).cnt / 2) 1)))
        clear hc hg hkF
        generalize (gu F k).cnt = cn at *
        go_wp2
        go_roundw
        case rel => exact ⟨k + 1, by omega, by go_num, HOn.out, HBn.out⟩
        case measure => simp [intOf]; omega
      · obtain rfl : k = ln := by omega
        rw [halfK_all (by rw [HLN.out]; exact Nat.le_refl _)] at HOr
        obtain ⟨A4, c4, e4, hF4, -⟩ := uss_of_own HOr.out
        rw [half_len, HLN.out] at e4
        cases e4
        have HF4 := Lib.hid hF4
        have HZr := Lib.hid (HZ1.out.below HBr.out)
        have HKr := Lib.hid (HK1.out.below HBr.out)
        have HB4 : Hid (Below w.heap.size w wr) := Lib.hid (HB1.out.trans (HBr.out.mono HB1.out.size))
        clear hF4 hlt HOr
        obtain ⟨x1, x2, -, -⟩ := HKr.out.cells
        obtain ⟨z1, z2, u1, u2⟩ := HZr.out.cells
        go_wp2
        refine bodyPost_ret (v := .tuple #[kv r (.slice A2 k c2), .int .i64 0]) (by simp [results, Try.results9, go_sem, z1, z2]) rfl ?_
        exact GR.good HE.out HLN.out.symm (HF4.out.set2 HA8.out _ _) HA9.out (bel_set2 HB4.out (p := w.heap.size + 1) (by omega) _ _)
  · have H0 := Lib.hid h0
    have q : (checkK r F != 0) = true := by simpa using h0
    clear h0
    obtain ⟨x1, x2, -, -⟩ := HK0.out.cells
    go_enter Try.func9, Try.ntmps9
    go_wp2_with fail
    refine HC.out.mono ?_
    rintro e w1 ⟨rfl, hb1⟩
    have HZ1 := Lib.hid (HZ0.out.below hb1)
    have HB1 : Hid (Below w.heap.size w w1) := Lib.hid (HB0.out.trans (hb1.mono HB0.out.size))
    clear hb1 x1 x2
    obtain ⟨z1, z2, u1, u2⟩ := HZ1.out.cells
    go_wp2
    refine bodyPost_ret (v := .tuple #[nk, .int .i64 (checkK r F)]) (by simp [results, Try.results9, go_sem, z1, z2]) rfl ?_
    exact GR.bad rfl H0.out (bel_set2 HB1.out (p := w.heap.size + 1) (by omega) _ _)

set_option maxHeartbeats 4000000 in
theorem victimE_any (r : Int) (A : Option Addr) (c : Nat) (F : List Us) (w : World) (hF : Uss w A c F) :
    Calls Try.prog 10 #[kv r (.slice A F.length c)] w fun e w' => e = .returned (.tuple #[.int .i64 (viN r F), .int .i64 (viE r F)]) ∧ Below w.heap.size w w' := by
  have HK0 : Hid (Kb (w.alloc (ko r (.slice A F.length c))) w.heap.size r (.slice A F.length c)) := Lib.hid (Kb.new w r _)
  have HB0 : Hid (Below w.heap.size w (w.alloc (ko r (.slice A F.length c)))) := Lib.hid (bel_al (Below.refl _ _) (Nat.le_refl _) _)
  have HF0 : Hid (Uss (w.alloc (ko r (.slice A F.length c))) A c F) := Lib.hid (hF.alloc _)
  clear hF
  have HC := Lib.hid (check_any r A c F _ HF0.out)
  by_cases h0 : checkK r F = 0
  · have HG := Lib.hid (check_zero.1 h0)
    rw [h0] at HC
    by_cases h1 : F.length = 0
    · have HE : Hid (viE r F = 5 ∧ viN r F = 0) := Lib.hid (by
        have : viE r F = 5 := by unfold viE; rw [if_pos h0, if_pos h1]
        exact ⟨this, by unfold viN; rw [this]; rfl⟩)
      rw [h1] at HC HK0 HB0 HF0 ⊢
      clear h0 h1
      obtain ⟨x1, x2, -, -⟩ := HK0.out.cells
      go_enter Try.func10, Try.ntmps10
      go_wp2_with fail
      refine HC.out.mono ?_
      rintro e w1 ⟨rfl, hb1⟩
      have HK1 := Lib.hid (HK0.out.below hb1)
      have HB1 : Hid (Below w.heap.size w w1) := Lib.hid (HB0.out.trans (hb1.mono HB0.out.size))
      clear hb1 x1 x2
      obtain ⟨x1, x2, -, -⟩ := HK1.out.cells
      go_wp2
      refine bodyPost_ret (v := .tuple #[.int .i64 0, .int .i64 5]) (by simp [results, Try.results10, go_sem]) rfl ?_
      exact ⟨by rw [HE.out.1, HE.out.2], HB1.out⟩
    · have HE : Hid (viE r F = 0 ∧ viN r F = (gu F (vicN F)).key) := Lib.hid (by
        have : viE r F = 0 := by unfold viE; rw [if_pos h0, if_neg h1]
        exact ⟨this, by unfold viN; rw [if_pos this]⟩)
      have hpos : 0 < F.length := by omega
      have hk := vicN_lt hpos
      have h40 := HG.out.len40
      have HVi := Lib.hid (fun (W : World) (hW : Uss W A c F) => victim_any A c F W hW hpos (by omega))
      generalize vicN F = k at *
      obtain ⟨n, hn⟩ : ∃ n, F.length = n := ⟨_, rfl⟩
      have HN := Lib.hid hn
      have HKl := Lib.hid hk
      rw [hn] at HC HK0 HB0 HF0 hk h40 ⊢
      have q0 : ((n : Int) == 0) = false := by simp; omega
      have i1 : (k : Int) < (n : Int) := by omega
      have i2 : (0 : Int) ≤ (k : Int) := by omega
      simp only [hn] at HVi
      clear h0 h1 hn hpos
      obtain ⟨x1, x2, -, -⟩ := HK0.out.cells
      go_enter Try.func10, Try.ntmps10
      go_wp2_with fail
      refine HC.out.mono ?_
      rintro e w1 ⟨rfl, hb1⟩
      have HK1 := Lib.hid (HK0.out.below hb1)
      have HF1 := Lib.hid (HF0.out.below hb1)
      have HB1 : Hid (Below w.heap.size w w1) := Lib.hid (HB0.out.trans (hb1.mono HB0.out.size))
      clear hb1 x1 x2
      obtain ⟨x1, x2, -, -⟩ := HK1.out.cells
      obtain ⟨b, o, rfl, -, -⟩ := HF1.out.us HKl.out
      have HV1 := Lib.hid (HVi.out w1.drew HF1.out.drew)
      have HS : Hid (∀ W, Below w1.heap.size w1 W → W.cell? ⟨w.heap.size, 1, none⟩ = some (.slice (some ⟨b, o, none⟩) n c) ∧ W.cell? ⟨b, o + k * 2, none⟩ = some (.int .i64 (gu F k).key)) := Lib.hid (fun W hW => ⟨(HK1.out.below hW).cells.2.1, by
        obtain ⟨b', o', e, e1, -⟩ := (HF1.out.below hW).us HKl.out
        cases e
        exact e1⟩)
      generalize (gu F k).key = ky at *
      go_wp2
      go_region_held3 (fun w' => w'.cell? ⟨w.heap.size, 1, none⟩ = some (.slice (some ⟨b, o, none⟩) n c) ∧ w'.cell? ⟨b, o + k * 2, none⟩ = some (.int .i64 ky))
        (first | exact HS.out _ hB5 | exact HS.out _ (Below.refl _ _).drew)
        (first | (go_at_call 24; refine HV1.out.mono ?_; rintro e w5 ⟨rfl, hb5⟩; have hB5 : Below w1.heap.size w1 w5 := (Below.refl _ _).drew.trans hb5))
      rename_i hHH
      have HB5 : Hid (Below w.heap.size w w5) := Lib.hid (HB1.out.trans (hB5.mono HB1.out.size))
      clear hHH hB5 hb5
      go_wp2
      refine bodyPost_ret (v := .tuple #[.int .i64 ky, .int .i64 0]) (by simp [results, Try.results10, go_sem]) rfl ?_
      exact ⟨by rw [HE.out.1, HE.out.2], HB5.out⟩
  · have HE : Hid (viE r F = checkK r F ∧ viN r F = 0) := Lib.hid (by
      have : viE r F = checkK r F := by unfold viE; rw [if_neg h0]
      exact ⟨this, by unfold viN; rw [this, if_neg h0]⟩)
    have q : (checkK r F != 0) = true := by simpa using h0
    clear h0
    obtain ⟨x1, x2, -, -⟩ := HK0.out.cells
    go_enter Try.func10, Try.ntmps10
    go_wp2_with fail
    refine HC.out.mono ?_
    rintro e w1 ⟨rfl, hb1⟩
    have HB1 : Hid (Below w.heap.size w w1) := Lib.hid (HB0.out.trans (hb1.mono HB0.out.size))
    clear hb1 x1 x2
    go_wp2
    refine bodyPost_ret (v := .tuple #[.int .i64 0, .int .i64 (checkK r F)]) (by simp [results, Try.results10, go_sem]) rfl ?_
    exact ⟨by rw [HE.out.1, HE.out.2], HB1.out⟩

end Go.Proofs.Ytdliacdmoeogcaa.Lfu
