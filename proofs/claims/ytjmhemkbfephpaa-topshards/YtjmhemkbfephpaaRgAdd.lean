/-
  Package ring: Add.
-/
import Derived.Test.YtjmhemkbfephpaaRgSort
import Derived.Test.YtjmhemkbfephpaaRgSeen
import Derived.Test.YtjmhemkbfephpaaRgRemove
namespace Go.Proofs.Ytjmhemkbfephpaa.Rng
open Go.RowKit
set_option linter.unusedVariables false
set_option maxRecDepth 100000

/-- The errors of Add. -/
theorem add_bad (A B : Option Addr) (c d : Nat) (F : List Pt) (s : Int) (P : List Int) (w : World) (hF : Pts w A c F) (hP : Ints w B d P) (he : adE F s P ≠ 0) :
    Calls Try.prog 9 #[.slice A F.length c, .int .i64 s, .slice B P.length d] w (RP [] (adE F s P) w) := by
  have hl1 := hF.len
  have hl2 := hP.len
  have HC := Lib.hid (check_any A c F w hF)
  by_cases h1 : checkR F = 0
  · rw [h1] at HC
    have HS := Lib.hid (fun W => isShard_any s W)
    by_cases h2 : isS s
    · have q2 : decide (isS s) = true := by simpa using h2
      rw [q2] at HS
      have HPl := Lib.hid (fun (W : World) (hW : Below w.heap.size w W) => arePlaces_any B d P W (hP.below hW))
      by_cases h3 : allP P = false
      · rw [h3] at HPl
        rw [adE_pl h1 h2 h3]
        clear he h1 h2 h3 q2 hF hP
        generalize F.length = ln at *
        generalize P.length = lp at *
        go_enter Try.func9, Try.ntmps9
        go_wp2_with fail
        refine HC.out.mono ?_
        rintro e w5 ⟨rfl, hb5⟩
        have HB5 := Lib.hid hb5
        clear hb5
        go_wp2_with fail
        refine (HS.out w5).mono ?_
        rintro e w6 ⟨rfl, rfl⟩
        go_wp2_with fail
        refine (HPl.out w5 HB5.out).mono ?_
        rintro e w6 ⟨rfl, rfl⟩
        go_wp2
        go_ret2
        exact ⟨_, rfl, OwnP.nil _ _, HB5.out⟩
      · have h3' : allP P = true := by simpa using h3
        rw [h3'] at HPl
        have HG := Lib.hid (check_zero.1 h1)
        have HCo := Lib.hid (fun (W : World) (hW : Below w.heap.size w W) => collide_any A B c d F P W (hF.below hW) (hP.below hW) HG.out h3')
        by_cases h4 : Free F P
        · have q4 : decide (¬ Free F P) = false := by simpa using h4
          rw [q4] at HCo
          by_cases h5 : 60 < F.length + P.length
          · rw [adE_many h1 h2 h3' h4 h5]
            have q5 : decide ((60 : Int) < (F.length : Int) + (P.length : Int)) = true := by simp; omega
            have q5' : decide ((60 : Int) < ((F.length + P.length : Nat) : Int)) = true := by simp; omega
            have q5'' : decide (60 < F.length + P.length) = true := by simp; omega
            have hw : IntKind.i64.wrap ((F.length : Int) + (P.length : Int)) = (F.length : Int) + (P.length : Int) := by
              have hf := HG.out.few
              have hpf : P.length ≤ 65536 := nodup_le 65536 P h4.1 (fun x hx => by have := allP_mem h3' hx; unfold isP at this; omega)
              rw [IntKind.wrap_i64]; omega
            clear he h1 h2 h3 h3' h4 h5 q2 q4 hF hP HG
            generalize F.length = ln at *
            generalize P.length = lp at *
            go_enter Try.func9, Try.ntmps9
            go_wp2_with fail
            refine HC.out.mono ?_
            rintro e w5 ⟨rfl, hb5⟩
            have HB5 := Lib.hid hb5
            clear hb5
            go_wp2_with fail
            refine (HS.out w5).mono ?_
            rintro e w6 ⟨rfl, rfl⟩
            go_wp2_with fail
            refine (HPl.out w5 HB5.out).mono ?_
            rintro e w6 ⟨rfl, rfl⟩
            go_wp2_with fail
            refine (HCo.out w5 HB5.out).mono ?_
            rintro e w6 ⟨rfl, hb6⟩
            have HB6 := Lib.hid (HB5.out.trans (hb6.mono HB5.out.size))
            clear hb6
            go_wp2
            go_ret2
            exact ⟨_, rfl, OwnP.nil _ _, HB6.out⟩
          · exact absurd (adE_ok h1 h2 h3' h4 h5) he
        · have q4 : decide (¬ Free F P) = true := by simpa using h4
          rw [q4] at HCo
          rw [adE_twice h1 h2 h3' h4]
          clear he h1 h2 h3 h3' h4 q2 q4 hF hP HG
          generalize F.length = ln at *
          generalize P.length = lp at *
          go_enter Try.func9, Try.ntmps9
          go_wp2_with fail
          refine HC.out.mono ?_
          rintro e w5 ⟨rfl, hb5⟩
          have HB5 := Lib.hid hb5
          clear hb5
          go_wp2_with fail
          refine (HS.out w5).mono ?_
          rintro e w6 ⟨rfl, rfl⟩
          go_wp2_with fail
          refine (HPl.out w5 HB5.out).mono ?_
          rintro e w6 ⟨rfl, rfl⟩
          go_wp2_with fail
          refine (HCo.out w5 HB5.out).mono ?_
          rintro e w6 ⟨rfl, hb6⟩
          have HB6 := Lib.hid (HB5.out.trans (hb6.mono HB5.out.size))
          clear hb6
          go_wp2
          go_ret2
          exact ⟨_, rfl, OwnP.nil _ _, HB6.out⟩
    · have q2 : decide (isS s) = false := by simpa using h2
      rw [q2] at HS
      rw [adE_sh h1 h2]
      clear he h1 h2 q2 hF hP
      generalize F.length = ln at *
      generalize P.length = lp at *
      go_enter Try.func9, Try.ntmps9
      go_wp2_with fail
      refine HC.out.mono ?_
      rintro e w5 ⟨rfl, hb5⟩
      have HB5 := Lib.hid hb5
      clear hb5
      go_wp2_with fail
      refine (HS.out w5).mono ?_
      rintro e w6 ⟨rfl, rfl⟩
      go_wp2
      go_ret2
      exact ⟨_, rfl, OwnP.nil _ _, HB5.out⟩
  · rw [adE_check h1]
    have hq : (checkR F == 0) = false := by simpa using h1
    have hq2 : decide (checkR F = 0) = false := by simpa using h1
    clear h1 hF hP he
    generalize checkR F = qe at *
    generalize F.length = ln at *
    generalize P.length = lp at *
    go_enter Try.func9, Try.ntmps9
    go_wp2_with fail
    refine HC.out.mono ?_
    rintro e w5 ⟨rfl, hb5⟩
    have HB5 := Lib.hid hb5
    clear hb5
    go_wp2
    go_ret2
    exact ⟨_, rfl, OwnP.nil _ _, HB5.out⟩

set_option maxHeartbeats 4000000 in
theorem add_ok (A B : Option Addr) (c d : Nat) (F : List Pt) (s : Int) (P : List Int) (w : World) (hF : Pts w A c F) (hP : Ints w B d P) (he : adE F s P = 0) :
    Calls Try.prog 9 #[.slice A F.length c, .int .i64 s, .slice B P.length d] w (RP (adL F s P) 0 w) := by
  have hl1 := hF.len
  have hl2 := hP.len
  obtain ⟨hG, h2, h3, h4, h5⟩ := adE_zero he
  have HC := Lib.hid (check_any A c F w hF)
  rw [check_zero.2 hG] at HC
  have HS := Lib.hid (fun W => isShard_any s W)
  rw [show decide (isS s) = true by simpa using h2] at HS
  have HPl := Lib.hid (fun (W : World) (hW : Below w.heap.size w W) => arePlaces_any B d P W (hP.below hW))
  rw [h3] at HPl
  have HCo := Lib.hid (fun (W : World) (hW : Below w.heap.size w W) => collide_any A B c d F P W (hF.below hW) (hP.below hW) hG h3)
  rw [show decide (¬ Free F P) = false by simpa using h4] at HCo
  have HCl := Lib.hid (fun (W : World) (hW : Below w.heap.size w W) => sclone_any A c F W (hF.below hW) (by omega))
  have HR : Hid (∀ M : List Pt, M.Perm (rawA F s P) → M.Pairwise (fun a b => ¬ b.at_ < a.at_) → M = adL F s P) := Lib.hid (fun M hp hs => by rw [adL_ok he]; exact sorted_add hp hs hG.asc h4)
  have HRS : Hid (∀ k, k < P.length → rawA F s (P.take (k + 1)) = rawA F s (P.take k) ++ [⟨gi P k, s⟩]) := Lib.hid (fun k hk => rawA_succ hk)
  have HR0 : Hid (rawA F s (P.take 0) = F) := Lib.hid (by simp [rawA])
  have HRL : Hid (∀ k, (rawA F s (P.take k)).length ≤ 60) := Lib.hid (fun k => by rw [rawA_len]; have := List.length_take_le' k P; omega)
  have HRP : Hid (rawA F s (P.take P.length) = rawA F s P) := Lib.hid (by rw [List.take_length])
  have HP := Lib.hid hP
  have q5 : decide ((60 : Int) < (F.length : Int) + (P.length : Int)) = false := by simp; omega
  have q5' : decide ((60 : Int) < ((F.length + P.length : Nat) : Int)) = false := by simp; omega
  have q5'' : decide (60 < F.length + P.length) = false := by simp; omega
  have hw : IntKind.i64.wrap ((F.length : Int) + (P.length : Int)) = (F.length : Int) + (P.length : Int) := by rw [IntKind.wrap_i64]; omega
  have HLP : Hid (P.length = P.length) := Lib.hid rfl
  obtain ⟨lp, hlp⟩ : ∃ lp, P.length = lp := ⟨_, rfl⟩
  replace HLP : Hid (P.length = lp) := Lib.hid hlp
  rw [hlp] at HPl HCo HRS HRP q5 q5' q5'' hw hl2 ⊢
  clear he hG h2 h3 h4 h5 hF hP hlp
  generalize F.length = ln at *
  go_enter Try.func9, Try.ntmps9
  go_wp2_with fail
  refine HC.out.mono ?_
  rintro e w5 ⟨rfl, hb5⟩
  have HB5 := Lib.hid hb5
  clear hb5
  go_wp2_with fail
  refine (HS.out w5).mono ?_
  rintro e w6 ⟨rfl, rfl⟩
  go_wp2_with fail
  refine (HPl.out w5 HB5.out).mono ?_
  rintro e w6 ⟨rfl, rfl⟩
  go_wp2_with fail
  refine (HCo.out w5 HB5.out).mono ?_
  rintro e w6 ⟨rfl, hb6⟩
  have HB6 := Lib.hid (HB5.out.trans (hb6.mono HB5.out.size))
  clear hb6
  go_wp2_with fail
  refine (HCl.out w6 HB6.out).mono ?_
  rintro e w7 ⟨v7, rfl, ho7, hb7⟩
  have HO7 : Hid (OwnP w7 w.heap.size v7 (rawA F s (P.take 0))) := Lib.hid (by rw [HR0.out]; exact ho7.base_le HB6.out.size)
  have HB7 := Lib.hid (HB6.out.trans (hb7.mono HB6.out.size))
  clear ho7 hb7 HB5 HB6 HCl HCo HPl HS HC hw q5 q5' q5''
  go_wp2
  go_loopw [9, 38] (fun v i wr => ∃ k : Nat, k ≤ lp ∧ i = .int .i64 (k : Int) ∧ Hid (OwnP wr w.heap.size v (rawA F s (P.take k))) ∧ Hid (Below w.heap.size w wr)) (fun _ i _ => lp - (intOf i).toNat)
  case atStart => exact ⟨0, by omega, rfl, HO7, HB7⟩
  case round =>
    obtain ⟨k, hk, rfl, HO, HBr⟩ := hrel
    by_cases hlt : k < lp
    · have hin : (k : Int) < (lp : Int) := by omega
      have hiB : (0 : Int) ≤ (k : Int) := by omega
      have HPr := Lib.hid (HP.out.below HBr.out)
      have hkl : k < P.length := by rw [HLP.out]; exact hlt
      obtain ⟨b, o, rfl, ht⟩ := HPr.out.2.2.2 (by omega)
      have e1 := ht.2 k hkl
      have HRk := Lib.hid (HRS.out k hlt)
      have HL1 : Hid ((rawA F s (P.take k)).length ≤ 1048576) := Lib.hid (by have := HRL.out k; omega)
      clear ht hkl
      generalize gi P k = x at *
      go_wp2_with (first | (at_builtin; refine append_pt rfl _ _ rfl w.heap.size _ _ rfl HO.out ⟨x, s⟩ rfl HL1.out HBr.out.size ?_; intro v6 w6 ho6 hg6; have HO6 := Lib.hid ho6; have HB6 := Lib.hid (own_grow HO.out HBr.out HBr.out.size (Nat.le_refl _) hg6); clear ho6 hg6))
      go_roundw
      case rel => exact ⟨k + 1, by omega, by go_num, by rw [HRk.out]; exact HO6, HB6⟩
      case measure => simp [intOf]; omega
    · obtain rfl : k = lp := by omega
      rw [HRP.out] at HO
      have HSo := Lib.hid (sort_any w.heap.size _ _ wr HO.out HBr.out.size (by have := HRL.out k; rw [HRP.out] at this; omega))
      go_wp2_with fail
      refine HSo.out.mono ?_
      rintro e w8 ⟨rfl, M, ho8, hl8, hp8, hs8, hb8⟩
      have HM := Lib.hid (HR.out M hp8 hs8)
      rw [HM.out] at ho8
      have HO8 := Lib.hid ho8
      have HB8 := Lib.hid (HBr.out.trans hb8)
      clear ho8 hl8 hp8 hs8 hb8
      go_wp2
      go_ret2
      exact ⟨_, rfl, HO8.out, HB8.out⟩

end Go.Proofs.Ytjmhemkbfephpaa.Rng
