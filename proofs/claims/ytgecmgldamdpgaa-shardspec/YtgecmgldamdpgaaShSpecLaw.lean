/-
  ShardSpec.
-/
import Derived.Test.YtgecmgldamdpgaaShRef2
import Derived.Test.YtgecmgldamdpgaaShBegun
import Derived.Test.YtgecmgldamdpgaaShWeightLaw
namespace Go.Proofs.Ytgecmgldamdpgaa.Shd
open Go.RowKit
open Two (RE own_none own_bel)
set_option linter.unusedVariables false
set_option maxRecDepth 100000

theorem owl_one' {L : List Sh} {s : ByteArray} (h : 0 < L.length) : zs ((owl L s).take 1) = [((own L s : Nat) : Int)] := by
  have := owl_next (s := s) h h
  rw [this]; rfl
theorem ow_one {L : List Sh} {s : ByteArray} (he : err L s = 0) : ow L s = own L s := by unfold ow; rw [if_pos he]
theorem refOwner1' (A : Option Addr) (c : Nat) (L : List Sh) (s : ByteArray) (w : World) (h : ShA w A c L) (he : err L s = 0) :
    Calls Try.prog 10 #[.slice A L.length c, .string s, .int .i64 1] w fun e w' => ∃ b o cc, e = .returned (.slice (some ⟨b, o, none⟩) 1 cc) ∧ w'.cell? ⟨b, o, none⟩ = some (.int .i64 ((ow L s : Nat) : Int)) ∧ Below w.heap.size w w' := by
  have h0 := (err_zero.1 he).2.2
  have k := refOwners_any A c L s 1 w h he (by omega)
  rw [owl_one' h0] at k
  refine k.mono ?_
  rintro e w' ⟨v, rfl, ho, hb⟩
  obtain ⟨A', c', rfl, hI⟩ := ints_of_own ho
  obtain ⟨b, o, rfl, hlt, hc⟩ := hI.2.2.2 (by simp)
  rw [ow_one he]
  exact ⟨b, o, c', rfl, hc 0 (by simp), hb⟩
theorem same_any (A B : Option Addr) (c d n m : Nat) (X : List Int) (w : World) (ha : Ints w A c X) (hb : Ints w B d X) (hn : X.length = n) (hm : X.length = m) :
    Calls Try.prog 17 #[.slice A n c, .slice B m d] w fun e w' => e = .returned (.bool true) ∧ Below w.heap.size w w' := by
  have k := sameInts_any A B c d X X w ha hb
  rw [decide_eq_true rfl, hn] at k
  rw [← hm, hn]
  exact k

set_option maxHeartbeats 40000000 in
theorem shardSpec_walk (A : Option Addr) (c : Nat) (L : List Sh) (s : ByteArray) (at_ many : Int) (w : World) (hL : Shs w A c L) (hN : Nms L) (hs : s.size ≤ maxLen) :
    Calls Try.prog 3 #[.slice A L.length c, .string s, .int .i64 at_, .int .i64 many] w fun e w' => e = .returned (.bool true) ∧ Below w.heap.size w w' := by
  have HBG := Lib.hid begun_any
  have HL : Hid (ShA w A c L) := Lib.hid ⟨hL, hN⟩
  have hlen := hL.len
  have HOW := Lib.hid (fun (W : World) (h : ShA W A c L) => owner_any A c L s W h hs)
  have HRE := Lib.hid (fun (W : World) (h : ShA W A c L) => ownerErr_any A c L s W h hs)
  have HOB := Lib.hid (fun (W : World) (h : ShA W A c L) (he : err L s ≠ 0) => owners_bad A c L s many W ⟨h.sh, h.nm, hs⟩ he)
  have HOF := Lib.hid (fun (W : World) (h : ShA W A c L) (he : err L s = 0) (hm : ¬ (1 ≤ many ∧ many ≤ (L.length : Int))) => owners_off A c L s many W ⟨h.sh, h.nm, hs⟩ he hm)
  have HOO := Lib.hid (fun (W : World) (h : ShA W A c L) (he : err L s = 0) (k : Nat) (h1 : 1 ≤ k) (h2 : k ≤ L.length) => owners_ok A c L s k W ⟨h.sh, h.nm, hs⟩ he h1 h2)
  have HR1 := Lib.hid (fun (W : World) (h : ShA W A c L) (he : err L s = 0) => refOwner1' A c L s W h he)
  have HRO := Lib.hid (fun (W : World) (h : ShA W A c L) (he : err L s = 0) (k : Nat) (h2 : k ≤ L.length) => refOwners_any A c L s k W h he h2)
  have HCK := Lib.hid (fun (W : World) (h : ShA W A c L) => check_any A c L W h.sh h.nm)
  have HRK := Lib.hid (fun (W : World) (h : ShA W A c L) => refCheck_any A c L W h.sh h.nm)
  have hcq : (chk L == chk L) = true := by simp
  have HFE : Hid ((zs ((owl L s).take 0)) = []) := Lib.hid rfl
  have HSB := Lib.hid (fun (f : Sh) (W : World) (hn : f.name.size ≤ maxLen) (he : err [f] s ≠ 0) => score_bad f s W hs hn he)
  have HSO := Lib.hid (fun (f : Sh) (W : World) (hn : f.name.size ≤ maxLen) (he : err [f] s = 0) => score_ok f s W hs hn he)
  have HE1 := Lib.hid (fun (f : Sh) => err_one f s)
  have HCE : Hid (∀ W, ShA W A c L → ∀ k, k < L.length → ∃ b o, A = some ⟨b, o, none⟩ ∧ W.cell? ⟨b, o + k * 2, none⟩ = some (.string (gs L k).name) ∧ W.cell? ⟨b, o + k * 2 + 1, none⟩ = some (.int .i64 (gs L k).wt)) := Lib.hid (fun W h k hk => h.sh.sh hk)
  have HNM := Lib.hid hN
  have hsl : s.size ≤ 9223372036854775807 := by unfold maxLen at hs; omega
  clear hL hN
  obtain ⟨ln, hln⟩ : ∃ n, L.length = n := ⟨_, rfl⟩
  have HLN := Lib.hid hln
  rw [hln] at HOW HRE HOB HOF HOO HR1 HRO HCK HRK HCE hlen
  rw [hln]
  clear hln
  by_cases he : err L s = 0
  · by_cases hm : 1 ≤ many ∧ many ≤ (ln : Int)
    · obtain ⟨k, rfl⟩ : ∃ k : Nat, many = (k : Int) := ⟨many.toNat, by omega⟩
      have hk1 : 1 ≤ k := by omega
      have hk2 : k ≤ ln := by omega
      have m1 : decide ((k : Int) < 1) = false := by simp; omega
      have m1' : decide (k < 1) = false := by simp; omega
      have m2 : decide ((ln : Int) < (k : Int)) = false := by simp; omega
      have m2' : decide (ln < k) = false := by simp; omega
      have HOX := Lib.hid (fun W h => HOO.out W h he k hk1 hk2)
      have HR1x := Lib.hid (fun W h => HR1.out W h he)
      have HROx := Lib.hid (fun W h => HRO.out W h he k hk2)
      rw [he] at HOW HRE
      have HEQ : Hid (ord (sc L s) (ln - 1) = owl L s) := Lib.hid (by unfold owl; rw [HLN.out])
      rw [HEQ.out] at HOX
      clear HOB HOF HOO HR1 HRO he HEQ
      generalize chk L = ck at *
      generalize ow L s = io at *
      generalize zs ((owl L s).take k) = X at *
      obtain ⟨lx, hlx⟩ : ∃ n, X.length = n := ⟨_, rfl⟩
      have HX1 := Lib.hid hlx
      unfold Two.RE at HOX
      rw [hlx] at HOX
      clear hlx
      have hio : ((io : Int) == (io : Int)) = true := by simp
      go_enter Try.func3, Try.ntmps3
      go_wp2_with fail
      refine (HOW.out _ HL.out).mono ?_
      rintro e w1 ⟨rfl, hb1⟩
      have HB1 := Lib.hid hb1
      clear hb1
      go_wp2_with fail
      refine (HOX.out _ (HL.out.below HB1.out)).mono ?_
      rintro e w2 ⟨C, d, rfl, hi2, hb2⟩
      have HB2 := Lib.hid (HB1.out.trans (hb2.mono HB1.out.size))
      have HI2 := Lib.hid hi2
      clear hi2 hb2
      go_wp2_with fail
      refine (HRE.out _ (HL.out.below HB2.out)).mono ?_
      rintro e w3 ⟨rfl, hb3⟩
      have HB3 := Lib.hid (HB2.out.trans (hb3.mono HB2.out.size))
      have HI3 := Lib.hid (HI2.out.below hb3)
      clear hb3
      go_wp2_with fail
      refine (HR1x.out _ (HL.out.below HB3.out)).mono ?_
      rintro e w4 ⟨b1, o1, cc1, rfl, y1, hb4⟩
      have HB4 := Lib.hid (HB3.out.trans (hb4.mono HB3.out.size))
      have HI4 := Lib.hid (HI3.out.below hb4)
      have HY1 := Lib.hid y1
      clear hb4
      go_wp2_with fail
      refine (HROx.out _ (HL.out.below HB4.out)).mono ?_
      rintro e w5 ⟨v5, rfl, ho5, hb5⟩
      obtain ⟨C5, d5, rfl, hj5⟩ := ints_of_own ho5
      have HJ5 := Lib.hid hj5
      have HB5 := Lib.hid (HB4.out.trans (hb5.mono HB4.out.size))
      have HI5 := Lib.hid (HI4.out.below hb5)
      rw [HX1.out] at ⊢
      have HX2 := HX1
      clear ho5 hj5 hb5 y1 HB4 HI4
      have HB4 := HB5
      have HI4 := HI5
      have HJ4 := HJ5
      clear HB5 HI5 HJ5
      generalize w5 = w4 at *
      by_cases a1 : 0 ≤ at_
      · have d1 : decide (0 ≤ at_) = true := by simpa using a1
        by_cases a2 : at_ < (ln : Int)
        · have d2 : decide (at_ < (ln : Int)) = true := by simpa using a2
          obtain ⟨a, rfl⟩ : ∃ a : Nat, at_ = (a : Int) := ⟨at_.toNat, by omega⟩
          have ha : a < L.length := by rw [HLN.out]; omega
          have d2' : decide (a < ln) = true := by simp; omega
          have ha1 : (a : Int) < (ln : Int) := a2
          obtain ⟨b, o, hA, c1, c2⟩ := HCE.out w4 (HL.out.below HB4.out) a (by rw [← HLN.out]; exact ha)
          subst hA
          have HC : Hid (∀ W, Below w.heap.size w W → W.cell? ⟨b, o + a * 2, none⟩ = some (.string (gs L a).name) ∧ W.cell? ⟨b, o + a * 2 + 1, none⟩ = some (.int .i64 (gs L a).wt)) := Lib.hid (fun W hW => by
            obtain ⟨b', o', e, g1, g2⟩ := HCE.out W (HL.out.below hW) a (by rw [← HLN.out]; exact ha)
            cases e; exact ⟨g1, g2⟩)
          have hn := HNM.out a ha
          have HS1 := Lib.hid (fun W (he : err [gs L a] s ≠ 0) => HSB.out (gs L a) W hn he)
          have HS2 := Lib.hid (fun W (he : err [gs L a] s = 0) => HSO.out (gs L a) W hn he)
          have HER := HE1.out (gs L a)
          have HSE := Lib.hid (fun W => shardErr_any (gs L a) W hn)
          have HSC := Lib.hid (fun W h1 h2 h3 => refScore_any (gs L a) s W h1 h2 h3)
          clear hn ha a1 a2
          generalize gs L a = f at *
          obtain ⟨nm, wt⟩ := f
          dsimp only at c1 c2 HC
          by_cases z1 : oneE ⟨nm, wt⟩ = 0
          · rw [if_neg (fun h => h z1)] at HER
            obtain ⟨zw, zn⟩ := oneE_zero.1 z1
            rw [z1] at HSE
            clear z1
            by_cases z2 : 40 < s.size
            · have d3 : decide ((40 : Int) < (s.size : Int)) = true := by simp; omega
              rw [if_pos z2] at HER
              have HS := Lib.hid (fun W => HS1.out W (by rw [HER]; decide))
              rw [HER] at HS
              clear HS1 HS2 HSC HER z2 zw zn
              go_wp2_with fail
              refine (HS.out _).mono ?_
              rintro e w5 ⟨rfl, hb5⟩
              have HB5 := Lib.hid (HB4.out.trans (hb5.mono HB4.out.size))
              have HI5 := Lib.hid (HI4.out.below hb5)
              have HJ5 := Lib.hid (HJ4.out.below hb5)
              obtain ⟨g1, g2⟩ := HC.out w5 HB5.out
              clear hb5 c1 c2
              go_wp2_with fail
              refine (HSE.out _).mono ?_
              rintro e w6 ⟨rfl, hb6⟩
              have HB6 := Lib.hid (HB5.out.trans (hb6.mono HB5.out.size))
              have HI6 := Lib.hid (HI5.out.below hb6)
              have HJ6 := Lib.hid (HJ5.out.below hb6)
              obtain ⟨k1, k2⟩ := HC.out w6 HB6.out
              clear hb6 g1 g2
              have HI := HI6
              have HJ := HJ6
              clear k1 k2
              -- the end
              go_wp2_with fail
              refine (HBG.out _).mono ?_
              rintro e wa ⟨rfl, hba⟩
              have HBa := Lib.hid (HB6.out.trans (hba.mono HB6.out.size))
              have HIa := Lib.hid (HI.out.below hba)
              have HJa := Lib.hid (HJ.out.below hba)
              clear hba
              go_wp2_with fail
              refine (HCK.out _ (HL.out.below HBa.out)).mono ?_
              rintro e wb ⟨rfl, hbb⟩
              have HBb := Lib.hid (HBa.out.trans (hbb.mono HBa.out.size))
              have HIb := Lib.hid (HIa.out.below hbb)
              have HJb := Lib.hid (HJa.out.below hbb)
              clear hbb
              go_wp2_with fail
              refine (HRK.out _ (HL.out.below HBb.out)).mono ?_
              rintro e wc ⟨rfl, hbc⟩
              have HBc := Lib.hid (HBb.out.trans (hbc.mono HBb.out.size))
              have HIc := Lib.hid (HIb.out.below hbc)
              have HJc := Lib.hid (HJb.out.below hbc)
              clear hbc
              go_wp2_with fail
              refine (same_any _ _ _ _ _ _ _ _ HIc.out HJc.out HX1.out HX2.out).mono ?_
              rintro e wd ⟨rfl, hbd⟩
              have HBd := Lib.hid (HBc.out.trans (hbd.mono HBc.out.size))
              clear hbd
              go_wp2
              go_ret
              exact ⟨rfl, HBd.out⟩
            · have d3 : decide ((40 : Int) < (s.size : Int)) = false := by simp; omega
              rw [if_neg z2] at HER
              have HS := Lib.hid (fun W => HS2.out W HER)
              have HSR := Lib.hid (fun W => HSC.out W zw zn (by omega))
              clear HS1 HS2 HSC HER z2 zw zn
              generalize scH ⟨nm, wt⟩ (fnv s.data.toList) = zz at *
              have hzz : ((zz : Int) != (zz : Int)) = false := by simp
              go_wp2_with fail
              refine (HS.out _).mono ?_
              rintro e w5 ⟨rfl, hb5⟩
              have HB5 := Lib.hid (HB4.out.trans (hb5.mono HB4.out.size))
              have HI5 := Lib.hid (HI4.out.below hb5)
              have HJ5 := Lib.hid (HJ4.out.below hb5)
              obtain ⟨g1, g2⟩ := HC.out w5 HB5.out
              clear hb5 c1 c2
              go_wp2_with fail
              refine (HSE.out _).mono ?_
              rintro e w6 ⟨rfl, hb6⟩
              have HB6 := Lib.hid (HB5.out.trans (hb6.mono HB5.out.size))
              have HI6 := Lib.hid (HI5.out.below hb6)
              have HJ6 := Lib.hid (HJ5.out.below hb6)
              obtain ⟨k1, k2⟩ := HC.out w6 HB6.out
              clear hb6 g1 g2
              go_wp2_with fail
              refine (HSR.out _).mono ?_
              rintro e w7 ⟨rfl, hb7⟩
              have HB7 := Lib.hid (HB6.out.trans (hb7.mono HB6.out.size))
              have HI7 := Lib.hid (HI6.out.below hb7)
              have HJ7 := Lib.hid (HJ6.out.below hb7)
              clear hb7 k1 k2
              have HI := HI7
              have HJ := HJ7
              -- the end
              go_wp2_with fail
              refine (HBG.out _).mono ?_
              rintro e wa ⟨rfl, hba⟩
              have HBa := Lib.hid (HB7.out.trans (hba.mono HB7.out.size))
              have HIa := Lib.hid (HI.out.below hba)
              have HJa := Lib.hid (HJ.out.below hba)
              clear hba
              go_wp2_with fail
              refine (HCK.out _ (HL.out.below HBa.out)).mono ?_
              rintro e wb ⟨rfl, hbb⟩
              have HBb := Lib.hid (HBa.out.trans (hbb.mono HBa.out.size))
              have HIb := Lib.hid (HIa.out.below hbb)
              have HJb := Lib.hid (HJa.out.below hbb)
              clear hbb
              go_wp2_with fail
              refine (HRK.out _ (HL.out.below HBb.out)).mono ?_
              rintro e wc ⟨rfl, hbc⟩
              have HBc := Lib.hid (HBb.out.trans (hbc.mono HBb.out.size))
              have HIc := Lib.hid (HIb.out.below hbc)
              have HJc := Lib.hid (HJb.out.below hbc)
              clear hbc
              go_wp2_with fail
              refine (same_any _ _ _ _ _ _ _ _ HIc.out HJc.out HX1.out HX2.out).mono ?_
              rintro e wd ⟨rfl, hbd⟩
              have HBd := Lib.hid (HBc.out.trans (hbd.mono HBc.out.size))
              clear hbd
              go_wp2
              go_ret
              exact ⟨rfl, HBd.out⟩
          · rw [if_pos z1] at HER
            have HS := Lib.hid (fun W => HS1.out W (by rw [HER]; exact z1))
            rw [HER] at HS
            have hz1 := bd_eq z1
            clear HS1 HS2 HSC HER z1
            generalize oneE ⟨nm, wt⟩ = er at *
            have hee : (er != er) = false := by simp
            go_wp2_with fail
            refine (HS.out _).mono ?_
            rintro e w5 ⟨rfl, hb5⟩
            have HB5 := Lib.hid (HB4.out.trans (hb5.mono HB4.out.size))
            have HI5 := Lib.hid (HI4.out.below hb5)
            have HJ5 := Lib.hid (HJ4.out.below hb5)
            obtain ⟨g1, g2⟩ := HC.out w5 HB5.out
            clear hb5 c1 c2
            go_wp2_with fail
            refine (HSE.out _).mono ?_
            rintro e w6 ⟨rfl, hb6⟩
            have HB6 := Lib.hid (HB5.out.trans (hb6.mono HB5.out.size))
            have HI6 := Lib.hid (HI5.out.below hb6)
            have HJ6 := Lib.hid (HJ5.out.below hb6)
            obtain ⟨k1, k2⟩ := HC.out w6 HB6.out
            clear hb6 g1 g2
            have HI := HI6
            have HJ := HJ6
            clear k1 k2
            -- the end
            go_wp2_with fail
            refine (HBG.out _).mono ?_
            rintro e wa ⟨rfl, hba⟩
            have HBa := Lib.hid (HB6.out.trans (hba.mono HB6.out.size))
            have HIa := Lib.hid (HI.out.below hba)
            have HJa := Lib.hid (HJ.out.below hba)
            clear hba
            go_wp2_with fail
            refine (HCK.out _ (HL.out.below HBa.out)).mono ?_
            rintro e wb ⟨rfl, hbb⟩
            have HBb := Lib.hid (HBa.out.trans (hbb.mono HBa.out.size))
            have HIb := Lib.hid (HIa.out.below hbb)
            have HJb := Lib.hid (HJa.out.below hbb)
            clear hbb
            go_wp2_with fail
            refine (HRK.out _ (HL.out.below HBb.out)).mono ?_
            rintro e wc ⟨rfl, hbc⟩
            have HBc := Lib.hid (HBb.out.trans (hbc.mono HBb.out.size))
            have HIc := Lib.hid (HIb.out.below hbc)
            have HJc := Lib.hid (HJb.out.below hbc)
            clear hbc
            go_wp2_with fail
            refine (same_any _ _ _ _ _ _ _ _ HIc.out HJc.out HX1.out HX2.out).mono ?_
            rintro e wd ⟨rfl, hbd⟩
            have HBd := Lib.hid (HBc.out.trans (hbd.mono HBc.out.size))
            clear hbd
            go_wp2
            go_ret
            exact ⟨rfl, HBd.out⟩
        · have d2 : decide (at_ < (ln : Int)) = false := by simpa using a2
          clear a1 a2
          have HI := HI4
          have HJ := HJ4
          -- the end
          go_wp2_with fail
          refine (HBG.out _).mono ?_
          rintro e wa ⟨rfl, hba⟩
          have HBa := Lib.hid (HB4.out.trans (hba.mono HB4.out.size))
          have HIa := Lib.hid (HI.out.below hba)
          have HJa := Lib.hid (HJ.out.below hba)
          clear hba
          go_wp2_with fail
          refine (HCK.out _ (HL.out.below HBa.out)).mono ?_
          rintro e wb ⟨rfl, hbb⟩
          have HBb := Lib.hid (HBa.out.trans (hbb.mono HBa.out.size))
          have HIb := Lib.hid (HIa.out.below hbb)
          have HJb := Lib.hid (HJa.out.below hbb)
          clear hbb
          go_wp2_with fail
          refine (HRK.out _ (HL.out.below HBb.out)).mono ?_
          rintro e wc ⟨rfl, hbc⟩
          have HBc := Lib.hid (HBb.out.trans (hbc.mono HBb.out.size))
          have HIc := Lib.hid (HIb.out.below hbc)
          have HJc := Lib.hid (HJb.out.below hbc)
          clear hbc
          go_wp2_with fail
          refine (same_any _ _ _ _ _ _ _ _ HIc.out HJc.out HX1.out HX2.out).mono ?_
          rintro e wd ⟨rfl, hbd⟩
          have HBd := Lib.hid (HBc.out.trans (hbd.mono HBc.out.size))
          clear hbd
          go_wp2
          go_ret
          exact ⟨rfl, HBd.out⟩
      · have d1 : decide (0 ≤ at_) = false := by simpa using a1
        clear a1
        have HI := HI4
        have HJ := HJ4
        -- the end
        go_wp2_with fail
        refine (HBG.out _).mono ?_
        rintro e wa ⟨rfl, hba⟩
        have HBa := Lib.hid (HB4.out.trans (hba.mono HB4.out.size))
        have HIa := Lib.hid (HI.out.below hba)
        have HJa := Lib.hid (HJ.out.below hba)
        clear hba
        go_wp2_with fail
        refine (HCK.out _ (HL.out.below HBa.out)).mono ?_
        rintro e wb ⟨rfl, hbb⟩
        have HBb := Lib.hid (HBa.out.trans (hbb.mono HBa.out.size))
        have HIb := Lib.hid (HIa.out.below hbb)
        have HJb := Lib.hid (HJa.out.below hbb)
        clear hbb
        go_wp2_with fail
        refine (HRK.out _ (HL.out.below HBb.out)).mono ?_
        rintro e wc ⟨rfl, hbc⟩
        have HBc := Lib.hid (HBb.out.trans (hbc.mono HBb.out.size))
        have HIc := Lib.hid (HIb.out.below hbc)
        have HJc := Lib.hid (HJb.out.below hbc)
        clear hbc
        go_wp2_with fail
        refine (same_any _ _ _ _ _ _ _ _ HIc.out HJc.out HX1.out HX2.out).mono ?_
        rintro e wd ⟨rfl, hbd⟩
        have HBd := Lib.hid (HBc.out.trans (hbd.mono HBc.out.size))
        clear hbd
        go_wp2
        go_ret
        exact ⟨rfl, HBd.out⟩
    · by_cases hm1 : many < 1
      · have m1 : decide (many < 1) = true := by simpa using hm1
        have HOX := Lib.hid (fun W h => HOF.out W h he hm)
        have HR1x := Lib.hid (fun W h => HR1.out W h he)
        rw [he] at HOW HRE
        clear HOB HOF HOO HR1 HRO he
        have HX1 : Hid (([] : List Int).length = 0) := Lib.hid rfl
        have HX2 : Hid (([] : List Int).length = 0) := Lib.hid rfl
        generalize chk L = ck at *
        generalize ow L s = io at *
        have hio : ((io : Int) == (io : Int)) = true := by simp
        go_enter Try.func3, Try.ntmps3
        go_wp2_with fail
        refine (HOW.out _ HL.out).mono ?_
        rintro e w1 ⟨rfl, hb1⟩
        have HB1 := Lib.hid hb1
        clear hb1
        go_wp2_with fail
        refine (HOX.out _ (HL.out.below HB1.out)).mono ?_
        rintro e w2 ⟨C, d, rfl, hi2, hb2⟩
        have HB2 := Lib.hid (HB1.out.trans (hb2.mono HB1.out.size))
        have HI2 := Lib.hid hi2
        clear hi2 hb2
        go_wp2_with fail
        refine (HRE.out _ (HL.out.below HB2.out)).mono ?_
        rintro e w3 ⟨rfl, hb3⟩
        have HB3 := Lib.hid (HB2.out.trans (hb3.mono HB2.out.size))
        have HI3 := Lib.hid (HI2.out.below hb3)
        clear hb3
        go_wp2_with fail
        refine (HR1x.out _ (HL.out.below HB3.out)).mono ?_
        rintro e w4 ⟨b1, o1, cc1, rfl, y1, hb4⟩
        have HB4 := Lib.hid (HB3.out.trans (hb4.mono HB3.out.size))
        have HI4 := Lib.hid (HI3.out.below hb4)
        have HY1 := Lib.hid y1
        clear hb4
        have HJ4 : Hid (Ints w4 none 0 []) := Lib.hid (Ints.none_ _)
        clear hm hm1
        by_cases a1 : 0 ≤ at_
        · have d1 : decide (0 ≤ at_) = true := by simpa using a1
          by_cases a2 : at_ < (ln : Int)
          · have d2 : decide (at_ < (ln : Int)) = true := by simpa using a2
            obtain ⟨a, rfl⟩ : ∃ a : Nat, at_ = (a : Int) := ⟨at_.toNat, by omega⟩
            have ha : a < L.length := by rw [HLN.out]; omega
            have d2' : decide (a < ln) = true := by simp; omega
            have ha1 : (a : Int) < (ln : Int) := a2
            obtain ⟨b, o, hA, c1, c2⟩ := HCE.out w4 (HL.out.below HB4.out) a (by rw [← HLN.out]; exact ha)
            subst hA
            have HC : Hid (∀ W, Below w.heap.size w W → W.cell? ⟨b, o + a * 2, none⟩ = some (.string (gs L a).name) ∧ W.cell? ⟨b, o + a * 2 + 1, none⟩ = some (.int .i64 (gs L a).wt)) := Lib.hid (fun W hW => by
              obtain ⟨b', o', e, g1, g2⟩ := HCE.out W (HL.out.below hW) a (by rw [← HLN.out]; exact ha)
              cases e; exact ⟨g1, g2⟩)
            have hn := HNM.out a ha
            have HS1 := Lib.hid (fun W (he : err [gs L a] s ≠ 0) => HSB.out (gs L a) W hn he)
            have HS2 := Lib.hid (fun W (he : err [gs L a] s = 0) => HSO.out (gs L a) W hn he)
            have HER := HE1.out (gs L a)
            have HSE := Lib.hid (fun W => shardErr_any (gs L a) W hn)
            have HSC := Lib.hid (fun W h1 h2 h3 => refScore_any (gs L a) s W h1 h2 h3)
            clear hn ha a1 a2
            generalize gs L a = f at *
            obtain ⟨nm, wt⟩ := f
            dsimp only at c1 c2 HC
            by_cases z1 : oneE ⟨nm, wt⟩ = 0
            · rw [if_neg (fun h => h z1)] at HER
              obtain ⟨zw, zn⟩ := oneE_zero.1 z1
              rw [z1] at HSE
              clear z1
              by_cases z2 : 40 < s.size
              · have d3 : decide ((40 : Int) < (s.size : Int)) = true := by simp; omega
                rw [if_pos z2] at HER
                have HS := Lib.hid (fun W => HS1.out W (by rw [HER]; decide))
                rw [HER] at HS
                clear HS1 HS2 HSC HER z2 zw zn
                go_wp2_with fail
                refine (HS.out _).mono ?_
                rintro e w5 ⟨rfl, hb5⟩
                have HB5 := Lib.hid (HB4.out.trans (hb5.mono HB4.out.size))
                have HI5 := Lib.hid (HI4.out.below hb5)
                have HJ5 := Lib.hid (HJ4.out.below hb5)
                obtain ⟨g1, g2⟩ := HC.out w5 HB5.out
                clear hb5 c1 c2
                go_wp2_with fail
                refine (HSE.out _).mono ?_
                rintro e w6 ⟨rfl, hb6⟩
                have HB6 := Lib.hid (HB5.out.trans (hb6.mono HB5.out.size))
                have HI6 := Lib.hid (HI5.out.below hb6)
                have HJ6 := Lib.hid (HJ5.out.below hb6)
                obtain ⟨k1, k2⟩ := HC.out w6 HB6.out
                clear hb6 g1 g2
                have HI := HI6
                have HJ := HJ6
                clear k1 k2
                -- the end
                go_wp2_with fail
                refine (HBG.out _).mono ?_
                rintro e wa ⟨rfl, hba⟩
                have HBa := Lib.hid (HB6.out.trans (hba.mono HB6.out.size))
                have HIa := Lib.hid (HI.out.below hba)
                have HJa := Lib.hid (HJ.out.below hba)
                clear hba
                go_wp2_with fail
                refine (HCK.out _ (HL.out.below HBa.out)).mono ?_
                rintro e wb ⟨rfl, hbb⟩
                have HBb := Lib.hid (HBa.out.trans (hbb.mono HBa.out.size))
                have HIb := Lib.hid (HIa.out.below hbb)
                have HJb := Lib.hid (HJa.out.below hbb)
                clear hbb
                go_wp2_with fail
                refine (HRK.out _ (HL.out.below HBb.out)).mono ?_
                rintro e wc ⟨rfl, hbc⟩
                have HBc := Lib.hid (HBb.out.trans (hbc.mono HBb.out.size))
                have HIc := Lib.hid (HIb.out.below hbc)
                have HJc := Lib.hid (HJb.out.below hbc)
                clear hbc
                go_wp2_with fail
                refine (same_any _ _ _ _ _ _ _ _ HIc.out HJc.out HX1.out HX2.out).mono ?_
                rintro e wd ⟨rfl, hbd⟩
                have HBd := Lib.hid (HBc.out.trans (hbd.mono HBc.out.size))
                clear hbd
                go_wp2
                go_ret
                exact ⟨rfl, HBd.out⟩
              · have d3 : decide ((40 : Int) < (s.size : Int)) = false := by simp; omega
                rw [if_neg z2] at HER
                have HS := Lib.hid (fun W => HS2.out W HER)
                have HSR := Lib.hid (fun W => HSC.out W zw zn (by omega))
                clear HS1 HS2 HSC HER z2 zw zn
                generalize scH ⟨nm, wt⟩ (fnv s.data.toList) = zz at *
                have hzz : ((zz : Int) != (zz : Int)) = false := by simp
                go_wp2_with fail
                refine (HS.out _).mono ?_
                rintro e w5 ⟨rfl, hb5⟩
                have HB5 := Lib.hid (HB4.out.trans (hb5.mono HB4.out.size))
                have HI5 := Lib.hid (HI4.out.below hb5)
                have HJ5 := Lib.hid (HJ4.out.below hb5)
                obtain ⟨g1, g2⟩ := HC.out w5 HB5.out
                clear hb5 c1 c2
                go_wp2_with fail
                refine (HSE.out _).mono ?_
                rintro e w6 ⟨rfl, hb6⟩
                have HB6 := Lib.hid (HB5.out.trans (hb6.mono HB5.out.size))
                have HI6 := Lib.hid (HI5.out.below hb6)
                have HJ6 := Lib.hid (HJ5.out.below hb6)
                obtain ⟨k1, k2⟩ := HC.out w6 HB6.out
                clear hb6 g1 g2
                go_wp2_with fail
                refine (HSR.out _).mono ?_
                rintro e w7 ⟨rfl, hb7⟩
                have HB7 := Lib.hid (HB6.out.trans (hb7.mono HB6.out.size))
                have HI7 := Lib.hid (HI6.out.below hb7)
                have HJ7 := Lib.hid (HJ6.out.below hb7)
                clear hb7 k1 k2
                have HI := HI7
                have HJ := HJ7
                -- the end
                go_wp2_with fail
                refine (HBG.out _).mono ?_
                rintro e wa ⟨rfl, hba⟩
                have HBa := Lib.hid (HB7.out.trans (hba.mono HB7.out.size))
                have HIa := Lib.hid (HI.out.below hba)
                have HJa := Lib.hid (HJ.out.below hba)
                clear hba
                go_wp2_with fail
                refine (HCK.out _ (HL.out.below HBa.out)).mono ?_
                rintro e wb ⟨rfl, hbb⟩
                have HBb := Lib.hid (HBa.out.trans (hbb.mono HBa.out.size))
                have HIb := Lib.hid (HIa.out.below hbb)
                have HJb := Lib.hid (HJa.out.below hbb)
                clear hbb
                go_wp2_with fail
                refine (HRK.out _ (HL.out.below HBb.out)).mono ?_
                rintro e wc ⟨rfl, hbc⟩
                have HBc := Lib.hid (HBb.out.trans (hbc.mono HBb.out.size))
                have HIc := Lib.hid (HIb.out.below hbc)
                have HJc := Lib.hid (HJb.out.below hbc)
                clear hbc
                go_wp2_with fail
                refine (same_any _ _ _ _ _ _ _ _ HIc.out HJc.out HX1.out HX2.out).mono ?_
                rintro e wd ⟨rfl, hbd⟩
                have HBd := Lib.hid (HBc.out.trans (hbd.mono HBc.out.size))
                clear hbd
                go_wp2
                go_ret
                exact ⟨rfl, HBd.out⟩
            · rw [if_pos z1] at HER
              have HS := Lib.hid (fun W => HS1.out W (by rw [HER]; exact z1))
              rw [HER] at HS
              have hz1 := bd_eq z1
              clear HS1 HS2 HSC HER z1
              generalize oneE ⟨nm, wt⟩ = er at *
              have hee : (er != er) = false := by simp
              go_wp2_with fail
              refine (HS.out _).mono ?_
              rintro e w5 ⟨rfl, hb5⟩
              have HB5 := Lib.hid (HB4.out.trans (hb5.mono HB4.out.size))
              have HI5 := Lib.hid (HI4.out.below hb5)
              have HJ5 := Lib.hid (HJ4.out.below hb5)
              obtain ⟨g1, g2⟩ := HC.out w5 HB5.out
              clear hb5 c1 c2
              go_wp2_with fail
              refine (HSE.out _).mono ?_
              rintro e w6 ⟨rfl, hb6⟩
              have HB6 := Lib.hid (HB5.out.trans (hb6.mono HB5.out.size))
              have HI6 := Lib.hid (HI5.out.below hb6)
              have HJ6 := Lib.hid (HJ5.out.below hb6)
              obtain ⟨k1, k2⟩ := HC.out w6 HB6.out
              clear hb6 g1 g2
              have HI := HI6
              have HJ := HJ6
              clear k1 k2
              -- the end
              go_wp2_with fail
              refine (HBG.out _).mono ?_
              rintro e wa ⟨rfl, hba⟩
              have HBa := Lib.hid (HB6.out.trans (hba.mono HB6.out.size))
              have HIa := Lib.hid (HI.out.below hba)
              have HJa := Lib.hid (HJ.out.below hba)
              clear hba
              go_wp2_with fail
              refine (HCK.out _ (HL.out.below HBa.out)).mono ?_
              rintro e wb ⟨rfl, hbb⟩
              have HBb := Lib.hid (HBa.out.trans (hbb.mono HBa.out.size))
              have HIb := Lib.hid (HIa.out.below hbb)
              have HJb := Lib.hid (HJa.out.below hbb)
              clear hbb
              go_wp2_with fail
              refine (HRK.out _ (HL.out.below HBb.out)).mono ?_
              rintro e wc ⟨rfl, hbc⟩
              have HBc := Lib.hid (HBb.out.trans (hbc.mono HBb.out.size))
              have HIc := Lib.hid (HIb.out.below hbc)
              have HJc := Lib.hid (HJb.out.below hbc)
              clear hbc
              go_wp2_with fail
              refine (same_any _ _ _ _ _ _ _ _ HIc.out HJc.out HX1.out HX2.out).mono ?_
              rintro e wd ⟨rfl, hbd⟩
              have HBd := Lib.hid (HBc.out.trans (hbd.mono HBc.out.size))
              clear hbd
              go_wp2
              go_ret
              exact ⟨rfl, HBd.out⟩
          · have d2 : decide (at_ < (ln : Int)) = false := by simpa using a2
            clear a1 a2
            have HI := HI4
            have HJ := HJ4
            -- the end
            go_wp2_with fail
            refine (HBG.out _).mono ?_
            rintro e wa ⟨rfl, hba⟩
            have HBa := Lib.hid (HB4.out.trans (hba.mono HB4.out.size))
            have HIa := Lib.hid (HI.out.below hba)
            have HJa := Lib.hid (HJ.out.below hba)
            clear hba
            go_wp2_with fail
            refine (HCK.out _ (HL.out.below HBa.out)).mono ?_
            rintro e wb ⟨rfl, hbb⟩
            have HBb := Lib.hid (HBa.out.trans (hbb.mono HBa.out.size))
            have HIb := Lib.hid (HIa.out.below hbb)
            have HJb := Lib.hid (HJa.out.below hbb)
            clear hbb
            go_wp2_with fail
            refine (HRK.out _ (HL.out.below HBb.out)).mono ?_
            rintro e wc ⟨rfl, hbc⟩
            have HBc := Lib.hid (HBb.out.trans (hbc.mono HBb.out.size))
            have HIc := Lib.hid (HIb.out.below hbc)
            have HJc := Lib.hid (HJb.out.below hbc)
            clear hbc
            go_wp2_with fail
            refine (same_any _ _ _ _ _ _ _ _ HIc.out HJc.out HX1.out HX2.out).mono ?_
            rintro e wd ⟨rfl, hbd⟩
            have HBd := Lib.hid (HBc.out.trans (hbd.mono HBc.out.size))
            clear hbd
            go_wp2
            go_ret
            exact ⟨rfl, HBd.out⟩
        · have d1 : decide (0 ≤ at_) = false := by simpa using a1
          clear a1
          have HI := HI4
          have HJ := HJ4
          -- the end
          go_wp2_with fail
          refine (HBG.out _).mono ?_
          rintro e wa ⟨rfl, hba⟩
          have HBa := Lib.hid (HB4.out.trans (hba.mono HB4.out.size))
          have HIa := Lib.hid (HI.out.below hba)
          have HJa := Lib.hid (HJ.out.below hba)
          clear hba
          go_wp2_with fail
          refine (HCK.out _ (HL.out.below HBa.out)).mono ?_
          rintro e wb ⟨rfl, hbb⟩
          have HBb := Lib.hid (HBa.out.trans (hbb.mono HBa.out.size))
          have HIb := Lib.hid (HIa.out.below hbb)
          have HJb := Lib.hid (HJa.out.below hbb)
          clear hbb
          go_wp2_with fail
          refine (HRK.out _ (HL.out.below HBb.out)).mono ?_
          rintro e wc ⟨rfl, hbc⟩
          have HBc := Lib.hid (HBb.out.trans (hbc.mono HBb.out.size))
          have HIc := Lib.hid (HIb.out.below hbc)
          have HJc := Lib.hid (HJb.out.below hbc)
          clear hbc
          go_wp2_with fail
          refine (same_any _ _ _ _ _ _ _ _ HIc.out HJc.out HX1.out HX2.out).mono ?_
          rintro e wd ⟨rfl, hbd⟩
          have HBd := Lib.hid (HBc.out.trans (hbd.mono HBc.out.size))
          clear hbd
          go_wp2
          go_ret
          exact ⟨rfl, HBd.out⟩
      · have m1 : decide (many < 1) = false := by simpa using hm1
        have m2 : decide ((ln : Int) < many) = true := by simp; omega
        have HOX := Lib.hid (fun W h => HOF.out W h he hm)
        have HR1x := Lib.hid (fun W h => HR1.out W h he)
        rw [he] at HOW HRE
        clear HOB HOF HOO HR1 HRO he
        have HX1 : Hid (([] : List Int).length = 0) := Lib.hid rfl
        have HX2 : Hid (([] : List Int).length = 0) := Lib.hid rfl
        generalize chk L = ck at *
        generalize ow L s = io at *
        have hio : ((io : Int) == (io : Int)) = true := by simp
        go_enter Try.func3, Try.ntmps3
        go_wp2_with fail
        refine (HOW.out _ HL.out).mono ?_
        rintro e w1 ⟨rfl, hb1⟩
        have HB1 := Lib.hid hb1
        clear hb1
        go_wp2_with fail
        refine (HOX.out _ (HL.out.below HB1.out)).mono ?_
        rintro e w2 ⟨C, d, rfl, hi2, hb2⟩
        have HB2 := Lib.hid (HB1.out.trans (hb2.mono HB1.out.size))
        have HI2 := Lib.hid hi2
        clear hi2 hb2
        go_wp2_with fail
        refine (HRE.out _ (HL.out.below HB2.out)).mono ?_
        rintro e w3 ⟨rfl, hb3⟩
        have HB3 := Lib.hid (HB2.out.trans (hb3.mono HB2.out.size))
        have HI3 := Lib.hid (HI2.out.below hb3)
        clear hb3
        go_wp2_with fail
        refine (HR1x.out _ (HL.out.below HB3.out)).mono ?_
        rintro e w4 ⟨b1, o1, cc1, rfl, y1, hb4⟩
        have HB4 := Lib.hid (HB3.out.trans (hb4.mono HB3.out.size))
        have HI4 := Lib.hid (HI3.out.below hb4)
        have HY1 := Lib.hid y1
        clear hb4
        have HJ4 : Hid (Ints w4 none 0 []) := Lib.hid (Ints.none_ _)
        clear hm hm1
        by_cases a1 : 0 ≤ at_
        · have d1 : decide (0 ≤ at_) = true := by simpa using a1
          by_cases a2 : at_ < (ln : Int)
          · have d2 : decide (at_ < (ln : Int)) = true := by simpa using a2
            obtain ⟨a, rfl⟩ : ∃ a : Nat, at_ = (a : Int) := ⟨at_.toNat, by omega⟩
            have ha : a < L.length := by rw [HLN.out]; omega
            have d2' : decide (a < ln) = true := by simp; omega
            have ha1 : (a : Int) < (ln : Int) := a2
            obtain ⟨b, o, hA, c1, c2⟩ := HCE.out w4 (HL.out.below HB4.out) a (by rw [← HLN.out]; exact ha)
            subst hA
            have HC : Hid (∀ W, Below w.heap.size w W → W.cell? ⟨b, o + a * 2, none⟩ = some (.string (gs L a).name) ∧ W.cell? ⟨b, o + a * 2 + 1, none⟩ = some (.int .i64 (gs L a).wt)) := Lib.hid (fun W hW => by
              obtain ⟨b', o', e, g1, g2⟩ := HCE.out W (HL.out.below hW) a (by rw [← HLN.out]; exact ha)
              cases e; exact ⟨g1, g2⟩)
            have hn := HNM.out a ha
            have HS1 := Lib.hid (fun W (he : err [gs L a] s ≠ 0) => HSB.out (gs L a) W hn he)
            have HS2 := Lib.hid (fun W (he : err [gs L a] s = 0) => HSO.out (gs L a) W hn he)
            have HER := HE1.out (gs L a)
            have HSE := Lib.hid (fun W => shardErr_any (gs L a) W hn)
            have HSC := Lib.hid (fun W h1 h2 h3 => refScore_any (gs L a) s W h1 h2 h3)
            clear hn ha a1 a2
            generalize gs L a = f at *
            obtain ⟨nm, wt⟩ := f
            dsimp only at c1 c2 HC
            by_cases z1 : oneE ⟨nm, wt⟩ = 0
            · rw [if_neg (fun h => h z1)] at HER
              obtain ⟨zw, zn⟩ := oneE_zero.1 z1
              rw [z1] at HSE
              clear z1
              by_cases z2 : 40 < s.size
              · have d3 : decide ((40 : Int) < (s.size : Int)) = true := by simp; omega
                rw [if_pos z2] at HER
                have HS := Lib.hid (fun W => HS1.out W (by rw [HER]; decide))
                rw [HER] at HS
                clear HS1 HS2 HSC HER z2 zw zn
                go_wp2_with fail
                refine (HS.out _).mono ?_
                rintro e w5 ⟨rfl, hb5⟩
                have HB5 := Lib.hid (HB4.out.trans (hb5.mono HB4.out.size))
                have HI5 := Lib.hid (HI4.out.below hb5)
                have HJ5 := Lib.hid (HJ4.out.below hb5)
                obtain ⟨g1, g2⟩ := HC.out w5 HB5.out
                clear hb5 c1 c2
                go_wp2_with fail
                refine (HSE.out _).mono ?_
                rintro e w6 ⟨rfl, hb6⟩
                have HB6 := Lib.hid (HB5.out.trans (hb6.mono HB5.out.size))
                have HI6 := Lib.hid (HI5.out.below hb6)
                have HJ6 := Lib.hid (HJ5.out.below hb6)
                obtain ⟨k1, k2⟩ := HC.out w6 HB6.out
                clear hb6 g1 g2
                have HI := HI6
                have HJ := HJ6
                clear k1 k2
                -- the end
                go_wp2_with fail
                refine (HBG.out _).mono ?_
                rintro e wa ⟨rfl, hba⟩
                have HBa := Lib.hid (HB6.out.trans (hba.mono HB6.out.size))
                have HIa := Lib.hid (HI.out.below hba)
                have HJa := Lib.hid (HJ.out.below hba)
                clear hba
                go_wp2_with fail
                refine (HCK.out _ (HL.out.below HBa.out)).mono ?_
                rintro e wb ⟨rfl, hbb⟩
                have HBb := Lib.hid (HBa.out.trans (hbb.mono HBa.out.size))
                have HIb := Lib.hid (HIa.out.below hbb)
                have HJb := Lib.hid (HJa.out.below hbb)
                clear hbb
                go_wp2_with fail
                refine (HRK.out _ (HL.out.below HBb.out)).mono ?_
                rintro e wc ⟨rfl, hbc⟩
                have HBc := Lib.hid (HBb.out.trans (hbc.mono HBb.out.size))
                have HIc := Lib.hid (HIb.out.below hbc)
                have HJc := Lib.hid (HJb.out.below hbc)
                clear hbc
                go_wp2_with fail
                refine (same_any _ _ _ _ _ _ _ _ HIc.out HJc.out HX1.out HX2.out).mono ?_
                rintro e wd ⟨rfl, hbd⟩
                have HBd := Lib.hid (HBc.out.trans (hbd.mono HBc.out.size))
                clear hbd
                go_wp2
                go_ret
                exact ⟨rfl, HBd.out⟩
              · have d3 : decide ((40 : Int) < (s.size : Int)) = false := by simp; omega
                rw [if_neg z2] at HER
                have HS := Lib.hid (fun W => HS2.out W HER)
                have HSR := Lib.hid (fun W => HSC.out W zw zn (by omega))
                clear HS1 HS2 HSC HER z2 zw zn
                generalize scH ⟨nm, wt⟩ (fnv s.data.toList) = zz at *
                have hzz : ((zz : Int) != (zz : Int)) = false := by simp
                go_wp2_with fail
                refine (HS.out _).mono ?_
                rintro e w5 ⟨rfl, hb5⟩
                have HB5 := Lib.hid (HB4.out.trans (hb5.mono HB4.out.size))
                have HI5 := Lib.hid (HI4.out.below hb5)
                have HJ5 := Lib.hid (HJ4.out.below hb5)
                obtain ⟨g1, g2⟩ := HC.out w5 HB5.out
                clear hb5 c1 c2
                go_wp2_with fail
                refine (HSE.out _).mono ?_
                rintro e w6 ⟨rfl, hb6⟩
                have HB6 := Lib.hid (HB5.out.trans (hb6.mono HB5.out.size))
                have HI6 := Lib.hid (HI5.out.below hb6)
                have HJ6 := Lib.hid (HJ5.out.below hb6)
                obtain ⟨k1, k2⟩ := HC.out w6 HB6.out
                clear hb6 g1 g2
                go_wp2_with fail
                refine (HSR.out _).mono ?_
                rintro e w7 ⟨rfl, hb7⟩
                have HB7 := Lib.hid (HB6.out.trans (hb7.mono HB6.out.size))
                have HI7 := Lib.hid (HI6.out.below hb7)
                have HJ7 := Lib.hid (HJ6.out.below hb7)
                clear hb7 k1 k2
                have HI := HI7
                have HJ := HJ7
                -- the end
                go_wp2_with fail
                refine (HBG.out _).mono ?_
                rintro e wa ⟨rfl, hba⟩
                have HBa := Lib.hid (HB7.out.trans (hba.mono HB7.out.size))
                have HIa := Lib.hid (HI.out.below hba)
                have HJa := Lib.hid (HJ.out.below hba)
                clear hba
                go_wp2_with fail
                refine (HCK.out _ (HL.out.below HBa.out)).mono ?_
                rintro e wb ⟨rfl, hbb⟩
                have HBb := Lib.hid (HBa.out.trans (hbb.mono HBa.out.size))
                have HIb := Lib.hid (HIa.out.below hbb)
                have HJb := Lib.hid (HJa.out.below hbb)
                clear hbb
                go_wp2_with fail
                refine (HRK.out _ (HL.out.below HBb.out)).mono ?_
                rintro e wc ⟨rfl, hbc⟩
                have HBc := Lib.hid (HBb.out.trans (hbc.mono HBb.out.size))
                have HIc := Lib.hid (HIb.out.below hbc)
                have HJc := Lib.hid (HJb.out.below hbc)
                clear hbc
                go_wp2_with fail
                refine (same_any _ _ _ _ _ _ _ _ HIc.out HJc.out HX1.out HX2.out).mono ?_
                rintro e wd ⟨rfl, hbd⟩
                have HBd := Lib.hid (HBc.out.trans (hbd.mono HBc.out.size))
                clear hbd
                go_wp2
                go_ret
                exact ⟨rfl, HBd.out⟩
            · rw [if_pos z1] at HER
              have HS := Lib.hid (fun W => HS1.out W (by rw [HER]; exact z1))
              rw [HER] at HS
              have hz1 := bd_eq z1
              clear HS1 HS2 HSC HER z1
              generalize oneE ⟨nm, wt⟩ = er at *
              have hee : (er != er) = false := by simp
              go_wp2_with fail
              refine (HS.out _).mono ?_
              rintro e w5 ⟨rfl, hb5⟩
              have HB5 := Lib.hid (HB4.out.trans (hb5.mono HB4.out.size))
              have HI5 := Lib.hid (HI4.out.below hb5)
              have HJ5 := Lib.hid (HJ4.out.below hb5)
              obtain ⟨g1, g2⟩ := HC.out w5 HB5.out
              clear hb5 c1 c2
              go_wp2_with fail
              refine (HSE.out _).mono ?_
              rintro e w6 ⟨rfl, hb6⟩
              have HB6 := Lib.hid (HB5.out.trans (hb6.mono HB5.out.size))
              have HI6 := Lib.hid (HI5.out.below hb6)
              have HJ6 := Lib.hid (HJ5.out.below hb6)
              obtain ⟨k1, k2⟩ := HC.out w6 HB6.out
              clear hb6 g1 g2
              have HI := HI6
              have HJ := HJ6
              clear k1 k2
              -- the end
              go_wp2_with fail
              refine (HBG.out _).mono ?_
              rintro e wa ⟨rfl, hba⟩
              have HBa := Lib.hid (HB6.out.trans (hba.mono HB6.out.size))
              have HIa := Lib.hid (HI.out.below hba)
              have HJa := Lib.hid (HJ.out.below hba)
              clear hba
              go_wp2_with fail
              refine (HCK.out _ (HL.out.below HBa.out)).mono ?_
              rintro e wb ⟨rfl, hbb⟩
              have HBb := Lib.hid (HBa.out.trans (hbb.mono HBa.out.size))
              have HIb := Lib.hid (HIa.out.below hbb)
              have HJb := Lib.hid (HJa.out.below hbb)
              clear hbb
              go_wp2_with fail
              refine (HRK.out _ (HL.out.below HBb.out)).mono ?_
              rintro e wc ⟨rfl, hbc⟩
              have HBc := Lib.hid (HBb.out.trans (hbc.mono HBb.out.size))
              have HIc := Lib.hid (HIb.out.below hbc)
              have HJc := Lib.hid (HJb.out.below hbc)
              clear hbc
              go_wp2_with fail
              refine (same_any _ _ _ _ _ _ _ _ HIc.out HJc.out HX1.out HX2.out).mono ?_
              rintro e wd ⟨rfl, hbd⟩
              have HBd := Lib.hid (HBc.out.trans (hbd.mono HBc.out.size))
              clear hbd
              go_wp2
              go_ret
              exact ⟨rfl, HBd.out⟩
          · have d2 : decide (at_ < (ln : Int)) = false := by simpa using a2
            clear a1 a2
            have HI := HI4
            have HJ := HJ4
            -- the end
            go_wp2_with fail
            refine (HBG.out _).mono ?_
            rintro e wa ⟨rfl, hba⟩
            have HBa := Lib.hid (HB4.out.trans (hba.mono HB4.out.size))
            have HIa := Lib.hid (HI.out.below hba)
            have HJa := Lib.hid (HJ.out.below hba)
            clear hba
            go_wp2_with fail
            refine (HCK.out _ (HL.out.below HBa.out)).mono ?_
            rintro e wb ⟨rfl, hbb⟩
            have HBb := Lib.hid (HBa.out.trans (hbb.mono HBa.out.size))
            have HIb := Lib.hid (HIa.out.below hbb)
            have HJb := Lib.hid (HJa.out.below hbb)
            clear hbb
            go_wp2_with fail
            refine (HRK.out _ (HL.out.below HBb.out)).mono ?_
            rintro e wc ⟨rfl, hbc⟩
            have HBc := Lib.hid (HBb.out.trans (hbc.mono HBb.out.size))
            have HIc := Lib.hid (HIb.out.below hbc)
            have HJc := Lib.hid (HJb.out.below hbc)
            clear hbc
            go_wp2_with fail
            refine (same_any _ _ _ _ _ _ _ _ HIc.out HJc.out HX1.out HX2.out).mono ?_
            rintro e wd ⟨rfl, hbd⟩
            have HBd := Lib.hid (HBc.out.trans (hbd.mono HBc.out.size))
            clear hbd
            go_wp2
            go_ret
            exact ⟨rfl, HBd.out⟩
        · have d1 : decide (0 ≤ at_) = false := by simpa using a1
          clear a1
          have HI := HI4
          have HJ := HJ4
          -- the end
          go_wp2_with fail
          refine (HBG.out _).mono ?_
          rintro e wa ⟨rfl, hba⟩
          have HBa := Lib.hid (HB4.out.trans (hba.mono HB4.out.size))
          have HIa := Lib.hid (HI.out.below hba)
          have HJa := Lib.hid (HJ.out.below hba)
          clear hba
          go_wp2_with fail
          refine (HCK.out _ (HL.out.below HBa.out)).mono ?_
          rintro e wb ⟨rfl, hbb⟩
          have HBb := Lib.hid (HBa.out.trans (hbb.mono HBa.out.size))
          have HIb := Lib.hid (HIa.out.below hbb)
          have HJb := Lib.hid (HJa.out.below hbb)
          clear hbb
          go_wp2_with fail
          refine (HRK.out _ (HL.out.below HBb.out)).mono ?_
          rintro e wc ⟨rfl, hbc⟩
          have HBc := Lib.hid (HBb.out.trans (hbc.mono HBb.out.size))
          have HIc := Lib.hid (HIb.out.below hbc)
          have HJc := Lib.hid (HJb.out.below hbc)
          clear hbc
          go_wp2_with fail
          refine (same_any _ _ _ _ _ _ _ _ HIc.out HJc.out HX1.out HX2.out).mono ?_
          rintro e wd ⟨rfl, hbd⟩
          have HBd := Lib.hid (HBc.out.trans (hbd.mono HBc.out.size))
          clear hbd
          go_wp2
          go_ret
          exact ⟨rfl, HBd.out⟩
  · have HOX := Lib.hid (fun W h => HOB.out W h he)
    have hq1 := bd_eq he
    have hq2 : (err L s == err L s) = true := by simp
    have HO0 : Hid (ow L s = 0) := Lib.hid (by unfold ow; rw [if_neg he])
    rw [HO0.out] at HOW
    clear HOB HOF HOO HR1 HRO he
    have HX1 : Hid (([] : List Int).length = 0) := Lib.hid rfl
    have HX2 : Hid (([] : List Int).length = 0) := Lib.hid rfl
    generalize err L s = q at *
    generalize chk L = ck at *
    go_enter Try.func3, Try.ntmps3
    go_wp2_with fail
    refine (HOW.out _ HL.out).mono ?_
    rintro e w1 ⟨rfl, hb1⟩
    have HB1 := Lib.hid hb1
    clear hb1
    go_wp2_with fail
    refine (HOX.out _ (HL.out.below HB1.out)).mono ?_
    rintro e w2 ⟨C, d, rfl, hi2, hb2⟩
    have HB2 := Lib.hid (HB1.out.trans (hb2.mono HB1.out.size))
    have HI2 := Lib.hid hi2
    clear hi2 hb2
    go_wp2_with fail
    refine (HRE.out _ (HL.out.below HB2.out)).mono ?_
    rintro e w3 ⟨rfl, hb3⟩
    have HB3 := Lib.hid (HB2.out.trans (hb3.mono HB2.out.size))
    have HI3 := Lib.hid (HI2.out.below hb3)
    clear hb3
    have HB4 := HB3
    have HI4 := HI3
    have HJ4 : Hid (Ints w3 none 0 []) := Lib.hid (Ints.none_ _)
    generalize w3 = w4 at *
    by_cases a1 : 0 ≤ at_
    · have d1 : decide (0 ≤ at_) = true := by simpa using a1
      by_cases a2 : at_ < (ln : Int)
      · have d2 : decide (at_ < (ln : Int)) = true := by simpa using a2
        obtain ⟨a, rfl⟩ : ∃ a : Nat, at_ = (a : Int) := ⟨at_.toNat, by omega⟩
        have ha : a < L.length := by rw [HLN.out]; omega
        have d2' : decide (a < ln) = true := by simp; omega
        have ha1 : (a : Int) < (ln : Int) := a2
        obtain ⟨b, o, hA, c1, c2⟩ := HCE.out w4 (HL.out.below HB4.out) a (by rw [← HLN.out]; exact ha)
        subst hA
        have HC : Hid (∀ W, Below w.heap.size w W → W.cell? ⟨b, o + a * 2, none⟩ = some (.string (gs L a).name) ∧ W.cell? ⟨b, o + a * 2 + 1, none⟩ = some (.int .i64 (gs L a).wt)) := Lib.hid (fun W hW => by
          obtain ⟨b', o', e, g1, g2⟩ := HCE.out W (HL.out.below hW) a (by rw [← HLN.out]; exact ha)
          cases e; exact ⟨g1, g2⟩)
        have hn := HNM.out a ha
        have HS1 := Lib.hid (fun W (he : err [gs L a] s ≠ 0) => HSB.out (gs L a) W hn he)
        have HS2 := Lib.hid (fun W (he : err [gs L a] s = 0) => HSO.out (gs L a) W hn he)
        have HER := HE1.out (gs L a)
        have HSE := Lib.hid (fun W => shardErr_any (gs L a) W hn)
        have HSC := Lib.hid (fun W h1 h2 h3 => refScore_any (gs L a) s W h1 h2 h3)
        clear hn ha a1 a2
        generalize gs L a = f at *
        obtain ⟨nm, wt⟩ := f
        dsimp only at c1 c2 HC
        by_cases z1 : oneE ⟨nm, wt⟩ = 0
        · rw [if_neg (fun h => h z1)] at HER
          obtain ⟨zw, zn⟩ := oneE_zero.1 z1
          rw [z1] at HSE
          clear z1
          by_cases z2 : 40 < s.size
          · have d3 : decide ((40 : Int) < (s.size : Int)) = true := by simp; omega
            rw [if_pos z2] at HER
            have HS := Lib.hid (fun W => HS1.out W (by rw [HER]; decide))
            rw [HER] at HS
            clear HS1 HS2 HSC HER z2 zw zn
            go_wp2_with fail
            refine (HS.out _).mono ?_
            rintro e w5 ⟨rfl, hb5⟩
            have HB5 := Lib.hid (HB4.out.trans (hb5.mono HB4.out.size))
            have HI5 := Lib.hid (HI4.out.below hb5)
            have HJ5 := Lib.hid (HJ4.out.below hb5)
            obtain ⟨g1, g2⟩ := HC.out w5 HB5.out
            clear hb5 c1 c2
            go_wp2_with fail
            refine (HSE.out _).mono ?_
            rintro e w6 ⟨rfl, hb6⟩
            have HB6 := Lib.hid (HB5.out.trans (hb6.mono HB5.out.size))
            have HI6 := Lib.hid (HI5.out.below hb6)
            have HJ6 := Lib.hid (HJ5.out.below hb6)
            obtain ⟨k1, k2⟩ := HC.out w6 HB6.out
            clear hb6 g1 g2
            have HI := HI6
            have HJ := HJ6
            clear k1 k2
            -- the end
            go_wp2_with fail
            refine (HBG.out _).mono ?_
            rintro e wa ⟨rfl, hba⟩
            have HBa := Lib.hid (HB6.out.trans (hba.mono HB6.out.size))
            have HIa := Lib.hid (HI.out.below hba)
            have HJa := Lib.hid (HJ.out.below hba)
            clear hba
            go_wp2_with fail
            refine (HCK.out _ (HL.out.below HBa.out)).mono ?_
            rintro e wb ⟨rfl, hbb⟩
            have HBb := Lib.hid (HBa.out.trans (hbb.mono HBa.out.size))
            have HIb := Lib.hid (HIa.out.below hbb)
            have HJb := Lib.hid (HJa.out.below hbb)
            clear hbb
            go_wp2_with fail
            refine (HRK.out _ (HL.out.below HBb.out)).mono ?_
            rintro e wc ⟨rfl, hbc⟩
            have HBc := Lib.hid (HBb.out.trans (hbc.mono HBb.out.size))
            have HIc := Lib.hid (HIb.out.below hbc)
            have HJc := Lib.hid (HJb.out.below hbc)
            clear hbc
            go_wp2_with fail
            refine (same_any _ _ _ _ _ _ _ _ HIc.out HJc.out HX1.out HX2.out).mono ?_
            rintro e wd ⟨rfl, hbd⟩
            have HBd := Lib.hid (HBc.out.trans (hbd.mono HBc.out.size))
            clear hbd
            go_wp2
            go_ret
            exact ⟨rfl, HBd.out⟩
          · have d3 : decide ((40 : Int) < (s.size : Int)) = false := by simp; omega
            rw [if_neg z2] at HER
            have HS := Lib.hid (fun W => HS2.out W HER)
            have HSR := Lib.hid (fun W => HSC.out W zw zn (by omega))
            clear HS1 HS2 HSC HER z2 zw zn
            generalize scH ⟨nm, wt⟩ (fnv s.data.toList) = zz at *
            have hzz : ((zz : Int) != (zz : Int)) = false := by simp
            go_wp2_with fail
            refine (HS.out _).mono ?_
            rintro e w5 ⟨rfl, hb5⟩
            have HB5 := Lib.hid (HB4.out.trans (hb5.mono HB4.out.size))
            have HI5 := Lib.hid (HI4.out.below hb5)
            have HJ5 := Lib.hid (HJ4.out.below hb5)
            obtain ⟨g1, g2⟩ := HC.out w5 HB5.out
            clear hb5 c1 c2
            go_wp2_with fail
            refine (HSE.out _).mono ?_
            rintro e w6 ⟨rfl, hb6⟩
            have HB6 := Lib.hid (HB5.out.trans (hb6.mono HB5.out.size))
            have HI6 := Lib.hid (HI5.out.below hb6)
            have HJ6 := Lib.hid (HJ5.out.below hb6)
            obtain ⟨k1, k2⟩ := HC.out w6 HB6.out
            clear hb6 g1 g2
            go_wp2_with fail
            refine (HSR.out _).mono ?_
            rintro e w7 ⟨rfl, hb7⟩
            have HB7 := Lib.hid (HB6.out.trans (hb7.mono HB6.out.size))
            have HI7 := Lib.hid (HI6.out.below hb7)
            have HJ7 := Lib.hid (HJ6.out.below hb7)
            clear hb7 k1 k2
            have HI := HI7
            have HJ := HJ7
            -- the end
            go_wp2_with fail
            refine (HBG.out _).mono ?_
            rintro e wa ⟨rfl, hba⟩
            have HBa := Lib.hid (HB7.out.trans (hba.mono HB7.out.size))
            have HIa := Lib.hid (HI.out.below hba)
            have HJa := Lib.hid (HJ.out.below hba)
            clear hba
            go_wp2_with fail
            refine (HCK.out _ (HL.out.below HBa.out)).mono ?_
            rintro e wb ⟨rfl, hbb⟩
            have HBb := Lib.hid (HBa.out.trans (hbb.mono HBa.out.size))
            have HIb := Lib.hid (HIa.out.below hbb)
            have HJb := Lib.hid (HJa.out.below hbb)
            clear hbb
            go_wp2_with fail
            refine (HRK.out _ (HL.out.below HBb.out)).mono ?_
            rintro e wc ⟨rfl, hbc⟩
            have HBc := Lib.hid (HBb.out.trans (hbc.mono HBb.out.size))
            have HIc := Lib.hid (HIb.out.below hbc)
            have HJc := Lib.hid (HJb.out.below hbc)
            clear hbc
            go_wp2_with fail
            refine (same_any _ _ _ _ _ _ _ _ HIc.out HJc.out HX1.out HX2.out).mono ?_
            rintro e wd ⟨rfl, hbd⟩
            have HBd := Lib.hid (HBc.out.trans (hbd.mono HBc.out.size))
            clear hbd
            go_wp2
            go_ret
            exact ⟨rfl, HBd.out⟩
        · rw [if_pos z1] at HER
          have HS := Lib.hid (fun W => HS1.out W (by rw [HER]; exact z1))
          rw [HER] at HS
          have hz1 := bd_eq z1
          clear HS1 HS2 HSC HER z1
          generalize oneE ⟨nm, wt⟩ = er at *
          have hee : (er != er) = false := by simp
          go_wp2_with fail
          refine (HS.out _).mono ?_
          rintro e w5 ⟨rfl, hb5⟩
          have HB5 := Lib.hid (HB4.out.trans (hb5.mono HB4.out.size))
          have HI5 := Lib.hid (HI4.out.below hb5)
          have HJ5 := Lib.hid (HJ4.out.below hb5)
          obtain ⟨g1, g2⟩ := HC.out w5 HB5.out
          clear hb5 c1 c2
          go_wp2_with fail
          refine (HSE.out _).mono ?_
          rintro e w6 ⟨rfl, hb6⟩
          have HB6 := Lib.hid (HB5.out.trans (hb6.mono HB5.out.size))
          have HI6 := Lib.hid (HI5.out.below hb6)
          have HJ6 := Lib.hid (HJ5.out.below hb6)
          obtain ⟨k1, k2⟩ := HC.out w6 HB6.out
          clear hb6 g1 g2
          have HI := HI6
          have HJ := HJ6
          clear k1 k2
          -- the end
          go_wp2_with fail
          refine (HBG.out _).mono ?_
          rintro e wa ⟨rfl, hba⟩
          have HBa := Lib.hid (HB6.out.trans (hba.mono HB6.out.size))
          have HIa := Lib.hid (HI.out.below hba)
          have HJa := Lib.hid (HJ.out.below hba)
          clear hba
          go_wp2_with fail
          refine (HCK.out _ (HL.out.below HBa.out)).mono ?_
          rintro e wb ⟨rfl, hbb⟩
          have HBb := Lib.hid (HBa.out.trans (hbb.mono HBa.out.size))
          have HIb := Lib.hid (HIa.out.below hbb)
          have HJb := Lib.hid (HJa.out.below hbb)
          clear hbb
          go_wp2_with fail
          refine (HRK.out _ (HL.out.below HBb.out)).mono ?_
          rintro e wc ⟨rfl, hbc⟩
          have HBc := Lib.hid (HBb.out.trans (hbc.mono HBb.out.size))
          have HIc := Lib.hid (HIb.out.below hbc)
          have HJc := Lib.hid (HJb.out.below hbc)
          clear hbc
          go_wp2_with fail
          refine (same_any _ _ _ _ _ _ _ _ HIc.out HJc.out HX1.out HX2.out).mono ?_
          rintro e wd ⟨rfl, hbd⟩
          have HBd := Lib.hid (HBc.out.trans (hbd.mono HBc.out.size))
          clear hbd
          go_wp2
          go_ret
          exact ⟨rfl, HBd.out⟩
      · have d2 : decide (at_ < (ln : Int)) = false := by simpa using a2
        clear a1 a2
        have HI := HI4
        have HJ := HJ4
        -- the end
        go_wp2_with fail
        refine (HBG.out _).mono ?_
        rintro e wa ⟨rfl, hba⟩
        have HBa := Lib.hid (HB4.out.trans (hba.mono HB4.out.size))
        have HIa := Lib.hid (HI.out.below hba)
        have HJa := Lib.hid (HJ.out.below hba)
        clear hba
        go_wp2_with fail
        refine (HCK.out _ (HL.out.below HBa.out)).mono ?_
        rintro e wb ⟨rfl, hbb⟩
        have HBb := Lib.hid (HBa.out.trans (hbb.mono HBa.out.size))
        have HIb := Lib.hid (HIa.out.below hbb)
        have HJb := Lib.hid (HJa.out.below hbb)
        clear hbb
        go_wp2_with fail
        refine (HRK.out _ (HL.out.below HBb.out)).mono ?_
        rintro e wc ⟨rfl, hbc⟩
        have HBc := Lib.hid (HBb.out.trans (hbc.mono HBb.out.size))
        have HIc := Lib.hid (HIb.out.below hbc)
        have HJc := Lib.hid (HJb.out.below hbc)
        clear hbc
        go_wp2_with fail
        refine (same_any _ _ _ _ _ _ _ _ HIc.out HJc.out HX1.out HX2.out).mono ?_
        rintro e wd ⟨rfl, hbd⟩
        have HBd := Lib.hid (HBc.out.trans (hbd.mono HBc.out.size))
        clear hbd
        go_wp2
        go_ret
        exact ⟨rfl, HBd.out⟩
    · have d1 : decide (0 ≤ at_) = false := by simpa using a1
      clear a1
      have HI := HI4
      have HJ := HJ4
      -- the end
      go_wp2_with fail
      refine (HBG.out _).mono ?_
      rintro e wa ⟨rfl, hba⟩
      have HBa := Lib.hid (HB4.out.trans (hba.mono HB4.out.size))
      have HIa := Lib.hid (HI.out.below hba)
      have HJa := Lib.hid (HJ.out.below hba)
      clear hba
      go_wp2_with fail
      refine (HCK.out _ (HL.out.below HBa.out)).mono ?_
      rintro e wb ⟨rfl, hbb⟩
      have HBb := Lib.hid (HBa.out.trans (hbb.mono HBa.out.size))
      have HIb := Lib.hid (HIa.out.below hbb)
      have HJb := Lib.hid (HJa.out.below hbb)
      clear hbb
      go_wp2_with fail
      refine (HRK.out _ (HL.out.below HBb.out)).mono ?_
      rintro e wc ⟨rfl, hbc⟩
      have HBc := Lib.hid (HBb.out.trans (hbc.mono HBb.out.size))
      have HIc := Lib.hid (HIb.out.below hbc)
      have HJc := Lib.hid (HJb.out.below hbc)
      clear hbc
      go_wp2_with fail
      refine (same_any _ _ _ _ _ _ _ _ HIc.out HJc.out HX1.out HX2.out).mono ?_
      rintro e wd ⟨rfl, hbd⟩
      have HBd := Lib.hid (HBc.out.trans (hbd.mono HBc.out.size))
      clear hbd
      go_wp2
      go_ret
      exact ⟨rfl, HBd.out⟩

end Go.Proofs.Ytgecmgldamdpgaa.Shd
