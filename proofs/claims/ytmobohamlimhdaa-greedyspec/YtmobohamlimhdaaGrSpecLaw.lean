/-
  GreedySpec.
-/
import Derived.Test.YtmobohamlimhdaaGrTouch
namespace Go.Proofs.Ytmobohamlimhdaa.Grd
open Go.RowKit
open Lru (isK)
set_option linter.unusedVariables false
set_option maxRecDepth 100000

theorem acE_one {r fl : Int} {L : List It} {t : It} (h : checkG 8 r fl L = 0) (h1 : ¬ okI t) : acE r fl L t = 3 := by unfold acE; rw [if_pos h, if_neg h1]
theorem acE_bad {r fl : Int} {L : List It} {t : It} (h : ¬ checkG 8 r fl L = 0) : acE r fl L t = checkG 8 r fl L := by unfold acE; rw [if_neg h]
theorem sm_any (A B : Option Addr) (c d n : Nat) (L : List Int) (w : World) (ha : Ints w A c L) (hb : Ints w B d L) (hn : L.length = n) :
    Calls Try.prog 18 #[.slice A n c, .slice B n d] w fun e w' => e = .returned (.bool true) ∧ Below w.heap.size w w' := by
  have h := sameInts_any A B c d L L w ha hb
  rw [decide_eq_true rfl, hn] at h
  exact h

set_option maxHeartbeats 40000000 in
theorem greedySpec_walk (r fl : Int) (A : Option Addr) (c : Nat) (L : List It) (t : It) (w : World) (hT : Tss w A c L) :
    Calls Try.prog 3 #[kv r fl (.slice A L.length c), fv t] w fun e w' => e = .returned (.bool true) ∧ Below w.heap.size w w' := by
  have hV0 : VK ((w.alloc (ko r fl (.slice A L.length c))).alloc (fo t)) w.heap.size r fl A L.length c L := (VK.new hT rfl).below (bel_al (Below.refl _ _) (Nat.le_refl _) _)
  have hI0 : Ib ((w.alloc (ko r fl (.slice A L.length c))).alloc (fo t)) (w.heap.size + 1) t := by
    have := Ib.new (w.alloc (ko r fl (.slice A L.length c))) t
    rwa [show (w.alloc (ko r fl (.slice A L.length c))).heap.size = w.heap.size + 1 by simp] at this
  have HV0 := Lib.hid hV0
  have HI0 := Lib.hid hI0
  have HB0 : Hid (Below w.heap.size w ((w.alloc (ko r fl (.slice A L.length c))).alloc (fo t))) := Lib.hid (bel_al (bel_al (Below.refl _ _) (Nat.le_refl _) _) (by simp) _)
  have HAc := Lib.hid (access_any r fl A c L t _ hV0.things)
  have HTo := Lib.hid (fun (W : World) (hW : Tss W A c L) => totalA_any r fl A c L W hW)
  have HVi := Lib.hid (fun (W : World) (hW : Tss W A c L) => victimA_any r fl A c L W hW)
  have HHc := Lib.hid (fun (W : World) (hW : Tss W A c L) => hcheck_any r fl A c L W hW)
  have HCk := Lib.hid (fun (W : World) (hW : Tss W A c L) => check_any r fl A c L W hW)
  unfold CkC at HCk
  have HTh := Lib.hid (fun (W : World) => thing_any t W)
  have HCe := Lib.hid (check_zero (full := 8) (r := r) (fl := fl) (L := L) (by decide))
  have HEr := Lib.hid (acE_zero (r := r) (fl := fl) (L := L) (t := t))
  have HE1 := Lib.hid (acE_one (r := r) (fl := fl) (L := L) (t := t))
  have HE2 := Lib.hid (acE_bad (r := r) (fl := fl) (L := L) (t := t))
  have HBad := Lib.hid (ac_bad (r := r) (fl := fl) (L := L) (t := t))
  have HGood := Lib.hid (ac_good (r := r) (fl := fl) (L := L) (t := t))
  have HTc : Hid (Good r fl L → okI t → ∀ W : World, Tss W A c L → Calls Try.prog 12 #[kv r fl (.slice A L.length c), fv t] W (TR r fl L t W)) := Lib.hid (fun g h W hW => touch_any r t h L.length L fl A c W rfl g hW)
  have HSi : Hid (Good r fl L → ∀ W : World, Tss W A c L → Calls Try.prog 13 #[.slice A L.length c] W fun e w' => e = .returned (.int .i64 (sizes L)) ∧ w' = W) := Lib.hid (fun g W hW => hsizes_any A c L W hW g.few (fun u hu => (g.items u hu).1))
  have HLe : Hid (0 < L.length → Good r fl L → ∀ W : World, Tss W A c L → Calls Try.prog 14 #[.slice A L.length c] W fun e w' => e = .returned (.int .i64 (lstN L : Int)) ∧ Below W.heap.size W w') := Lib.hid (fun h0 g W hW => hleast_any A c L W hW h0 (by have := g.few; omega))
  have HVa : Hid (toS r fl L = (if checkG 8 r fl L = 0 then sizes L else 0) ∧ toC r fl L = (if checkG 8 r fl L = 0 then costs L else 0) ∧ viE r fl L = (if checkG 8 r fl L = 0 then (if L.length = 0 then 5 else 0) else checkG 8 r fl L) ∧ viK r fl L = (if viE r fl L = 0 then (gt L (lstN L)).key else 0)) := Lib.hid ⟨rfl, rfl, rfl, rfl⟩
  obtain ⟨x0, x1, x2⟩ := hV0.box.cells
  obtain ⟨i0, i1, i2, i3⟩ := hI0.cells
  clear hT hV0 hI0
  unfold AR at HAc
  unfold TR at HTc
  obtain ⟨M, hM⟩ : ∃ M, acL r fl L t = M := ⟨_, rfl⟩
  obtain ⟨G, hG⟩ : ∃ G, acG r fl L t = G := ⟨_, rfl⟩
  obtain ⟨R', hR⟩ : ∃ R', acR r fl L t = R' := ⟨_, rfl⟩
  obtain ⟨F', hF⟩ : ∃ F', acF r fl L t = F' := ⟨_, rfl⟩
  obtain ⟨H', hH⟩ : ∃ H', acH r fl L t = H' := ⟨_, rfl⟩
  obtain ⟨E', hE⟩ : ∃ E', acE r fl L t = E' := ⟨_, rfl⟩
  obtain ⟨ce, hce⟩ : ∃ ce, checkG 8 r fl L = ce := ⟨_, rfl⟩
  obtain ⟨tS, htS⟩ : ∃ tS, toS r fl L = tS := ⟨_, rfl⟩
  obtain ⟨tC, htC⟩ : ∃ tC, toC r fl L = tC := ⟨_, rfl⟩
  obtain ⟨vE, hvE⟩ : ∃ vE, viE r fl L = vE := ⟨_, rfl⟩
  obtain ⟨vK, hvK⟩ : ∃ vK, viK r fl L = vK := ⟨_, rfl⟩
  obtain ⟨lm, hlm⟩ : ∃ lm, M.length = lm := ⟨_, rfl⟩
  obtain ⟨lg, hlg⟩ : ∃ lg, G.length = lg := ⟨_, rfl⟩
  obtain ⟨n, hn⟩ : ∃ n, L.length = n := ⟨_, rfl⟩
  simp only [hM, hG, hR, hF, hH, hE] at HAc HEr HE1 HE2 HBad HGood
  simp only [hlm, hlg] at HAc
  simp only [hce] at HTo HHc HCk HCe HE1 HE2 HVa
  simp only [htS, htC] at HTo HVa
  simp only [hvE, hvK] at HVi HVa
  have HLM := Lib.hid hlm
  have HLG := Lib.hid hlg
  have HLN := Lib.hid hn
  rw [hn] at HV0 HI0 HB0 HAc x0 x1 x2 i0 i1 i2 i3 ⊢
  simp only [hn] at HTo HVi HHc HCk HTc HSi HLe HVa
  clear hM hG hR hF hH hE hce htS htC hvE hvK hlm hlg hn
  obtain ⟨ky, sz, co, wo⟩ := t
  dsimp only at i0 i1 i2 i3
  go_enter Try.func3, Try.ntmps3
  go_wp2_with fail
  refine HAc.out.mono ?_
  rintro e w1 ⟨A1, c1, B1, d1, rfl, ht1, hi1, -, -, hb1⟩
  have HX1 : Hid (VK (w1.alloc (ko R' F' (.slice A1 lm c1))) w1.heap.size R' F' A1 lm c1 M) := Lib.hid (VK.new ht1 HLM.out)
  have HG1 : Hid (Ints (w1.alloc (ko R' F' (.slice A1 lm c1))) B1 d1 G) := Lib.hid (hi1.alloc _)
  have HV1 := Lib.hid ((HV0.out.below hb1).below (bel_al (Below.refl _ _) (Nat.le_refl _) (ko R' F' (.slice A1 lm c1))))
  have HI1 := Lib.hid ((HI0.out.below hb1).alloc (ko R' F' (.slice A1 lm c1)))
  have hb1' : Below w.heap.size w w1 := HB0.out.trans (hb1.mono HB0.out.size)
  have HB1 : Hid (Below w.heap.size w (w1.alloc (ko R' F' (.slice A1 lm c1)))) := Lib.hid (bel_al hb1' hb1'.size _)
  clear hb1 hb1' ht1 hi1 HV0 HI0 HB0 HAc x0 x1 x2 i0 i1 i2 i3
  obtain ⟨x0, x1, x2⟩ := HV1.out.box.cells
  go_wp2_with fail
  clear x0 x1 x2
  obtain ⟨px, hpx⟩ : ∃ p, p = w1.heap.size := ⟨_, rfl⟩
  rw [← hpx] at HX1 ⊢
  clear hpx
  generalize w1.alloc (ko R' F' (.slice A1 lm c1)) = w2 at *
  refine (HTo.out _ HV1.out.things).mono ?_
  rintro e w3 ⟨rfl, hb3⟩
  have HX3 := Lib.hid (HX1.out.below hb3)
  have HG3 := Lib.hid (HG1.out.below hb3)
  have HV3 := Lib.hid (HV1.out.below hb3)
  have HI3 := Lib.hid (HI1.out.below hb3)
  have HB3 : Hid (Below w.heap.size w w3) := Lib.hid (HB1.out.trans (hb3.mono HB1.out.size))
  clear hb3 HX1 HG1 HV1 HI1 HB1
  obtain ⟨x0, x1, x2⟩ := HV3.out.box.cells
  go_wp2_with fail
  clear x0 x1 x2
  refine (HVi.out _ HV3.out.things).mono ?_
  rintro e w4 ⟨rfl, hb4⟩
  have HX4 := Lib.hid (HX3.out.below hb4)
  have HG4 := Lib.hid (HG3.out.below hb4)
  have HV4 := Lib.hid (HV3.out.below hb4)
  have HI4 := Lib.hid (HI3.out.below hb4)
  have HB4 : Hid (Below w.heap.size w w4) := Lib.hid (HB3.out.trans (hb4.mono HB3.out.size))
  clear hb4 HX3 HG3 HV3 HI3 HB3
  obtain ⟨x0, x1, x2⟩ := HV4.out.box.cells
  go_wp2_with fail
  clear x0 x1 x2
  refine (HHc.out _ HV4.out.things).mono ?_
  rintro e w5 ⟨rfl, hb5⟩
  have HX5 := Lib.hid (HX4.out.below hb5)
  have HG5 := Lib.hid (HG4.out.below hb5)
  have HV5 := Lib.hid (HV4.out.below hb5)
  have HI5 := Lib.hid (HI4.out.below hb5)
  have HB5 : Hid (Below w.heap.size w w5) := Lib.hid (HB4.out.trans (hb5.mono HB4.out.size))
  clear hb5 HX4 HG4 HV4 HI4 HB4
  have HZ6 : Hid (Kb (w5.alloc zk) w5.heap.size 0 0 (.slice none 0 0)) := Lib.hid (Kb.new w5 0 0 _)
  have HW6 : Hid (Below w5.heap.size w5 (w5.alloc zk)) := Lib.hid (bel_al (Below.refl _ _) (Nat.le_refl _) _)
  go_upto_if 48 with fail
  obtain ⟨pt, hpt⟩ : ∃ p, p = w5.heap.size := ⟨_, rfl⟩
  have HPT := Lib.hid hpt
  rw [← hpt] at HZ6 ⊢
  clear hpt
  generalize w5.alloc zk = w6 at *
  go_cut [15, 16, 18, 19, 20, 21, 22, 23] from 24 to 140 (fun s15 s16 s18 s19 s20 s21 s22 s23 wx => s15 = .int .i64 E' ∧ s16 = .int .i64 vE ∧ s18 = .bool H' ∧ s19 = .int .i64 tS ∧ s20 = .int .i64 tC ∧ s21 = .int .i64 vK ∧ (∃ B2 d2, s22 = .slice B2 lg d2 ∧ Ints wx B2 d2 G) ∧ (∃ A3 c3, VK wx pt R' F' A3 lm c3 M) ∧ Below w5.heap.size w5 wx)
  case first =>
    by_cases hz : ce = 0
    · have q : (ce == 0) = true := by simpa using hz
      have HGd := Lib.hid (HCe.out.1 hz)
      obtain ⟨v1, v2, v3, v4⟩ := HVa.out
      rw [if_pos hz] at v1 v2 v3
      have HV6 := Lib.hid (HV5.out.below HW6.out)
      have HI6 := Lib.hid (HI5.out.below HW6.out)
      have hl40 : n ≤ 40 := by rw [← HLN.out]; exact HGd.out.few
      have hsb := sizes_bound (F := L) (fun u hu => (HGd.out.items u hu).1)
      have HK1 := Lib.hid v1
      have HK2 := Lib.hid v2
      have HK3 := Lib.hid v3
      have HK4 := Lib.hid v4
      clear v1 v2 v3 v4 HVa
      have HCz := Lib.hid hz
      clear hz
      obtain ⟨i0, i1, i2, i3⟩ := HI6.out.cells
      go_wp2_with fail
      refine (HTh.out _).mono ?_
      rintro e w7 ⟨rfl, hb7⟩
      have HV7 := Lib.hid (HV6.out.below hb7)
      have HI7 := Lib.hid (HI6.out.below hb7)
      have HZ7 := Lib.hid (HZ6.out.below hb7)
      have HW7 : Hid (Below w5.heap.size w5 w7) := Lib.hid (HW6.out.trans (hb7.mono HW6.out.size))
      clear hb7 i0 i1 i2 i3 HV6 HI6 HZ6 HW6
      go_upto_if 51 with fail
      go_cut [15, 18, 22] from 24 to 140 (fun s15 s18 s22 wx => s15 = .int .i64 E' ∧ s18 = .bool H' ∧ (∃ B2 d2, s22 = .slice B2 lg d2 ∧ Ints wx B2 d2 G) ∧ (∃ A3 c3, VK wx pt R' F' A3 lm c3 M) ∧ Below w5.heap.size w5 wx)
      case first =>
        by_cases ho : okI ⟨ky, sz, co, wo⟩
        · rw [decide_eq_true ho]
          have hE0 := HEr.out.2 ⟨HGd.out, ho⟩
          obtain ⟨g1, g2, g3, g4, g5⟩ := HGood.out hE0
          have HTu := Lib.hid (HTc.out HGd.out ho _ HV7.out.things)
          rw [← g2, ← g3, ← g5] at HTu
          rw [← g4] at HTu
          rw [HLM.out, HLG.out] at HTu
          have HE0 := Lib.hid hE0
          have HR := Lib.hid g1
          clear hE0 g1 g2 g3 g4 g5 ho
          obtain ⟨x0, x1, x2⟩ := HV7.out.box.cells
          obtain ⟨i0, i1, i2, i3⟩ := HI7.out.cells
          go_wp2_with fail
          refine HTu.out.mono ?_
          rintro e w8 ⟨A8, c8, B8, d8, rfl, ht8, hi8, ha8, hc8, hb8⟩
          have hz8 := HZ7.out.below hb8
          have hpl : pt < w7.heap.size := HZ7.out.lt
          have HV8 : Hid (VK (((w8.setCell ⟨pt, 0, none⟩ (.int .i64 r)).setCell ⟨pt, 1, none⟩ (.int .i64 F')).setCell ⟨pt, 2, none⟩ (.slice A8 lm c8)) pt r F' A8 lm c8 M) := Lib.hid ⟨hz8.put3 _ _ _, ht8.set3 (fun a ha => by have := ha8 a ha; omega) _ _ _, HLM.out⟩
          have HI8 : Hid (Ints (((w8.setCell ⟨pt, 0, none⟩ (.int .i64 r)).setCell ⟨pt, 1, none⟩ (.int .i64 F')).setCell ⟨pt, 2, none⟩ (.slice A8 lm c8)) B8 d8 G) := Lib.hid (Ints.set3' hi8 (fun a ha => by have := hc8 a ha; omega) _ _ _)
          have HW8 : Hid (Below w5.heap.size w5 (((w8.setCell ⟨pt, 0, none⟩ (.int .i64 r)).setCell ⟨pt, 1, none⟩ (.int .i64 F')).setCell ⟨pt, 2, none⟩ (.slice A8 lm c8))) := Lib.hid (bel_set3 (HW7.out.trans (hb8.mono HW7.out.size)) (p := pt) (by rw [HPT.out]; exact Nat.le_refl _) _ _ _)
          obtain ⟨z0, z1, z2⟩ := hz8.cells
          obtain ⟨u0, u1, u2⟩ := hz8.free
          clear ht8 hi8 ha8 hc8 hb8 hz8 hpl x0 x1 x2 i0 i1 i2 i3
          go_wp2
          go_meet
          exact ⟨by rw [HE0.out, HCz.out], rfl, ⟨B8, d8, rfl, HI8.out⟩, ⟨A8, c8, by rw [HR.out]; exact HV8.out⟩, HW8.out⟩
        · rw [decide_eq_false ho]
          have hE3 := HE1.out HCz.out ho
          obtain ⟨rfl, rfl, rfl, rfl, rfl⟩ := HBad.out (by rw [hE3]; decide)
          have hlg : lg = 0 := HLG.out.symm
          have hlm : lm = 0 := HLM.out.symm
          subst hlg hlm
          have HE3 := Lib.hid hE3
          clear ho hE3
          go_wp2
          go_meet
          exact ⟨by rw [HE3.out], rfl, ⟨none, 0, rfl, Ints.none_ _⟩, ⟨none, 0, HZ7.out, Tss.none_ _, rfl⟩, HW7.out⟩
      case rest =>
        obtain ⟨rfl, rfl, ⟨B2, d2, rfl, hi8⟩, ⟨A3, c3, hv8⟩, hw8⟩ := hcut
        rename World => w8
        have HI8 := Lib.hid hi8
        have HX8 := Lib.hid hv8
        have HW8 := Lib.hid hw8
        have HV8 := Lib.hid (HV5.out.below hw8)
        clear hi8 hv8 hw8 HV7 HI7 HZ7 HW7
        obtain ⟨x0, x1, x2⟩ := HV8.out.box.cells
        go_wp2_with fail
        refine (HSi.out HGd.out _ HV8.out.things).mono ?_
        rintro e w8 ⟨rfl, rfl⟩
        go_wp2_with fail
        go_loopw [20, 23] (fun s20 s23 wj => ∃ j : Nat, j ≤ n ∧ s23 = .int .i64 (j : Int) ∧ s20 = .int .i64 (costs (L.take j)) ∧ w8 = wj) (fun _ s23 _ => n - (intOf s23).toNat)
        case atStart => exact ⟨0, by omega, rfl, rfl, rfl⟩
        case round =>
          rename World => wj
          obtain ⟨j, hj, rfl, rfl, rfl⟩ := hrel
          by_cases hjl : j < n
          · have hjn : (j : Int) < (n : Int) := by omega
            have hj0 : (0 : Int) ≤ (j : Int) := by omega
            have hjL : j < L.length := by rw [HLN.out]; exact hjl
            obtain ⟨b, o, rfl, -, -, e2, -⟩ := HV8.out.things.us hjL
            have hb := sizes_bound (F := L.take j) (fun u hu => (HGd.out.items u (List.take_subset _ _ hu)).1)
            have hlk : (L.take j).length = j := by rw [List.length_take, HLN.out]; omega
            rw [hlk] at hb
            obtain ⟨-, -, a3, a4⟩ := (HGd.out.items _ (gt_mem hjL)).1
            have g1 : IntKind.i64.wrap (costs (L.take j) + (gt L j).cost) = costs (L.take (j + 1)) := by rw [costs_at hjL, IntKind.wrap_i64]; omega
            obtain ⟨c', hc'⟩ : ∃ c', c' = costs (L.take (j + 1)) := ⟨_, rfl⟩
            rw [← hc'] at g1
            replace hc' := Lib.hid hc'
            clear hb hlk a3 a4 hjL
            generalize (gt L j).cost = y at *
            generalize costs (L.take j) = cc at *
            go_wp2
            go_roundw
            case rel => exact ⟨j + 1, by omega, by go_num, by rw [← hc'.out], by first | rfl | trivial⟩
            case measure => simp [intOf]; omega
          · obtain rfl : j = n := by omega
            have hct : costs (L.take j) = tC := by rw [HK2.out, List.take_of_length_le (by rw [HLN.out]; exact Nat.le_refl _)]
            have hst : sizes L = tS := HK1.out.symm
            rw [hct, hst]
            by_cases hl : j = 0
            · have q2 : ((j : Int) == 0) = true := by rw [beq_iff_eq]; omega
              have h5 : vE = 5 := by rw [HK3.out, if_pos hl]
              have h6 : vK = 0 := by rw [HK4.out, h5]; rfl
              have H56 := Lib.hid (And.intro h5 h6)
              clear hl h5 h6 hct hst
              go_wp2
              go_meet
              exact ⟨rfl, by rw [H56.out.1], rfl, rfl, rfl, by rw [H56.out.2], ⟨B2, d2, rfl, HI8.out⟩, ⟨A3, c3, HX8.out⟩, HW8.out⟩
            · have q2 : ((j : Int) == 0) = false := by rw [beq_eq_false_iff_ne]; omega
              have h5 : vE = 0 := by rw [HK3.out, if_neg hl]
              have h6 : vK = (gt L (lstN L)).key := by rw [HK4.out, if_pos h5]
              have h0 : 0 < L.length := by rw [HLN.out]; omega
              have hk := lstN_lt h0
              have HLs := Lib.hid (fun (W : World) (hW : Tss W A c L) => HLe.out (by rw [← HLN.out]; exact h0) HGd.out W hW)
              have H56 := Lib.hid (And.intro h5 h6)
              have HKl := Lib.hid hk
              generalize lstN L = k at *
              have j1 : (k : Int) < (j : Int) := by have := HLN.out; omega
              have j2 : (0 : Int) ≤ (k : Int) := by omega
              obtain ⟨b, o, rfl, -, -, -, -⟩ := HV8.out.things.us hk
              have hS0 : ∀ u : Bw w8, u.w.cell? ⟨w.heap.size, 2, none⟩ = some (.slice (some ⟨b, o, none⟩) j c) := fun u => (HV8.out.below u.h).box.cells.2.2
              have hS1 : ∀ u : Bw w8, u.w.cell? ⟨b, o + k * 4, none⟩ = some (.int .i64 (gt L k).key) := fun u => by
                obtain ⟨b', o', e, e1, -⟩ := (HV8.out.below u.h).things.us HKl.out
                cases e; exact e1
              generalize (gt L k).key = kk at *
              clear hl h5 h6 hct hst h0 hk
              go_wp2_with fail
              refine wp_region_below (by kernel_rfl) (by kernel_rfl) ?_
              repeat (go_big_quiet_step ((first | (go_at_call 14; (with_reducible refine calls_bw (HLs.out _ ?_)); exact HV8.out.things.below (Bw.h _)))))
              refine wpQuiet_nil ?_
              intro _ hw'
              obtain ⟨u9, hw''⟩ := hw'
              subst hw''
              clear hS0 hS1
              have hb9 := u9.h
              generalize u9.w = w9 at *
              have HI9 := Lib.hid (HI8.out.below hb9)
              have HX9 := Lib.hid (HX8.out.below hb9)
              have HW9 : Hid (Below w5.heap.size w5 w9) := Lib.hid (HW8.out.trans (hb9.mono HW8.out.size))
              clear hb9 u9 x0 x1 x2
              go_wp2
              go_meet
              exact ⟨rfl, by rw [H56.out.1, HCz.out], rfl, rfl, rfl, by rw [H56.out.2], ⟨B2, d2, rfl, HI9.out⟩, ⟨A3, c3, HX9.out⟩, HW9.out⟩
    · have q : (ce == 0) = false := by rw [beq_eq_false_iff_ne]; exact hz
      have hE3 := HE2.out hz
      obtain ⟨v1, v2, v3, v4⟩ := HVa.out
      rw [if_neg hz] at v1 v2 v3
      rw [v3, if_neg hz] at v4
      obtain ⟨rfl, rfl, rfl, rfl, rfl⟩ := HBad.out (by rw [hE3]; exact hz)
      have hlg : lg = 0 := HLG.out.symm
      have hlm : lm = 0 := HLM.out.symm
      subst hlg hlm
      have HQ := Lib.hid (And.intro hE3 (And.intro v1 (And.intro v2 (And.intro v3 v4))))
      clear hz hE3 v1 v2 v3 v4
      go_wp2
      go_meet
      exact ⟨by rw [HQ.out.1], by rw [HQ.out.2.2.2.1], rfl, by rw [HQ.out.2.1], by rw [HQ.out.2.2.1], by rw [HQ.out.2.2.2.2], ⟨none, 0, rfl, Ints.none_ _⟩, ⟨none, 0, HZ6.out, Tss.none_ _, rfl⟩, HW6.out⟩
  case rest =>
    obtain ⟨rfl, rfl, rfl, rfl, rfl, rfl, ⟨B2, d2, rfl, hi8⟩, ⟨A3, c3, hv8⟩, hw8⟩ := hcut
    rename World => w8
    have HJ8 := Lib.hid hi8
    have HU8 := Lib.hid hv8
    have HV8 := Lib.hid (HV5.out.below hw8)
    have HX8 := Lib.hid (HX5.out.below hw8)
    have HG8 := Lib.hid (HG5.out.below hw8)
    have HB8 : Hid (Below w.heap.size w w8) := Lib.hid (HB5.out.trans (hw8.mono HB5.out.size))
    clear hi8 hv8 hw8
    go_wp2_with fail
    refine (begun_any _).mono ?_
    rintro e w9 ⟨rfl, hb9⟩
    have HX9 := Lib.hid (HX8.out.below hb9)
    have HG9 := Lib.hid (HG8.out.below hb9)
    have HV9 := Lib.hid (HV8.out.below hb9)
    have HJ9 := Lib.hid (HJ8.out.below hb9)
    have HU9 := Lib.hid (HU8.out.below hb9)
    have HB9 : Hid (Below w.heap.size w w9) := Lib.hid (HB8.out.trans (hb9.mono HB8.out.size))
    clear hb9 HX8 HG8 HV8 HJ8 HU8 HB8
    obtain ⟨x0, x1, x2⟩ := HV9.out.box.cells
    go_wp2_with fail
    clear x0 x1 x2
    refine (HCk.out _ HV9.out.things).mono ?_
    rintro e w10 ⟨rfl, hb10⟩
    have HX10 := Lib.hid (HX9.out.below hb10)
    have HG10 := Lib.hid (HG9.out.below hb10)
    have HV10 := Lib.hid (HV9.out.below hb10)
    have HJ10 := Lib.hid (HJ9.out.below hb10)
    have HU10 := Lib.hid (HU9.out.below hb10)
    have HB10 : Hid (Below w.heap.size w w10) := Lib.hid (HB9.out.trans (hb10.mono HB9.out.size))
    clear hb10 HX9 HG9 HV9 HJ9 HU9 HB9
    obtain ⟨x0, x1, x2⟩ := HX10.out.box.cells
    obtain ⟨y0, y1, y2⟩ := HU10.out.box.cells
    go_wp2_with fail
    clear x0 x1 x2 y0 y1 y2
    refine (same_any R' F' A1 A3 c1 c3 lm M _ HX10.out.things HU10.out.things HLM.out).mono ?_
    rintro e w11 ⟨rfl, hb11⟩
    have HX11 := Lib.hid (HX10.out.below hb11)
    have HG11 := Lib.hid (HG10.out.below hb11)
    have HV11 := Lib.hid (HV10.out.below hb11)
    have HJ11 := Lib.hid (HJ10.out.below hb11)
    have HU11 := Lib.hid (HU10.out.below hb11)
    have HB11 : Hid (Below w.heap.size w w11) := Lib.hid (HB10.out.trans (hb11.mono HB10.out.size))
    clear hb11 HX10 HG10 HV10 HJ10 HU10 HB10
    go_wp2_with fail
    refine (sm_any B1 B2 d1 d2 lg G _ HG11.out HJ11.out HLG.out).mono ?_
    rintro e w12 ⟨rfl, hb12⟩
    have HB12 : Hid (Below w.heap.size w w12) := Lib.hid (HB11.out.trans (hb12.mono HB11.out.size))
    clear hb12
    go_wp2
    go_ret
    exact ⟨rfl, HB12.out⟩

end Go.Proofs.Ytmobohamlimhdaa.Grd
