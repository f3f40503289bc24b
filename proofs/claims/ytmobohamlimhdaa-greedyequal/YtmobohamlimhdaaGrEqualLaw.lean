/-
  GreedyEqual.
-/
import Derived.Test.YtmobohamlimhdaaGrFacts
import Derived.Deep.CutRange
namespace Go.Proofs.Ytmobohamlimhdaa.Grd
open Go.RowKit
open Lru (isK)
set_option linter.unusedVariables false
set_option maxRecDepth 100000

/-! ### Items of size one -/
/-- A cache of items of size one. -/
structure EqI (r fl : Int) (L : List It) : Prop where
  good : Good r fl L
  few : r ≤ 40
  ones : ∀ t ∈ L, t.size = 1
theorem sizes_ones : ∀ {L : List It}, (∀ t ∈ L, t.size = 1) → sizes L = (L.length : Int)
  | [], _ => rfl
  | t :: L, h => by
    have h1 := h t (by simp)
    have h2 := sizes_ones (L := L) (fun u hu => h u (by simp [hu]))
    simp only [sizes, List.length_cons, h1, h2]
    omega
theorem evs_one {r fl : Int} {L : List It} {f : Nat} (h : EqI r fl L) : (evs r 1 f fl L).gone.length ≤ 1 := by
  have hs := sizes_ones h.ones
  have hf := h.good.fits
  have hr := h.few
  have h1 := h.good.room.1
  cases f with
  | zero => exact Nat.zero_le _
  | succ f =>
    by_cases hm : must r 1 L
    · have hp := must_pos h1 hm
      have hl := lstN_lt hp
      have hs2 := sizes_ones (L := rem L (lstN L)) (fun t ht => h.ones t ((rem_sub _ _).mem ht))
      have hl2 := rem_len hl
      rw [evs_go hm, evs_stop (f := f) (fun hm2 => by
        rcases hm2 with a | a <;> omega)]
      simp
    · rw [evs_stop hm]; simp
theorem tch_one {r fl : Int} {L : List It} {t : It} (h : EqI r fl L) (ht : okI t) (h1 : t.size = 1) :
    EqI r (tch r fl L t).floor (tch r fl L t).left ∧ (tch r fl L t).gone.length ≤ 1 ∧ ((tch r fl L t).left.length : Int) ≤ r ∧ ∀ u ∈ (tch r fl L t).left, fl ≤ u.worth ∧ u.key ∉ keys (tch r fl L t).gone := by
  obtain ⟨g, hfl⟩ := tch_good h.good ht
  have hones : ∀ u ∈ (tch r fl L t).left, u.size = 1 := by
    unfold tch
    by_cases a : t.key ∈ keys L
    · rw [if_pos a]
      obtain ⟨hk, -⟩ := hit_at a
      intro u hu
      rcases List.mem_or_eq_of_mem_set hu with m | e
      · exact h.ones u m
      · rw [e]; show (gt L (hitAt L t.key)).size = 1; exact h.ones _ (gt_mem hk)
    · rw [if_neg a]
      by_cases b : r < t.size
      · rw [if_pos b]; exact h.ones
      · rw [if_neg b]
        obtain ⟨-, -, -, -, -, a6, -⟩ := evs_spec (r := r) (z := t.size) (by omega) (f := L.length) (fl := fl) (Nat.le_refl _) h.good
        intro u hu
        rcases List.mem_append.1 hu with m | m
        · exact h.ones u (a6.mem m)
        · simp only [List.mem_singleton] at m; rw [m]; exact h1
  have hI : EqI r (tch r fl L t).floor (tch r fl L t).left := ⟨g, h.few, hones⟩
  refine ⟨hI, ?_, ?_, fun u hu => ⟨Int.le_trans hfl (g.items u hu).2.1, ?_⟩⟩
  · unfold tch
    by_cases a : t.key ∈ keys L
    · rw [if_pos a]; simp
    · rw [if_neg a]
      by_cases b : r < t.size
      · rw [if_pos b]; simp
      · rw [if_neg b, h1]; exact evs_one h
  · have := g.fits
    rwa [sizes_ones hones] at this
  · revert u
    unfold tch
    by_cases a : t.key ∈ keys L
    · rw [if_pos a]; intro u hu; simp [keys]
    · rw [if_neg a]
      by_cases b : r < t.size
      · rw [if_pos b]; intro u hu; simp [keys]
      · rw [if_neg b]
        obtain ⟨-, -, -, -, -, -, a7, a8, -⟩ := evs_spec (r := r) (z := t.size) (by omega) (f := L.length) (fl := fl) (Nat.le_refl _) h.good
        intro u hu hm
        rcases List.mem_append.1 hu with m | m
        · exact a8 _ hm (List.mem_map.2 ⟨u, m, rfl⟩)
        · simp only [List.mem_singleton] at m
          rw [m] at hm
          exact a ((a7 _).2 (.inl hm))
theorem acE_three {r fl : Int} {L : List It} {t : It} (g : Good r fl L) (h : ¬ acE r fl L t = 0) : acE r fl L t = 3 := by
  have h0 := (check_zero (full := 8) (by decide)).2 g
  unfold acE at *
  rw [if_pos h0] at h ⊢
  split at h <;> simp_all

set_option maxHeartbeats 20000000 in
theorem greedyEqual_walk (r : Int) (B : Option Addr) (d : Nat) (xs : List Int) (w : World) (hX : Ints w B d xs) :
    Calls Try.prog 6 #[.int .i64 r, .slice B xs.length d] w fun e w' => e = .returned (.bool true) ∧ Below w.heap.size w w' := by
  have HX := Lib.hid hX
  clear hX
  obtain ⟨ln, hln⟩ : ∃ ln, xs.length = ln := ⟨_, rfl⟩
  have HLN := Lib.hid hln
  rw [hln]
  clear hln
  by_cases r1 : r < 1
  · have d1 : decide (r < 1) = true := by simpa using r1
    clear r1
    go_enter Try.func6, Try.ntmps6
    go_wp2_with fail
    refine (begun_any _).mono ?_
    rintro e w1 ⟨rfl, hb1⟩
    have HB1 := Lib.hid hb1
    clear hb1
    go_wp2
    go_ret
    exact ⟨rfl, HB1.out⟩
  · have d1 : decide (r < 1) = false := by simpa using r1
    by_cases r2 : 40 < r
    · have d2 : decide (40 < r) = true := by simpa using r2
      clear r1 r2
      go_enter Try.func6, Try.ntmps6
      go_wp2_with fail
      refine (begun_any _).mono ?_
      rintro e w1 ⟨rfl, hb1⟩
      have HB1 := Lib.hid hb1
      clear hb1
      go_wp2
      go_ret
      exact ⟨rfl, HB1.out⟩
    · have d2 : decide (40 < r) = false := by simpa using r2
      have HI0 : Hid (EqI r 0 []) := Lib.hid ⟨⟨⟨by omega, by omega⟩, ⟨by omega, by omega⟩, by simp, by simp, by simp [keys], by simp [sizes]; omega⟩, by omega, by simp⟩
      clear r1 r2
      go_enter Try.func6, Try.ntmps6
      go_wp2_with fail
      refine (begun_any _).mono ?_
      rintro e w0 ⟨rfl, hb0⟩
      have HV1 : Hid (VK (w0.alloc (ko r 0 (.slice none 0 0))) w0.heap.size r 0 none 0 0 []) := Lib.hid (VK.new (Tss.none_ _) rfl)
      have HX1 := Lib.hid ((HX.out.below hb0).alloc (ko r 0 (.slice none 0 0)))
      have HB1 : Hid (Below w.heap.size w (w0.alloc (ko r 0 (.slice none 0 0)))) := Lib.hid (bel_al hb0 hb0.size _)
      have HXb : Hid (∀ b o, B = some ⟨b, o, none⟩ → 0 < xs.length → b < w.heap.size) := Lib.hid (fun b o e h0 => by
        obtain ⟨b', o', e', ht⟩ := HX.out.2.2.2 h0
        rw [e] at e'
        cases e'
        exact ht.1)
      have HP0 : Hid (w.heap.size ≤ w0.heap.size) := Lib.hid hb0.size
      clear hb0 HX
      go_wp2_with fail
      obtain ⟨p0, hp0⟩ : ∃ p0, p0 = w0.heap.size := ⟨_, rfl⟩
      rw [← hp0] at HV1 HP0 ⊢
      clear hp0
      generalize w0.alloc (ko r 0 (.slice none 0 0)) = w1 at *
      go_loopw [6] (fun i wr => ∃ (k : Nat) (ff : Int) (Ac : Option Addr) (n kc : Nat) (L : List It), k ≤ ln ∧ i = .int .i64 (k : Int) ∧ Hid (VK wr p0 r ff Ac n kc L) ∧ Hid (EqI r ff L) ∧ Hid (Below w.heap.size w wr) ∧ Hid (Ints wr B d xs)) (fun i _ => ln - (intOf i).toNat)
      case atStart => exact ⟨0, 0, none, 0, 0, [], by omega, rfl, HV1, HI0, HB1, HX1⟩
      case round =>
        clear HV1 HB1 HX1 HI0
        obtain ⟨k, ff, Ac, n, kc, L, hk, rfl, HVr, HIr, HBr, HXr⟩ := hrel
        by_cases hlt : k < ln
        · have hkn : (k : Int) < (ln : Int) := by omega
          have hk0 : (0 : Int) ≤ (k : Int) := by omega
          by_cases h100 : k < 100
          · have h100' : (k : Int) < 100 := by omega
            have HKX : Hid (k < xs.length) := Lib.hid (by rw [HLN.out]; exact hlt)
            obtain ⟨b, o, rfl, ht0⟩ := HXr.out.2.2.2 (by have := HKX.out; omega)
            have e1 := ht0.2 k HKX.out
            have HBx : Hid (b < w.heap.size) := Lib.hid (HXb.out b o rfl (Nat.lt_of_le_of_lt (Nat.zero_le _) HKX.out))
            have HBr2 : Hid (b < wr.heap.size) := Lib.hid ht0.1
            clear ht0
            generalize gi xs k = x at *
            have HAc := Lib.hid (fun (W : World) (hW : Tss W Ac kc L) => access_any r ff Ac kc L ⟨x, 1, 1, 0⟩ W hW)
            have HEr := Lib.hid (acE_zero (r := r) (fl := ff) (L := L) (t := ⟨x, 1, 1, 0⟩))
            have HE3 := Lib.hid (acE_three (r := r) (fl := ff) (L := L) (t := ⟨x, 1, 1, 0⟩) HIr.out.good)
            have HGood := Lib.hid (ac_good (r := r) (fl := ff) (L := L) (t := ⟨x, 1, 1, 0⟩))
            unfold AR at HAc
            have HLn := Lib.hid HVr.out.len
            rw [HLn.out] at HAc
            obtain ⟨M, hM⟩ : ∃ M, acL r ff L ⟨x, 1, 1, 0⟩ = M := ⟨_, rfl⟩
            obtain ⟨G, hG⟩ : ∃ G, acG r ff L ⟨x, 1, 1, 0⟩ = G := ⟨_, rfl⟩
            obtain ⟨R', hR⟩ : ∃ R', acR r ff L ⟨x, 1, 1, 0⟩ = R' := ⟨_, rfl⟩
            obtain ⟨F', hF⟩ : ∃ F', acF r ff L ⟨x, 1, 1, 0⟩ = F' := ⟨_, rfl⟩
            obtain ⟨H', hH⟩ : ∃ H', acH r ff L ⟨x, 1, 1, 0⟩ = H' := ⟨_, rfl⟩
            obtain ⟨E', hE⟩ : ∃ E', acE r ff L ⟨x, 1, 1, 0⟩ = E' := ⟨_, rfl⟩
            obtain ⟨lm, hlm⟩ : ∃ lm, M.length = lm := ⟨_, rfl⟩
            obtain ⟨lg, hlg⟩ : ∃ lg, G.length = lg := ⟨_, rfl⟩
            simp only [hM, hG, hR, hF, hH, hE] at HAc HEr HE3 HGood
            simp only [hlm, hlg] at HAc
            have HLM := Lib.hid hlm
            have HLG := Lib.hid hlg
            clear hM hG hR hF hH hE hlm hlg
            go_upto_region 9 with fail
            go_cut [7, 8, 9, 10] from 23 to 94 (fun s6 s7 s8 s9 wx => ∃ p A' c' B' d', s6 = .pointer (some ⟨p, 0, none⟩) ∧ s7 = .bool H' ∧ s8 = .slice B' lg d' ∧ s9 = .int .i64 E' ∧ VK wx p R' F' A' lm c' M ∧ Ints wx B' d' G ∧ FA wr A' ∧ FA wr B' ∧ wr.heap.size ≤ p ∧ Below wr.heap.size wr wx)
            case first =>
              have HS : Hid (∀ W, Below wr.heap.size wr W → W.cell? ⟨p0, 0, none⟩ = some (.int .i64 r) ∧ W.cell? ⟨p0, 1, none⟩ = some (.int .i64 ff) ∧ W.cell? ⟨p0, 2, none⟩ = some (.slice Ac n kc) ∧ W.cell? ⟨b, o + k, none⟩ = some (.int .i64 x)) := Lib.hid (fun W hW => by
                obtain ⟨z1, z2, z3⟩ := (HVr.out.box.below hW).cells
                exact ⟨z1, z2, z3, (hW.cell (p := ⟨b, _, none⟩) HBr2.out).trans e1⟩)
              clear e1
              go_region_held3 (fun w' => w'.cell? ⟨p0, 0, none⟩ = some (.int .i64 r) ∧ w'.cell? ⟨p0, 1, none⟩ = some (.int .i64 ff) ∧ w'.cell? ⟨p0, 2, none⟩ = some (.slice Ac n kc) ∧ w'.cell? ⟨b, o + k, none⟩ = some (.int .i64 x))
                (first | exact HS.out _ hb9 | exact HS.out _ (Below.refl _ _).drew | exact HS.out _ (bel_al (Below.refl _ _) (Nat.le_refl _) _).drew | exact HS.out _ (bel_al hb9 hb9.size _) | exact HS.out _ (bel_set3 hb9 (Nat.le_refl _) _ _ _))
                (first
                  | (go_at_call 7; (with_reducible refine (HAc.out wr.drew (HVr.out.things.drew)).mono ?_); rintro e w9 ⟨A9, c9, B9, d9, rfl, ht9, hi9, ha9, hc9, hb9'⟩; have hb9 : Below wr.heap.size wr w9 := (Below.refl _ _).drew.trans hb9')
                  | (go_at_call 7; (with_reducible refine (HAc.out (wr.alloc zk).drew (HVr.out.things.alloc zk).drew).mono ?_); rintro e w9 ⟨A9, c9, B9, d9, rfl, ht9, hi9, ha9, hc9, hb9'⟩; have hb8 : Below (wr.alloc zk).heap.size (wr.alloc zk) w9 := (Below.refl _ _).drew.trans hb9'; have hb9 : Below wr.heap.size wr w9 := (bel_al (Below.refl _ _) (Nat.le_refl _) _).trans (hb8.mono (by simp)); have hzd := (Kb.new wr 0 0 (.slice none 0 0)).below hb8; obtain ⟨r0, r1, r2⟩ := hzd.cells; obtain ⟨f0, f1, f2⟩ := hzd.free))
              · rename_i hHH
                clear hHH
                have HP := Lib.hid (VK.new (r := R') (fl := F') ht9 HLM.out)
                have HI := Lib.hid (hi9.alloc (ko R' F' (.slice A9 lm c9)))
                have HQ := Lib.hid (bel_al hb9 hb9.size (ko R' F' (.slice A9 lm c9)))
                go_wp2
                go_meet
                exact ⟨_, A9, c9, B9, d9, rfl, rfl, rfl, rfl, HP.out, HI.out, fun a ha => ha9 a ha, fun a ha => hc9 a ha, hb9.size, HQ.out⟩
              · rename_i hHH
                clear hHH
                have HP : Hid (VK (((w9.setCell ⟨wr.heap.size, 0, none⟩ (.int .i64 R')).setCell ⟨wr.heap.size, 1, none⟩ (.int .i64 F')).setCell ⟨wr.heap.size, 2, none⟩ (.slice A9 lm c9)) wr.heap.size R' F' A9 lm c9 M) := Lib.hid ⟨hzd.put3 R' F' (.slice A9 lm c9), ht9.set3 (fun a ha => by have := ha9 a ha; simp at this; omega) _ _ _, HLM.out⟩
                have HI : Hid (Ints (((w9.setCell ⟨wr.heap.size, 0, none⟩ (.int .i64 R')).setCell ⟨wr.heap.size, 1, none⟩ (.int .i64 F')).setCell ⟨wr.heap.size, 2, none⟩ (.slice A9 lm c9)) B9 d9 G) := Lib.hid (Ints.set3' hi9 (fun a ha => by have := hc9 a ha; simp at this; omega) _ _ _)
                have HQ := Lib.hid (bel_set3 hb9 (p := wr.heap.size) (Nat.le_refl _) (.int .i64 R') (.int .i64 F') (.slice A9 lm c9))
                go_wp2
                go_meet
                exact ⟨_, A9, c9, B9, d9, rfl, rfl, rfl, rfl, HP.out, HI.out, fun a ha => by have := ha9 a ha; simp at this; omega, fun a ha => by have := hc9 a ha; simp at this; omega, Nat.le_refl _, HQ.out⟩
            case rest =>
              obtain ⟨p8, A8, c8, B8, d8, rfl, rfl, rfl, rfl, hv8, hi8, ha8, -, hp8, hb8⟩ := hcut
              rename World => wc
              have HV8 := Lib.hid hv8
              have HA8 := Lib.hid ha8
              have HP8 := Lib.hid hp8
              have HH8 := Lib.hid (HVr.out.below hb8)
              have HX8 := Lib.hid (HXr.out.below hb8)
              have HB8 : Hid (Below w.heap.size w wc) := Lib.hid (HBr.out.trans (hb8.mono HBr.out.size))
              have HR8 : Hid (p0 < wr.heap.size) := Lib.hid HVr.out.box.lt
              have HI8 := Lib.hid hi8
              clear hv8 hi8 ha8 hp8 hb8 e1 HAc HVr HXr HBr
              by_cases hz : E' = 0
              · have hgk := HEr.out.1 hz
                obtain ⟨g1, g2, g3, g4, g5⟩ := HGood.out hz
                subst g1
                have hone := tch_one HIr.out hgk.2 rfl
                rw [← g2, ← g3] at hone
                obtain ⟨o1, o2, o3, o4⟩ := hone
                have hlg1 : lg ≤ 1 := by rw [← HLG.out, g5]; simpa [keys] using o2
                have hlm1 : (lm : Int) ≤ R' := by rw [← HLM.out]; exact o3
                have hlm40 : lm ≤ 40 := by have := o1.few; omega
                have HU : Hid (∀ j, j < M.length → ff ≤ (gt M j).worth ∧ (gt M j).key ∉ G) := Lib.hid (fun j hj => by have h := o4 _ (gt_mem hj); rw [← g5] at h; exact h)
                have HIn := Lib.hid o1
                have q : (E' != 0) = false := by simpa using hz
                have q1 : decide (R' < (lm : Int)) = false := by simpa using hlm1
                have q2 : decide ((1 : Int) < (lg : Int)) = false := by simp; omega
                clear hgk g2 g3 g4 g5 o1 o2 o3 o4 HGood HEr HE3 hz HIr
                go_wp2_with fail
                go_loopw [11] (fun s11 wk => ∃ i : Nat, i ≤ lg ∧ s11 = .int .i64 (i : Int) ∧ Hid (Below wc.heap.size wc wk)) (fun s11 _ => lg - (intOf s11).toNat)
                case atStart => exact ⟨0, by omega, rfl, Lib.hid (Below.refl _ _)⟩
                case round =>
                  rename World => wk
                  obtain ⟨i, hi, rfl, HBk⟩ := hrel
                  by_cases hil : i < lg
                  · have hin : (i : Int) < (lg : Int) := by omega
                    have hi0 : (0 : Int) ≤ (i : Int) := by omega
                    go_wp2_with fail
                    go_loopw [12] (fun s12 wj => ∃ j : Nat, j ≤ lm ∧ s12 = .int .i64 (j : Int) ∧ Hid (Below wc.heap.size wc wj)) (fun s12 _ => lm - (intOf s12).toNat)
                    case atStart => exact ⟨0, by omega, rfl, HBk⟩
                    case round =>
                      rename World => wj
                      obtain ⟨j, hj, rfl, HBj⟩ := hrel
                      have HVj := Lib.hid (HV8.out.below HBj.out)
                      obtain ⟨x0, x1, x2⟩ := HVj.out.box.cells
                      by_cases hjl : j < lm
                      · have hjn : (j : Int) < (lm : Int) := by omega
                        have hj0 : (0 : Int) ≤ (j : Int) := by omega
                        have hjm : j < M.length := by rw [HLM.out]; exact hjl
                        have hig : i < G.length := by rw [HLG.out]; exact hil
                        obtain ⟨b9, o9, rfl, f1, -, -, f4⟩ := HVj.out.things.us hjm
                        obtain ⟨b7, o7, rfl, ht7⟩ := (HI8.out.below HBj.out).2.2.2 (by omega)
                        have f7 := ht7.2 i hig
                        obtain ⟨y0, y1, y2⟩ := (HH8.out.below HBj.out).box.cells
                        obtain ⟨u1, u2⟩ := HU.out j hjm
                        have q3 : decide ((gt M j).worth < ff) = false := by simpa using u1
                        have q4 : ((gt M j).key == gi G i) = false := by
                          rw [beq_eq_false_iff_ne]
                          intro e
                          exact u2 (by rw [e, gi_get hig]; exact List.getElem_mem hig)
                        clear u1 u2 ht7 hjm hig
                        generalize (gt M j).worth = wo at *
                        generalize (gt M j).key = ky at *
                        generalize gi G i = gy at *
                        go_wp2_with fail
                        go_quiet (fail)
                        have HB5 : Hid (Below wc.heap.size wc (wj.drewN nq)) := Lib.hid (bel_drewN HBj.out nq)
                        clear x0 x1 x2 y0 y1 y2 f1 f4 f7
                        generalize wj.drewN nq = w5 at *
                        go_wp2
                        go_roundw
                        case rel => exact ⟨j + 1, by omega, by go_num, HB5⟩
                        case measure => simp [intOf]; omega
                      · obtain rfl : j = lm := by omega
                        go_wp2
                        go_roundw
                        case rel => exact ⟨i + 1, by omega, by go_num, HBj⟩
                        case measure => simp [intOf]; omega
                  · obtain rfl : i = lg := by omega
                    have HHf := Lib.hid (HH8.out.below HBk.out)
                    have HVf := Lib.hid (HV8.out.below HBk.out)
                    have HXf := Lib.hid (HX8.out.below HBk.out)
                    have HBf : Hid (Below w.heap.size w wk) := Lib.hid (HB8.out.trans (HBk.out.mono HB8.out.size))
                    obtain ⟨x0, x1, x2⟩ := HVf.out.box.cells
                    obtain ⟨y0, y1, y2⟩ := HHf.out.box.cells
                    obtain ⟨z0, z1, z2⟩ := HHf.out.box.free
                    have HHa : Hid (VK (((wk.setCell ⟨p0, 0, none⟩ (.int .i64 R')).setCell ⟨p0, 1, none⟩ (.int .i64 F')).setCell ⟨p0, 2, none⟩ (.slice A8 lm c8)) p0 R' F' A8 lm c8 M) := Lib.hid (HHf.out.put HVf.out.things HLM.out (fun a ha e => by have := HA8.out a ha; have := HR8.out; omega))
                    have HXa : Hid (Ints (((wk.setCell ⟨p0, 0, none⟩ (.int .i64 R')).setCell ⟨p0, 1, none⟩ (.int .i64 F')).setCell ⟨p0, 2, none⟩ (.slice A8 lm c8)) (some ⟨b, o, none⟩) d xs) := Lib.hid (Ints.set3' HXf.out (fun a ha e => by cases ha; have := HBx.out; have := HP0.out; dsimp only at e; omega) _ _ _)
                    have HBa : Hid (Below w.heap.size w (((wk.setCell ⟨p0, 0, none⟩ (.int .i64 R')).setCell ⟨p0, 1, none⟩ (.int .i64 F')).setCell ⟨p0, 2, none⟩ (.slice A8 lm c8))) := Lib.hid (bel_set3 HBf.out (p := p0) HP0.out _ _ _)
                    go_wp2
                    go_roundw
                    case rel => exact ⟨k + 1, F', A8, lm, c8, M, by omega, by go_num, HHa, HIn, HBa, HXa⟩
                    case measure => simp [intOf]; omega
              · have q : (E' != 0) = true := by simpa using hz
                have h3 := HE3.out hz
                subst h3
                clear hz
                go_wp2
                go_ret
                exact ⟨rfl, HB8.out⟩
          · have h100' : ¬ (k : Int) < 100 := by omega
            go_wp2
            go_ret
            exact ⟨rfl, HBr.out⟩
        · have hkn : ¬ (k : Int) < (ln : Int) := by omega
          go_wp2
          go_ret
          exact ⟨rfl, HBr.out⟩

end Go.Proofs.Ytmobohamlimhdaa.Grd
