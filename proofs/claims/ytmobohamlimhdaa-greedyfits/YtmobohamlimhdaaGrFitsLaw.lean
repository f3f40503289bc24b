/-
  GreedyFits.
-/
import Derived.Test.YtmobohamlimhdaaGrBegun
import Derived.Test.YtmobohamlimhdaaBelowQuiet
import Derived.Deep.CutRange
namespace Go.Proofs.Ytmobohamlimhdaa.Grd
open Go.RowKit
open Lru (isK)
set_option linter.unusedVariables false
set_option maxRecDepth 100000

theorem acE_zero {r fl : Int} {L : List It} {t : It} : acE r fl L t = 0 ↔ Good r fl L ∧ okI t := by
  unfold acE
  by_cases h : checkG 8 r fl L = 0
  · rw [if_pos h]
    have g := (check_zero (full := 8) (by decide)).1 h
    by_cases h2 : okI t
    · rw [if_pos h2]; exact ⟨fun _ => ⟨g, h2⟩, fun _ => rfl⟩
    · rw [if_neg h2]; exact ⟨fun e => (by cases e), fun e => absurd e.2 h2⟩
  · rw [if_neg h]; exact ⟨fun e => absurd e h, fun e => absurd ((check_zero (full := 8) (by decide)).2 e.1) h⟩
theorem ac_bad {r fl : Int} {L : List It} {t : It} (h : ¬ acE r fl L t = 0) : acR r fl L t = 0 ∧ acF r fl L t = 0 ∧ acL r fl L t = [] ∧ acH r fl L t = false ∧ acG r fl L t = [] := by
  unfold acR acF acL acH acG
  simp only [if_neg h, and_self]
theorem ac_good {r fl : Int} {L : List It} {t : It} (h : acE r fl L t = 0) : acR r fl L t = r ∧ acF r fl L t = (tch r fl L t).floor ∧ acL r fl L t = (tch r fl L t).left ∧ acH r fl L t = decide (t.key ∈ keys L) ∧ acG r fl L t = keys (tch r fl L t).gone := by
  unfold acR acF acL acH acG
  simp only [if_pos h, and_self]
theorem tch_there {r fl : Int} {L : List It} {t : It} : t.key ∈ keys (tch r fl L t).left ↔ t.key ∈ keys L ∨ t.size ≤ r := by
  unfold tch
  by_cases h1 : t.key ∈ keys L
  · rw [if_pos h1]
    obtain ⟨hk, -⟩ := hit_at h1
    show t.key ∈ keys (L.set _ _) ↔ _
    rw [keys_set hk (by rfl)]
    exact ⟨fun _ => .inl h1, fun _ => h1⟩
  · rw [if_neg h1]
    by_cases h2 : r < t.size
    · rw [if_pos h2]; exact ⟨fun h => .inl h, fun h => h.elim id (fun h => absurd h (by omega))⟩
    · rw [if_neg h2]; exact ⟨fun _ => .inr (by omega), fun _ => by simp [keys]⟩
theorem tch_hit {r fl : Int} {L : List It} {t : It} (h : t.key ∈ keys L) : (tch r fl L t).gone = [] := by unfold tch; rw [if_pos h]
theorem keys_at {M : List It} {j : Nat} (h : j < M.length) : keys (M.take (j + 1)) = keys (M.take j) ++ [(gt M j).key] := by
  unfold keys
  rw [List.take_add_one, List.getElem?_eq_getElem h, Option.toList_some, List.map_append, gt_get h]; rfl
theorem mem_at {M : List It} {j : Nat} {x : Int} (h : j < M.length) : decide (x ∈ keys (M.take (j + 1))) = (decide (x ∈ keys (M.take j)) || decide ((gt M j).key = x)) := by
  rw [keys_at h]
  generalize (gt M j).key = y
  by_cases a : x ∈ keys (M.take j)
  · simp [a]
  · by_cases b : y = x
    · simp [b]
    · have b' : ¬ x = y := fun e => b e.symm
      simp [a, b, b']
theorem VK.bel {w w' : World} {p : Nat} {r fl : Int} {A : Option Addr} {n c : Nat} {L : List It} (h : VK w p r fl A n c L) {B : Nat} (hb : Below B w w') (hB : w.heap.size ≤ B) : VK w' p r fl A n c L := h.below (hb.mono hB)
theorem Ints.set3' {w : World} {A : Option Addr} {c p : Nat} {L : List Int} (h : Ints w A c L) (hp : ∀ a, A = some a → p ≠ a.block) (x y z : Value) : Ints (((w.setCell ⟨p, 0, none⟩ x).setCell ⟨p, 1, none⟩ y).setCell ⟨p, 2, none⟩ z) A c L :=
  ((h.setCell (p := ⟨p, 0, none⟩) (fun a ha e => hp a ha e.symm) x).setCell (p := ⟨p, 1, none⟩) (fun a ha e => hp a ha e.symm) y).setCell (p := ⟨p, 2, none⟩) (fun a ha e => hp a ha e.symm) z

set_option maxHeartbeats 20000000 in
theorem greedyFits_walk (r fl : Int) (A : Option Addr) (c : Nat) (L : List It) (B : Option Addr) (d : Nat) (xs : List It) (w : World) (hT : Tss w A c L) (hX : Tss w B d xs) :
    Calls Try.prog 4 #[kv r fl (.slice A L.length c), .slice B xs.length d] w fun e w' => e = .returned (.bool true) ∧ Below w.heap.size w w' := by
  have HV0 : Hid (VK (w.alloc (ko r fl (.slice A L.length c))) w.heap.size r fl A L.length c L) := Lib.hid (VK.new hT rfl)
  have HB0 : Hid (Below w.heap.size w (w.alloc (ko r fl (.slice A L.length c)))) := Lib.hid (bel_al (Below.refl _ _) (Nat.le_refl _) _)
  have HX0 := Lib.hid (hX.alloc (ko r fl (.slice A L.length c)))
  have HXb : Hid (∀ b o, B = some ⟨b, o, none⟩ → 0 < xs.length → b < w.heap.size) := Lib.hid (fun b o e h0 => by
    obtain ⟨b', o', e', ht⟩ := hX.2.2.2 h0
    rw [e] at e'
    cases e'
    exact ht.1)
  clear hT hX
  obtain ⟨ln, hln⟩ : ∃ ln, xs.length = ln := ⟨_, rfl⟩
  have HLN := Lib.hid hln
  rw [hln]
  clear hln
  generalize L.length = n0 at *
  go_enter Try.func4, Try.ntmps4
  go_wp2_with fail
  refine (begun_any _).mono ?_
  rintro e w1 ⟨rfl, hb1⟩
  have HV1 := Lib.hid (HV0.out.below hb1)
  have HX1 := Lib.hid (HX0.out.below hb1)
  have HB1 : Hid (Below w.heap.size w w1) := Lib.hid (HB0.out.trans (hb1.mono HB0.out.size))
  clear hb1 HV0 HX0 HB0
  go_wp2_with fail
  go_loopw [5] (fun i wr => ∃ (k : Nat) (rr ff : Int) (Ac : Option Addr) (n kc : Nat) (L : List It), k ≤ ln ∧ i = .int .i64 (k : Int) ∧ Hid (VK wr w.heap.size rr ff Ac n kc L) ∧ Hid (Below w.heap.size w wr) ∧ Hid (Tss wr B d xs)) (fun i _ => ln - (intOf i).toNat)
  case atStart => exact ⟨0, r, fl, A, n0, c, L, by omega, rfl, HV1, HB1, HX1⟩
  case round =>
    clear HV1 HB1 HX1
    obtain ⟨k, rr, ff, Ac, n, kc, L, hk, rfl, HVr, HBr, HXr⟩ := hrel
    by_cases hlt : k < ln
    · have hkn : (k : Int) < (ln : Int) := by omega
      have hk0 : (0 : Int) ≤ (k : Int) := by omega
      by_cases h60 : k < 60
      · have h60' : (k : Int) < 60 := by omega
        have HKX : Hid (k < xs.length) := Lib.hid (by rw [HLN.out]; exact hlt)
        obtain ⟨b, o, rfl, -, -, -, -⟩ := HXr.out.us HKX.out
        have HAc := Lib.hid (fun (W : World) (hW : Tss W Ac kc L) => access_any rr ff Ac kc L (gt xs k) W hW)
        have HEr := Lib.hid (acE_zero (r := rr) (fl := ff) (L := L) (t := gt xs k))
        have HBad := Lib.hid (ac_bad (r := rr) (fl := ff) (L := L) (t := gt xs k))
        have HGood := Lib.hid (ac_good (r := rr) (fl := ff) (L := L) (t := gt xs k))
        unfold AR at HAc
        have HLn := Lib.hid HVr.out.len
        rw [HLn.out] at HAc
        have HXc : Hid (∀ W, Below wr.heap.size wr W → W.cell? ⟨b, o + k * 4, none⟩ = some (.int .i64 (gt xs k).key) ∧ W.cell? ⟨b, o + k * 4 + 1, none⟩ = some (.int .i64 (gt xs k).size) ∧ W.cell? ⟨b, o + k * 4 + 2, none⟩ = some (.int .i64 (gt xs k).cost) ∧ W.cell? ⟨b, o + k * 4 + 3, none⟩ = some (.int .i64 (gt xs k).worth)) := Lib.hid (fun W hW => by
          obtain ⟨b', o', e, h⟩ := (HXr.out.below hW).us HKX.out
          cases e; exact h)
        generalize gt xs k = t at *
        obtain ⟨M, hM⟩ : ∃ M, acL rr ff L t = M := ⟨_, rfl⟩
        obtain ⟨G, hG⟩ : ∃ G, acG rr ff L t = G := ⟨_, rfl⟩
        obtain ⟨R', hR⟩ : ∃ R', acR rr ff L t = R' := ⟨_, rfl⟩
        obtain ⟨F', hF⟩ : ∃ F', acF rr ff L t = F' := ⟨_, rfl⟩
        obtain ⟨H', hH⟩ : ∃ H', acH rr ff L t = H' := ⟨_, rfl⟩
        obtain ⟨E', hE⟩ : ∃ E', acE rr ff L t = E' := ⟨_, rfl⟩
        obtain ⟨lm, hlm⟩ : ∃ lm, M.length = lm := ⟨_, rfl⟩
        obtain ⟨lg, hlg⟩ : ∃ lg, G.length = lg := ⟨_, rfl⟩
        simp only [hM, hG, hR, hF, hH, hE] at HAc HEr HBad HGood
        simp only [hlm, hlg] at HAc
        have HLM := Lib.hid hlm
        have HLG := Lib.hid hlg
        clear hM hG hR hF hH hE hlm hlg
        obtain ⟨ky, sz, co, wo⟩ := t
        dsimp only at HXc
        go_upto_region 6 with fail
        go_cut [6, 7, 8, 9] from 14 to 104 (fun s6 s7 s8 s9 wx => ∃ p A' c' B' d', s6 = .pointer (some ⟨p, 0, none⟩) ∧ s7 = .bool H' ∧ s8 = .slice B' lg d' ∧ s9 = .int .i64 E' ∧ VK wx p R' F' A' lm c' M ∧ Ints wx B' d' G ∧ FA wr A' ∧ FA wr B' ∧ wr.heap.size ≤ p ∧ Below wr.heap.size wr wx)
        case first =>
          have HS : Hid (∀ W, Below wr.heap.size wr W → W.cell? ⟨w.heap.size, 0, none⟩ = some (.int .i64 rr) ∧ W.cell? ⟨w.heap.size, 1, none⟩ = some (.int .i64 ff) ∧ W.cell? ⟨w.heap.size, 2, none⟩ = some (.slice Ac n kc) ∧ W.cell? ⟨b, o + k * 4, none⟩ = some (.int .i64 ky) ∧ W.cell? ⟨b, o + k * 4 + 1, none⟩ = some (.int .i64 sz) ∧ W.cell? ⟨b, o + k * 4 + 2, none⟩ = some (.int .i64 co) ∧ W.cell? ⟨b, o + k * 4 + 3, none⟩ = some (.int .i64 wo)) := Lib.hid (fun W hW => by
            obtain ⟨z1, z2, z3⟩ := (HVr.out.box.below hW).cells
            exact ⟨z1, z2, z3, HXc.out W hW⟩)
          go_region_held3 (fun w' => w'.cell? ⟨w.heap.size, 0, none⟩ = some (.int .i64 rr) ∧ w'.cell? ⟨w.heap.size, 1, none⟩ = some (.int .i64 ff) ∧ w'.cell? ⟨w.heap.size, 2, none⟩ = some (.slice Ac n kc) ∧ w'.cell? ⟨b, o + k * 4, none⟩ = some (.int .i64 ky) ∧ w'.cell? ⟨b, o + k * 4 + 1, none⟩ = some (.int .i64 sz) ∧ w'.cell? ⟨b, o + k * 4 + 2, none⟩ = some (.int .i64 co) ∧ w'.cell? ⟨b, o + k * 4 + 3, none⟩ = some (.int .i64 wo))
            (first | exact HS.out _ hb9 | exact HS.out _ (Below.refl _ _).drew | exact HS.out _ (bel_al (Below.refl _ _) (Nat.le_refl _) _).drew | exact HS.out _ (bel_al hb9 hb9.size _) | exact HS.out _ (bel_set3 hb9 (Nat.le_refl _) _ _ _))
            (first
              | (go_at_call 7; (with_reducible refine (HAc.out wr.drew (HVr.out.things.drew)).mono ?_); rintro e w9 ⟨A9, c9, B9, d9, rfl, ht9, hi9, ha9, hc9, hb9'⟩; have hb9 : Below wr.heap.size wr w9 := (Below.refl _ _).drew.trans hb9')
              | (go_at_call 7; (with_reducible refine (HAc.out (wr.alloc zk).drew (HVr.out.things.alloc zk).drew).mono ?_); rintro e w9 ⟨A9, c9, B9, d9, rfl, ht9, hi9, ha9, hc9, hb9'⟩; have hb8 : Below (wr.alloc zk).heap.size (wr.alloc zk) w9 := (Below.refl _ _).drew.trans hb9'; have hb9 : Below wr.heap.size wr w9 := (bel_al (Below.refl _ _) (Nat.le_refl _) _).trans (hb8.mono (by simp)); have hzd := (Kb.new wr 0 0 (.slice none 0 0)).below hb8; obtain ⟨r0, r1, r2⟩ := hzd.cells; obtain ⟨f0, f1, f2⟩ := hzd.free))
          · rename_i hHH
            clear hHH
            have HP := Lib.hid (VK.new (r := R') (fl := F') ht9 HLM.out)
            have HI := Lib.hid (hi9.alloc (ko R' F' (.slice A9 lm c9)))
            have HQ := Lib.hid (bel_al hb9 hb9.size (ko R' F' (.slice A9 lm c9)))
            go_wp2
            go_meet
            exact ⟨_, A9, c9, B9, d9, rfl, rfl, rfl, rfl, HP.out, HI.out, fun a ha => ha9 a ha, fun a ha => hc9 a ha, hb9.size, HQ.out⟩
          · rename_i hHH
            clear hHH
            have HP : Hid (VK (((w9.setCell ⟨wr.heap.size, 0, none⟩ (.int .i64 R')).setCell ⟨wr.heap.size, 1, none⟩ (.int .i64 F')).setCell ⟨wr.heap.size, 2, none⟩ (.slice A9 lm c9)) wr.heap.size R' F' A9 lm c9 M) := Lib.hid ⟨hzd.put3 R' F' (.slice A9 lm c9), ht9.set3 (fun a ha => by have := ha9 a ha; simp at this; omega) _ _ _, HLM.out⟩
            have HI : Hid (Ints (((w9.setCell ⟨wr.heap.size, 0, none⟩ (.int .i64 R')).setCell ⟨wr.heap.size, 1, none⟩ (.int .i64 F')).setCell ⟨wr.heap.size, 2, none⟩ (.slice A9 lm c9)) B9 d9 G) := Lib.hid (Ints.set3' hi9 (fun a ha => by have := hc9 a ha; simp at this; omega) _ _ _)
            have HQ := Lib.hid (bel_set3 hb9 (p := wr.heap.size) (Nat.le_refl _) (.int .i64 R') (.int .i64 F') (.slice A9 lm c9))
            go_wp2
            go_meet
            exact ⟨_, A9, c9, B9, d9, rfl, rfl, rfl, rfl, HP.out, HI.out, fun a ha => by have := ha9 a ha; simp at this; omega, fun a ha => by have := hc9 a ha; simp at this; omega, Nat.le_refl _, HQ.out⟩
        case rest =>
          obtain ⟨p8, A8, c8, B8, d8, rfl, rfl, rfl, rfl, hv8, hi8, ha8, -, hp8, hb8⟩ := hcut
          rename World => wc
          have HV8 := Lib.hid hv8
          have HA8 := Lib.hid ha8
          have HP8 := Lib.hid hp8
          have HH8 := Lib.hid (HVr.out.below hb8)
          have HX8 := Lib.hid (HXr.out.below hb8)
          have HB8 : Hid (Below w.heap.size w wc) := Lib.hid (HBr.out.trans (hb8.mono HBr.out.size))
          have HR8 : Hid (w.heap.size < wr.heap.size) := Lib.hid HVr.out.box.lt
          have HXd : Hid (∀ W, Below wc.heap.size wc W → W.cell? ⟨b, o + k * 4, none⟩ = some (.int .i64 ky) ∧ W.cell? ⟨b, o + k * 4 + 1, none⟩ = some (.int .i64 sz) ∧ W.cell? ⟨b, o + k * 4 + 2, none⟩ = some (.int .i64 co) ∧ W.cell? ⟨b, o + k * 4 + 3, none⟩ = some (.int .i64 wo)) := Lib.hid (fun W hW => HXc.out W (hb8.trans (hW.mono hb8.size)))
          clear hv8 hi8 ha8 hp8 hb8 HXc HAc HVr HXr HBr
          by_cases hz : E' = 0
          · have hgk := HEr.out.1 hz
            obtain ⟨g1, g2, g3, g4, g5⟩ := HGood.out hz
            subst g1
            have hgt := tch_good hgk.1 hgk.2
            rw [← g2, ← g3] at hgt
            have hck : checkG 8 R' F' M = 0 := (check_zero (full := 8) (by decide)).2 hgt.1
            have hfl : decide (F' < ff) = false := by have := hgt.2; simp; omega
            have hthere : decide (ky ∈ keys M) = (H' || decide (sz ≤ R')) := by
              have h := tch_there (r := R') (fl := ff) (L := L) (t := ⟨ky, sz, co, wo⟩)
              rw [← g3] at h
              rw [g4]
              dsimp only at h ⊢
              by_cases a : ky ∈ keys L
              · simp [a, h.2 (.inl a)]
              · by_cases b : sz ≤ R'
                · simp [b, h.2 (.inr b)]
                · have : ¬ ky ∈ keys M := fun hm => (h.1 hm).elim a b
                  simp [a, b, this]
            have hgone : H' = true → lg = 0 := fun h => by
              rw [g4] at h
              have h2 := tch_hit (r := R') (fl := ff) (L := L) (t := ⟨ky, sz, co, wo⟩) (by simpa using h)
              have := HLG.out
              rw [g5, h2] at this
              exact this.symm
            have HTh := Lib.hid hthere
            have HGo := Lib.hid hgone
            have HCk : Hid (∀ W : World, Tss W A8 c8 M → Calls Try.prog 16 #[kv R' F' (.slice A8 lm c8)] W fun e w' => e = .returned (.int .i64 0) ∧ Below W.heap.size W w') := Lib.hid (fun W hW => by
              have h := check_any R' F' A8 c8 M W hW
              unfold CkC at h
              rwa [HLM.out, hck] at h)
            have HBx : Hid (b < w.heap.size) := Lib.hid (HXb.out b o rfl (Nat.lt_of_le_of_lt (Nat.zero_le _) HKX.out))
            have q : (E' != 0) = false := by simpa using hz
            have hl40 : lm ≤ 40 := by rw [← HLM.out]; exact hgt.1.few
            clear hgk g2 g3 g4 g5 hgt hck hthere hgone HGood HBad HEr hz
            go_wp2_with fail
            go_loopw [10, 11] (fun s10 s11 wj => ∃ j : Nat, j ≤ lm ∧ s11 = .int .i64 (j : Int) ∧ s10 = .bool (decide (ky ∈ keys (M.take j))) ∧ Hid (Below wc.heap.size wc wj)) (fun _ s11 _ => lm - (intOf s11).toNat)
            case atStart => exact ⟨0, by omega, rfl, rfl, Lib.hid (Below.refl _ _)⟩
            case round =>
              rename World => wj
              obtain ⟨j, hj, rfl, rfl, HBj⟩ := hrel
              have HVj := Lib.hid (HV8.out.below HBj.out)
              obtain ⟨x0, x1, x2⟩ := HVj.out.box.cells
              by_cases hjl : j < lm
              · have hjn : (j : Int) < (lm : Int) := by omega
                have hj0 : (0 : Int) ≤ (j : Int) := by omega
                have HJM : Hid (j < M.length) := Lib.hid (by rw [HLM.out]; exact hjl)
                have hm := mem_at (x := ky) HJM.out
                obtain ⟨b9, o9, rfl, e1, -, -, -⟩ := HVj.out.things.us HJM.out
                have f1 := (HXd.out _ HBj.out).1
                generalize (gt M j).key = y at *
                by_cases a : ky ∈ keys (M.take j)
                · have a1 : decide (ky ∈ keys (M.take j)) = true := decide_eq_true a
                  rw [a1]
                  have HM : Hid (decide (ky ∈ keys (M.take (j + 1))) = true) := Lib.hid (by rw [hm, a1]; rfl)
                  clear hm a a1
                  go_wp2_with fail
                  go_quiet (fail)
                  have HB5 : Hid (Below wc.heap.size wc (wj.drewN nq)) := Lib.hid (bel_drewN HBj.out nq)
                  clear x0 x1 x2 e1 f1
                  generalize wj.drewN nq = w5 at *
                  go_wp2
                  go_roundw
                  case rel => exact ⟨j + 1, by omega, by go_num, by rw [HM.out], HB5⟩
                  case measure => simp [intOf]; omega
                · have a1 : decide (ky ∈ keys (M.take j)) = false := decide_eq_false a
                  rw [a1]
                  by_cases a2 : y = ky
                  · have a3 : (y == ky) = true := by simpa using a2
                    have HM : Hid (decide (ky ∈ keys (M.take (j + 1))) = true) := Lib.hid (by rw [hm, a1]; simpa using a2)
                    clear hm a a1 a2
                    go_wp2_with fail
                    go_quiet (fail)
                    have HB5 : Hid (Below wc.heap.size wc (wj.drewN nq)) := Lib.hid (bel_drewN HBj.out nq)
                    clear x0 x1 x2 e1 f1
                    generalize wj.drewN nq = w5 at *
                    go_wp2
                    go_roundw
                    case rel => exact ⟨j + 1, by omega, by go_num, by rw [HM.out], HB5⟩
                    case measure => simp [intOf]; omega
                  · have a3 : (y == ky) = false := by simpa using a2
                    have HM : Hid (decide (ky ∈ keys (M.take (j + 1))) = false) := Lib.hid (by rw [hm, a1]; simpa using a2)
                    clear hm a a1 a2
                    go_wp2_with fail
                    go_quiet (fail)
                    have HB5 : Hid (Below wc.heap.size wc (wj.drewN nq)) := Lib.hid (bel_drewN HBj.out nq)
                    clear x0 x1 x2 e1 f1
                    generalize wj.drewN nq = w5 at *
                    go_wp2
                    go_roundw
                    case rel => exact ⟨j + 1, by omega, by go_num, by rw [HM.out], HB5⟩
                    case measure => simp [intOf]; omega
              · obtain rfl : j = lm := by omega
                have hq : decide (ky ∈ keys (M.take j)) = (H' || decide (sz ≤ R')) := by rw [List.take_of_length_le (by rw [HLM.out]; exact Nat.le_refl _)]; exact HTh.out
                rw [hq]
                generalize wj = wf at *
                have HVf := HVj
                have HHf := Lib.hid (HH8.out.below HBj.out)
                have HXf := Lib.hid (HX8.out.below HBj.out)
                have HBf : Hid (Below w.heap.size w wf) := Lib.hid (HB8.out.trans (HBj.out.mono HB8.out.size))
                have HS : Hid (∀ W, Below wf.heap.size wf W → W.cell? ⟨p8, 0, none⟩ = some (.int .i64 R') ∧ W.cell? ⟨p8, 1, none⟩ = some (.int .i64 F') ∧ W.cell? ⟨p8, 2, none⟩ = some (.slice A8 j c8) ∧ W.cell? ⟨w.heap.size, 0, none⟩ = some (.int .i64 R') ∧ W.cell? ⟨w.heap.size, 1, none⟩ = some (.int .i64 ff) ∧ W.cell? ⟨b, o + k * 4 + 1, none⟩ = some (.int .i64 sz)) := Lib.hid (fun W hW => by
                  obtain ⟨z1, z2, z3⟩ := (HVf.out.below hW).box.cells
                  obtain ⟨z4, z5, -⟩ := (HHf.out.below hW).box.cells
                  exact ⟨z1, z2, z3, z4, z5, (HXd.out W (HBj.out.trans (hW.mono HBj.out.size))).2.1⟩)
                clear x0 x1 x2 hjl hj HV8 HH8 HX8 HB8 HBj HVj HXd
                by_cases a4 : sz ≤ R'
                · have a5 : decide (sz ≤ R') = true := decide_eq_true a4
                  rw [a5]
                  clear a4
                  cases H' with
                  | true =>
                    have hlg : lg = 0 := HGo.out rfl
                    subst hlg
                    clear HGo HTh
                    rw [show (true || true) = true from rfl]
                    clear hq
                    obtain ⟨x0, x1, x2⟩ := HVf.out.box.cells
                    go_wp2_with fail
                    have hS0 : ∀ u : Bw wf, u.w.cell? ⟨p8, 0, none⟩ = some (.int .i64 R') := fun u => (HS.out _ u.h).1
                    have hS1 : ∀ u : Bw wf, u.w.cell? ⟨p8, 1, none⟩ = some (.int .i64 F') := fun u => (HS.out _ u.h).2.1
                    have hS2 : ∀ u : Bw wf, u.w.cell? ⟨p8, 2, none⟩ = some (.slice A8 j c8) := fun u => (HS.out _ u.h).2.2.1
                    have hS3 : ∀ u : Bw wf, u.w.cell? ⟨w.heap.size, 0, none⟩ = some (.int .i64 R') := fun u => (HS.out _ u.h).2.2.2.1
                    have hS4 : ∀ u : Bw wf, u.w.cell? ⟨w.heap.size, 1, none⟩ = some (.int .i64 ff) := fun u => (HS.out _ u.h).2.2.2.2.1
                    have hS5 : ∀ u : Bw wf, u.w.cell? ⟨b, o + k * 4 + 1, none⟩ = some (.int .i64 sz) := fun u => (HS.out _ u.h).2.2.2.2.2
                    refine wp_region_below (by kernel_rfl) (by kernel_rfl) ?_
                    repeat (go_big_quiet_step ((first | (go_at_call 16; (with_reducible refine calls_bw (HCk.out _ ?_)); exact HVf.out.things.below (Bw.h _)))))
                    refine wpQuiet_nil ?_
                    intro _ hw'
                    obtain ⟨u9, hw''⟩ := hw'
                    subst hw''
                    clear hS0 hS1 hS2 hS3 hS4 hS5
                    have hb9 := u9.h
                    generalize u9.w = w9 at *
                    have HH9 := Lib.hid (HHf.out.below hb9)
                    have HV9 := Lib.hid (HVf.out.below hb9)
                    have HX9 := Lib.hid (HXf.out.below hb9)
                    have HB9 : Hid (Below w.heap.size w w9) := Lib.hid (HBf.out.trans (hb9.mono HBf.out.size))
                    clear hb9 u9 x0 x1 x2 HS
                    obtain ⟨x0, x1, x2⟩ := HV9.out.box.cells
                    obtain ⟨y0, y1, y2⟩ := HH9.out.box.cells
                    obtain ⟨z0, z1, z2⟩ := HH9.out.box.free
                    have HHa : Hid (VK (((w9.setCell ⟨w.heap.size, 0, none⟩ (.int .i64 R')).setCell ⟨w.heap.size, 1, none⟩ (.int .i64 F')).setCell ⟨w.heap.size, 2, none⟩ (.slice A8 j c8)) w.heap.size R' F' A8 j c8 M) := Lib.hid (HH9.out.put HV9.out.things HLM.out (fun a ha e => by have := HA8.out a ha; have := HR8.out; omega))
                    have HXa : Hid (Tss (((w9.setCell ⟨w.heap.size, 0, none⟩ (.int .i64 R')).setCell ⟨w.heap.size, 1, none⟩ (.int .i64 F')).setCell ⟨w.heap.size, 2, none⟩ (.slice A8 j c8)) (some ⟨b, o, none⟩) d xs) := Lib.hid (HX9.out.set3 (fun a ha e => by cases ha; have := HBx.out; dsimp only at e; omega) _ _ _)
                    have HBa : Hid (Below w.heap.size w (((w9.setCell ⟨w.heap.size, 0, none⟩ (.int .i64 R')).setCell ⟨w.heap.size, 1, none⟩ (.int .i64 F')).setCell ⟨w.heap.size, 2, none⟩ (.slice A8 j c8))) := Lib.hid (bel_set3 HB9.out (p := w.heap.size) (Nat.le_refl _) _ _ _)
                    go_wp2
                    go_roundw
                    case rel => exact ⟨k + 1, R', F', A8, j, c8, M, by omega, by go_num, HHa, HBa, HXa⟩
                    case measure => simp [intOf]; omega
                  | false =>
                    clear HGo HTh
                    rw [show (false || true) = true from rfl]
                    clear hq
                    obtain ⟨x0, x1, x2⟩ := HVf.out.box.cells
                    go_wp2_with fail
                    have hS0 : ∀ u : Bw wf, u.w.cell? ⟨p8, 0, none⟩ = some (.int .i64 R') := fun u => (HS.out _ u.h).1
                    have hS1 : ∀ u : Bw wf, u.w.cell? ⟨p8, 1, none⟩ = some (.int .i64 F') := fun u => (HS.out _ u.h).2.1
                    have hS2 : ∀ u : Bw wf, u.w.cell? ⟨p8, 2, none⟩ = some (.slice A8 j c8) := fun u => (HS.out _ u.h).2.2.1
                    have hS3 : ∀ u : Bw wf, u.w.cell? ⟨w.heap.size, 0, none⟩ = some (.int .i64 R') := fun u => (HS.out _ u.h).2.2.2.1
                    have hS4 : ∀ u : Bw wf, u.w.cell? ⟨w.heap.size, 1, none⟩ = some (.int .i64 ff) := fun u => (HS.out _ u.h).2.2.2.2.1
                    have hS5 : ∀ u : Bw wf, u.w.cell? ⟨b, o + k * 4 + 1, none⟩ = some (.int .i64 sz) := fun u => (HS.out _ u.h).2.2.2.2.2
                    refine wp_region_below (by kernel_rfl) (by kernel_rfl) ?_
                    repeat (go_big_quiet_step ((first | (go_at_call 16; (with_reducible refine calls_bw (HCk.out _ ?_)); exact HVf.out.things.below (Bw.h _)))))
                    refine wpQuiet_nil ?_
                    intro _ hw'
                    obtain ⟨u9, hw''⟩ := hw'
                    subst hw''
                    clear hS0 hS1 hS2 hS3 hS4 hS5
                    have hb9 := u9.h
                    generalize u9.w = w9 at *
                    have HH9 := Lib.hid (HHf.out.below hb9)
                    have HV9 := Lib.hid (HVf.out.below hb9)
                    have HX9 := Lib.hid (HXf.out.below hb9)
                    have HB9 : Hid (Below w.heap.size w w9) := Lib.hid (HBf.out.trans (hb9.mono HBf.out.size))
                    clear hb9 u9 x0 x1 x2 HS
                    obtain ⟨x0, x1, x2⟩ := HV9.out.box.cells
                    obtain ⟨y0, y1, y2⟩ := HH9.out.box.cells
                    obtain ⟨z0, z1, z2⟩ := HH9.out.box.free
                    have HHa : Hid (VK (((w9.setCell ⟨w.heap.size, 0, none⟩ (.int .i64 R')).setCell ⟨w.heap.size, 1, none⟩ (.int .i64 F')).setCell ⟨w.heap.size, 2, none⟩ (.slice A8 j c8)) w.heap.size R' F' A8 j c8 M) := Lib.hid (HH9.out.put HV9.out.things HLM.out (fun a ha e => by have := HA8.out a ha; have := HR8.out; omega))
                    have HXa : Hid (Tss (((w9.setCell ⟨w.heap.size, 0, none⟩ (.int .i64 R')).setCell ⟨w.heap.size, 1, none⟩ (.int .i64 F')).setCell ⟨w.heap.size, 2, none⟩ (.slice A8 j c8)) (some ⟨b, o, none⟩) d xs) := Lib.hid (HX9.out.set3 (fun a ha e => by cases ha; have := HBx.out; dsimp only at e; omega) _ _ _)
                    have HBa : Hid (Below w.heap.size w (((w9.setCell ⟨w.heap.size, 0, none⟩ (.int .i64 R')).setCell ⟨w.heap.size, 1, none⟩ (.int .i64 F')).setCell ⟨w.heap.size, 2, none⟩ (.slice A8 j c8))) := Lib.hid (bel_set3 HB9.out (p := w.heap.size) (Nat.le_refl _) _ _ _)
                    go_wp2
                    go_roundw
                    case rel => exact ⟨k + 1, R', F', A8, j, c8, M, by omega, by go_num, HHa, HBa, HXa⟩
                    case measure => simp [intOf]; omega
                · have a5 : decide (sz ≤ R') = false := decide_eq_false a4
                  rw [a5]
                  clear a4
                  cases H' with
                  | true =>
                    have hlg : lg = 0 := HGo.out rfl
                    subst hlg
                    clear HGo HTh
                    rw [show (true || false) = true from rfl]
                    clear hq
                    obtain ⟨x0, x1, x2⟩ := HVf.out.box.cells
                    go_wp2_with fail
                    have hS0 : ∀ u : Bw wf, u.w.cell? ⟨p8, 0, none⟩ = some (.int .i64 R') := fun u => (HS.out _ u.h).1
                    have hS1 : ∀ u : Bw wf, u.w.cell? ⟨p8, 1, none⟩ = some (.int .i64 F') := fun u => (HS.out _ u.h).2.1
                    have hS2 : ∀ u : Bw wf, u.w.cell? ⟨p8, 2, none⟩ = some (.slice A8 j c8) := fun u => (HS.out _ u.h).2.2.1
                    have hS3 : ∀ u : Bw wf, u.w.cell? ⟨w.heap.size, 0, none⟩ = some (.int .i64 R') := fun u => (HS.out _ u.h).2.2.2.1
                    have hS4 : ∀ u : Bw wf, u.w.cell? ⟨w.heap.size, 1, none⟩ = some (.int .i64 ff) := fun u => (HS.out _ u.h).2.2.2.2.1
                    have hS5 : ∀ u : Bw wf, u.w.cell? ⟨b, o + k * 4 + 1, none⟩ = some (.int .i64 sz) := fun u => (HS.out _ u.h).2.2.2.2.2
                    refine wp_region_below (by kernel_rfl) (by kernel_rfl) ?_
                    repeat (go_big_quiet_step ((first | (go_at_call 16; (with_reducible refine calls_bw (HCk.out _ ?_)); exact HVf.out.things.below (Bw.h _)))))
                    refine wpQuiet_nil ?_
                    intro _ hw'
                    obtain ⟨u9, hw''⟩ := hw'
                    subst hw''
                    clear hS0 hS1 hS2 hS3 hS4 hS5
                    have hb9 := u9.h
                    generalize u9.w = w9 at *
                    have HH9 := Lib.hid (HHf.out.below hb9)
                    have HV9 := Lib.hid (HVf.out.below hb9)
                    have HX9 := Lib.hid (HXf.out.below hb9)
                    have HB9 : Hid (Below w.heap.size w w9) := Lib.hid (HBf.out.trans (hb9.mono HBf.out.size))
                    clear hb9 u9 x0 x1 x2 HS
                    obtain ⟨x0, x1, x2⟩ := HV9.out.box.cells
                    obtain ⟨y0, y1, y2⟩ := HH9.out.box.cells
                    obtain ⟨z0, z1, z2⟩ := HH9.out.box.free
                    have HHa : Hid (VK (((w9.setCell ⟨w.heap.size, 0, none⟩ (.int .i64 R')).setCell ⟨w.heap.size, 1, none⟩ (.int .i64 F')).setCell ⟨w.heap.size, 2, none⟩ (.slice A8 j c8)) w.heap.size R' F' A8 j c8 M) := Lib.hid (HH9.out.put HV9.out.things HLM.out (fun a ha e => by have := HA8.out a ha; have := HR8.out; omega))
                    have HXa : Hid (Tss (((w9.setCell ⟨w.heap.size, 0, none⟩ (.int .i64 R')).setCell ⟨w.heap.size, 1, none⟩ (.int .i64 F')).setCell ⟨w.heap.size, 2, none⟩ (.slice A8 j c8)) (some ⟨b, o, none⟩) d xs) := Lib.hid (HX9.out.set3 (fun a ha e => by cases ha; have := HBx.out; dsimp only at e; omega) _ _ _)
                    have HBa : Hid (Below w.heap.size w (((w9.setCell ⟨w.heap.size, 0, none⟩ (.int .i64 R')).setCell ⟨w.heap.size, 1, none⟩ (.int .i64 F')).setCell ⟨w.heap.size, 2, none⟩ (.slice A8 j c8))) := Lib.hid (bel_set3 HB9.out (p := w.heap.size) (Nat.le_refl _) _ _ _)
                    go_wp2
                    go_roundw
                    case rel => exact ⟨k + 1, R', F', A8, j, c8, M, by omega, by go_num, HHa, HBa, HXa⟩
                    case measure => simp [intOf]; omega
                  | false =>
                    clear HGo HTh
                    rw [show (false || false) = false from rfl]
                    clear hq
                    obtain ⟨x0, x1, x2⟩ := HVf.out.box.cells
                    go_wp2_with fail
                    have hS0 : ∀ u : Bw wf, u.w.cell? ⟨p8, 0, none⟩ = some (.int .i64 R') := fun u => (HS.out _ u.h).1
                    have hS1 : ∀ u : Bw wf, u.w.cell? ⟨p8, 1, none⟩ = some (.int .i64 F') := fun u => (HS.out _ u.h).2.1
                    have hS2 : ∀ u : Bw wf, u.w.cell? ⟨p8, 2, none⟩ = some (.slice A8 j c8) := fun u => (HS.out _ u.h).2.2.1
                    have hS3 : ∀ u : Bw wf, u.w.cell? ⟨w.heap.size, 0, none⟩ = some (.int .i64 R') := fun u => (HS.out _ u.h).2.2.2.1
                    have hS4 : ∀ u : Bw wf, u.w.cell? ⟨w.heap.size, 1, none⟩ = some (.int .i64 ff) := fun u => (HS.out _ u.h).2.2.2.2.1
                    have hS5 : ∀ u : Bw wf, u.w.cell? ⟨b, o + k * 4 + 1, none⟩ = some (.int .i64 sz) := fun u => (HS.out _ u.h).2.2.2.2.2
                    refine wp_region_below (by kernel_rfl) (by kernel_rfl) ?_
                    repeat (go_big_quiet_step ((first | (go_at_call 16; (with_reducible refine calls_bw (HCk.out _ ?_)); exact HVf.out.things.below (Bw.h _)))))
                    refine wpQuiet_nil ?_
                    intro _ hw'
                    obtain ⟨u9, hw''⟩ := hw'
                    subst hw''
                    clear hS0 hS1 hS2 hS3 hS4 hS5
                    have hb9 := u9.h
                    generalize u9.w = w9 at *
                    have HH9 := Lib.hid (HHf.out.below hb9)
                    have HV9 := Lib.hid (HVf.out.below hb9)
                    have HX9 := Lib.hid (HXf.out.below hb9)
                    have HB9 : Hid (Below w.heap.size w w9) := Lib.hid (HBf.out.trans (hb9.mono HBf.out.size))
                    clear hb9 u9 x0 x1 x2 HS
                    obtain ⟨x0, x1, x2⟩ := HV9.out.box.cells
                    obtain ⟨y0, y1, y2⟩ := HH9.out.box.cells
                    obtain ⟨z0, z1, z2⟩ := HH9.out.box.free
                    have HHa : Hid (VK (((w9.setCell ⟨w.heap.size, 0, none⟩ (.int .i64 R')).setCell ⟨w.heap.size, 1, none⟩ (.int .i64 F')).setCell ⟨w.heap.size, 2, none⟩ (.slice A8 j c8)) w.heap.size R' F' A8 j c8 M) := Lib.hid (HH9.out.put HV9.out.things HLM.out (fun a ha e => by have := HA8.out a ha; have := HR8.out; omega))
                    have HXa : Hid (Tss (((w9.setCell ⟨w.heap.size, 0, none⟩ (.int .i64 R')).setCell ⟨w.heap.size, 1, none⟩ (.int .i64 F')).setCell ⟨w.heap.size, 2, none⟩ (.slice A8 j c8)) (some ⟨b, o, none⟩) d xs) := Lib.hid (HX9.out.set3 (fun a ha e => by cases ha; have := HBx.out; dsimp only at e; omega) _ _ _)
                    have HBa : Hid (Below w.heap.size w (((w9.setCell ⟨w.heap.size, 0, none⟩ (.int .i64 R')).setCell ⟨w.heap.size, 1, none⟩ (.int .i64 F')).setCell ⟨w.heap.size, 2, none⟩ (.slice A8 j c8))) := Lib.hid (bel_set3 HB9.out (p := w.heap.size) (Nat.le_refl _) _ _ _)
                    go_wp2
                    go_roundw
                    case rel => exact ⟨k + 1, R', F', A8, j, c8, M, by omega, by go_num, HHa, HBa, HXa⟩
                    case measure => simp [intOf]; omega
          · have q : (E' != 0) = true := by simpa using hz
            obtain ⟨rfl, rfl, rfl, rfl, rfl⟩ := HBad.out hz
            have hlg : lg = 0 := HLG.out.symm
            subst hlg
            clear hz
            obtain ⟨x0, x1, x2⟩ := HV8.out.box.cells
            go_wp2
            go_ret
            exact ⟨rfl, HB8.out⟩
      · have h60' : ¬ (k : Int) < 60 := by omega
        go_wp2
        go_ret
        exact ⟨rfl, HBr.out⟩
    · have hkn : ¬ (k : Int) < (ln : Int) := by omega
      go_wp2
      go_ret
      exact ⟨rfl, HBr.out⟩

end Go.Proofs.Ytmobohamlimhdaa.Grd
