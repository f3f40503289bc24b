/-
  HoardTouch of the reference.
-/
import Derived.Test.YtmobohamlimhdaaGrTouchM
import Derived.Deep.CutRange
namespace Go.Proofs.Ytmobohamlimhdaa.Grd
open Go.RowKit
open Lru (isK)
set_option linter.unusedVariables false
set_option maxRecDepth 100000

/-- HoardTouch's boxes. -/
structure TcI (w wr : World) (p q bs : Nat) (r fl : Int) (t : It) (v0 v : Value) (L : List It) : Prop where
  at_ : p = w.heap.size
  box : Kb wr p r fl v0
  item : Ib wr (p + 1) t
  out : Kb wr (p + 1 + 1) 0 0 (.slice none 0 0)
  cur : Kb wr q r fl v
  gap : p + 1 + 1 < bs
  bsq : bs ≤ q
  bsz : bs ≤ wr.heap.size
  things : OwnT wr bs v L
  bel : Below w.heap.size w wr
theorem TcI.below {w wr w' : World} {p q bs : Nat} {r fl : Int} {t : It} {v0 v : Value} {L : List It} (h : TcI w wr p q bs r fl t v0 v L) (hb : Below wr.heap.size wr w') : TcI w w' p q bs r fl t v0 v L :=
  ⟨h.at_, h.box.below hb, h.item.below hb, h.out.below hb, h.cur.below hb, h.gap, h.bsq, Nat.le_trans h.bsz hb.size, h.things.below hb, h.bel.trans (hb.mono (by have := h.at_; have := h.gap; have := h.bsz; omega))⟩

set_option maxHeartbeats 20000000 in
theorem touch_any (r : Int) (t : It) (hok : okI t) : ∀ (n : Nat) (L : List It) (fl : Int) (A : Option Addr) (c : Nat) (w : World), L.length = n → Good r fl L → Tss w A c L →
    Calls Try.prog 12 #[kv r fl (.slice A n c), fv t] w (TR r fl L t w) := by
  intro n
  induction n using Nat.strongRecOn with
  | ind n ih =>
  intro L fl A c w hn hg hT
  have HIH := Lib.hid ih
  have HOk := Lib.hid hok
  have HN := Lib.hid hn
  have HG := Lib.hid hg
  have hn40 : n ≤ 40 := by rw [← hn]; exact hg.few
  clear ih hok hg
  obtain ⟨tk, ts, tc, tw⟩ := t
  obtain ⟨hk0, hi0, hz0, hb0⟩ := box3 w r fl (.slice A n c) ⟨tk, ts, tc, tw⟩
  obtain ⟨p, hp⟩ : ∃ p, p = w.heap.size := ⟨_, rfl⟩
  rw [← hp] at hk0 hi0 hz0
  have HK0 := Lib.hid hk0
  have HI0 := Lib.hid hi0
  have HZ0 := Lib.hid hz0
  have HB0 := Lib.hid hb0
  have HT0 := Lib.hid (hT.below hb0)
  have HP := Lib.hid hp
  have HPg : Hid (p + 1 + 1 < ((((w.alloc (ko r fl (.slice A n c))).alloc (fo ⟨tk, ts, tc, tw⟩)).alloc zk).heap.size)) := Lib.hid hz0.lt
  clear hk0 hi0 hz0 hb0 hT hn hp
  go_enter Try.func12, Try.ntmps12
  go_upto_region 1 with fail
  rw [← HP.out]
  generalize (((w.alloc (ko r fl (.slice A n c))).alloc (fo ⟨tk, ts, tc, tw⟩)).alloc zk) = w1 at *
  go_cut [7] from 14 to 122 (fun s7 wx => ∃ q A1 c1, s7 = .pointer (some ⟨q, 0, none⟩) ∧ Kb wx q r fl (.slice A1 n c1) ∧ OwnT wx w1.heap.size (.slice A1 n c1) L ∧ w1.heap.size ≤ q ∧ Below w1.heap.size w1 wx)
  case first =>
    have HK5 : Hid (∀ w' : World, Below w1.heap.size w1 w' → w'.cell? ⟨p, 0, none⟩ = some (.int .i64 r) ∧ w'.cell? ⟨p, 1, none⟩ = some (.int .i64 fl) ∧ w'.cell? ⟨p, 2, none⟩ = some (.slice A n c)) := Lib.hid (fun w' hb => (HK0.out.below hb).cells)
    have HJ5 : Hid (∀ w' : World, Below w1.heap.size w1 w' → Tss w' A c L) := Lib.hid (fun w' hb => HT0.out.below hb)
    have HOA := Lib.hid (mk_ownA w1)
    have HOB := Lib.hid (mk_ownB w1)
    have HOC := Lib.hid (mk_ownC w1)
    have HZB := Lib.hid (mk_zB w1)
    have HZC := Lib.hid (mk_zC w1)
    have HBA := Lib.hid (mk_bA w1)
    have HBB := Lib.hid (mk_bB w1)
    have HBC := Lib.hid (mk_bC w1)
    have HBD := Lib.hid (mk_bD w1)
    have HL1 : Hid (([] : List It).length + n ≤ 16777216) := Lib.hid (by simp; omega)
    have HME : Hid (([] ++ L : List It).length = n) := Lib.hid (by rw [List.nil_append]; exact HN.out)
    go_region_held3 (fun w' => w'.cell? ⟨p, 0, none⟩ = some (.int .i64 r) ∧ w'.cell? ⟨p, 1, none⟩ = some (.int .i64 fl) ∧ w'.cell? ⟨p, 2, none⟩ = some (.slice A n c))
      (first | exact HK5.out _ (bel_set3 hBa hpz _ _ _) | exact HK5.out _ (bel_set3 (bel_al hBa hBa.size _) hBa.size _ _ _) | exact HK5.out _ (bel_al hBa hBa.size _) | exact HK5.out _ hBa | exact HK5.out _ HBB.out | exact HK5.out _ HBC.out | exact HK5.out _ HBA.out | exact HK5.out _ HBD.out | exact HK5.out _ (Below.refl _ _).drew)
      (first
        | ((with_reducible refine Two.at_world (w1.alloc eo).drew ?_); refine step_append_tss (by rfl) _ _ (by rfl) w1.heap.size _ [] (by rfl) HOA.out A c n L HN.out.symm (by rfl) (HJ5.out _ HBA.out) HL1.out HBA.out.size ?_; intro va wa hown6 hg6; have hBa := HBA.out.grown hg6 HBA.out.size (fun q hq => (HOA.out.lt q hq).1); obtain ⟨Aa, ka, rfl, -, -⟩ := tss_of_own hown6; rw [HME.out] at hown6 ⊢)
        | ((with_reducible refine Two.at_world ((w1.alloc eo).alloc zk).drew ?_); refine step_append_tss (by rfl) _ _ (by rfl) w1.heap.size _ [] (by rfl) HOB.out A c n L HN.out.symm (by rfl) (HJ5.out _ HBB.out) HL1.out HBB.out.size ?_; intro va wa hown6 hg6; have hBa := HBB.out.grown hg6 HBB.out.size (fun q hq => (HOB.out.lt q hq).1); have hza := HZB.out.grown HOB.out hg6; have hpz : w1.heap.size ≤ w1.heap.size + 1 := Nat.le_succ _; obtain ⟨Aa, ka, rfl, -, -⟩ := tss_of_own hown6; rw [HME.out] at hown6 ⊢; obtain ⟨r0, r1, r2⟩ := hza.cells; obtain ⟨f0, f1, f2⟩ := hza.free)
        | ((with_reducible refine Two.at_world ((w1.alloc zk).alloc eo).drew ?_); refine step_append_tss (by rfl) _ _ (by rfl) w1.heap.size _ [] (by rfl) HOC.out A c n L HN.out.symm (by rfl) (HJ5.out _ HBC.out) HL1.out HBC.out.size ?_; intro va wa hown6 hg6; have hBa := HBC.out.grown hg6 HBC.out.size (fun q hq => (HOC.out.lt q hq).1); have hza := HZC.out.grown HOC.out hg6; have hpz : w1.heap.size ≤ w1.heap.size := Nat.le_refl _; obtain ⟨Aa, ka, rfl, -, -⟩ := tss_of_own hown6; rw [HME.out] at hown6 ⊢; obtain ⟨r0, r1, r2⟩ := hza.cells; obtain ⟨f0, f1, f2⟩ := hza.free))
    all_goals
      go_wp2
      go_meet
      first
        | exact ⟨_, Aa, ka, rfl, hza.put3 _ _ _, hown6.set3 (hza.ownT hown6) _ _ _, hpz, bel_set3 hBa hpz _ _ _⟩
        | exact ⟨_, Aa, ka, rfl, Kb.new _ _ _ _, hown6.alloc _, hBa.size, bel_al hBa hBa.size _⟩
  case rest =>
    obtain ⟨q, A1, c1, rfl, hc1, ho1, hq1, hb1⟩ := hcut
    rename World => wc
    obtain ⟨bs, hbs⟩ : ∃ bs, bs = w1.heap.size := ⟨_, rfl⟩
    rw [← hbs] at ho1 hq1
    have HI1 : Hid (TcI w wc p q bs r fl ⟨tk, ts, tc, tw⟩ (.slice A n c) (.slice A1 n c1) L) := Lib.hid ⟨HP.out, HK0.out.below hb1, HI0.out.below hb1, HZ0.out.below hb1, hc1, by rw [hbs]; exact HPg.out, hq1, by rw [hbs]; exact hb1.size, ho1, HB0.out.trans (hb1.mono HB0.out.size)⟩
    have HPb : Hid (w.heap.size ≤ bs ∧ p < bs ∧ p + 1 < bs ∧ p + 1 + 1 < bs) := Lib.hid (by have := HI1.out.gap; have := HP.out; omega)
    clear hc1 ho1 hq1 hb1 hbs HK0 HI0 HZ0 HB0 HT0 HPg
    go_wp2_with fail
    go_loopw [8] (fun s8 wr => ∃ i : Nat, i ≤ n ∧ s8 = .int .i64 (i : Int) ∧ Hid (∀ j, j < i → (gt L j).key ≠ tk) ∧ Hid (Below wc.heap.size wc wr)) (fun s8 _ => n - (intOf s8).toNat)
    case atStart => exact ⟨0, by omega, rfl, Lib.hid (fun j hj => absurd hj (Nat.not_lt_zero j)), Lib.hid (Below.refl _ _)⟩
    case round =>
      obtain ⟨i, hi, rfl, HNk, HBr⟩ := hrel
      have HIr := Lib.hid (HI1.out.below HBr.out)
      obtain ⟨y0, y1, y2⟩ := HIr.out.cur.cells
      by_cases hlt : i < n
      · have hin : (i : Int) < (n : Int) := by omega
        have hi0 : (0 : Int) ≤ (i : Int) := by omega
        have HKl : Hid (i < L.length) := Lib.hid (by rw [HN.out]; exact hlt)
        obtain ⟨g, cg, e, hbg, -⟩ := HIr.out.things.form (by have := HKl.out; omega)
        have eA : A1 = some ⟨g, 0, none⟩ := by cases e; rfl
        clear e
        subst eA
        obtain ⟨e0, e1, e2, e3, -⟩ := HIr.out.things.cells HN.out.symm HKl.out
        obtain ⟨i0, i1, i2, i3⟩ := HIr.out.item.cells
        by_cases hk : (gt L i).key = tk
        · have d1 : ((gt L i).key == tk) = true := by simpa using hk
          have HTc := Lib.hid (tch_at (r := r) (fl := fl) (L := L) (t := ⟨tk, ts, tc, tw⟩) HG.out.once HKl.out hk)
          have HD : Hid (decide (tk ∈ keys L) = true) := Lib.hid (decide_eq_true (List.mem_map.2 ⟨gt L i, gt_mem HKl.out, hk⟩))
          have HPt := Lib.hid (fun (W : World) (hW : Below wr.heap.size wr W) => (HIr.out.things.below hW).putW HN.out.symm HKl.out (fresh fl (gt L i).size (gt L i).cost))
          have HSv := Lib.hid (fun (W : World) (hW : Below wr.heap.size wr W) => (⟨(HIr.out.cur.below hW).cells.2.2, (HIr.out.things.below hW).cells HN.out.symm HKl.out⟩ : W.cell? ⟨q, 2, none⟩ = some (.slice (some ⟨g, 0, none⟩) n c1) ∧ W.cell? ⟨g, i * 4, none⟩ = some (.int .i64 (gt L i).key) ∧ W.cell? ⟨g, i * 4 + 1, none⟩ = some (.int .i64 (gt L i).size) ∧ W.cell? ⟨g, i * 4 + 2, none⟩ = some (.int .i64 (gt L i).cost) ∧ W.cell? ⟨g, i * 4 + 3, none⟩ = some (.int .i64 (gt L i).worth) ∧ ∀ j, W.frozen? ⟨g, j, none⟩ = false))
          have HFr := Lib.hid (fun (W : World) => hfresh_any fl (gt L i) W HG.out.floor (HG.out.items _ (gt_mem HKl.out)).1)
          clear hk
          generalize gt L i = f at *
          obtain ⟨ky, sz, co, wo⟩ := f
          dsimp only at e0 e1 e2 e3 d1 HSv HFr HPt HTc
          generalize fresh fl sz co = fr at *
          go_wp2_with fail
          go_quiet (fail)
          have HI5 := Lib.hid (HIr.out.below (bel_drewN (Below.refl wr.heap.size wr) nq))
          have HW5 : Hid (Below wr.heap.size wr (wr.drewN nq)) := Lib.hid (bel_drewN (Below.refl _ _) nq)
          clear y0 y1 y2 e0 e1 e2 e3 i0 i1 i2 i3
          generalize wr.drewN nq = w5 at *
          obtain ⟨-, x1, -⟩ := HI5.out.box.cells
          obtain ⟨s2, s3, s4, s5, s6, s7⟩ := HSv.out _ HW5.out
          have s8 := s7 (i * 4 + 3)
          clear s7
          replace HFr := Lib.hid (HFr.out w5.drew)
          have HS6 := Lib.hid (fun (W : World) (hW : Below w5.heap.size w5 W) => HSv.out W (HW5.out.trans (hW.mono HW5.out.size)))
          have HPt5 := Lib.hid (fun (W : World) (hW : Below w5.heap.size w5 W) => HPt.out W (HW5.out.trans (hW.mono HW5.out.size)))
          clear HSv HPt
          go_wp2_with fail
          go_region_with (first | (go_at_call 29; refine HFr.out.mono ?_; rintro e w6 ⟨rfl, hb6⟩; have hB6 : Below w5.heap.size w5 w6 := (Below.refl _ _).drew.trans hb6; obtain ⟨r2, -, -, -, r6, r7⟩ := HS6.out _ hB6; have r8 := r7 (i * 4 + 3); clear r7))
          all_goals (
            clear x1 s2 s3 s4 s5 s6 s8 r2 r6 r8
            have HPo := Lib.hid (HPt5.out w6 hB6)
            have HI6 := Lib.hid (HI5.out.below hB6)
            have hqg : q ≠ g := fun e => HI6.out.cur.ownT HI6.out.things (by rw [e]; rfl)
            have hog : p + 1 + 1 ≠ g := fun e => HI6.out.out.ownT HI6.out.things (by rw [e]; rfl)
            have HK7 : Hid (Kb (w6.setCell ⟨g, i * 4 + 3, none⟩ (.int .i64 fr)) q r fl (.slice (some ⟨g, 0, none⟩) n c1)) := Lib.hid (HI6.out.cur.other (a := ⟨g, i * 4 + 3, none⟩) hqg _)
            have HZ7 : Hid (Kb (w6.setCell ⟨g, i * 4 + 3, none⟩ (.int .i64 fr)) (p + 1 + 1) 0 0 (.slice none 0 0)) := Lib.hid (HI6.out.out.other (a := ⟨g, i * 4 + 3, none⟩) hog _)
            have HB7 : Hid (Below w.heap.size w (w6.setCell ⟨g, i * 4 + 3, none⟩ (.int .i64 fr))) := Lib.hid (bel_set HI6.out.bel (a := ⟨g, i * 4 + 3, none⟩) (Nat.le_trans HPb.out.1 hbg) _)
            clear hB6 hb6 HPt5 HS6 HFr HI5 HI6 hqg hog
            generalize w6.setCell ⟨g, i * 4 + 3, none⟩ (.int .i64 fr) = w7 at *
            obtain ⟨x0, x1, x2⟩ := HK7.out.cells
            obtain ⟨z0, z1, z2⟩ := HZ7.out.cells
            obtain ⟨u0, u1, u2⟩ := HZ7.out.free
            go_wp2
            refine bodyPost_ret (v := .tuple #[kv r fl (.slice (some ⟨g, 0, none⟩) n c1), .bool true, .slice none 0 0]) (by simp [results, Try.results12, go_sem, z0, z1, z2]) rfl ?_
            exact TR.own HTc.out.1 HTc.out.2.1 HTc.out.2.2 HD.out rfl (HPo.out.set3 (HZ7.out.ownT HPo.out) _ _ _) (Ints.none_ _) HPb.out.1 (FA.none_ _) (bel_set3 HB7.out (p := p + 1 + 1) (by rw [HP.out]; omega) _ _ _))
        · have d1 : ((gt L i).key == tk) = false := by simpa using hk
          have HN2 : Hid (∀ j, j < i + 1 → (gt L j).key ≠ tk) := Lib.hid (fun j hj => by
            by_cases e : j = i
            · subst e; exact hk
            · exact HNk.out j (by omega))
          clear hk
          generalize gt L i = f at *
          obtain ⟨ky, sz, co, wo⟩ := f
          dsimp only at e0 e1 e2 e3 d1
          go_wp2_with fail
          go_quiet (fail)
          have HB5 : Hid (Below wc.heap.size wc (wr.drewN nq)) := Lib.hid (bel_drewN HBr.out nq)
          clear y0 y1 y2 e0 e1 e2 e3 i0 i1 i2 i3
          generalize wr.drewN nq = w5 at *
          go_wp2
          go_roundw
          case rel => exact ⟨i + 1, by omega, by go_num, HN2, HB5⟩
          case measure => simp [intOf]; omega
      · obtain rfl : i = n := by omega
        have HMs : Hid (¬ tk ∈ keys L) := Lib.hid (fun hm => by
          obtain ⟨u, hu, e⟩ := List.mem_map.1 hm
          obtain ⟨j, hj, e2⟩ := List.getElem_of_mem hu
          exact HNk.out j (by rw [← HN.out]; exact hj) (by rw [gt_get hj, e2, e]))
        have HD : Hid (decide (tk ∈ keys L) = false) := Lib.hid (decide_eq_false HMs.out)
        obtain ⟨i0, i1, i2, i3⟩ := HIr.out.item.cells
        obtain ⟨x0, x1, x2⟩ := HIr.out.box.cells
        obtain ⟨z0, z1, z2⟩ := HIr.out.out.cells
        obtain ⟨u0, u1, u2⟩ := HIr.out.out.free
        clear hlt hi HNk
        by_cases hs : r < ts
        · have d1 : decide (r < ts) = true := by simpa using hs
          have HTc := Lib.hid (tch_big (r := r) (fl := fl) (L := L) (t := ⟨tk, ts, tc, tw⟩) HMs.out hs)
          clear hs
          go_wp2
          refine bodyPost_ret (v := .tuple #[kv r fl (.slice A1 i c1), .bool false, .slice none 0 0]) (by simp [results, Try.results12, go_sem, z0, z1, z2]) rfl ?_
          exact TR.own HTc.out.1 HTc.out.2.1 HTc.out.2.2 HD.out rfl (HIr.out.things.set3 (HIr.out.out.ownT HIr.out.things) _ _ _) (Ints.none_ _) HPb.out.1 (FA.none_ _) (bel_set3 HIr.out.bel (p := p + 1 + 1) (by rw [HP.out]; omega) _ _ _)
        · have d1 : decide (r < ts) = false := by simpa using hs
          have HNb : Hid (¬ r < ts) := Lib.hid hs
          clear hs u0 u1 u2 z0 z1 z2
          have HSz := Lib.hid (fun (W : World) (hW : Tss W A1 c1 L) => (hsizes_any A1 c1 L W hW (by rw [HN.out]; exact hn40) (fun u hu => (HG.out.items u hu).1)).mono (fun e w' ⟨h1, h2⟩ => (⟨h1, by rw [h2]; exact Below.refl _ _⟩ : e = Ending.returned (.int .i64 (sizes L)) ∧ Below W.heap.size W w')))
          rw [HN.out] at HSz
          have HTs := Lib.hid (show Tss wr A1 c1 L by
            have h5 := tss_of_own HIr.out.things
            obtain ⟨A9, c9, e, h9, -⟩ := h5
            cases e; exact h9)
          have hsz := sizes_bound (F := L) (fun u hu => (HG.out.items u hu).1)
          have hfit := HG.out.fits
          have hrm := HG.out.room.2
          have hts := HOk.out.2.1
          dsimp only [isSz] at hts
          have g1 : IntKind.i64.wrap (sizes L + ts) = sizes L + ts := by rw [IntKind.wrap_i64]; omega
          clear hsz hfit hrm hts
          go_upto_region 10 with fail
          clear y0 y1 y2 i0 i1 i2 i3 x0 x1 x2
          go_cut [73] from 14 to 122 (fun s73 wx => s73 = .bool (decide (must r ts L)) ∧ Below wr.heap.size wr wx)
          case first =>
            have hS0 : ∀ v : Bw wr, v.w.cell? ⟨q, 2, none⟩ = some (.slice A1 i c1) := fun v => (HIr.out.cur.below v.h).cells.2.2
            have hS1 : ∀ v : Bw wr, v.w.cell? ⟨p + 1, 1, none⟩ = some (.int .i64 ts) := fun v => (HIr.out.item.below v.h).cells.2.1
            have hS2 : ∀ v : Bw wr, v.w.cell? ⟨p, 0, none⟩ = some (.int .i64 r) := fun v => (HIr.out.box.below v.h).cells.1
            by_cases q1 : r < sizes L + ts
            · have d2 : decide (r < sizes L + ts) = true := by simpa using q1
              have HM : Hid (decide (must r ts L) = true) := Lib.hid (decide_eq_true (.inl q1))
              clear q1
              refine wp_region_below (by kernel_rfl) (by kernel_rfl) ?_
              repeat (go_big_quiet_step ((first | (go_at_call 13; (with_reducible refine calls_bw (HSz.out _ ?_)); exact HTs.out.below (Bw.h _)))))
              refine wpQuiet_nil ?_
              intro _ hw'
              obtain ⟨u9, hw''⟩ := hw'
              subst hw''
              clear hS0 hS1 hS2
              have hb9 := u9.h
              generalize u9.w = w9 at *
              clear u9
              go_wp2
              go_meet
              exact ⟨by rw [HM.out], hb9⟩
            · have d2 : decide (r < sizes L + ts) = false := by simpa using q1
              by_cases q2 : i = 40
              · have d3 : ((i : Int) == 40) = true := by rw [beq_iff_eq]; omega
                have HM : Hid (decide (must r ts L) = true) := Lib.hid (decide_eq_true (.inr (HN.out.trans q2)))
                clear q1 q2
                refine wp_region_below (by kernel_rfl) (by kernel_rfl) ?_
                repeat (go_big_quiet_step ((first | (go_at_call 13; (with_reducible refine calls_bw (HSz.out _ ?_)); exact HTs.out.below (Bw.h _)))))
                refine wpQuiet_nil ?_
                intro _ hw'
                obtain ⟨u9, hw''⟩ := hw'
                subst hw''
                clear hS0 hS1 hS2
                have hb9 := u9.h
                generalize u9.w = w9 at *
                clear u9
                go_wp2
                go_meet
                exact ⟨by rw [HM.out], hb9⟩
              · have d3 : ((i : Int) == 40) = false := by rw [beq_eq_false_iff_ne]; omega
                have HM : Hid (decide (must r ts L) = false) := Lib.hid (decide_eq_false (fun h => h.elim q1 (fun h => q2 (HN.out.symm.trans h))))
                clear q1 q2
                refine wp_region_below (by kernel_rfl) (by kernel_rfl) ?_
                repeat (go_big_quiet_step ((first | (go_at_call 13; (with_reducible refine calls_bw (HSz.out _ ?_)); exact HTs.out.below (Bw.h _)))))
                refine wpQuiet_nil ?_
                intro _ hw'
                obtain ⟨u9, hw''⟩ := hw'
                subst hw''
                clear hS0 hS1 hS2
                have hb9 := u9.h
                generalize u9.w = w9 at *
                clear u9
                go_wp2
                go_meet
                exact ⟨by rw [HM.out], hb9⟩
          case rest =>
            obtain ⟨rfl, hbd⟩ := hcut
            rename World => wd
            have HId := Lib.hid (HIr.out.below hbd)
            have HTd := Lib.hid (HTs.out.below hbd)
            clear hbd HIr HTs HSz g1
            by_cases hm : must r ts L
            · rw [decide_eq_true hm]
              have hstep := tch_step (r := r) (fl := fl) (L := L) (t := ⟨tk, ts, tc, tw⟩) HMs.out HNb.out hm
              have h0 : 0 < L.length := must_pos (Int.not_lt.1 HNb.out) hm
              have HLe := Lib.hid (hleast_any A1 c1 L wd HTd.out h0 (by rw [HN.out]; omega))
              have hk := lstN_lt h0
              have hgr := good_rem HG.out h0
              have hlr := rem_len hk
              have HSt := Lib.hid hstep
              have HGr := Lib.hid hgr.1
              rw [HN.out] at HLe hk hlr
              generalize lstN L = k at *
              have HKl : Hid (k < L.length) := Lib.hid (by rw [HN.out]; exact hk)
              have HLr := Lib.hid hlr
              have j1 : (k : Int) < (i : Int) := by omega
              have j2 : (0 : Int) ≤ (k : Int) := by omega
              obtain ⟨g, cg, e, hbg, -⟩ := HId.out.things.form h0
              have eA : A1 = some ⟨g, 0, none⟩ := by cases e; rfl
              clear e
              subst eA
              obtain ⟨y0, y1, y2⟩ := HId.out.cur.cells
              clear hm hstep hgr hlr h0
              go_wp2_with fail
              refine HLe.out.mono ?_
              rintro e w6 ⟨rfl, hb6⟩
              have HI6 := Lib.hid (HId.out.below hb6)
              clear hb6 HId HTd HLe y0 y1 y2
              obtain ⟨y0, y1, y2⟩ := HI6.out.cur.cells
              obtain ⟨e0, e1, e2, e3, -⟩ := HI6.out.things.cells HN.out.symm HKl.out
              generalize hfk : gt L k = f at *
              have HFK := Lib.hid hfk
              clear hfk
              obtain ⟨ky, sz, co, wo⟩ := f
              dsimp only at e0 e1 e2 e3 HSt HGr
              have HI6a := Lib.hid (HI6.out.below (bel_al (Below.refl _ _) (Nat.le_refl _) (fo ⟨ky, sz, co, wo⟩)))
              have HF6 : Hid (Ib (w6.alloc (fo ⟨ky, sz, co, wo⟩)) w6.heap.size ⟨ky, sz, co, wo⟩) := Lib.hid (Ib.new w6 _)
              obtain ⟨a0, a1, a2⟩ := HI6a.out.cur.cells
              obtain ⟨b0, b1, b2⟩ := HI6a.out.cur.free
              obtain ⟨c4, c5, c6, c7⟩ := HF6.out.cells
              go_upto_region 14 with fail
              clear y0 y1 y2 e0 e1 e2 e3 a0 a1 a2 b0 b1 b2 c4 c5 c6 c7
              obtain ⟨m, hm⟩ : ∃ m, i = m + 1 := ⟨i - 1, by omega⟩
              have HMi := Lib.hid hm
              replace HLr : Hid ((rem L k).length = m) := Lib.hid (by rw [HLr.out]; omega)
              obtain ⟨q2, hq2⟩ : ∃ q2, q2 = w6.heap.size := ⟨_, rfl⟩
              have hqq : q < q2 := by rw [hq2]; exact HI6.out.cur.lt
              have hpq : p < q ∧ p + 1 < q ∧ p + 1 + 1 < q := by have := HI6.out.bsq; have := HPb.out; omega
              rw [← hq2] at HF6 ⊢
              have HK7 : Hid (Kb ((w6.alloc (fo ⟨ky, sz, co, wo⟩)).setCell ⟨q, 1, none⟩ (.int .i64 wo)) p r fl (.slice A i c)) := Lib.hid (HI6a.out.box.other (a := ⟨q, 1, none⟩) (by dsimp only; omega) _)
              have HT7 : Hid (Ib ((w6.alloc (fo ⟨ky, sz, co, wo⟩)).setCell ⟨q, 1, none⟩ (.int .i64 wo)) (p + 1) ⟨tk, ts, tc, tw⟩) := Lib.hid (HI6a.out.item.other (a := ⟨q, 1, none⟩) (by dsimp only; omega) _)
              have HZ7 : Hid (Kb ((w6.alloc (fo ⟨ky, sz, co, wo⟩)).setCell ⟨q, 1, none⟩ (.int .i64 wo)) (p + 1 + 1) 0 0 (.slice none 0 0)) := Lib.hid (HI6a.out.out.other (a := ⟨q, 1, none⟩) (by dsimp only; omega) _)
              have HC7 : Hid (Kb ((w6.alloc (fo ⟨ky, sz, co, wo⟩)).setCell ⟨q, 1, none⟩ (.int .i64 wo)) q r wo (.slice (some ⟨g, 0, none⟩) i c1)) := Lib.hid (HI6a.out.cur.setF _)
              have HO7 : Hid (OwnT ((w6.alloc (fo ⟨ky, sz, co, wo⟩)).setCell ⟨q, 1, none⟩ (.int .i64 wo)) bs (.slice (some ⟨g, 0, none⟩) i c1) L) := Lib.hid (HI6a.out.things.set (HI6a.out.cur.ownT HI6a.out.things) _ _)
              have HF7 : Hid (Ib ((w6.alloc (fo ⟨ky, sz, co, wo⟩)).setCell ⟨q, 1, none⟩ (.int .i64 wo)) q2 ⟨ky, sz, co, wo⟩) := Lib.hid (HF6.out.other (a := ⟨q, 1, none⟩) (by dsimp only; omega) _)
              have HB7 : Hid (Below w.heap.size w ((w6.alloc (fo ⟨ky, sz, co, wo⟩)).setCell ⟨q, 1, none⟩ (.int .i64 wo))) := Lib.hid (bel_set HI6a.out.bel (a := ⟨q, 1, none⟩) (by have := HPb.out; have := HI6.out.bsq; dsimp only; omega) _)
              have HQ : Hid (p + 1 + 1 < q ∧ p < q ∧ q < q2 ∧ w.heap.size ≤ p) := Lib.hid ⟨hpq.2.2, hpq.1, hqq, by rw [HP.out]; exact Nat.le_refl _⟩
              clear hq2 hqq hpq HI6 HI6a HF6 hm
              generalize (w6.alloc (fo ⟨ky, sz, co, wo⟩)).setCell ⟨q, 1, none⟩ (.int .i64 wo) = w7 at *
              go_cut [96] from 14 to 122 (fun s96 wx => ∃ A2 c2, s96 = .slice A2 m c2 ∧ Kb wx q r wo (.slice A2 m c2) ∧ OwnT wx w7.heap.size (.slice A2 m c2) (rem L k) ∧ Ib wx (p + 1) ⟨tk, ts, tc, tw⟩ ∧ Kb wx (p + 1 + 1) 0 0 (.slice none 0 0) ∧ Ib wx q2 ⟨ky, sz, co, wo⟩ ∧ Below w.heap.size w wx)
              case first =>
                have hT7 : Tss w7 (some ⟨g, 0, none⟩) c1 L := by
                  obtain ⟨A9, c9, e, h9, -⟩ := tss_of_own HO7.out
                  cases e; exact h9
                obtain ⟨A', hsl1, hT1⟩ := tss_upto hT7 (k := k) (by have := HKl.out; omega)
                obtain ⟨A'', c'', hs2, hT2⟩ := tss_from hT7 (k := k + 1) (by have := HKl.out; omega)
                rw [HN.out] at hsl1
                have hsl2 : ∀ W : World, (Instr.slice 22 (.slice (some ⟨g, 0, none⟩) i c1) (some (.int .i64 ((k : Int) + 1))) none none).run Try.prog W = .ok (.slice A'' (i - (k + 1)) c'') W := fun W => by
                  have h := hs2 W
                  rwa [HN.out, show ((k + 1 : Nat) : Int) = (k : Int) + 1 by omega] at h
                have HTa : Hid (∀ W, Below w7.heap.size w7 W → Tss W A' c1 (L.take k) ∧ Tss W A'' c'' (L.drop (k + 1))) := Lib.hid (fun W hW => ⟨hT1.below hW, hT2.below hW⟩)
                have HOA := Lib.hid (mk_ownA w7)
                have HBA := Lib.hid (mk_bA w7)
                have HL0 : Hid (k = (L.take k).length ∧ i - (k + 1) = (L.drop (k + 1)).length) := Lib.hid ⟨by rw [List.length_take, HN.out]; omega, by rw [List.length_drop, HN.out]⟩
                have HL1 : Hid (([] : List It).length + k ≤ 16777216) := Lib.hid (by simp; omega)
                have HL2 : Hid (([] ++ L.take k : List It).length + (i - (k + 1)) ≤ 16777216) := Lib.hid (by rw [List.nil_append, ← HL0.out.1]; omega)
                have HME : Hid ((([] ++ L.take k) ++ L.drop (k + 1) : List It).length = m) := Lib.hid (by rw [List.nil_append]; exact HLr.out)
                have g3 : IntKind.i64.wrap ((k : Int) + 1) = (k : Int) + 1 := by rw [IntKind.wrap_i64]; omega
                clear hs2 hT1 hT2 hT7
                obtain ⟨y0, y1, y2⟩ := HC7.out.cells
                obtain ⟨a0, a1, a2⟩ := (HC7.out.alloc eo).cells
                go_region_law (first
                  | ((with_reducible refine Two.at_world (w7.alloc eo).drew ?_); refine step_append_tss (by rfl) _ _ (by rfl) w7.heap.size _ [] (by rfl) HOA.out A' c1 k (L.take k) HL0.out.1 (by rfl) (HTa.out _ HBA.out).1 HL1.out HBA.out.size ?_; intro va wa hown6 hg6; have hBa := HBA.out.grown hg6 HBA.out.size (fun q hq => (HOA.out.lt q hq).1); obtain ⟨r0, r1, r2⟩ := (HC7.out.below hBa).cells)
                  | ((with_reducible refine Two.at_world wa ?_); refine step_append_tss (by rfl) _ _ (by rfl) w7.heap.size _ ([] ++ L.take k) (by rfl) hown6 A'' c'' (i - (k + 1)) (L.drop (k + 1)) HL0.out.2 (by rfl) (HTa.out _ hBa).2 HL2.out hBa.size ?_; intro vb wb hown7 hg7; have hBb := hBa.grown hg7 hBa.size (fun q hq => (hown6.lt q hq).1); obtain ⟨Ab, kb, rfl, -, -⟩ := tss_of_own hown7; rw [HME.out] at hown7 ⊢; obtain ⟨s0, s1, s2⟩ := (HC7.out.below hBb).cells; obtain ⟨v0, v1, v2⟩ := (HC7.out.below hBb).free))
                all_goals
                  go_wp2
                  go_meet
                  exact ⟨Ab, kb, rfl, (HC7.out.below hBb).setV _, hown7.set ((HC7.out.below hBb).ownT hown7) _ _, (HT7.out.below hBb).other (a := ⟨q, 2, none⟩) (by have := HQ.out; dsimp only; omega) _, (HZ7.out.below hBb).other (a := ⟨q, 2, none⟩) (by have := HQ.out; dsimp only; omega) _, (HF7.out.below hBb).other (a := ⟨q, 2, none⟩) (by have := HQ.out; dsimp only; omega) _, bel_set (HB7.out.trans (hBb.mono HB7.out.size)) (a := ⟨q, 2, none⟩) (by have := HQ.out; dsimp only; omega) _⟩
              case rest =>
                obtain ⟨A2, c2, rfl, hc8, ho8, ht8, hz8, hf8, hb8⟩ := hcut
                rename World => w8
                have hT8 : Tss w8 A2 c2 (rem L k) := by
                  obtain ⟨A9, c9, e, h9, -⟩ := tss_of_own ho8
                  cases e; exact h9
                have HRec := Lib.hid (HIH.out m (by have := HMi.out; omega) (rem L k) wo A2 c2 w8 HLr.out HGr.out hT8)
                unfold TR at HRec
                have HZ8 := Lib.hid hz8
                have HF8 := Lib.hid hf8
                have HB8 := Lib.hid hb8
                obtain ⟨y0, y1, y2⟩ := hc8.cells
                obtain ⟨i0, i1, i2, i3⟩ := ht8.cells
                clear hc8 ho8 ht8 hz8 hf8 hb8 hT8 HK7 HT7 HZ7 HC7 HO7 HF7 HB7
                obtain ⟨F', hF⟩ : ∃ F', (tch r wo (rem L k) ⟨tk, ts, tc, tw⟩).floor = F' := ⟨_, rfl⟩
                obtain ⟨M', hM⟩ : ∃ M', (tch r wo (rem L k) ⟨tk, ts, tc, tw⟩).left = M' := ⟨_, rfl⟩
                obtain ⟨G', hG⟩ : ∃ G', keys (tch r wo (rem L k) ⟨tk, ts, tc, tw⟩).gone = G' := ⟨_, rfl⟩
                obtain ⟨n9, hn9⟩ : ∃ n9, M'.length = n9 := ⟨_, rfl⟩
                obtain ⟨ng, hng⟩ : ∃ ng, G'.length = ng := ⟨_, rfl⟩
                simp only [hF, hM, hG] at HRec HSt
                simp only [hn9, hng] at HRec
                have hgl := tch_len (t := ⟨tk, ts, tc, tw⟩) HGr.out
                rw [hG, hng, HLr.out] at hgl
                have hng40 : ng ≤ 40 := by have := HMi.out; omega
                have HN9 := Lib.hid hn9
                have HNG := Lib.hid hng
                clear hF hM hG hn9 hng hgl
                generalize decide (tk ∈ keys (rem L k)) = hb' at *
                go_wp2_with fail
                refine HRec.out.mono ?_
                rintro e w9 ⟨A9, c9, B9, d9, rfl, ht9, hi9, ha9, hc9, hb9⟩
                have HZ10 : Hid (Kb (w9.alloc (ko r F' (.slice A9 n9 c9))) (p + 1 + 1) 0 0 (.slice none 0 0)) := Lib.hid ((HZ8.out.below hb9).alloc _)
                have HF10 : Hid (Ib (w9.alloc (ko r F' (.slice A9 n9 c9))) q2 ⟨ky, sz, co, wo⟩) := Lib.hid ((HF8.out.below hb9).alloc _)
                have HQ10 : Hid (Kb (w9.alloc (ko r F' (.slice A9 n9 c9))) w9.heap.size r F' (.slice A9 n9 c9)) := Lib.hid (Kb.new _ _ _ _)
                have HT10 : Hid (Tss (w9.alloc (ko r F' (.slice A9 n9 c9))) A9 c9 M') := Lib.hid (ht9.alloc _)
                have HI10 : Hid (Ints (w9.alloc (ko r F' (.slice A9 n9 c9))) B9 d9 G') := Lib.hid (hi9.alloc _)
                have HA9 : Hid (∀ a, A9 = some a → a.block ≠ p + 1 + 1) := Lib.hid (fun a ha => by have := ha9 a ha; have := HZ8.out.lt; omega)
                have HB9 : Hid (∀ a, B9 = some a → a.block ≠ p + 1 + 1) := Lib.hid (fun a ha => by have := hc9 a ha; have := HZ8.out.lt; omega)
                have HFA : Hid (FA w A9) := Lib.hid (fun a ha => by have := ha9 a ha; have := HB8.out.size; omega)
                have HB10 : Hid (Below w.heap.size w (w9.alloc (ko r F' (.slice A9 n9 c9)))) := Lib.hid (bel_al (HB8.out.trans (hb9.mono HB8.out.size)) (HB8.out.trans (hb9.mono HB8.out.size)).size _)
                have hq3 : q2 < w9.heap.size := (HF8.out.below hb9).lt
                clear ht9 hi9 ha9 hc9 hb9 y0 y1 y2 i0 i1 i2 i3
                go_upto_region 16 with fail
                obtain ⟨q3, hq⟩ : ∃ q3, q3 = w9.heap.size := ⟨_, rfl⟩
                rw [← hq] at HQ10 hq3 ⊢
                have HQ3 : Hid (p + 1 + 1 < q2 ∧ q2 < q3 ∧ w.heap.size ≤ p) := Lib.hid (by have := HQ.out; omega)
                clear hq hq3 HRec HZ8 HF8 HB8
                generalize w9.alloc (ko r F' (.slice A9 n9 c9)) = w10 at *
                have HN0 : Hid (Nr w10 w10.drew (p + 1 + 1)) := Lib.hid (Nr.start HZ10.out)
                have HN1 : Hid (Nr w10 (w10.alloc (.cells #[.int .i64 ky] 3)).drew (p + 1 + 1)) := Lib.hid (HN0.out.alloc (.cells #[.int .i64 ky] 3))
                have HN4 : Hid (Nr w10 ((((w10.alloc (.cells #[.int .i64 ky] 3)).setCell ⟨p + 1 + 1, 0, none⟩ (.int .i64 r)).setCell ⟨p + 1 + 1, 1, none⟩ (.int .i64 F')).setCell ⟨p + 1 + 1, 2, none⟩ (.slice A9 n9 c9)).drew (p + 1 + 1) ∧ Kb ((((w10.alloc (.cells #[.int .i64 ky] 3)).setCell ⟨p + 1 + 1, 0, none⟩ (.int .i64 r)).setCell ⟨p + 1 + 1, 1, none⟩ (.int .i64 F')).setCell ⟨p + 1 + 1, 2, none⟩ (.slice A9 n9 c9)).drew (p + 1 + 1) r F' (.slice A9 n9 c9)) := Lib.hid (HN1.out.set3 r F' (.slice A9 n9 c9))
                have HN5 : Hid (Nr w10 (((w10.setCell ⟨p + 1 + 1, 0, none⟩ (.int .i64 r)).setCell ⟨p + 1 + 1, 1, none⟩ (.int .i64 F')).setCell ⟨p + 1 + 1, 2, none⟩ (.slice A9 n9 c9)).drew (p + 1 + 1) ∧ Kb (((w10.setCell ⟨p + 1 + 1, 0, none⟩ (.int .i64 r)).setCell ⟨p + 1 + 1, 1, none⟩ (.int .i64 F')).setCell ⟨p + 1 + 1, 2, none⟩ (.slice A9 n9 c9)).drew (p + 1 + 1) r F' (.slice A9 n9 c9)) := Lib.hid (HN0.out.set3 r F' (.slice A9 n9 c9))
                have HN6 : Hid (Nr w10 ((((w10.setCell ⟨p + 1 + 1, 0, none⟩ (.int .i64 r)).setCell ⟨p + 1 + 1, 1, none⟩ (.int .i64 F')).setCell ⟨p + 1 + 1, 2, none⟩ (.slice A9 n9 c9)).alloc (.cells #[.int .i64 ky] 3)).drew (p + 1 + 1) ∧ Kb ((((w10.setCell ⟨p + 1 + 1, 0, none⟩ (.int .i64 r)).setCell ⟨p + 1 + 1, 1, none⟩ (.int .i64 F')).setCell ⟨p + 1 + 1, 2, none⟩ (.slice A9 n9 c9)).alloc (.cells #[.int .i64 ky] 3)).drew (p + 1 + 1) r F' (.slice A9 n9 c9)) := Lib.hid ⟨HN5.out.1.alloc (.cells #[.int .i64 ky] 3), HN5.out.2.alloc (.cells #[.int .i64 ky] 3)⟩
                have hoz : p + 1 + 1 < w10.heap.size := HZ10.out.lt
                have HO1 : Hid (OwnI (w10.alloc (.cells #[.int .i64 ky] 3)).drew w10.heap.size (.slice (some ⟨w10.heap.size, 0, none⟩) 1 1) [ky]) := Lib.hid (Two.own_bel (Two.own_one1 w10 ky _ (Nat.le_refl _)) (Below.refl _ _).drew)
                have HO4 : Hid (OwnI ((((w10.alloc (.cells #[.int .i64 ky] 3)).setCell ⟨p + 1 + 1, 0, none⟩ (.int .i64 r)).setCell ⟨p + 1 + 1, 1, none⟩ (.int .i64 F')).setCell ⟨p + 1 + 1, 2, none⟩ (.slice A9 n9 c9)).drew w10.heap.size (.slice (some ⟨w10.heap.size, 0, none⟩) 1 1) [ky]) := Lib.hid (ownI_set3 HO1.out (fun e => by have := (HO1.out.lt _ e).1; omega) _ _ _)
                have HO6 : Hid (OwnI ((((w10.setCell ⟨p + 1 + 1, 0, none⟩ (.int .i64 r)).setCell ⟨p + 1 + 1, 1, none⟩ (.int .i64 F')).setCell ⟨p + 1 + 1, 2, none⟩ (.slice A9 n9 c9)).alloc (.cells #[.int .i64 ky] 3)).drew w10.heap.size (.slice (some ⟨w10.heap.size, 0, none⟩) 1 1) [ky]) := Lib.hid (by
                  have hs : (((w10.setCell ⟨p + 1 + 1, 0, none⟩ (.int .i64 r)).setCell ⟨p + 1 + 1, 1, none⟩ (.int .i64 F')).setCell ⟨p + 1 + 1, 2, none⟩ (.slice A9 n9 c9)).heap.size = w10.heap.size := by simp [World.setCell]
                  have h := Two.own_one1 (((w10.setCell ⟨p + 1 + 1, 0, none⟩ (.int .i64 r)).setCell ⟨p + 1 + 1, 1, none⟩ (.int .i64 F')).setCell ⟨p + 1 + 1, 2, none⟩ (.slice A9 n9 c9)) ky w10.heap.size (by rw [hs]; exact Nat.le_refl _)
                  rw [hs] at h
                  exact Two.own_bel h (Below.refl _ _).drew)
                have HG1 : Hid ([ky].length + ng ≤ 17592186044416) := Lib.hid (by simp; omega)
                have HMb : Hid (([ky] ++ G' : List Int).length = ng + 1) := Lib.hid (by have := HNG.out; simp; omega)
                have HI1 := Lib.hid (fun (W : World) (hW : Nr w10 W (p + 1 + 1)) => ints_nr HI10.out hW HB9.out)
                clear hoz
                have HS : Hid (∀ W, Nr w10 W (p + 1 + 1) → W.cell? ⟨q3, 0, none⟩ = some (.int .i64 r) ∧ W.cell? ⟨q3, 1, none⟩ = some (.int .i64 F') ∧ W.cell? ⟨q3, 2, none⟩ = some (.slice A9 n9 c9) ∧ W.cell? ⟨q2, 0, none⟩ = some (.int .i64 ky) ∧ W.cell? ⟨p + 1 + 1, 0, none⟩ = some (rd W (p + 1 + 1) 0) ∧ W.cell? ⟨p + 1 + 1, 1, none⟩ = some (rd W (p + 1 + 1) 1) ∧ W.cell? ⟨p + 1 + 1, 2, none⟩ = some (rd W (p + 1 + 1) 2) ∧ W.frozen? ⟨p + 1 + 1, 0, none⟩ = false ∧ W.frozen? ⟨p + 1 + 1, 1, none⟩ = false ∧ W.frozen? ⟨p + 1 + 1, 2, none⟩ = false) := Lib.hid (fun W hW => by
                  have h3 := HQ3.out
                  obtain ⟨x0, x1, x2⟩ := HQ10.out.cells
                  obtain ⟨e0, -, -, -⟩ := HF10.out.cells
                  obtain ⟨a, b, v, hk⟩ := hW.box
                  obtain ⟨z0, z1, z2⟩ := hk.cells
                  obtain ⟨u0, u1, u2⟩ := hk.free
                  exact ⟨hW.cell x0 (by omega), hW.cell x1 (by omega), hW.cell x2 (by omega), hW.cell e0 (by omega), rd_of z0, rd_of z1, rd_of z2, u0, u1, u2⟩)
                go_region_held3 (fun w' => w'.cell? ⟨q3, 0, none⟩ = some (.int .i64 r) ∧ w'.cell? ⟨q3, 1, none⟩ = some (.int .i64 F') ∧ w'.cell? ⟨q3, 2, none⟩ = some (.slice A9 n9 c9) ∧ w'.cell? ⟨q2, 0, none⟩ = some (.int .i64 ky) ∧ w'.cell? ⟨p + 1 + 1, 0, none⟩ = some (rd w' (p + 1 + 1) 0) ∧ w'.cell? ⟨p + 1 + 1, 1, none⟩ = some (rd w' (p + 1 + 1) 1) ∧ w'.cell? ⟨p + 1 + 1, 2, none⟩ = some (rd w' (p + 1 + 1) 2) ∧ w'.frozen? ⟨p + 1 + 1, 0, none⟩ = false ∧ w'.frozen? ⟨p + 1 + 1, 1, none⟩ = false ∧ w'.frozen? ⟨p + 1 + 1, 2, none⟩ = false)
                  (first | exact HS.out _ (hNb.set3 r F' (.slice A9 n9 c9)).1 | exact HS.out _ hNb | exact HS.out _ HN6.out.1 | exact HS.out _ HN4.out.1 | exact HS.out _ HN5.out.1 | exact HS.out _ HN1.out | exact HS.out _ HN0.out)
                  (first
                    | ((with_reducible refine Two.at_world (w10.alloc (.cells #[.int .i64 ky] 3)).drew ?_); refine Two.step_append_ints (by rfl) _ _ (by rfl) w10.heap.size _ [ky] (by rfl) HO1.out B9 d9 ng G' HNG.out.symm (by rfl) (HI1.out _ HN1.out) HG1.out HN1.out.gb.size ?_; intro vb wb hownb hgb; have hNb := HN1.out.grown HO1.out (Nat.le_refl _) hgb; obtain ⟨Bb, kb, rfl, hIb⟩ := ints_of_own hownb; rw [HMb.out] at hownb ⊢)
                    | ((with_reducible refine Two.at_world ((((w10.alloc (.cells #[.int .i64 ky] 3)).setCell ⟨p + 1 + 1, 0, none⟩ (.int .i64 r)).setCell ⟨p + 1 + 1, 1, none⟩ (.int .i64 F')).setCell ⟨p + 1 + 1, 2, none⟩ (.slice A9 n9 c9)).drew ?_); refine Two.step_append_ints (by rfl) _ _ (by rfl) w10.heap.size _ [ky] (by rfl) HO4.out B9 d9 ng G' HNG.out.symm (by rfl) (HI1.out _ HN4.out.1) HG1.out HN4.out.1.gb.size ?_; intro vb wb hownb hgb; have hNb := HN4.out.1.grown HO4.out (Nat.le_refl _) hgb; have hzb := HN4.out.2.grownI HO4.out hgb; obtain ⟨Bb, kb, rfl, hIb⟩ := ints_of_own hownb; rw [HMb.out] at hownb ⊢)
                    | ((with_reducible refine Two.at_world ((((w10.setCell ⟨p + 1 + 1, 0, none⟩ (.int .i64 r)).setCell ⟨p + 1 + 1, 1, none⟩ (.int .i64 F')).setCell ⟨p + 1 + 1, 2, none⟩ (.slice A9 n9 c9)).alloc (.cells #[.int .i64 ky] 3)).drew ?_); refine Two.step_append_ints (by rfl) _ _ (by rfl) w10.heap.size _ [ky] (by rfl) HO6.out B9 d9 ng G' HNG.out.symm (by rfl) (HI1.out _ HN6.out.1) HG1.out HN6.out.1.gb.size ?_; intro vb wb hownb hgb; have hNb := HN6.out.1.grown HO6.out (Nat.le_refl _) hgb; have hzb := HN6.out.2.grownI HO6.out hgb; obtain ⟨Bb, kb, rfl, hIb⟩ := ints_of_own hownb; rw [HMb.out] at hownb ⊢))
                all_goals first
                  | (obtain ⟨z0, z1, z2⟩ := hzb.cells
                     go_wp2
                     refine bodyPost_ret (v := .tuple #[kv r F' (.slice A9 n9 c9), .bool false, .slice Bb (ng + 1) kb]) (by simp [results, Try.results12, go_sem, z0, z1, z2]) rfl ?_
                     exact TR.mk HSt.out.1 HSt.out.2.1 HSt.out.2.2 HD.out HN9.out HMb.out (HT10.out.nr hNb HA9.out) hIb HFA.out (fun a ha => by
                       subst ha
                       rcases hownb.2 with ⟨e, -⟩ | ⟨g', cap, cur, e, hbb, -⟩
                       · cases e
                       · cases e; exact Nat.le_trans HB10.out.size hbb) (hNb.bel HB10.out HB10.out.size (by have := HQ3.out; omega)))
                  | (have hfin := hNb.set3 r F' (.slice A9 n9 c9)
                     obtain ⟨z0, z1, z2⟩ := hfin.2.cells
                     go_wp2
                     refine bodyPost_ret (v := .tuple #[kv r F' (.slice A9 n9 c9), .bool false, .slice Bb (ng + 1) kb]) (by simp [results, Try.results12, go_sem, z0, z1, z2]) rfl ?_
                     exact TR.mk HSt.out.1 HSt.out.2.1 HSt.out.2.2 HD.out HN9.out HMb.out (HT10.out.nr hfin.1 HA9.out) (Ints.set3' hIb (fun a ha => by
                       subst ha
                       have h3 := HZ10.out.lt
                       rcases hownb.2 with ⟨e, -⟩ | ⟨g', cap, cur, e, hbb, -⟩
                       · cases e
                       · cases e; dsimp only; omega) _ _ _) HFA.out (fun a ha => by
                       subst ha
                       rcases hownb.2 with ⟨e, -⟩ | ⟨g', cap, cur, e, hbb, -⟩
                       · cases e
                       · cases e; exact Nat.le_trans HB10.out.size hbb) (hfin.1.bel HB10.out HB10.out.size (by have := HQ3.out; omega)))
            · rw [decide_eq_false hm]
              have HTc := Lib.hid (tch_stop (r := r) (fl := fl) (L := L) (t := ⟨tk, ts, tc, tw⟩) HMs.out HNb.out hm)
              have HFr := Lib.hid (fun (W : World) => hfresh_any fl ⟨tk, ts, tc, tw⟩ W HG.out.floor HOk.out)
              obtain ⟨y0, y1, y2⟩ := HId.out.cur.cells
              obtain ⟨i0, i1, i2, i3⟩ := HId.out.item.cells
              clear hm
              dsimp only at HTc HFr
              generalize fresh fl ts tc = fr at *
              go_wp2_with fail
              refine (HFr.out wd).mono ?_
              rintro e w8 ⟨rfl, hb8⟩
              have HI8 := Lib.hid (HId.out.below hb8)
              clear hb8 HId HTd HFr y0 y1 y2 i0 i1 i2 i3
              have hp1 : (Value.slice A1 i c1).ownBlock ≠ some (p + 1) := fun e => by have := (HI8.out.things.lt _ e).1; have := HPb.out; omega
              have hqp : q ≠ p + 1 := by have := HI8.out.bsq; have := HPb.out; omega
              have HK9 : Hid (Kb (w8.setCell ⟨p + 1, 3, none⟩ (.int .i64 fr)) q r fl (.slice A1 i c1)) := Lib.hid (HI8.out.cur.other (a := ⟨p + 1, 3, none⟩) hqp _)
              have HT9 : Hid (Ib (w8.setCell ⟨p + 1, 3, none⟩ (.int .i64 fr)) (p + 1) ⟨tk, ts, tc, fr⟩) := Lib.hid (HI8.out.item.setW _)
              have HZ9 : Hid (Kb (w8.setCell ⟨p + 1, 3, none⟩ (.int .i64 fr)) (p + 1 + 1) 0 0 (.slice none 0 0)) := Lib.hid (HI8.out.out.other (a := ⟨p + 1, 3, none⟩) (by simp) _)
              have HO9 : Hid (OwnT (w8.setCell ⟨p + 1, 3, none⟩ (.int .i64 fr)) bs (.slice A1 i c1) L) := Lib.hid (HI8.out.things.set hp1 _ _)
              have HB9 : Hid (Below w.heap.size w (w8.setCell ⟨p + 1, 3, none⟩ (.int .i64 fr))) := Lib.hid (bel_set HI8.out.bel (a := ⟨p + 1, 3, none⟩) (by rw [HP.out]; dsimp only; omega) _)
              have HS9 : Hid (bs ≤ (w8.setCell ⟨p + 1, 3, none⟩ (.int .i64 fr)).heap.size) := Lib.hid (by have := HI8.out.bsz; simpa [World.setCell] using this)
              obtain ⟨i0, i1, i2, i3⟩ := HI8.out.item.cells
              obtain ⟨f0, f1, f2, f3⟩ := HI8.out.item.free
              obtain ⟨x0, x1, x2⟩ := HK9.out.cells
              obtain ⟨h0, h1, h2, h3⟩ := HT9.out.cells
              have HX : Hid (Tss ((w8.setCell ⟨p + 1, 3, none⟩ (.int .i64 fr)).alloc (fo ⟨tk, ts, tc, fr⟩)) (some ⟨w8.heap.size, 0, none⟩) 1 [⟨tk, ts, tc, fr⟩]) := Lib.hid (by
                have h := (Ib.new (w8.setCell ⟨p + 1, 3, none⟩ (.int .i64 fr)) ⟨tk, ts, tc, fr⟩).one
                rwa [show (w8.setCell ⟨p + 1, 3, none⟩ (.int .i64 fr)).heap.size = w8.heap.size by simp [World.setCell]] at h)
              have HKa := Lib.hid (HK9.out.alloc (fo ⟨tk, ts, tc, fr⟩))
              have HZa := Lib.hid (HZ9.out.alloc (fo ⟨tk, ts, tc, fr⟩))
              have HOa := Lib.hid (HO9.out.alloc (fo ⟨tk, ts, tc, fr⟩))
              have HBa : Hid (Below w.heap.size w ((w8.setCell ⟨p + 1, 3, none⟩ (.int .i64 fr)).alloc (fo ⟨tk, ts, tc, fr⟩))) := Lib.hid (bel_al HB9.out HB9.out.size _)
              have HSa : Hid (bs ≤ ((w8.setCell ⟨p + 1, 3, none⟩ (.int .i64 fr)).alloc (fo ⟨tk, ts, tc, fr⟩)).heap.size) := Lib.hid (Nat.le_trans HS9.out (by simp))
              have HLn : Hid (L.length + 1 ≤ 16777216) := Lib.hid (by rw [HN.out]; omega)
              have HQo : Hid (p + 1 + 1 ≠ q) := Lib.hid (by have := HI8.out.bsq; have := HPb.out; omega)
              have HQb : Hid (w.heap.size ≤ q) := Lib.hid (by have := HI8.out.bsq; have := HPb.out; omega)
              have HFin : Hid (∀ v10 w10, OwnT w10 bs v10 (L ++ [⟨tk, ts, tc, fr⟩]) → ((w8.setCell ⟨p + 1, 3, none⟩ (.int .i64 fr)).alloc (fo ⟨tk, ts, tc, fr⟩)).grownBy w10 (Value.slice A1 i c1).ownBlock → ∃ A10 n10 c10, v10 = .slice A10 n10 c10 ∧ Kb w10 q r fl (.slice A1 i c1) ∧ Kb w10 (p + 1 + 1) 0 0 (.slice none 0 0) ∧ OwnT w10 bs (.slice A10 n10 c10) (L ++ [⟨tk, ts, tc, fr⟩]) ∧ Below w.heap.size w w10) := Lib.hid (by
                intro v10 w10 ho hg
                obtain ⟨A10, c10, rfl, -, -⟩ := tss_of_own ho
                exact ⟨A10, _, c10, rfl, HKa.out.grown HOa.out hg, HZa.out.grown HOa.out hg, ho, HBa.out.grown hg HBa.out.size (fun k hk => Nat.le_trans HPb.out.1 (HOa.out.lt k hk).1)⟩)
              clear hp1 hqp
              have hoq : p + 1 + 1 ≠ q := HQo.out
              go_wp2_with (at_builtin; refine wpList_append_tss (by rfl) _ _ (by rfl) bs _ L (by rfl) HOa.out (some ⟨w8.heap.size, 0, none⟩) 1 _ [⟨tk, ts, tc, fr⟩] rfl (by rfl) HX.out HLn.out HSa.out ?_; intro v10 w10 hown10 hg10; obtain ⟨A10, n10, c10, rfl, hk10, hz10, ho10, hb10⟩ := HFin.out v10 w10 hown10 hg10; clear hown10 hg10 i0 i1 i2 i3 f0 f1 f2 f3 x0 x1 x2 h0 h1 h2 h3; obtain ⟨x0, x1, x2⟩ := hk10.cells; obtain ⟨y0, y1, y2⟩ := hk10.free; obtain ⟨z0, z1, z2⟩ := (hz10.other (a := ⟨q, 2, none⟩) HQo.out (.slice A10 n10 c10)).cells; obtain ⟨u0, u1, u2⟩ := (hz10.other (a := ⟨q, 2, none⟩) HQo.out (.slice A10 n10 c10)).free; obtain ⟨t0, t1, t2⟩ := (hk10.setV (.slice A10 n10 c10)).cells; have HK10 := Lib.hid hk10; have HZ10 := Lib.hid hz10; have HO10 := Lib.hid ho10; have HB10 := Lib.hid hb10; clear hk10 hz10 ho10 hb10)
              refine bodyPost_ret (v := .tuple #[kv r fl (.slice A10 n10 c10), .bool false, .slice none 0 0]) (by simp [results, Try.results12, go_sem, z0, z1, z2]) rfl ?_
              have hZ11 := HZ10.out.other (a := ⟨q, 2, none⟩) HQo.out (.slice A10 n10 c10)
              have hO11 := HO10.out.set (HK10.out.ownT HO10.out) 2 (.slice A10 n10 c10)
              have hB11 := bel_set HB10.out (a := ⟨q, 2, none⟩) HQb.out (.slice A10 n10 c10)
              exact TR.own HTc.out.1 HTc.out.2.1 HTc.out.2.2 HD.out rfl (hO11.set3 (hZ11.ownT hO11) _ _ _) (Ints.none_ _) HPb.out.1 (FA.none_ _) (bel_set3 hB11 (p := p + 1 + 1) (by rw [HP.out]; omega) _ _ _)

end Go.Proofs.Ytmobohamlimhdaa.Grd
