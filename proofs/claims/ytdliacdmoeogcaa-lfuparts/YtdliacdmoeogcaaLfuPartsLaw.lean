/-
  The walk of the law on a trace in two parts, for counted keys.
-/
import Derived.Test.YtdliacdmoeogcaaLfuInts
import Derived.Deep.DeepCutAuto
namespace Go.Proofs.Ytdliacdmoeogcaa.Lfu
open Go.RowKit Go.Maps
open Lru (isRm isK keysE keysE_zero traceE trace_zero)
set_option linter.unusedVariables false
set_option maxRecDepth 100000

abbrev Zk (w : World) (p : Nat) : Prop := Kb w p 0 (.slice none 0 0)
section
variable (w : World)
theorem zk_new : Zk (w.alloc zk) w.heap.size := Kb.new w 0 _
theorem mk_ownA : OwnI (w.alloc (.cells #[] 3)).drew w.heap.size (.slice (some ⟨w.heap.size, 0, none⟩) 0 0) [] := own_bel (own_made w _ (Nat.le_refl _)) (Below.refl _ _).drew
theorem mk_ownB : OwnI ((w.alloc (.cells #[] 3)).alloc zk).drew w.heap.size (.slice (some ⟨w.heap.size, 0, none⟩) 0 0) [] := own_bel (own_made w _ (Nat.le_refl _)) (bel_al (Below.refl _ _) (Nat.le_refl _) _).drew
theorem mk_ownC : OwnI ((w.alloc zk).alloc (.cells #[] 3)).drew w.heap.size (.slice (some ⟨w.heap.size + 1, 0, none⟩) 0 0) [] := by
  have h := own_made (w.alloc zk) w.heap.size (by simp)
  rw [show (w.alloc zk).heap.size = w.heap.size + 1 by simp] at h
  exact own_bel h (Below.refl _ _).drew
theorem mk_zB : Zk ((w.alloc (.cells #[] 3)).alloc zk).drew (w.heap.size + 1) := by
  have h := zk_new (w.alloc (.cells #[] 3))
  rw [show (w.alloc (.cells #[] 3)).heap.size = w.heap.size + 1 by simp] at h
  exact h
theorem mk_zC : Zk ((w.alloc zk).alloc (.cells #[] 3)).drew w.heap.size := (zk_new w).alloc _
theorem mk_bA : Below w.heap.size w (w.alloc (.cells #[] 3)).drew := (bel_al (Below.refl _ _) (Nat.le_refl _) _).drew
theorem mk_bD : Below w.heap.size w (w.alloc zk).drew := (bel_al (Below.refl _ _) (Nat.le_refl _) _).drew
theorem mk_bB : Below w.heap.size w ((w.alloc (.cells #[] 3)).alloc zk).drew := (bel_al (bel_al (Below.refl _ _) (Nat.le_refl _) _) (by simp) _).drew
theorem mk_bC : Below w.heap.size w ((w.alloc zk).alloc (.cells #[] 3)).drew := (bel_al (bel_al (Below.refl _ _) (Nat.le_refl _) _) (by simp) _).drew
end

/-! ### The facts -/
theorem trace_parts {xs ys : List Int} (hx : traceE xs = 0) (hne : traceE ys ≠ traceE (xs ++ ys)) : traceE (xs ++ ys) = 2 := by
  have hx := (trace_zero.1 hx).2
  unfold traceE at hne ⊢
  by_cases h1 : 200 < (xs ++ ys).length
  · rw [if_pos h1]
  · exfalso
    have h2 : ¬ 200 < ys.length := by rw [List.length_append] at h1; omega
    rw [if_neg h1, if_neg h2] at hne
    apply hne
    have : (∀ x ∈ ys, isK x) ↔ (∀ x ∈ xs ++ ys, isK x) := ⟨fun h x hm => (List.mem_append.1 hm).elim (hx x) (h x), fun h x hm => h x (by simp [hm])⟩
    by_cases h3 : ∀ x ∈ ys, isK x
    · rw [if_pos h3, if_pos (this.1 h3)]
    · rw [if_neg h3, if_neg (fun hh => h3 (this.2 hh))]
theorem rn_zero {r : Int} {F : List Us} {xs : List Int} (e : rnE r F xs = 0) : checkK r F = 0 ∧ traceE xs = 0 := by
  unfold rnE at e
  split at e
  · exact ⟨by assumption, e⟩
  · exact absurd e (by assumption)
theorem rn_good {r : Int} {F : List Us} {xs : List Int} (e : rnE r F xs = 0) : Good r F ∧ Good r (runU r F xs) ∧ xs.length ≤ 200 ∧ (∀ x ∈ xs, isK x) ∧
    rnR r F xs = r ∧ rnF r F xs = runU r F xs ∧ rnH r F xs = (hitsU r F xs : Int) := by
  obtain ⟨e1, e2⟩ := rn_zero e
  have g := check_zero.1 e1
  have t := trace_zero.1 e2
  refine ⟨g, runU_good g t.2, t.1, t.2, ?_, ?_, ?_⟩
  · unfold rnR; rw [if_pos e]
  · unfold rnF; rw [if_pos e]
  · unfold rnH; rw [if_pos e]
theorem parts_facts {r : Int} {F : List Us} {xs ys : List Int} (e : rnE r F xs = 0) : rnR r F xs = r ∧ xs.length ≤ 200 ∧
    (rnE r (rnF r F xs) ys = 0 → rnE r F (xs ++ ys) = 0 → rnF r (rnF r F xs) ys = rnF r F (xs ++ ys) ∧ rnR r (rnF r F xs) ys = rnR r F (xs ++ ys) ∧ rnH r F (xs ++ ys) = rnH r F xs + rnH r (rnF r F xs) ys ∧ Good (rnR r F (xs ++ ys)) (rnF r F (xs ++ ys))) ∧
    ((rnE r (rnF r F xs) ys ≠ 0 ∨ rnE r F (xs ++ ys) ≠ 0) → rnE r (rnF r F xs) ys ≠ rnE r F (xs ++ ys) → rnE r F (xs ++ ys) = 2) := by
  obtain ⟨g, g2, hl, hk, e1, e3, e4⟩ := rn_good e
  rw [e1, e3, e4]
  refine ⟨rfl, hl, fun a b => ?_, fun _ hne => ?_⟩
  · have gg := rn_good b
    obtain ⟨-, g3, -, -, f1, f2, -⟩ := gg
    rw [f1, f2]
    unfold rnF rnR rnH
    rw [if_pos a, if_pos b, if_pos a, if_pos a, runU_append, hitsU_append]
    rw [runU_append] at g3
    exact ⟨rfl, rfl, by omega, g3⟩
  · have z1 : rnE r (runU r F xs) ys = traceE ys := by unfold rnE; rw [if_pos (check_zero.2 g2)]
    have z2 : rnE r F (xs ++ ys) = traceE (xs ++ ys) := by unfold rnE; rw [if_pos (check_zero.2 g)]
    rw [z1, z2] at hne
    rw [z2]
    exact trace_parts (rn_zero e).2 hne
theorem bad_facts {r : Int} {F : List Us} {xs : List Int} (e : rnE r F xs ≠ 0) : rnH r F xs = 0 ∧ (rnF r F xs).length = 0 := by
  unfold rnH rnF; rw [if_neg e, if_neg e]; exact ⟨rfl, rfl⟩
theorem rnH_bound (r : Int) (F : List Us) (xs : List Int) : 0 ≤ rnH r F xs ∧ rnH r F xs ≤ 200 := by
  by_cases e : rnE r F xs = 0
  · obtain ⟨g, g2, hl, hk, e1, e3, e4⟩ := rn_good e
    rw [e4]
    have := hitsU_le r F xs
    omega
  · rw [(bad_facts e).1]; omega

set_option maxHeartbeats 20000000 in
theorem lfuParts_walk (r : Int) (A : Option Addr) (c : Nat) (F : List Us) (A1 : Option Addr) (c1 : Nat) (xs : List Int) (A2 : Option Addr) (c2 : Nat) (ys : List Int) (w : World) (hI : Uss w A c F) (hJ : Ints w A1 c1 xs) (hK : Ints w A2 c2 ys) (hz1 : xs.length ≤ 17592186043904) (hz2 : ys.length ≤ 17592186043904) :
    Calls Try.prog 6 #[kv r (.slice A F.length c), .slice A1 xs.length c1, .slice A2 ys.length c2] w fun e w' => e = .returned (.bool true) ∧ Below w.heap.size w w' := by
  have X0 := Lib.hid (Kb.new w r (.slice A F.length c))
  have HB0 : Hid (Below w.heap.size w (w.alloc (ko r (.slice A F.length c)))) := Lib.hid (bel_al (Below.refl _ _) (Nat.le_refl _) _)
  have HI := Lib.hid hI
  have HJ := Lib.hid hJ
  have HK := Lib.hid hK
  have HR1 := Lib.hid (fun (W : World) (a : Uss W A c F) (b : Ints W A1 c1 xs) => run_any r A c F A1 c1 xs W a b)
  unfold NR at HR1
  clear hI hJ hK
  by_cases q1 : rnE r F xs = 0
  · have HF := Lib.hid (parts_facts (ys := ys) q1)
    have d1 : (rnE r F xs != 0) = false := by simp [q1]
    have HX2 := Lib.hid HF.out.2.1
    rw [HF.out.1] at HR1
    have HR2 := Lib.hid (fun (B : Option Addr) (d : Nat) (W : World) (a : Uss W B d (rnF r F xs)) (b : Ints W A2 c2 ys) => run_any r B d (rnF r F xs) A2 c2 ys W a b)
    have HR3 := Lib.hid (fun (B : Option Addr) (d : Nat) (W : World) (a : Uss W A c F) (b : Ints W B d (xs ++ ys)) => run_any r A c F B d (xs ++ ys) W a b)
    unfold NR at HR2 HR3
    have hb1 := rnH_bound r F xs
    have hb2 := rnH_bound r (rnF r F xs) ys
    have HZ2 := Lib.hid hz2
    replace HF := Lib.hid HF.out.2.2
    clear q1 hz1 hz2
    generalize rnF r F xs = M1 at *
    generalize rnH r F xs = h1 at *
    generalize rnE r F xs = e1 at *
    generalize rnF r M1 ys = M2 at *
    generalize rnH r M1 ys = h2 at *
    generalize rnE r M1 ys = e2 at *
    generalize rnR r M1 ys = R2 at *
    generalize rnF r F (xs ++ ys) = M3 at *
    generalize rnH r F (xs ++ ys) = h3 at *
    generalize rnE r F (xs ++ ys) = e3 at *
    generalize rnR r F (xs ++ ys) = R3 at *
    obtain ⟨m5, hm5⟩ : ∃ m5, (xs ++ ys).length = m5 := ⟨_, rfl⟩
    have HM5 := Lib.hid hm5
    simp only [hm5] at HR3
    obtain ⟨lx, hlx⟩ : ∃ lx, xs.length = lx := ⟨_, rfl⟩
    obtain ⟨ly, hly⟩ : ∃ ly, ys.length = ly := ⟨_, rfl⟩
    obtain ⟨lf, hlf⟩ : ∃ lf, F.length = lf := ⟨_, rfl⟩
    obtain ⟨l1, hl1⟩ : ∃ l1, M1.length = l1 := ⟨_, rfl⟩
    obtain ⟨l2, hl2⟩ : ∃ l2, M2.length = l2 := ⟨_, rfl⟩
    obtain ⟨l3, hl3⟩ : ∃ l3, M3.length = l3 := ⟨_, rfl⟩
    have HLX := Lib.hid hlx
    have HLY := Lib.hid hly
    have HL2 := Lib.hid hl2
    have HL3 := Lib.hid hl3
    simp only [hlx, hlf, hl1] at HR1
    simp only [hly, hl1, hl2] at HR2
    simp only [hlf, hl3] at HR3
    rw [hlf] at X0 HB0
    rw [hlx, hly, hlf]
    clear hm5 hlx hly hlf hl1 hl2 hl3
    obtain ⟨x1, x2, -, -⟩ := X0.out.cells
    go_enter Try.func6, Try.ntmps6
    go_wp2_with fail
    refine (HR1.out _ (HI.out.below HB0.out) (HJ.out.below HB0.out)).mono ?_
    rintro e w1 ⟨B1, k1, rfl, hI1, -, hbb⟩
    have X1 := Lib.hid ((X0.out.below hbb).alloc (ko r (.slice B1 l1 k1)))
    have Y1 := Lib.hid (Kb.new w1 r (.slice B1 l1 k1))
    have I1 := Lib.hid (hI1.alloc (ko r (.slice B1 l1 k1)))
    have HB1 : Hid (Below w.heap.size w (w1.alloc (ko r (.slice B1 l1 k1)))) := Lib.hid (bel_al (HB0.out.trans (hbb.mono HB0.out.size)) (Nat.le_trans HB0.out.size hbb.size) _)
    clear hI1 hbb x1 x2
    go_wp2_with fail
    refine (begun_any _).mono ?_
    rintro e w3 ⟨rfl, hb3⟩
    have X3 := Lib.hid (X1.out.below hb3)
    have Y3 := Lib.hid (Y1.out.below hb3)
    have I3 := Lib.hid (I1.out.below hb3)
    have HB3 : Hid (Below w.heap.size w w3) := Lib.hid (HB1.out.trans (hb3.mono HB1.out.size))
    clear hb3
    generalize w1.heap.size = p1 at *
    obtain ⟨y1, y2, -, -⟩ := Y3.out.cells
    go_wp2_with fail
    refine (HR2.out B1 k1 _ I3.out (HK.out.below HB3.out)).mono ?_
    rintro e w4 ⟨B4, k4, rfl, hI4, -, hb4⟩
    have X4 := Lib.hid ((X3.out.below hb4).alloc (ko R2 (.slice B4 l2 k4)))
    have Z4 := Lib.hid (Kb.new w4 R2 (.slice B4 l2 k4))
    have I4 := Lib.hid (hI4.alloc (ko R2 (.slice B4 l2 k4)))
    have HB4 : Hid (Below w.heap.size w (w4.alloc (ko R2 (.slice B4 l2 k4)))) := Lib.hid (bel_al (HB3.out.trans (hb4.mono HB3.out.size)) (Nat.le_trans HB3.out.size hb4.size) _)
    clear hI4 hb4 y1 y2
    go_upto_region 7 with fail
    generalize w4.heap.size = p4 at *
    generalize w4.alloc (ko R2 (.slice B4 l2 k4)) = w5 at *
    go_cut [13, 14, 15] (fun s13 s14 s15 wx => ∃ p B d, s13 = .pointer (some ⟨p, 0, none⟩) ∧ s14 = .int .i64 h3 ∧ s15 = .int .i64 e3 ∧ Kb wx p R3 (.slice B l3 d) ∧ Uss wx B d M3 ∧ Below w5.heap.size w5 wx)
    case first =>
      as_aux_lemma =>
        have HK5 : Hid (∀ w' : World, Below w5.heap.size w5 w' → w'.cell? ⟨w.heap.size, 0, none⟩ = some (.int .i64 r) ∧ w'.cell? ⟨w.heap.size, 1, none⟩ = some (.slice A lf c)) := Lib.hid (fun w' hb => by
          have := (X4.out.below hb).cells
          exact ⟨this.1, this.2.1⟩)
        have HJ5 : Hid (∀ w' : World, Below w5.heap.size w5 w' → Ints w' A1 c1 xs ∧ Ints w' A2 c2 ys ∧ Uss w' A c F) := Lib.hid (fun w' hb => ⟨(HJ.out.below HB4.out).below hb, (HK.out.below HB4.out).below hb, (HI.out.below HB4.out).below hb⟩)
        have HOA := Lib.hid (mk_ownA w5)
        have HOB := Lib.hid (mk_ownB w5)
        have HOC := Lib.hid (mk_ownC w5)
        have HZB := Lib.hid (mk_zB w5)
        have HZC := Lib.hid (mk_zC w5)
        have HBA := Lib.hid (mk_bA w5)
        have HBB := Lib.hid (mk_bB w5)
        have HBC := Lib.hid (mk_bC w5)
        have HBD := Lib.hid (mk_bD w5)
        have HL1 : Hid (([] : List Int).length + lx ≤ 17592186044416) := Lib.hid (by have := HX2.out; have := HLX.out; simp; omega)
        have HL2' : Hid (([] ++ xs : List Int).length + ly ≤ 17592186044416) := Lib.hid (by have := HX2.out; have := HLX.out; have := HZ2.out; have := HLY.out; simp; omega)
        have HME : Hid ((([] ++ xs) ++ ys : List Int).length = m5) := Lib.hid (by rw [List.nil_append]; exact HM5.out)
        have HR4 : Hid (∀ (B : Option Addr) (d : Nat) (W : World), Uss W A c F → Ints W B d (([] ++ xs) ++ ys) → _) := Lib.hid (by rw [List.nil_append]; exact HR3.out)
        go_wp2
        go_region_held3 (fun w' => w'.cell? ⟨w.heap.size, 0, none⟩ = some (.int .i64 r) ∧ w'.cell? ⟨w.heap.size, 1, none⟩ = some (.slice A lf c))
          (first | exact HK5.out _ (bel_set2 hBd hpz _ _) | exact HK5.out _ (bel_set2 (bel_al hBd hBd.size _) hBd.size _ _) | exact HK5.out _ (bel_al hBd hBd.size _) | exact HK5.out _ hBd | exact HK5.out _ (bel_al hBb hBb.size _) | exact HK5.out _ hBb | exact HK5.out _ (bel_al hBa hBa.size _) | exact HK5.out _ hBa | exact HK5.out _ HBB.out | exact HK5.out _ HBC.out | exact HK5.out _ HBA.out | exact HK5.out _ HBD.out | exact HK5.out _ (Below.refl _ _).drew)
          (first
            | ((with_reducible refine at_world (w5.alloc (.cells #[] 3)).drew ?_); refine step_append_ints (by rfl) _ _ (by rfl) w5.heap.size _ [] (by rfl) HOA.out A1 c1 lx xs HLX.out.symm (by rfl) (HJ5.out _ HBA.out).1 HL1.out HBA.out.size ?_; intro va wa hown6 hg6; have hBa := HBA.out.grown hg6 HBA.out.size (fun q hq => (HOA.out.lt q hq).1))
            | ((with_reducible refine at_world ((w5.alloc (.cells #[] 3)).alloc zk).drew ?_); refine step_append_ints (by rfl) _ _ (by rfl) w5.heap.size _ [] (by rfl) HOB.out A1 c1 lx xs HLX.out.symm (by rfl) (HJ5.out _ HBB.out).1 HL1.out HBB.out.size ?_; intro va wa hown6 hg6; have hBa := HBB.out.grown hg6 HBB.out.size (fun q hq => (HOB.out.lt q hq).1); have hza := HZB.out.grownI HOB.out hg6; have hpz : w5.heap.size ≤ w5.heap.size + 1 := Nat.le_succ _)
            | ((with_reducible refine at_world ((w5.alloc zk).alloc (.cells #[] 3)).drew ?_); refine step_append_ints (by rfl) _ _ (by rfl) w5.heap.size _ [] (by rfl) HOC.out A1 c1 lx xs HLX.out.symm (by rfl) (HJ5.out _ HBC.out).1 HL1.out HBC.out.size ?_; intro va wa hown6 hg6; have hBa := HBC.out.grown hg6 HBC.out.size (fun q hq => (HOC.out.lt q hq).1); have hza := HZC.out.grownI HOC.out hg6; have hpz : w5.heap.size ≤ w5.heap.size := Nat.le_refl _)
            | ((with_reducible refine at_world wa ?_); refine step_append_ints (by rfl) _ _ (by rfl) w5.heap.size _ ([] ++ xs) (by rfl) hown6 A2 c2 ly ys HLY.out.symm (by rfl) (HJ5.out _ hBa).2.1 HL2'.out hBa.size ?_; intro vb wb hown7 hg7; have hBb := hBa.grown hg7 hBa.size (fun q hq => (hown6.lt q hq).1); have hzb := hza.grownI hown6 hg7; obtain ⟨Bb, kb, rfl, hIb⟩ := ints_of_own hown7; rw [HME.out])
            | ((with_reducible refine at_world wa ?_); refine step_append_ints (by rfl) _ _ (by rfl) w5.heap.size _ ([] ++ xs) (by rfl) hown6 A2 c2 ly ys HLY.out.symm (by rfl) (HJ5.out _ hBa).2.1 HL2'.out hBa.size ?_; intro vb wb hown7 hg7; have hBb := hBa.grown hg7 hBa.size (fun q hq => (hown6.lt q hq).1); obtain ⟨Bb, kb, rfl, hIb⟩ := ints_of_own hown7; rw [HME.out])
            | ((with_reducible refine at_world (wa.alloc zk) ?_); have hBz := bel_al hBa hBa.size zk; have hownz := own_allocI hown6 zk; refine step_append_ints (by rfl) _ _ (by rfl) w5.heap.size _ ([] ++ xs) (by rfl) hownz A2 c2 ly ys HLY.out.symm (by rfl) (HJ5.out _ hBz).2.1 HL2'.out hBz.size ?_; intro vb wb hown7 hg7; have hBb := hBz.grown hg7 hBz.size (fun q hq => (hownz.lt q hq).1); have hzb := (zk_new wa).grownI hownz hg7; have hpz : w5.heap.size ≤ wa.heap.size := hBa.size; obtain ⟨Bb, kb, rfl, hIb⟩ := ints_of_own hown7; rw [HME.out])
            | (go_at_call 8; refine (HR4.out Bb kb wb (HJ5.out _ hBb).2.2 hIb).mono ?_; rintro e wd ⟨Bd, kd, rfl, hId, hAd, hbd⟩; have hBd := hBb.trans (hbd.mono hBb.size); have hzd := hzb.below hbd; have hne := hzb.neF hAd; obtain ⟨r0, r1, f0, f1⟩ := hzd.cells)
            | (go_at_call 8; refine (HR4.out Bb kb wb (HJ5.out _ hBb).2.2 hIb).mono ?_; rintro e wd ⟨Bd, kd, rfl, hId, hAd, hbd⟩; have hBd := hBb.trans (hbd.mono hBb.size))
            | (have hBy := bel_al hBb hBb.size zk; go_at_call 8; refine (HR4.out Bb kb (wb.alloc zk) (HJ5.out _ hBy).2.2 (hIb.alloc _)).mono ?_; rintro e wd ⟨Bd, kd, rfl, hId, hAd, hbd⟩; have hBd := hBy.trans (hbd.mono hBy.size); have hzd := (zk_new wb).below hbd; have hne := (zk_new wb).neF hAd; have hpz : w5.heap.size ≤ wb.heap.size := hBb.size; obtain ⟨r0, r1, f0, f1⟩ := hzd.cells))
        all_goals
          go_wp2
          go_meet
          first
            | exact ⟨_, Bd, kd, rfl, rfl, rfl, hzd.put2 _ _, hId.set2 hne _ _, bel_set2 hBd hpz _ _⟩
            | exact ⟨_, Bd, kd, rfl, rfl, rfl, Kb.new _ _ _, hId.alloc _, bel_al hBd hBd.size _⟩
    case rest =>
      as_aux_lemma =>
        obtain ⟨p6, B6, k6, rfl, rfl, rfl, hX6, hI6, hb6⟩ := hcut
        have X6 := Lib.hid hX6
        have I6 := Lib.hid hI6
        have Z6 := Lib.hid (Z4.out.below hb6)
        have J6 := Lib.hid (I4.out.below hb6)
        have HB6 : Hid (Below w.heap.size w wc) := Lib.hid (HB4.out.trans (hb6.mono HB4.out.size))
        clear hX6 hb6 hI6
        by_cases q2 : e2 = 0
        · have d2 : (e2 != 0) = false := by simp [q2]
          by_cases q3 : e3 = 0
          · have d3 : (e3 != 0) = false := by simp [q3]
            obtain ⟨f1, f3, f4, fg⟩ := HF.out.1 q2 q3
            subst f1 f3
            have HS := Lib.hid (fun (W : World) (a : Uss W B4 k4 M2) (b : Uss W B6 k6 M2) => sameUses_eq R2 B4 B6 k4 k6 M2 W a b)
            have HA := Lib.hid (age_any R2 B4 k4 M2 wc J6.out)
            unfold GR at HA
            have HC0 := check_zero.2 fg
            rw [show agR R2 M2 = R2 by unfold agR; rw [if_pos HC0], show agF R2 M2 = half M2 by unfold agF; rw [if_pos HC0], half_len, HC0] at HA
            simp only [HL2.out] at HS
            rw [HL2.out] at HA
            have HG := Lib.hid fg
            have hl23 : l3 = l2 := HL3.out.symm.trans HL2.out
            have hll : l2 ≤ 40 := by rw [← HL2.out]; exact fg.len40
            subst hl23
            have hw : IntKind.i64.wrap (h1 + h2) = h1 + h2 := by rw [IntKind.wrap_i64]; omega
            have d4 : (h3 == h1 + h2) = true := by simpa using f4
            clear q2 q3 f4 fg HC0
            obtain ⟨z1, z2, -, -⟩ := Z6.out.cells
            go_wp2_with fail
            refine HA.out.mono ?_
            rintro e w7 ⟨B7, k7, rfl, hI7, -, hb7⟩
            have X7 := Lib.hid ((X6.out.below hb7).alloc (ko R2 (.slice B7 l3 k7)))
            have Z7 := Lib.hid ((Z6.out.below hb7).alloc (ko R2 (.slice B7 l3 k7)))
            have J7 := Lib.hid ((J6.out.below hb7).alloc (ko R2 (.slice B7 l3 k7)))
            have I7 := Lib.hid ((I6.out.below hb7).alloc (ko R2 (.slice B7 l3 k7)))
            have Y7 := Lib.hid (Kb.new w7 R2 (.slice B7 l3 k7))
            have K7 := Lib.hid (hI7.alloc (ko R2 (.slice B7 l3 k7)))
            have HB7 : Hid (Below w.heap.size w (w7.alloc (ko R2 (.slice B7 l3 k7)))) := Lib.hid (bel_al (HB6.out.trans (hb7.mono HB6.out.size)) (Nat.le_trans HB6.out.size hb7.size) _)
            clear hb7 hI7 z1 z2
            go_wp2
            generalize w7.heap.size = p7 at *
            generalize w7.alloc (ko R2 (.slice B7 l3 k7)) = w8 at *
            go_loopw [18] (fun i wr => ∃ k : Nat, k ≤ l3 ∧ i = .int .i64 (k : Int) ∧ Hid (Below w8.heap.size w8 wr)) (fun i _ => l3 - (intOf i).toNat)
            case atStart => exact ⟨0, by omega, rfl, Lib.hid (Below.refl _ _)⟩
            case round =>
              obtain ⟨k, hk, rfl, HBr⟩ := hrel
              have Zr := Lib.hid (Z7.out.below HBr.out)
              have Yr := Lib.hid (Y7.out.below HBr.out)
              by_cases hlt : k < l3
              · have hin : (k : Int) < (l3 : Int) := by omega
                have hiB : (0 : Int) ≤ (k : Int) := by omega
                obtain ⟨z1, z2, -, -⟩ := Zr.out.cells
                obtain ⟨y1, y2, -, -⟩ := Yr.out.cells
                have hkM : k < M2.length := by rw [HL2.out]; exact hlt
                obtain ⟨b1, o1, rfl, s1, s2⟩ := (J7.out.below HBr.out).us hkM
                obtain ⟨b2, o2, rfl, s3, s4⟩ := (K7.out.below HBr.out).us (k := k) (by rw [half_len]; exact hkM)
                rw [half_get hkM] at s3 s4
                have hc := HG.out.cnts _ (gu_mem hkM)
                generalize gu M2 k = f at *
                obtain ⟨fx, fu⟩ := f
                dsimp only at s1 s2 s3 s4 hc
                unfold okC at hc
                have hg : decide (fu < max (fu / 2) 1) = false := by simp; omega
                generalize max (fu / 2) 1 = fh at *
                clear hc hkM
                go_wp2_with fail
                go_quiet (fail)
                have HB2 : Hid (Below w8.heap.size w8 (wr.drewN nq)) := Lib.hid (bel_drewN HBr.out _)
                clear z1 z2 y1 y2 s1 s2 s3 s4
                generalize wr.drewN nq = w9 at *
                go_wp2
                go_roundw
                case rel => exact ⟨k + 1, by omega, by go_num, HB2⟩
                case measure => simp [intOf]; omega
              · obtain rfl : k = l3 := by omega
                obtain ⟨z1, z2, -, -⟩ := Zr.out.cells
                obtain ⟨x1, x2, -, -⟩ := (X7.out.below HBr.out).cells
                have HBx : Hid (Below w.heap.size w wr) := Lib.hid (HB7.out.trans (HBr.out.mono HB7.out.size))
                go_wp2_with fail
                refine (HS.out _ (J7.out.below HBr.out) (I7.out.below HBr.out)).mono ?_
                rintro e w9 ⟨rfl, hb9⟩
                have HB9 : Hid (Below w.heap.size w w9) := Lib.hid (HBx.out.trans (hb9.mono HBx.out.size))
                clear hb9 z1 z2 x1 x2
                go_wp2
                go_ret
                exact ⟨rfl, HB9.out⟩
          · have d3 : (e3 != 0) = true := by simpa using q3
            have d5 : (e2 == e3) = false := by simp [q2]; exact fun e => q3 e.symm
            have d6 : (e3 == 2) = true := by simpa using HF.out.2 (Or.inr q3) (by rw [q2]; exact fun e => q3 e.symm)
            clear q2 q3
            go_wp2
            go_ret
            exact ⟨rfl, HB6.out⟩
        · have d2 : (e2 != 0) = true := by simpa using q2
          by_cases q4 : e2 = e3
          · have d5 : (e2 == e3) = true := by simpa using q4
            clear q2 q4
            go_wp2
            go_ret
            exact ⟨rfl, HB6.out⟩
          · have d5 : (e2 == e3) = false := by simpa using q4
            have d6 : (e3 == 2) = true := by simpa using HF.out.2 (Or.inl q2) q4
            clear q2 q4
            go_wp2
            go_ret
            exact ⟨rfl, HB6.out⟩
  · have HE := Lib.hid (bad_facts q1)
    have d1 : (rnE r F xs != 0) = true := by simpa using q1
    have d2 : (rnH r F xs == 0) = true := by simpa using HE.out.1
    have d3 : (((rnF r F xs).length : Int) == 0) = true := by have := HE.out.2; simp [this]
    clear q1
    generalize rnR r F xs = R1 at *
    generalize rnF r F xs = M1 at *
    generalize rnH r F xs = h1 at *
    generalize rnE r F xs = e1 at *
    obtain ⟨n1, hn1⟩ : ∃ n1, M1.length = n1 := ⟨_, rfl⟩
    simp only [hn1] at HR1
    rw [hn1] at d3
    clear hn1
    obtain ⟨x1, x2, -, -⟩ := X0.out.cells
    go_enter Try.func6, Try.ntmps6
    go_wp2_with fail
    refine (HR1.out _ (HI.out.below HB0.out) (HJ.out.below HB0.out)).mono ?_
    rintro e w1 ⟨B1, d1', rfl, hI1, -, hb1⟩
    have Y1 := Lib.hid (Kb.new w1 R1 (.slice B1 n1 d1'))
    have HB1 : Hid (Below w.heap.size w (w1.alloc (ko R1 (.slice B1 n1 d1')))) := Lib.hid (bel_al (HB0.out.trans (hb1.mono HB0.out.size)) (Nat.le_trans HB0.out.size hb1.size) _)
    clear hI1 hb1 x1 x2
    go_wp2_with fail
    refine (begun_any _).mono ?_
    rintro e w3 ⟨rfl, hb3⟩
    have Y3 := Lib.hid (Y1.out.below hb3)
    have HB3 : Hid (Below w.heap.size w w3) := Lib.hid (HB1.out.trans (hb3.mono HB1.out.size))
    clear hb3
    obtain ⟨y1, y2, -, -⟩ := Y3.out.cells
    go_wp2
    go_ret
    exact ⟨rfl, HB3.out⟩

end Go.Proofs.Ytdliacdmoeogcaa.Lfu
