/-
  The walk of the law on a trace in two parts, for clocks.
-/
import Derived.Test.YtdcimkllonflkaaClockBegun
import Derived.Test.YtdcimkllonflkaaLruPartsLaw
namespace Go.Proofs.Ytdcimkllonflkaa.Clk
open Go.RowKit Go.Maps
open Lru (isRm isK keysE keysE_zero traceE trace_zero ints_lit step_append_ints own_made own_bel at_world own_alloc)
set_option linter.unusedVariables false
set_option maxRecDepth 100000

theorem Kb.ownI {w : World} {p base : Nat} {r h : Int} {v v' : Value} {L : List Int} (k : Kb w p r h v) (ho : OwnI w base v' L) : v'.ownBlock ≠ some p := by
  intro e
  rcases ho.2 with ⟨rfl, -⟩ | ⟨g, cap, cur, rfl, -, hg, -⟩
  · cases e
  · cases e
    have k : w.heap[g]? = some (.cells #[.int .i64 r, .int .i64 h, v] 24 (0, 0)) := k
    rw [hg] at k
    simp at k
theorem Kb.grownI {w w' : World} {p base : Nat} {r h : Int} {v v' : Value} {L : List Int} (k : Kb w p r h v) (ho : OwnI w base v' L) (hg : w.grownBy w' v'.ownBlock) : Kb w' p r h v := (hg.block p k.lt (fun e => k.ownI ho e.symm)).trans k
theorem Kb.put3 {w : World} {p : Nat} {r h : Int} {v : Value} (k : Kb w p r h v) (r' h' : Int) (v' : Value) : Kb (((w.setCell ⟨p, 0, none⟩ (.int .i64 r')).setCell ⟨p, 1, none⟩ (.int .i64 h')).setCell ⟨p, 2, none⟩ v') p r' h' v' := by
  have k : w.heap[p]? = some (.cells #[.int .i64 r, .int .i64 h, v] 24 (0, 0)) := k
  show (((w.setCell ⟨p, 0, none⟩ (.int .i64 r')).setCell ⟨p, 1, none⟩ (.int .i64 h')).setCell ⟨p, 2, none⟩ v').heap[p]? = _
  simp [World.setCell, Array.getElem?_modify, k]
theorem Kb.neF {w : World} {p : Nat} {r h : Int} {v : Value} {B : Option Addr} (k : Kb w p r h v) (hA : FA w B) : ∀ a, B = some a → p ≠ a.block := fun a ha e => by have := hA a ha; have := k.lt; omega
abbrev Zk (w : World) (p : Nat) : Prop := Kb w p 0 0 (.slice none 0 0)
section
variable (w : World)
theorem zk_new : Zk (w.alloc zk) w.heap.size := Kb.new w 0 0 _
theorem mk_ownA : OwnI (w.alloc (.cells #[] 3)).drew w.heap.size (.slice (some ⟨w.heap.size, 0, none⟩) 0 0) [] := own_bel (own_made w _ (Nat.le_refl _)) (Below.refl _ _).drew
theorem mk_ownB : OwnI ((w.alloc (.cells #[] 3)).alloc zk).drew w.heap.size (.slice (some ⟨w.heap.size, 0, none⟩) 0 0) [] := own_bel (own_made w _ (Nat.le_refl _)) (bel_al (Below.refl _ _) (Nat.le_refl _) _).drew
theorem mk_ownC : OwnI ((w.alloc zk).alloc (.cells #[] 3)).drew w.heap.size (.slice (some ⟨w.heap.size + 1, 0, none⟩) 0 0) [] := by
  have h := own_made (w.alloc zk) w.heap.size (by simp)
  rw [show (w.alloc zk).heap.size = w.heap.size + 1 by simp] at h
  exact own_bel h (Below.refl _ _).drew
theorem mk_zB : Zk ((w.alloc (.cells #[] 3)).alloc zk).drew (w.heap.size + 1) := by
  have h := zk_new (w.alloc (.cells #[] 3))
  rw [show (w.alloc (.cells #[] 3)).heap.size = w.heap.size + 1 by simp] at h
  exact h
theorem mk_zC : Zk ((w.alloc zk).alloc (.cells #[] 3)).drew w.heap.size := (zk_new w).alloc _
theorem mk_bA : Below w.heap.size w (w.alloc (.cells #[] 3)).drew := (bel_al (Below.refl _ _) (Nat.le_refl _) _).drew
theorem mk_bD : Below w.heap.size w (w.alloc zk).drew := (bel_al (Below.refl _ _) (Nat.le_refl _) _).drew
theorem mk_bB : Below w.heap.size w ((w.alloc (.cells #[] 3)).alloc zk).drew := (bel_al (bel_al (Below.refl _ _) (Nat.le_refl _) _) (by simp) _).drew
theorem mk_bC : Below w.heap.size w ((w.alloc zk).alloc (.cells #[] 3)).drew := (bel_al (bel_al (Below.refl _ _) (Nat.le_refl _) _) (by simp) _).drew
end

/-! ### The facts -/
theorem trace_parts {xs ys : List Int} (hx : traceE xs = 0) (hne : traceE ys ≠ traceE (xs ++ ys)) : traceE (xs ++ ys) = 2 := by
  have hx := (trace_zero.1 hx).2
  unfold traceE at hne ⊢
  by_cases h1 : 200 < (xs ++ ys).length
  · rw [if_pos h1]
  · exfalso
    have h2 : ¬ 200 < ys.length := by rw [List.length_append] at h1; omega
    rw [if_neg h1, if_neg h2] at hne
    apply hne
    have : (∀ x ∈ ys, isK x) ↔ (∀ x ∈ xs ++ ys, isK x) := ⟨fun h x hm => (List.mem_append.1 hm).elim (hx x) (h x), fun h x hm => h x (by simp [hm])⟩
    by_cases h3 : ∀ x ∈ ys, isK x
    · rw [if_pos h3, if_pos (this.1 h3)]
    · rw [if_neg h3, if_neg (fun hh => h3 (this.2 hh))]
theorem rn_zero {r h : Int} {F : List Fr} {xs : List Int} (e : rnE r h F xs = 0) : checkK r h F = 0 ∧ traceE xs = 0 := by
  unfold rnE at e
  split at e
  · exact ⟨by assumption, e⟩
  · exact absurd e (by assumption)
theorem rn_good {r h : Int} {F : List Fr} {xs : List Int} (e : rnE r h F xs = 0) : ∃ hn : Nat, h = (hn : Int) ∧ Good r (hn : Int) F ∧ Good r ((runC r (hn, F) xs).1 : Int) (runC r (hn, F) xs).2 ∧ xs.length ≤ 200 ∧ (∀ x ∈ xs, isK x) ∧
    rnR r h F xs = r ∧ rnP r h F xs = ((runC r (hn, F) xs).1 : Int) ∧ rnF r h F xs = (runC r (hn, F) xs).2 ∧ rnH r h F xs = (hitsC r (hn, F) xs : Int) := by
  obtain ⟨e1, e2⟩ := rn_zero e
  have g := check_zero.1 e1
  obtain ⟨hn, rfl⟩ := g.nat
  have t := trace_zero.1 e2
  refine ⟨hn, rfl, g, runC_good (s := (hn, F)) g t.2, t.1, t.2, ?_, ?_, ?_, ?_⟩
  · unfold rnR; rw [if_pos e]
  · unfold rnP; rw [if_pos e, Int.toNat_natCast]
  · unfold rnF; rw [if_pos e, Int.toNat_natCast]
  · unfold rnH; rw [if_pos e, Int.toNat_natCast]
theorem parts_facts {r h : Int} {F : List Fr} {xs ys : List Int} (e : rnE r h F xs = 0) : rnR r h F xs = r ∧ xs.length ≤ 200 ∧
    (rnE r (rnP r h F xs) (rnF r h F xs) ys = 0 → rnE r h F (xs ++ ys) = 0 → rnF r (rnP r h F xs) (rnF r h F xs) ys = rnF r h F (xs ++ ys) ∧ rnP r (rnP r h F xs) (rnF r h F xs) ys = rnP r h F (xs ++ ys) ∧ rnR r (rnP r h F xs) (rnF r h F xs) ys = rnR r h F (xs ++ ys) ∧ rnH r h F (xs ++ ys) = rnH r h F xs + rnH r (rnP r h F xs) (rnF r h F xs) ys) ∧
    ((rnE r (rnP r h F xs) (rnF r h F xs) ys ≠ 0 ∨ rnE r h F (xs ++ ys) ≠ 0) → rnE r (rnP r h F xs) (rnF r h F xs) ys ≠ rnE r h F (xs ++ ys) → rnE r h F (xs ++ ys) = 2) := by
  obtain ⟨hn, rfl, g, g2, hl, hk, e1, e2, e3, e4⟩ := rn_good e
  rw [e1, e2, e3, e4]
  refine ⟨rfl, hl, fun a b => ?_, fun _ hne => ?_⟩
  · unfold rnF rnP rnR rnH
    rw [if_pos a, if_pos b, if_pos a, if_pos b, if_pos a, if_pos b, if_pos a, if_pos b, Int.toNat_natCast, Int.toNat_natCast]
    rw [show ((runC r (hn, F) xs).1, (runC r (hn, F) xs).2) = runC r (hn, F) xs from rfl, runC_append, hitsC_append]
    exact ⟨rfl, rfl, rfl, by omega⟩
  · have z1 : rnE r ((runC r (hn, F) xs).1 : Int) (runC r (hn, F) xs).2 ys = traceE ys := by unfold rnE; rw [if_pos (check_zero.2 g2)]
    have z2 : rnE r (hn : Int) F (xs ++ ys) = traceE (xs ++ ys) := by unfold rnE; rw [if_pos (check_zero.2 g)]
    rw [z1, z2] at hne
    rw [z2]
    exact trace_parts (rn_zero e).2 hne
theorem bad_facts {r h : Int} {F : List Fr} {xs : List Int} (e : rnE r h F xs ≠ 0) : rnH r h F xs = 0 ∧ (rnF r h F xs).length = 0 := by
  unfold rnH rnF; rw [if_neg e, if_neg e]; exact ⟨rfl, rfl⟩
theorem rnH_bound (r h : Int) (F : List Fr) (xs : List Int) : 0 ≤ rnH r h F xs ∧ rnH r h F xs ≤ 200 := by
  by_cases e : rnE r h F xs = 0
  · obtain ⟨hn, rfl, g, g2, hl, hk, e1, e2, e3, e4⟩ := rn_good e
    rw [e4]
    have := hitsC_le r (hn, F) xs
    omega
  · rw [(bad_facts e).1]; omega

set_option maxHeartbeats 20000000 in
theorem clockParts_walk (r h : Int) (A : Option Addr) (c : Nat) (F : List Fr) (A1 : Option Addr) (c1 : Nat) (xs : List Int) (A2 : Option Addr) (c2 : Nat) (ys : List Int) (w : World) (hI : Frs w A c F) (hJ : Ints w A1 c1 xs) (hK : Ints w A2 c2 ys) (hz1 : xs.length ≤ 17592186043904) (hz2 : ys.length ≤ 17592186043904) :
    Calls Try.prog 4 #[kv r h (.slice A F.length c), .slice A1 xs.length c1, .slice A2 ys.length c2] w fun e w' => e = .returned (.bool true) ∧ Below w.heap.size w w' := by
  have X0 := Lib.hid (Kb.new w r h (.slice A F.length c))
  have HB0 : Hid (Below w.heap.size w (w.alloc (ko r h (.slice A F.length c)))) := Lib.hid (bel_al (Below.refl _ _) (Nat.le_refl _) _)
  have HI := Lib.hid hI
  have HJ := Lib.hid hJ
  have HK := Lib.hid hK
  have HR1 := Lib.hid (fun (W : World) (a : Frs W A c F) (b : Ints W A1 c1 xs) => run_any r h A c F A1 c1 xs W a b)
  have HLx : Hid (xs.length ≤ 9223372036854775807 ∧ ys.length ≤ 9223372036854775807) := Lib.hid ⟨hJ.len, hK.len⟩
  unfold NR at HR1
  clear hI hJ hK
  by_cases q1 : rnE r h F xs = 0
  · have HF := Lib.hid (parts_facts (ys := ys) q1)
    have d1 : (rnE r h F xs != 0) = false := by simp [q1]
    have HX2 := Lib.hid HF.out.2.1
    rw [HF.out.1] at HR1
    have HR2 := Lib.hid (fun (B : Option Addr) (d : Nat) (W : World) (a : Frs W B d (rnF r h F xs)) (b : Ints W A2 c2 ys) => run_any r (rnP r h F xs) B d (rnF r h F xs) A2 c2 ys W a b)
    have HR3 := Lib.hid (fun (B : Option Addr) (d : Nat) (W : World) (a : Frs W A c F) (b : Ints W B d (xs ++ ys)) => run_any r h A c F B d (xs ++ ys) W a b)
    unfold NR at HR2 HR3
    have hb1 := rnH_bound r h F xs
    have hb2 := rnH_bound r (rnP r h F xs) (rnF r h F xs) ys
    have HZ2 := Lib.hid hz2
    replace HF := Lib.hid HF.out.2.2
    clear q1 hz1 hz2
    generalize rnF r h F xs = M1 at *
    generalize rnP r h F xs = P1 at *
    generalize rnH r h F xs = h1 at *
    generalize rnE r h F xs = e1 at *
    generalize rnF r P1 M1 ys = M2 at *
    generalize rnP r P1 M1 ys = P2 at *
    generalize rnH r P1 M1 ys = h2 at *
    generalize rnE r P1 M1 ys = e2 at *
    generalize rnR r P1 M1 ys = R2 at *
    generalize rnF r h F (xs ++ ys) = M3 at *
    generalize rnP r h F (xs ++ ys) = P3 at *
    generalize rnH r h F (xs ++ ys) = h3 at *
    generalize rnE r h F (xs ++ ys) = e3 at *
    generalize rnR r h F (xs ++ ys) = R3 at *
    obtain ⟨m5, hm5⟩ : ∃ m5, (xs ++ ys).length = m5 := ⟨_, rfl⟩
    have HM5 := Lib.hid hm5
    simp only [hm5] at HR3
    obtain ⟨lx, hlx⟩ : ∃ lx, xs.length = lx := ⟨_, rfl⟩
    obtain ⟨ly, hly⟩ : ∃ ly, ys.length = ly := ⟨_, rfl⟩
    obtain ⟨lf, hlf⟩ : ∃ lf, F.length = lf := ⟨_, rfl⟩
    obtain ⟨l1, hl1⟩ : ∃ l1, M1.length = l1 := ⟨_, rfl⟩
    obtain ⟨l2, hl2⟩ : ∃ l2, M2.length = l2 := ⟨_, rfl⟩
    obtain ⟨l3, hl3⟩ : ∃ l3, M3.length = l3 := ⟨_, rfl⟩
    have HLX := Lib.hid hlx
    have HLY := Lib.hid hly
    have HL2 := Lib.hid hl2
    have HL3 := Lib.hid hl3
    simp only [hlx, hlf, hl1] at HR1
    simp only [hly, hl1, hl2] at HR2
    simp only [hlf, hl3] at HR3
    rw [hlf] at X0 HB0
    rw [hlx, hly, hlf]
    clear hm5 hlx hly hlf hl1 hl2 hl3
    obtain ⟨x1, x2, x3, -, -, -⟩ := X0.out.cells
    go_enter Try.func4, Try.ntmps4
    go_wp2_with fail
    refine (HR1.out _ (HI.out.below HB0.out) (HJ.out.below HB0.out)).mono ?_
    rintro e w1 ⟨B1, k1, rfl, hI1, -, hbb⟩
    have X1 := Lib.hid ((X0.out.below hbb).alloc (ko r P1 (.slice B1 l1 k1)))
    have Y1 := Lib.hid (Kb.new w1 r P1 (.slice B1 l1 k1))
    have I1 := Lib.hid (hI1.alloc (ko r P1 (.slice B1 l1 k1)))
    have HB1 : Hid (Below w.heap.size w (w1.alloc (ko r P1 (.slice B1 l1 k1)))) := Lib.hid (bel_al (HB0.out.trans (hbb.mono HB0.out.size)) (Nat.le_trans HB0.out.size hbb.size) _)
    clear hI1 hbb x1 x2 x3
    go_wp2_with fail
    refine (begun_any _).mono ?_
    rintro e w3 ⟨rfl, hb3⟩
    have X3 := Lib.hid (X1.out.below hb3)
    have Y3 := Lib.hid (Y1.out.below hb3)
    have I3 := Lib.hid (I1.out.below hb3)
    have HB3 : Hid (Below w.heap.size w w3) := Lib.hid (HB1.out.trans (hb3.mono HB1.out.size))
    clear hb3
    generalize w1.heap.size = p1 at *
    obtain ⟨y1, y2, y3, -, -, -⟩ := Y3.out.cells
    go_wp2_with fail
    refine (HR2.out B1 k1 _ I3.out (HK.out.below HB3.out)).mono ?_
    rintro e w4 ⟨B4, k4, rfl, hI4, -, hb4⟩
    have X4 := Lib.hid ((X3.out.below hb4).alloc (ko R2 P2 (.slice B4 l2 k4)))
    have Z4 := Lib.hid (Kb.new w4 R2 P2 (.slice B4 l2 k4))
    have I4 := Lib.hid (hI4.alloc (ko R2 P2 (.slice B4 l2 k4)))
    have HB4 : Hid (Below w.heap.size w (w4.alloc (ko R2 P2 (.slice B4 l2 k4)))) := Lib.hid (bel_al (HB3.out.trans (hb4.mono HB3.out.size)) (Nat.le_trans HB3.out.size hb4.size) _)
    clear hI4 hb4 y1 y2 y3
    go_upto_region 7 with fail
    generalize w4.heap.size = p4 at *
    generalize w4.alloc (ko R2 P2 (.slice B4 l2 k4)) = w5 at *
    go_cut [13, 14, 15] (fun s13 s14 s15 wx => ∃ p B d, s13 = .pointer (some ⟨p, 0, none⟩) ∧ s14 = .int .i64 h3 ∧ s15 = .int .i64 e3 ∧ Kb wx p R3 P3 (.slice B l3 d) ∧ Frs wx B d M3 ∧ Below w5.heap.size w5 wx)
    case first =>
      as_aux_lemma =>
        have HK5 : Hid (∀ w' : World, Below w5.heap.size w5 w' → w'.cell? ⟨w.heap.size, 0, none⟩ = some (.int .i64 r) ∧ w'.cell? ⟨w.heap.size, 1, none⟩ = some (.int .i64 h) ∧ w'.cell? ⟨w.heap.size, 2, none⟩ = some (.slice A lf c)) := Lib.hid (fun w' hb => by
          have := (X4.out.below hb).cells
          exact ⟨this.1, this.2.1, this.2.2.1⟩)
        have HJ5 : Hid (∀ w' : World, Below w5.heap.size w5 w' → Ints w' A1 c1 xs ∧ Ints w' A2 c2 ys ∧ Frs w' A c F) := Lib.hid (fun w' hb => ⟨(HJ.out.below HB4.out).below hb, (HK.out.below HB4.out).below hb, (HI.out.below HB4.out).below hb⟩)
        have HOA := Lib.hid (mk_ownA w5)
        have HOB := Lib.hid (mk_ownB w5)
        have HOC := Lib.hid (mk_ownC w5)
        have HZB := Lib.hid (mk_zB w5)
        have HZC := Lib.hid (mk_zC w5)
        have HBA := Lib.hid (mk_bA w5)
        have HBB := Lib.hid (mk_bB w5)
        have HBC := Lib.hid (mk_bC w5)
        have HBD := Lib.hid (mk_bD w5)
        have HL1 : Hid (([] : List Int).length + lx ≤ 17592186044416) := Lib.hid (by have := HX2.out; have := HLX.out; simp; omega)
        have HL2' : Hid (([] ++ xs : List Int).length + ly ≤ 17592186044416) := Lib.hid (by have := HX2.out; have := HLX.out; have := HZ2.out; have := HLY.out; simp; omega)
        have HME : Hid ((([] ++ xs) ++ ys : List Int).length = m5) := Lib.hid (by rw [List.nil_append]; exact HM5.out)
        have HR4 : Hid (∀ (B : Option Addr) (d : Nat) (W : World), Frs W A c F → Ints W B d (([] ++ xs) ++ ys) → _) := Lib.hid (by rw [List.nil_append]; exact HR3.out)
        go_wp2
        go_region_held3 (fun w' => w'.cell? ⟨w.heap.size, 0, none⟩ = some (.int .i64 r) ∧ w'.cell? ⟨w.heap.size, 1, none⟩ = some (.int .i64 h) ∧ w'.cell? ⟨w.heap.size, 2, none⟩ = some (.slice A lf c))
          (first | exact HK5.out _ (bel_set3 hBd hpz _ _ _) | exact HK5.out _ (bel_set3 (bel_al hBd hBd.size _) hBd.size _ _ _) | exact HK5.out _ (bel_al hBd hBd.size _) | exact HK5.out _ hBd | exact HK5.out _ (bel_al hBb hBb.size _) | exact HK5.out _ hBb | exact HK5.out _ (bel_al hBa hBa.size _) | exact HK5.out _ hBa | exact HK5.out _ HBB.out | exact HK5.out _ HBC.out | exact HK5.out _ HBA.out | exact HK5.out _ HBD.out | exact HK5.out _ (Below.refl _ _).drew)
          (first
            | ((with_reducible refine at_world (w5.alloc (.cells #[] 3)).drew ?_); refine step_append_ints (by rfl) _ _ (by rfl) w5.heap.size _ [] (by rfl) HOA.out A1 c1 lx xs HLX.out.symm (by rfl) (HJ5.out _ HBA.out).1 HL1.out HBA.out.size ?_; intro va wa hown6 hg6; have hBa := HBA.out.grown hg6 HBA.out.size (fun q hq => (HOA.out.lt q hq).1))
            | ((with_reducible refine at_world ((w5.alloc (.cells #[] 3)).alloc zk).drew ?_); refine step_append_ints (by rfl) _ _ (by rfl) w5.heap.size _ [] (by rfl) HOB.out A1 c1 lx xs HLX.out.symm (by rfl) (HJ5.out _ HBB.out).1 HL1.out HBB.out.size ?_; intro va wa hown6 hg6; have hBa := HBB.out.grown hg6 HBB.out.size (fun q hq => (HOB.out.lt q hq).1); have hza := HZB.out.grownI HOB.out hg6; have hpz : w5.heap.size ≤ w5.heap.size + 1 := Nat.le_succ _)
            | ((with_reducible refine at_world ((w5.alloc zk).alloc (.cells #[] 3)).drew ?_); refine step_append_ints (by rfl) _ _ (by rfl) w5.heap.size _ [] (by rfl) HOC.out A1 c1 lx xs HLX.out.symm (by rfl) (HJ5.out _ HBC.out).1 HL1.out HBC.out.size ?_; intro va wa hown6 hg6; have hBa := HBC.out.grown hg6 HBC.out.size (fun q hq => (HOC.out.lt q hq).1); have hza := HZC.out.grownI HOC.out hg6; have hpz : w5.heap.size ≤ w5.heap.size := Nat.le_refl _)
            | ((with_reducible refine at_world wa ?_); refine step_append_ints (by rfl) _ _ (by rfl) w5.heap.size _ ([] ++ xs) (by rfl) hown6 A2 c2 ly ys HLY.out.symm (by rfl) (HJ5.out _ hBa).2.1 HL2'.out hBa.size ?_; intro vb wb hown7 hg7; have hBb := hBa.grown hg7 hBa.size (fun q hq => (hown6.lt q hq).1); have hzb := hza.grownI hown6 hg7; obtain ⟨Bb, kb, rfl, hIb⟩ := ints_of_own hown7; rw [HME.out])
            | ((with_reducible refine at_world wa ?_); refine step_append_ints (by rfl) _ _ (by rfl) w5.heap.size _ ([] ++ xs) (by rfl) hown6 A2 c2 ly ys HLY.out.symm (by rfl) (HJ5.out _ hBa).2.1 HL2'.out hBa.size ?_; intro vb wb hown7 hg7; have hBb := hBa.grown hg7 hBa.size (fun q hq => (hown6.lt q hq).1); obtain ⟨Bb, kb, rfl, hIb⟩ := ints_of_own hown7; rw [HME.out])
            | ((with_reducible refine at_world (wa.alloc zk) ?_); have hBz := bel_al hBa hBa.size zk; have hownz := own_alloc hown6 zk; refine step_append_ints (by rfl) _ _ (by rfl) w5.heap.size _ ([] ++ xs) (by rfl) hownz A2 c2 ly ys HLY.out.symm (by rfl) (HJ5.out _ hBz).2.1 HL2'.out hBz.size ?_; intro vb wb hown7 hg7; have hBb := hBz.grown hg7 hBz.size (fun q hq => (hownz.lt q hq).1); have hzb := (zk_new wa).grownI hownz hg7; have hpz : w5.heap.size ≤ wa.heap.size := hBa.size; obtain ⟨Bb, kb, rfl, hIb⟩ := ints_of_own hown7; rw [HME.out])
            | (go_at_call 9; refine (HR4.out Bb kb wb (HJ5.out _ hBb).2.2 hIb).mono ?_; rintro e wd ⟨Bd, kd, rfl, hId, hAd, hbd⟩; have hBd := hBb.trans (hbd.mono hBb.size); have hzd := hzb.below hbd; have hne := hzb.neF hAd; obtain ⟨r0, r1, r2, f0, f1, f2⟩ := hzd.cells)
            | (go_at_call 9; refine (HR4.out Bb kb wb (HJ5.out _ hBb).2.2 hIb).mono ?_; rintro e wd ⟨Bd, kd, rfl, hId, hAd, hbd⟩; have hBd := hBb.trans (hbd.mono hBb.size))
            | (have hBy := bel_al hBb hBb.size zk; go_at_call 9; refine (HR4.out Bb kb (wb.alloc zk) (HJ5.out _ hBy).2.2 (hIb.alloc _)).mono ?_; rintro e wd ⟨Bd, kd, rfl, hId, hAd, hbd⟩; have hBd := hBy.trans (hbd.mono hBy.size); have hzd := (zk_new wb).below hbd; have hne := (zk_new wb).neF hAd; have hpz : w5.heap.size ≤ wb.heap.size := hBb.size; obtain ⟨r0, r1, r2, f0, f1, f2⟩ := hzd.cells))
        all_goals
          go_wp2
          go_meet
          first
            | exact ⟨_, Bd, kd, rfl, rfl, rfl, hzd.put3 _ _ _, hId.set3 hne _ _ _, bel_set3 hBd hpz _ _ _⟩
            | exact ⟨_, Bd, kd, rfl, rfl, rfl, Kb.new _ _ _ _, hId.alloc _, bel_al hBd hBd.size _⟩
    case rest =>
      as_aux_lemma =>
        obtain ⟨p6, B6, k6, rfl, rfl, rfl, hX6, hI6, hb6⟩ := hcut
        have X6 := Lib.hid hX6
        have I6 := Lib.hid hI6
        have Z6 := Lib.hid (Z4.out.below hb6)
        have J6 := Lib.hid (I4.out.below hb6)
        have HB6 : Hid (Below w.heap.size w wc) := Lib.hid (HB4.out.trans (hb6.mono HB4.out.size))
        clear hX6 hb6 hI6
        by_cases q2 : e2 = 0
        · have d2 : (e2 != 0) = false := by simp [q2]
          by_cases q3 : e3 = 0
          · have d3 : (e3 != 0) = false := by simp [q3]
            obtain ⟨f1, f2, f3, f4⟩ := HF.out.1 q2 q3
            subst f1 f2 f3
            have HS := Lib.hid (sameClock_eq R2 P2 B4 B6 k4 k6 M2 wc J6.out I6.out)
            rw [HL2.out] at HS
            have hl23 : l3 = l2 := HL3.out.symm.trans HL2.out
            subst hl23
            have hw : IntKind.i64.wrap (h1 + h2) = h1 + h2 := by rw [IntKind.wrap_i64]; omega
            have d4 : (h3 == h1 + h2) = true := by simpa using f4
            clear q2 q3 f4
            obtain ⟨x1, x2, x3, -, -, -⟩ := X6.out.cells
            obtain ⟨z1, z2, z3, -, -, -⟩ := Z6.out.cells
            go_wp2_with fail
            refine HS.out.mono ?_
            rintro e w7 ⟨rfl, hb7⟩
            have HB7 : Hid (Below w.heap.size w w7) := Lib.hid (HB6.out.trans (hb7.mono HB6.out.size))
            clear hb7 x1 x2 x3 z1 z2 z3
            go_wp2
            go_ret
            exact ⟨rfl, HB7.out⟩
          · have d3 : (e3 != 0) = true := by simpa using q3
            have d5 : (e2 == e3) = false := by simp [q2]; exact fun e => q3 e.symm
            have d6 : (e3 == 2) = true := by simpa using HF.out.2 (Or.inr q3) (by rw [q2]; exact fun e => q3 e.symm)
            clear q2 q3
            go_wp2
            go_ret
            exact ⟨rfl, HB6.out⟩
        · have d2 : (e2 != 0) = true := by simpa using q2
          by_cases q4 : e2 = e3
          · have d5 : (e2 == e3) = true := by simpa using q4
            clear q2 q4
            go_wp2
            go_ret
            exact ⟨rfl, HB6.out⟩
          · have d5 : (e2 == e3) = false := by simpa using q4
            have d6 : (e3 == 2) = true := by simpa using HF.out.2 (Or.inl q2) q4
            clear q2 q4
            go_wp2
            go_ret
            exact ⟨rfl, HB6.out⟩
  · have HE := Lib.hid (bad_facts q1)
    have d1 : (rnE r h F xs != 0) = true := by simpa using q1
    have d2 : (rnH r h F xs == 0) = true := by simpa using HE.out.1
    have d3 : (((rnF r h F xs).length : Int) == 0) = true := by have := HE.out.2; simp [this]
    clear q1
    generalize rnR r h F xs = R1 at *
    generalize rnP r h F xs = P1 at *
    generalize rnF r h F xs = M1 at *
    generalize rnH r h F xs = h1 at *
    generalize rnE r h F xs = e1 at *
    obtain ⟨n1, hn1⟩ : ∃ n1, M1.length = n1 := ⟨_, rfl⟩
    simp only [hn1] at HR1
    rw [hn1] at d3
    clear hn1
    obtain ⟨x1, x2, x3, -, -, -⟩ := X0.out.cells
    go_enter Try.func4, Try.ntmps4
    go_wp2_with fail
    refine (HR1.out _ (HI.out.below HB0.out) (HJ.out.below HB0.out)).mono ?_
    rintro e w1 ⟨B1, d1', rfl, hI1, -, hb1⟩
    have Y1 := Lib.hid (Kb.new w1 R1 P1 (.slice B1 n1 d1'))
    have HB1 : Hid (Below w.heap.size w (w1.alloc (ko R1 P1 (.slice B1 n1 d1')))) := Lib.hid (bel_al (HB0.out.trans (hb1.mono HB0.out.size)) (Nat.le_trans HB0.out.size hb1.size) _)
    clear hI1 hb1 x1 x2 x3
    go_wp2_with fail
    refine (begun_any _).mono ?_
    rintro e w3 ⟨rfl, hb3⟩
    have Y3 := Lib.hid (Y1.out.below hb3)
    have HB3 : Hid (Below w.heap.size w w3) := Lib.hid (HB1.out.trans (hb3.mono HB1.out.size))
    clear hb3
    obtain ⟨y1, y2, y3, -, -, -⟩ := Y3.out.cells
    go_wp2
    go_ret
    exact ⟨rfl, HB3.out⟩

end Go.Proofs.Ytdcimkllonflkaa.Clk
