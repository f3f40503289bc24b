/-
  Package clock: moveHand, replace, use.
-/
import Derived.Test.YtmhhiddnkdcflaaClockWalks
import Derived.BigQuiet
namespace Go.Proofs.Ytmhhiddnkdcflaa.Clk
open Go.RowKit
open Lru (isRm isK keysE keysE_zero traceE trace_zero)
set_option linter.unusedVariables false
set_option maxRecDepth 100000

theorem moveHand_any (p : Nat) (r : Int) (h : Nat) (A : Option Addr) (n c : Nat) (w : World) (K : Kb w p r (h : Int) (.slice A n c)) (hn : 0 < n) (hm : n ≤ 1048576) (hh : h < n) :
    Calls Try.prog 60 #[.pointer (some ⟨p, 0, none⟩)] w fun e w' => e = .returned (.tuple #[]) ∧ w' = (w.setCell ⟨p, 1, none⟩ (.int .i64 (((h + 1) % n : Nat) : Int))).drew := by
  obtain ⟨x1, x2, x3, y1, y2, y3⟩ := K.cells
  have hw : IntKind.i64.wrap ((h : Int) + 1) = (h : Int) + 1 := by rw [IntKind.wrap_i64]; omega
  have hn0 : ¬ (n : Int) = 0 := by omega
  have hn1 : ¬ n = 0 := by omega
  have hq : ((h : Int) + 1).tmod (n : Int) = (((h + 1) % n : Nat) : Int) := rfl
  have hlt : (h + 1) % n < n := Nat.mod_lt _ hn
  have hw2 : IntKind.i64.wrap (((h + 1) % n : Nat) : Int) = (((h + 1) % n : Nat) : Int) := by rw [IntKind.wrap_i64]; omega
  generalize (h + 1) % n = q at *
  clear hn hm hh hlt K
  go_enter Try.func60, Try.ntmps60
  go_still_tail 14, (by kernel_rfl)
  change wpList _ _ _ _ _ w.drew
  go_wp2
  exact bodyPost_end (v := .tuple #[]) (by kernel_rfl) rfl ⟨rfl, rfl⟩

/-- How many frames of a row are used. -/
def usedW (w : World) (g n : Nat) : Nat := (List.range n).countP (fun i => match w.cell? ⟨g, i * 2 + 1, none⟩ with | some (.bool b) => b | _ => false)
theorem used_cnt {w : World} {base g n c : Nat} {F : List Fr} (h : OwnF w base (.slice (some ⟨g, 0, none⟩) n c) F) (hn : F.length = n) : usedW w g n = cnt F := by
  have e : F = (List.range n).map (gf F) := by
    apply List.ext_getElem
    · simp [hn]
    · intro i h1 h2
      rw [List.getElem_map, List.getElem_range, gf_get h1]
  unfold usedW cnt
  conv => rhs; rw [e, List.countP_map]
  apply List.countP_congr
  intro i hi
  have hi' : i < F.length := by rw [hn]; simpa using hi
  rw [(h.cells hn.symm hi').2.1]
  rfl
theorem bel_drewN {B : Nat} {w w' : World} (h : Below B w w') (n : Nat) : Below B w (w'.drewN n) := h.trans ⟨rfl, rfl, rfl, Nat.le_refl _, fun _ _ => rfl⟩
theorem bel_drew {B : Nat} {w w' : World} (h : Below B w w') : Below B w w'.drew := h.drew

set_option maxHeartbeats 2000000 in
theorem replace_any (base p : Nat) (r : Int) (h g n c : Nat) (F : List Fr) (x : Int) (w : World) (K : Kb w p r (h : Int) (.slice (some ⟨g, 0, none⟩) n c)) (O : OwnF w base (.slice (some ⟨g, 0, none⟩) n c) F) (hp : base ≤ p) (hg : base ≤ g) (hn : F.length = n) (h40 : n ≤ 40) (hh : h < n) :
    Calls Try.prog 49 #[.pointer (some ⟨p, 0, none⟩), .int .i64 x] w fun e w' => e = .returned (.int .i64 (gon (h, F))) ∧ Kb w' p r ((rep (h, F) x).1 : Int) (.slice (some ⟨g, 0, none⟩) n c) ∧ OwnF w' base (.slice (some ⟨g, 0, none⟩) n c) (rep (h, F) x).2 ∧ Below base w w' := by
  have HK := Lib.hid K
  have HO := Lib.hid O
  have HP := Lib.hid hp
  have HG := Lib.hid hg
  have HN := Lib.hid hn
  clear K O hp hg hn
  go_enter Try.func49, Try.ntmps49
  go_wp2
  go_loopw [16] (fun _ wr => ∃ f h' F', F'.length = n ∧ h' < n ∧ cnt F' ≤ f ∧ Hid (spin f h' F' = spin n h F) ∧ Hid (Kb wr p r ((h' : Nat) : Int) (.slice (some ⟨g, 0, none⟩) n c)) ∧ Hid (OwnF wr base (.slice (some ⟨g, 0, none⟩) n c) F') ∧ Hid (Below base w wr)) (fun _ wr => usedW wr g n)
  case atStart => exact ⟨n, h, F, HN.out, hh, by have := cnt_le F; have := HN.out; omega, Lib.hid rfl, HK, HO, Lib.hid (Below.refl _ _)⟩
  case round =>
    obtain ⟨f, h', F', hl, hh', hc, HS, HKr, HOr, HBr⟩ := hrel
    obtain ⟨x1, x2, x3, y1, y2, y3⟩ := HKr.out.cells
    obtain ⟨z1, z2, z3, z4⟩ := HOr.out.cells hl.symm (i := h') (by omega)
    have i1 : (h' : Int) < (n : Int) := by omega
    have i2 : (0 : Int) ≤ (h' : Int) := by omega
    by_cases hu : (gf F' h').used = true
    · rw [hu] at z2
      have HU := Lib.hid hu
      have HF : Hid (cnt (F'.set h' ⟨(gf F' h').key, false⟩) + 1 = cnt F') := Lib.hid (cnt_set (by omega) hu)
      obtain ⟨f', rfl⟩ : ∃ f', f = f' + 1 := ⟨f - 1, by have := HF.out; omega⟩
      have HS2 : Hid (spin f' ((h' + 1) % n) (F'.set h' ⟨(gf F' h').key, false⟩) = spin n h F) := Lib.hid (by rw [← HS.out, spin_go hu, hl])
      have HM : Hid (usedW wr g n = cnt F') := Lib.hid (used_cnt HOr.out hl)
      clear hu
      go_wp2_with fail
      go_quiet (fail)
      have HB1 := Lib.hid (bel_drewN HBr.out nq)
      have HK1 : Hid (Kb (wr.drewN nq) p r (h' : Int) (.slice (some ⟨g, 0, none⟩) n c)) := HKr
      have HO1 : Hid (OwnF (wr.drewN nq) base (.slice (some ⟨g, 0, none⟩) n c) F') := HOr
      clear x1 x2 x3 y1 y2 y3 z1 z2 z3 z4
      generalize (wr.drewN nq) = w1 at *
      obtain ⟨x1, x2, x3, y1, y2, y3⟩ := HK1.out.cells
      obtain ⟨z1, z2, z3, z4⟩ := HO1.out.cells hl.symm (i := h') (by omega)
      go_wp2_with fail
      go_still_tail 10, (by kernel_rfl)
      change wpList _ _ _ _ _ w1.drew
      have HO2 := Lib.hid (HO1.out.putU hl.symm (i := h') (by omega) false)
      have HK2 := Lib.hid (HK1.out.other (a := ⟨g, h' * 2 + 1, none⟩) (fun e => HK1.out.own HO1.out (by rw [e]; rfl)) (.bool false))
      have HB2 := Lib.hid (bel_set HB1.out (a := ⟨g, h' * 2 + 1, none⟩) HG.out (.bool false))
      have HMo := Lib.hid (fun W (hW : Kb W p r (h' : Int) (.slice (some ⟨g, 0, none⟩) n c)) => moveHand_any p r h' (some ⟨g, 0, none⟩) n c W hW (by omega) (by omega) hh')
      go_wp2_with fail
      refine (HMo.out _ HK2.out.drew).mono ?_
      rintro e w2 ⟨rfl, rfl⟩
      have HK3 : Hid (Kb (((w1.setCell ⟨g, h' * 2 + 1, none⟩ (.bool false)).drew.setCell ⟨p, 1, none⟩ (.int .i64 (((h' + 1) % n : Nat) : Int))).drew) p r (((h' + 1) % n : Nat) : Int) (.slice (some ⟨g, 0, none⟩) n c)) := Lib.hid (Kb.drew (HK2.out.drew.setH _))
      have HO3 : Hid (OwnF (((w1.setCell ⟨g, h' * 2 + 1, none⟩ (.bool false)).drew.setCell ⟨p, 1, none⟩ (.int .i64 (((h' + 1) % n : Nat) : Int))).drew) base (.slice (some ⟨g, 0, none⟩) n c) (F'.set h' ⟨(gf F' h').key, false⟩)) := Lib.hid (OwnF.drew (OwnF.set HO2.out.drew (HK2.out.own HO2.out) 1 _))
      have HB3 : Hid (Below base w (((w1.setCell ⟨g, h' * 2 + 1, none⟩ (.bool false)).drew.setCell ⟨p, 1, none⟩ (.int .i64 (((h' + 1) % n : Nat) : Int))).drew)) := Lib.hid (bel_drew (bel_set (bel_drew HB2.out) (a := ⟨p, 1, none⟩) HP.out _))
      clear x1 x2 x3 y1 y2 y3 z1 z2 z3 z4
      generalize (((w1.setCell ⟨g, h' * 2 + 1, none⟩ (.bool false)).drew.setCell ⟨p, 1, none⟩ (.int .i64 (((h' + 1) % n : Nat) : Int))).drew) = w3 at *
      go_wp2
      go_roundw
      case rel => exact ⟨f', (h' + 1) % n, F'.set h' ⟨(gf F' h').key, false⟩, by rw [List.length_set]; exact hl, Nat.mod_lt _ (by omega), by have := HF.out; omega, HS2, HK3, HO3, HB3⟩
      case measure => rw [HM.out, used_cnt HO3.out (by rw [List.length_set]; exact hl)]; have := HF.out; omega
    · have hu' : (gf F' h').used = false := by simpa using hu
      rw [hu'] at z2
      have HSp : Hid (spin n h F = (h', F')) := Lib.hid (by rw [← HS.out]; exact spin_stop hu')
      have HG1 : Hid (gon (h, F) = (gf F' h').key) := Lib.hid (by unfold gon; show (gf (spin F.length h F).2 (spin F.length h F).1).key = _; rw [HN.out, HSp.out])
      have HR1 : Hid (rep (h, F) x = ((h' + 1) % n, F'.set h' ⟨x, false⟩)) := Lib.hid (by unfold rep; show (((spin F.length h F).1 + 1) % F.length, (spin F.length h F).2.set (spin F.length h F).1 ⟨x, false⟩) = _; rw [HN.out, HSp.out])
      clear hu hu'
      go_wp2_with fail
      go_quiet (fail)
      have HB1 := Lib.hid (bel_drewN HBr.out nq)
      have HK1 : Hid (Kb (wr.drewN nq) p r (h' : Int) (.slice (some ⟨g, 0, none⟩) n c)) := HKr
      have HO1 : Hid (OwnF (wr.drewN nq) base (.slice (some ⟨g, 0, none⟩) n c) F') := HOr
      clear x1 x2 x3 y1 y2 y3 z1 z2 z3 z4
      generalize (wr.drewN nq) = w1 at *
      obtain ⟨x1, x2, x3, y1, y2, y3⟩ := HK1.out.cells
      obtain ⟨z1, z2, z3, z4⟩ := HO1.out.cells hl.symm (i := h') (by omega)
      generalize (gf F' h').key = ky at *
      go_wp2_with fail
      go_quiet (fail)
      have HB2 := Lib.hid (bel_drewN HB1.out nq)
      have HK2 : Hid (Kb (w1.drewN nq) p r (h' : Int) (.slice (some ⟨g, 0, none⟩) n c)) := HK1
      have HO2 : Hid (OwnF (w1.drewN nq) base (.slice (some ⟨g, 0, none⟩) n c) F') := HO1
      clear x1 x2 x3 y1 y2 y3 z1 z2 z3 z4
      generalize (w1.drewN nq) = w2 at *
      obtain ⟨x1, x2, x3, y1, y2, y3⟩ := HK2.out.cells
      obtain ⟨z1, z2, z3, z4⟩ := HO2.out.cells hl.symm (i := h') (by omega)
      go_wp2_with fail
      go_still_tail 11, (by kernel_rfl)
      change wpList _ _ _ _ _ w2.drew
      have HO3 := Lib.hid (HO2.out.put hl.symm (i := h') ⟨x, false⟩)
      have HK3 := Lib.hid ((HK2.out.other (a := ⟨g, h' * 2, none⟩) (fun e => HK2.out.own HO2.out (by rw [e]; rfl)) (.int .i64 x)).other (a := ⟨g, h' * 2 + 1, none⟩) (fun e => HK2.out.own HO2.out (by rw [e]; rfl)) (.bool false))
      have HB3 := Lib.hid (bel_set (bel_set HB2.out (a := ⟨g, h' * 2, none⟩) HG.out (.int .i64 x)) (a := ⟨g, h' * 2 + 1, none⟩) HG.out (.bool false))
      have HMo := Lib.hid (fun W (hW : Kb W p r (h' : Int) (.slice (some ⟨g, 0, none⟩) n c)) => moveHand_any p r h' (some ⟨g, 0, none⟩) n c W hW (by omega) (by omega) hh')
      go_wp2_with fail
      refine (HMo.out _ HK3.out.drew).mono ?_
      rintro e w3 ⟨rfl, rfl⟩
      have HK4 := Lib.hid (Kb.drew (HK3.out.drew.setH (((h' + 1) % n : Nat) : Int)))
      have HO4 := Lib.hid (OwnF.drew (OwnF.set HO3.out.drew (HK3.out.own HO3.out) 1 (.int .i64 (((h' + 1) % n : Nat) : Int))))
      have HB4 := Lib.hid (bel_drew (bel_set (bel_drew HB3.out) (a := ⟨p, 1, none⟩) HP.out (.int .i64 (((h' + 1) % n : Nat) : Int))))
      go_wp2
      go_ret
      exact ⟨ret_int HG1.out.symm, by rw [HR1.out]; exact HK4.out, by rw [HR1.out]; exact HO4.out, HB4.out⟩

end Go.Proofs.Ytmhhiddnkdcflaa.Clk
