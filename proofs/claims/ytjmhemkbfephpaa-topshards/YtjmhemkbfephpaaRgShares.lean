/-
  Package ring: Shares.
-/
import Derived.Test.YtjmhemkbfephpaaRgCheck
import Derived.Test.YtjmhemkbfephpaaRowInts
namespace Go.Proofs.Ytjmhemkbfephpaa.Rng
open Go.RowKit
open Two (RowI REO run_make_ints)
set_option linter.unusedVariables false
set_option maxRecDepth 100000

/-- The errors of Shares. -/
theorem shares_bad (A : Option Addr) (c : Nat) (F : List Pt) (n : Int) (w : World) (hF : Pts w A c F) (he : shE F n ≠ 0) :
    Calls Try.prog 11 #[.slice A F.length c, .int .i64 n] w (REO [] (shE F n) w) := by
  have hlen := hF.len
  have HC := Lib.hid (check_any A c F w hF)
  by_cases h1 : checkR F = 0
  · by_cases h2 : n < 1 ∨ 20 < n
    · rw [shE_range h1 h2]
      rw [h1] at HC
      clear he h1 hF
      generalize F.length = ln at *
      by_cases q : n < 1
      · have q1 : decide (n < 1) = true := by simpa using q
        clear q h2
        go_enter Try.func11, Try.ntmps11
        go_wp2_with fail
        refine HC.out.mono ?_
        rintro e w5 ⟨rfl, hb5⟩
        have HB5 := Lib.hid hb5
        clear hb5
        go_wp2
        go_ret2
        exact ⟨_, rfl, Two.own_none _ _, HB5.out⟩
      · have q1 : decide (n < 1) = false := by simpa using q
        have q2 : decide (20 < n) = true := by simp; omega
        clear q h2
        go_enter Try.func11, Try.ntmps11
        go_wp2_with fail
        refine HC.out.mono ?_
        rintro e w5 ⟨rfl, hb5⟩
        have HB5 := Lib.hid hb5
        clear hb5
        go_wp2
        go_ret2
        exact ⟨_, rfl, Two.own_none _ _, HB5.out⟩
    · by_cases h3 : F.length = 0
      · rw [shE_none h1 h2 h3]
        rw [h1, h3] at HC
        rw [h3]
        have q1 : decide (n < 1) = false := by simp; omega
        have q2 : decide (20 < n) = false := by simp; omega
        clear he h1 h2 h3 hF hlen
        go_enter Try.func11, Try.ntmps11
        go_wp2_with fail
        refine HC.out.mono ?_
        rintro e w5 ⟨rfl, hb5⟩
        have HB5 := Lib.hid hb5
        clear hb5
        go_wp2
        go_ret2
        exact ⟨_, rfl, Two.own_none _ _, HB5.out⟩
      · exact absurd (shE_ok h1 h2 h3) he
  · rw [shE_check h1]
    have hq : (checkR F == 0) = false := by simpa using h1
    have hq2 : decide (checkR F = 0) = false := by simpa using h1
    clear h1 hF he
    generalize checkR F = qe at *
    generalize F.length = ln at *
    go_enter Try.func11, Try.ntmps11
    go_wp2_with fail
    refine HC.out.mono ?_
    rintro e w5 ⟨rfl, hb5⟩
    have HB5 := Lib.hid hb5
    clear hb5
    go_wp2
    go_ret2
    exact ⟨_, rfl, Two.own_none _ _, HB5.out⟩

set_option maxHeartbeats 4000000 in
theorem shares_ok (A : Option Addr) (c : Nat) (F : List Pt) (n : Nat) (w : World) (hF : Pts w A c F) (he : shE F (n : Int) = 0) :
    Calls Try.prog 11 #[.slice A F.length c, .int .i64 (n : Int)] w (REO (shL F (n : Int)) 0 w) := by
  have hlen := hF.len
  have HC := Lib.hid (check_any A c F w hF)
  have h1 : checkR F = 0 := Classical.byContradiction fun h => h ((shE_check (n := (n : Int)) h).symm.trans he)
  have h2 : ¬ ((n : Int) < 1 ∨ 20 < (n : Int)) := fun h => by rw [shE_range h1 h] at he; cases he
  have h3 : ¬ F.length = 0 := fun h => by rw [shE_none h1 h2 h] at he; cases he
  have HG := Lib.hid (check_zero.1 h1)
  have hs : shL F (n : Int) = stR F n F.length := by have := shL_ok HG.out h3 he; rwa [Int.toNat_natCast] at this
  have HSL := Lib.hid hs
  have HF := Lib.hid hF
  have hfew := HG.out.few
  rw [h1] at HC
  obtain ⟨ln, hln⟩ : ∃ ln, F.length = ln := ⟨_, rfl⟩
  have HLN := Lib.hid hln
  rw [hln] at HC hlen h3 hfew ⊢
  have q1 : decide ((n : Int) < 1) = false := by simp; omega
  have q1' : decide (n < 1) = false := by simp; omega
  have q2 : decide ((20 : Int) < (n : Int)) = false := by simp; omega
  have q2' : decide (20 < n) = false := by simp; omega
  have q3 : ((ln : Int) == 0) = false := by rw [beq_eq_false_iff_ne]; omega
  have q3' : decide ((ln : Int) = 0) = false := by simp; omega
  have hn20 : n ≤ 20 := by omega
  have hmk := run_make_ints n (by omega)
  have hw1 : IntKind.i64.wrap ((ln : Int) - 1) = ((ln - 1 : Nat) : Int) := by rw [IntKind.wrap_i64]; omega
  have hl1 : ((ln - 1 : Nat) : Int) < (ln : Int) := by omega
  have hl2 : (0 : Int) ≤ ((ln - 1 : Nat) : Int) := by omega
  have HLL : Hid (ln - 1 < F.length) := Lib.hid (by omega)
  have hb0 := preAt_bd HG.out (k := 0) (by omega) (by omega)
  have HP0 : Hid (preAt F 0 = (gp F (ln - 1)).at_ - 65536) := Lib.hid (by rw [preAt_zero, hln])
  have hw2 : IntKind.i64.wrap ((gp F (ln - 1)).at_ - 65536) = preAt F 0 := by rw [← HP0.out, IntKind.wrap_i64]; omega
  generalize hlm : ln - 1 = lm at *
  clear h1 h2 hs hF hln he hb0 hlm
  go_enter Try.func11, Try.ntmps11
  go_wp2_with fail
  refine HC.out.mono ?_
  rintro e w5 ⟨rfl, hb5⟩
  have HB5 := Lib.hid hb5
  clear hb5
  replace hmk := hmk w5
  have HRo : Hid (RowI (w5.alloc (.cells (Array.replicate n (Value.int .i64 0)) 3)) w5.heap.size (stR F n 0)) := Lib.hid (by rw [stR_zero]; exact RowI.new w5 n)
  have HBo : Hid (Below w5.heap.size w (w5.alloc (.cells (Array.replicate n (Value.int .i64 0)) 3)) → True) := Lib.hid (fun _ => trivial)
  have HB6 : Hid (Below w.heap.size w (w5.alloc (.cells (Array.replicate n (Value.int .i64 0)) 3))) := Lib.hid (bel_al HB5.out HB5.out.size _)
  have HF6 := Lib.hid (HF.out.below HB6.out)
  have HGe : Hid (w.heap.size ≤ w5.heap.size) := Lib.hid HB5.out.size
  have HFo : Hid (∀ a, A = some a → a.block < w5.heap.size) := Lib.hid (fun a ha => by
    obtain ⟨b, o, e, ht⟩ := HF.out.2.2.2 (by have := HLL.out; omega)
    rw [ha] at e; cases e
    exact Nat.lt_of_lt_of_le ht.1 HGe.out)
  obtain ⟨b, o, rfl, e1, e2⟩ := HF6.out.pt HLL.out
  clear HBo e2
  generalize (gp F lm).at_ = la at *
  go_wp2
  generalize w5.alloc (.cells (Array.replicate n (Value.int .i64 0)) 3) = w6 at *
  obtain ⟨g, hg⟩ : ∃ g, w5.heap.size = g := ⟨_, rfl⟩
  rw [hg] at HRo HGe HFo ⊢
  clear hg hmk e1 HF6
  have HPre : Hid (∀ k, k ≤ ln → -65536 ≤ preAt F k ∧ preAt F k ≤ 65535) := Lib.hid (fun k hk => preAt_bd HG.out (by rw [HLN.out]; exact hk) (by rw [HLN.out]; omega))
  have HStr : Hid (∀ i k, k ≤ ln → -(131072 * (k : Int)) ≤ strS F i k ∧ strS F i k ≤ 131072 * (k : Int)) := Lib.hid (fun i k hk => strS_bd HG.out i k (by rw [HLN.out]; exact hk))
  go_loopw [8, 37] (fun p i wr => ∃ k : Nat, k ≤ ln ∧ p = .int .i64 (preAt F k) ∧ i = .int .i64 (k : Int) ∧ Hid (RowI wr g (stR F n k)) ∧ Hid (Below w.heap.size w wr)) (fun _ i _ => ln - (intOf i).toNat)
  case atStart => exact ⟨0, by omega, rfl, rfl, HRo, HB6⟩
  case round =>
    obtain ⟨k, hk, rfl, rfl, HR, HBr⟩ := hrel
    by_cases hlt : k < ln
    · have hin : (k : Int) < (ln : Int) := by omega
      have hiB : (0 : Int) ≤ (k : Int) := by omega
      have HFr := Lib.hid (HF.out.below HBr.out)
      have HKL : Hid (k < F.length) := Lib.hid (by rw [HLN.out]; exact hlt)
      obtain ⟨b', o', he, e1, e2⟩ := HFr.out.pt HKL.out
      cases he
      have HOKp := Lib.hid (HG.out.ok _ (gp_mem HKL.out))
      have HIa : Hid (Sb (wr.alloc (fo (gp F k))) wr.heap.size (gp F k)) := Lib.hid (Sb.new wr _)
      have HBa : Hid (Below w.heap.size w (wr.alloc (fo (gp F k)))) := Lib.hid (bel_al HBr.out HBr.out.size _)
      have HRa : Hid (RowI (wr.alloc (fo (gp F k))) g (stR F n k)) := Lib.hid (HR.out.below ((Below.refl wr.heap.size wr).alloc (Nat.le_refl _) _) HR.out.lt)
      have HPS : Hid (preAt F (k + 1) = (gp F k).at_) := Lib.hid rfl
      have HSo := Lib.hid (fun (h : ¬ (gp F k).sh < (n : Int)) => stR_out h)
      have HSi := Lib.hid (fun (j : Nat) (hj : (gp F k).sh = (j : Int)) (h : j < n) => stR_in hj h)
      have hpb := HPre.out k hk
      obtain ⟨j, hj⟩ : ∃ j : Nat, (gp F k).sh = (j : Int) := ⟨(gp F k).sh.toNat, by have := HOKp.out.1.1; omega⟩
      have hab := HOKp.out.2
      have hsb := HStr.out (j : Int) k hk
      rw [hj] at HSo e2
      replace HSi := Lib.hid (HSi.out j hj)
      generalize preAt F k = pre at *
      rw [show fo (gp F k) = fo ⟨(gp F k).at_, (j : Int)⟩ by rw [← hj]] at HIa HBa HRa
      have HIc : Hid (Sb (wr.alloc (fo ⟨(gp F k).at_, (j : Int)⟩)) wr.heap.size ⟨(gp F k).at_, (j : Int)⟩) := Lib.hid (Sb.new wr _)
      clear HIa HOKp
      generalize (gp F k).at_ = at0 at *
      obtain ⟨i0, i1⟩ := HIc.out.cells
      dsimp only at i0 i1
      by_cases q : j < n
      · have d1 : decide ((j : Int) < (n : Int)) = true := by simp; omega
        have d1' : decide (j < n) = true := by simpa using q
        have hjn : (j : Int) < (n : Int) := by omega
        have hjn0 : (0 : Int) ≤ (j : Int) := by omega
        have HS := Lib.hid (HSi.out q)
        have c4 := HRa.out.cell (j := j) (by rw [stR_len]; exact q)
        have f4 := HRa.out.frozen j
        have hgj : gi (stR F n k) j = strS F (j : Int) k := stR_get q
        rw [hgj] at c4
        have wr1 : IntKind.i64.wrap (at0 - pre) = at0 - pre := by rw [IntKind.wrap_i64]; omega
        have wr2 : IntKind.i64.wrap (strS F (j : Int) k + (at0 - pre)) = strS F (j : Int) k + (at0 - pre) := by rw [IntKind.wrap_i64]; omega
        clear hgj hsb hab hpb
        generalize strS F (j : Int) k = xs at *
        go_wp2
        have HG6 : Hid (g < wr.heap.size) := Lib.hid HR.out.lt
        obtain ⟨pp, hpp⟩ : ∃ pp, wr.heap.size = pp := ⟨_, rfl⟩
        have HPP := Lib.hid hpp
        rw [hpp] at i0 i1 HG6 ⊢
        clear hpp HIc
        generalize wr.alloc (fo ⟨at0, (j : Int)⟩) = w2 at *
        go_still_tail 11, (by kernel_rfl)
        change wpList _ _ _ _ _ w2.drew
        have HR3 : Hid (RowI w2.drew g (stR F n k)) := Lib.hid HRa.out
        have HB3 : Hid (Below w.heap.size w w2.drew) := Lib.hid HBa.out.drew
        have c6 : w2.drew.cell? ⟨g, j, none⟩ = some (.int .i64 xs) := c4
        have f6 : w2.drew.frozen? ⟨g, j, none⟩ = false := f4
        have i6 : w2.drew.cell? ⟨pp, 0, none⟩ = some (.int .i64 at0) := i0
        clear c4 f4 i0 i1 HRa HBa
        generalize w2.drew = w7 at *
        have i7 : (w7.setCell ⟨g, j, none⟩ (.int .i64 (xs + (at0 - pre)))).cell? ⟨pp, 0, none⟩ = some (.int .i64 at0) := (World.cell?_of_block (w := w7) (a := ⟨pp, 0, none⟩) (Below.heap_setCell w7 ⟨g, j, none⟩ _ pp (by have := HG6.out; show pp ≠ g; omega))).trans i6
        have HR5 : Hid (RowI (w7.setCell ⟨g, j, none⟩ (.int .i64 (xs + (at0 - pre)))) g (stR F n (k + 1))) := Lib.hid (by rw [HS.out]; exact HR3.out.set j _)
        have HB5' : Hid (Below w.heap.size w (w7.setCell ⟨g, j, none⟩ (.int .i64 (xs + (at0 - pre))))) := Lib.hid (bel_set HB3.out (a := ⟨g, j, none⟩) HGe.out _)
        go_wp2
        go_roundw
        case rel => exact ⟨k + 1, by omega, by rw [HPS.out], by go_num, HR5, HB5'⟩
        case measure => simp [intOf]; omega
      · have d1 : decide ((j : Int) < (n : Int)) = false := by simp; omega
        have d1' : decide (j < n) = false := by simpa using q
        have HS : Hid (RowI (wr.alloc (fo ⟨at0, (j : Int)⟩)) g (stR F n (k + 1))) := Lib.hid (by rw [HSo.out (by omega)]; exact HRa.out)
        go_wp2
        go_roundw
        case rel => exact ⟨k + 1, by omega, by rw [HPS.out], by go_num, HS, HBa⟩
        case measure => simp [intOf]; omega
    · obtain rfl : k = ln := by omega
      have ho := HR.out.own w.heap.size HGe.out (by rw [stR_len]; omega)
      rw [HLN.out] at HSL
      rw [stR_len, ← HSL.out] at ho
      have HO := Lib.hid ho
      clear ho
      go_wp2
      go_ret2
      exact ⟨_, rfl, HO.out, HBr.out⟩

end Go.Proofs.Ytjmhemkbfephpaa.Rng
