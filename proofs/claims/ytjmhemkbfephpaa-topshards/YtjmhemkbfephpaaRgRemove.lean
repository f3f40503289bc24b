/-
  Package ring: Remove.
-/
import Derived.Test.YtjmhemkbfephpaaRgCheck
import Derived.Test.YtjmhemkbfephpaaRgAppend
namespace Go.Proofs.Ytjmhemkbfephpaa.Rng
open Go.RowKit
set_option linter.unusedVariables false
set_option maxRecDepth 100000

/-- What a function gives that returns a row of points of the call's own and an error. -/
def RP (L : List Pt) (e : Int) (w : World) (x : Ending) (w' : World) : Prop :=
  ∃ v, x = .returned (.tuple #[v, .int .i64 e]) ∧ OwnP w' w.heap.size v L ∧ Below w.heap.size w w'

set_option maxHeartbeats 4000000 in
theorem remove_any (A : Option Addr) (c : Nat) (F : List Pt) (x : Int) (w : World) (hF : Pts w A c F) :
    Calls Try.prog 10 #[.slice A F.length c, .int .i64 x] w (RP (reL F x) (reE F x) w) := by
  have hlen := hF.len
  have HC := Lib.hid (check_any A c F w hF)
  have HF := Lib.hid hF
  by_cases h1 : checkR F = 0
  · have HG := check_zero.1 h1
    have hfew := HG.few
    have HT : Hid (remP F x = remP (F.take F.length) x) := Lib.hid (by rw [List.take_length])
    have HN := Lib.hid (fun h => reE_none (s := x) h1 h)
    have HK := Lib.hid (fun h => reE_ok (s := x) h1 h)
    have HLE : Hid (∀ k, (remP (F.take k) x).length ≤ 60) := Lib.hid (fun k => by have := rem_len (L := F) (s := x) k; omega)
    obtain ⟨ln, hln⟩ : ∃ ln, F.length = ln := ⟨_, rfl⟩
    have HLN := Lib.hid hln
    rw [h1] at HC
    rw [hln] at HC hlen HT HN HK hfew ⊢
    clear h1 HG hF hln
    go_enter Try.func10, Try.ntmps10
    go_wp2_with fail
    refine HC.out.mono ?_
    rintro e w5 ⟨rfl, hb5⟩
    have HB5 := Lib.hid hb5
    clear hb5
    go_wp2
    go_loopw [7, 17] (fun v i wr => ∃ k : Nat, k ≤ ln ∧ i = .int .i64 (k : Int) ∧ Hid (OwnP wr w.heap.size v (remP (F.take k) x)) ∧ Hid (Below w.heap.size w wr)) (fun _ i _ => ln - (intOf i).toNat)
    case atStart => exact ⟨0, by omega, rfl, Lib.hid (OwnP.nil _ _), HB5⟩
    case round =>
      obtain ⟨k, hk, rfl, HO, HBr⟩ := hrel
      have HFr := Lib.hid (HF.out.below HBr.out)
      by_cases hlt : k < ln
      · have hin : (k : Int) < (ln : Int) := by omega
        have hiB : (0 : Int) ≤ (k : Int) := by omega
        have HKL : Hid (k < F.length) := Lib.hid (by rw [HLN.out]; exact hlt)
        have HS := Lib.hid (rem_succ (s := x) HKL.out)
        have HL1 : Hid ((remP (F.take k) x).length ≤ 1048576) := Lib.hid (by have := HLE.out k; omega)
        have HIa : Hid (Sb (wr.alloc (fo (gp F k))) wr.heap.size (gp F k)) := Lib.hid (Sb.new wr _)
        have HBa : Hid (Below w.heap.size w (wr.alloc (fo (gp F k)))) := Lib.hid (bel_al HBr.out HBr.out.size _)
        have HOa := Lib.hid (HO.out.alloc (fo (gp F k)))
        obtain ⟨b, o, rfl, e1, e2⟩ := HFr.out.pt HKL.out
        generalize gp F k = f at *
        obtain ⟨at0, sh0⟩ := f
        dsimp only at e1 e2 HS
        obtain ⟨i0, i1⟩ := HIa.out.cells
        dsimp only at i0 i1
        by_cases q : sh0 = x
        · have d1 : (sh0 == x) = true := by simpa using q
          have d2 : (sh0 != x) = false := by simpa using q
          have HR : Hid (remP (F.take (k + 1)) x = remP (F.take k) x) := Lib.hid (by rw [HS.out, if_pos q])
          clear q
          go_wp2
          go_roundw
          case rel => exact ⟨k + 1, by omega, by go_num, by rw [HR.out]; exact HOa, HBa⟩
          case measure => simp [intOf]; omega
        · have d1 : (sh0 == x) = false := by simpa using q
          have d2 : (sh0 != x) = true := by simpa using q
          have HR : Hid (remP (F.take (k + 1)) x = remP (F.take k) x ++ [⟨at0, sh0⟩]) := Lib.hid (by rw [HS.out, if_neg q])
          clear q
          go_wp2_with (first | (at_builtin; refine append_at rfl _ _ rfl w.heap.size _ _ rfl HOa.out ⟨at0, sh0⟩ rfl (by simp) HL1.out HBa.out.size ?_; intro v6 w6 ho6 hg6; have HO6 := Lib.hid ho6; have HB6 := Lib.hid (own_grow HOa.out HBa.out HBa.out.size (Nat.le_refl _) hg6); clear ho6 hg6))
          go_roundw
          case rel => exact ⟨k + 1, by omega, by go_num, by rw [HR.out]; exact HO6, HB6⟩
          case measure => simp [intOf]; omega
      · obtain rfl : k = ln := by omega
        rw [← HT.out] at HO
        obtain ⟨A', c', rfl, hI, hA⟩ := pts_of_own HO.out
        clear hI hA
        by_cases q : (remP F x).length = k
        · have d1 : (((remP F x).length : Int) == (k : Int)) = true := by rw [beq_iff_eq]; omega
          have d1' : ((remP F x).length == k) = true := by rw [beq_iff_eq]; omega
          have d2 : decide (((remP F x).length : Int) = (k : Int)) = true := by simp; omega
          have HE := Lib.hid (HN.out q)
          have HR := Lib.hid (reL_bad (L := F) (s := x) (by rw [HE.out]; decide))
          clear q
          generalize (remP F x).length = lr at *
          go_wp2
          go_ret2
          exact ⟨_, by rw [HE.out]; rfl, by rw [HR.out]; exact OwnP.nil _ _, HBr.out⟩
        · have d1 : (((remP F x).length : Int) == (k : Int)) = false := by rw [beq_eq_false_iff_ne]; omega
          have d1' : ((remP F x).length == k) = false := by rw [beq_eq_false_iff_ne]; omega
          have d2 : decide (((remP F x).length : Int) = (k : Int)) = false := by simp; omega
          have HE := Lib.hid (HK.out q)
          have HR := Lib.hid (reL_ok HE.out)
          clear q
          generalize (remP F x).length = lr at *
          go_wp2
          go_ret2
          exact ⟨_, by rw [HE.out]; rfl, by rw [HR.out]; exact HO.out, HBr.out⟩
  · have hE := reE_check (s := x) h1
    have HE := Lib.hid hE
    have HR := Lib.hid (reL_bad (L := F) (s := x) (by rw [hE]; exact h1))
    rw [HE.out, HR.out]
    have hq : (checkR F == 0) = false := by simpa using h1
    have hq2 : decide (checkR F = 0) = false := by simpa using h1
    clear h1 hE hF
    generalize checkR F = qe at *
    generalize F.length = ln at *
    go_enter Try.func10, Try.ntmps10
    go_wp2_with fail
    refine HC.out.mono ?_
    rintro e w5 ⟨rfl, hb5⟩
    have HB5 := Lib.hid hb5
    clear hb5
    go_wp2
    go_ret2
    exact ⟨_, rfl, OwnP.nil _ _, HB5.out⟩

end Go.Proofs.Ytjmhemkbfephpaa.Rng
