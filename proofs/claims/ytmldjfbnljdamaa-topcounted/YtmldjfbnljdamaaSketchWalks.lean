/-
  What Check, Estimate and Total of package sketch return, and SameSketch of the reference.
-/
import Derived.Test.YtmldjfbnljdamaaSketchMem
namespace Go.Proofs.Ytmldjfbnljdamaa.Skt
open Go.RowKit
set_option linter.unusedVariables false

theorem checkS_head {S : Sk} {n : Int} (h : headS S = n) (hn : n ≠ 0) : checkS S = n := by
  unfold checkS; rw [if_pos (by rw [h]; exact hn), h]
theorem checkS_rows {S : Sk} (h : headS S = 0) (hn : rowsE S ≠ 0) : checkS S = rowsE S := by
  unfold checkS; rw [if_neg (by rw [h]; simp), if_pos hn]
theorem checkS_fine {S : Sk} (g : Fine S) : checkS S = if evenS S.rows then 0 else 4 := by
  unfold checkS; rw [if_neg (by rw [g.head]; simp), if_neg (by rw [g.rows0]; simp)]

set_option maxHeartbeats 2000000 in
theorem check_any (B : Nat) (S : Sk) (A : Option Addr) (c : Nat) (w : World) (ha : Grid B w A c S.rows) :
    Calls Try.prog 19 #[sv S A c] w fun e w' => e = .returned (.int .i64 (checkS S)) ∧ Below w.heap.size w w' := by
  have HW : Below w.heap.size w (w.alloc (so S A c)) := (Below.refl _ _).alloc (Nat.le_refl _) _
  have hlL := ha.len
  by_cases a1 : S.rows.length = 0
  · have q1 : ((S.rows.length : Int) == 0) = true := by simp [a1]
    have HE : Hid (checkS S = 1) := Lib.hid (checkS_head (by unfold headS; rw [if_pos a1]) (by decide))
    clear a1
    go_enter Try.func19, Try.ntmps19
    go_wp2
    go_ret
    exact ⟨ret_int HE.out.symm, HW⟩
  have q1 : ((S.rows.length : Int) == 0) = false := by simpa using a1
  by_cases a2 : 6 < S.rows.length
  · have q2 : decide ((6 : Int) < (S.rows.length : Int)) = true := by simp; omega
    have HE : Hid (checkS S = 2) := Lib.hid (checkS_head (by unfold headS; rw [if_neg a1, if_pos a2]) (by decide))
    clear a1
    go_enter Try.func19, Try.ntmps19
    go_wp2
    go_ret
    exact ⟨ret_int HE.out.symm, HW⟩
  have q2 : decide ((6 : Int) < (S.rows.length : Int)) = false := by simp; omega
  by_cases a3 : S.wide < 1
  · have q3 : decide (S.wide < 1) = true := by simpa using a3
    have HE : Hid (checkS S = 3) := Lib.hid (checkS_head (by unfold headS; rw [if_neg a1, if_neg a2, if_pos (.inl a3)]) (by decide))
    clear a1
    go_enter Try.func19, Try.ntmps19
    go_wp2
    go_ret
    exact ⟨ret_int HE.out.symm, HW⟩
  have q3 : decide (S.wide < 1) = false := by simpa using a3
  by_cases a4 : 64 < S.wide
  · have q4 : decide (64 < S.wide) = true := by simpa using a4
    have HE : Hid (checkS S = 3) := Lib.hid (checkS_head (by unfold headS; rw [if_neg a1, if_neg a2, if_pos (.inr a4)]) (by decide))
    clear a1
    go_enter Try.func19, Try.ntmps19
    go_wp2
    go_ret
    exact ⟨ret_int HE.out.symm, HW⟩
  have q4 : decide (64 < S.wide) = false := by simpa using a4
  have HH : Hid (headS S = 0) := Lib.hid (headS_ok (by omega) (by omega) (by omega) (by omega))
  have hl6 : S.rows.length ≤ 6 := by omega
  clear a1 a2 a3 a4
  have HA1 := ha.below HW
  go_enter Try.func19, Try.ntmps19
  go_wp2
  have x0 : (w.alloc (so S A c)).cell? ⟨w.heap.size, 0, none⟩ = some (.int .i64 S.wide) := by simp [go_sem]
  have x1 : (w.alloc (so S A c)).cell? ⟨w.heap.size, 1, none⟩ = some (.slice A S.rows.length c) := by simp [go_sem]
  generalize w.alloc (so S A c) = w1 at *
  go_loop [25] (fun i => ∃ k : Nat, k ≤ S.rows.length ∧ i = .int .i64 (k : Int) ∧ Hid (∀ j, j < k → rowE S.wide (gl S.rows j) = 0)) (fun i => S.rows.length - (intOf i).toNat)
  case atStart => exact ⟨0, by omega, rfl, Lib.hid (fun j hj => by omega)⟩
  case round =>
    obtain ⟨k, hk, rfl, HA⟩ := hrel
    by_cases hlt : k < S.rows.length
    · obtain ⟨b, o, rfl, hb, _, hr⟩ := HA1.2.2.2 (by omega)
      obtain ⟨A1, c1, e1, i1, _⟩ := hr k hlt
      have l1 : (k : Int) < (S.rows.length : Int) := by omega
      clear hr
      by_cases he : rowE S.wide (gl S.rows k) = 0
      · have HE := Lib.hid he
        clear he
        go_wp2_with fail
        refine (checkRow_any A1 c1 _ _ _ i1).mono ?_
        rintro e w2 ⟨rfl, rfl⟩
        rw [HE.out]
        go_wp2
        go_round
        case rel => exact ⟨k + 1, by omega, by go_num, Lib.hid (fun j hj => by
          by_cases x : j = k
          · subst x; exact HE.out
          · exact HA.out j (by omega))⟩
        case measure => simp [intOf]; omega
      · have hq := bd_ne he
        have HE : Hid (checkS S = rowE S.wide (gl S.rows k)) := Lib.hid (by
          have e : rowsE S = rowE S.wide (gl S.rows k) := nz_hit (f := fun i => rowE S.wide (gl S.rows i)) HA.out hlt he
          rw [checkS_rows HH.out (by rw [e]; exact he), e])
        clear he
        go_wp2_with fail
        refine (checkRow_any A1 c1 _ _ _ i1).mono ?_
        rintro e w2 ⟨rfl, rfl⟩
        go_wp2
        go_ret
        exact ⟨ret_int HE.out.symm, HW⟩
    · obtain rfl : k = S.rows.length := by omega
      have hf : Fine S := fine_of HH.out (nz_zero HA.out)
      have HF := Lib.hid hf
      clear hf
      by_cases he : evenS S.rows
      · have q : decide (evenS S.rows) = true := by simpa using he
        have HE : Hid (checkS S = 0) := Lib.hid (by rw [checkS_fine HF.out, if_pos he])
        clear he
        go_wp2_with fail
        refine (sameSums_any B A c _ _ HA1 HF.out.summed).mono ?_
        rintro e w2 ⟨rfl, hb2⟩
        rw [q]
        go_wp2
        go_ret
        exact ⟨ret_int HE.out.symm, HW.trans (hb2.mono HW.size)⟩
      · have q : decide (evenS S.rows) = false := by simpa using he
        have HE : Hid (checkS S = 4) := Lib.hid (by rw [checkS_fine HF.out, if_neg he])
        clear he
        go_wp2_with fail
        refine (sameSums_any B A c _ _ HA1 HF.out.summed).mono ?_
        rintro e w2 ⟨rfl, hb2⟩
        rw [q]
        go_wp2
        go_ret
        exact ⟨ret_int HE.out.symm, HW.trans (hb2.mono HW.size)⟩

/-! ### Total -/
set_option maxHeartbeats 1000000 in
theorem total_any (B : Nat) (S : Sk) (A : Option Addr) (c : Nat) (w : World) (ha : Grid B w A c S.rows) :
    Calls Try.prog 9 #[sv S A c] w fun e w' => e = .returned (.tuple #[.int .i64 (totM S), .int .i64 (checkS S)]) ∧ Below w.heap.size w w' := by
  have HW : Below w.heap.size w (w.alloc (so S A c)) := (Below.refl _ _).alloc (Nat.le_refl _) _
  by_cases hc : checkS S = 0
  · have g := good_of hc
    have HG := Lib.hid g
    have HC := Lib.hid hc
    have HT : Hid (totM S = sm (gl S.rows 0)) := Lib.hid (by unfold totM; rw [if_pos hc])
    have l1 := g.l1
    clear hc g
    go_enter Try.func9, Try.ntmps9
    go_wp2_with fail
    refine (check_any B S A c _ (ha.below HW)).mono ?_
    rintro e w1 ⟨rfl, hb1⟩
    rw [HC.out]
    have HB1 := HW.trans (hb1.mono HW.size)
    have c1 : w1.cell? ⟨w.heap.size, 1, none⟩ = some (.slice A S.rows.length c) := (hb1.cell (by simp)).trans (by simp [go_sem])
    clear hb1
    obtain ⟨b, o, rfl, hb, _, hr⟩ := (ha.below HB1).2.2.2 (by omega)
    obtain ⟨A1, d1, e1, i1, _⟩ := hr 0 (by omega)
    rw [Nat.add_zero] at e1
    clear hr
    go_wp2_with fail
    refine (sum_any A1 d1 _ _ i1 (HG.out.toFine.summed 0 (by omega)).1 (HG.out.toFine.summed 0 (by omega)).2).mono ?_
    rintro e w2 ⟨rfl, rfl⟩
    go_wp2
    go_ret2
    rw [HT.out, HC.out]
    exact ⟨rfl, HB1⟩
  · have hq := bd_ne hc
    have HT : Hid (totM S = 0) := Lib.hid (by unfold totM; rw [if_neg hc])
    clear hc
    go_enter Try.func9, Try.ntmps9
    go_wp2_with fail
    refine (check_any B S A c _ (ha.below HW)).mono ?_
    rintro e w1 ⟨rfl, hb1⟩
    have HB1 := HW.trans (hb1.mono HW.size)
    clear hb1
    go_wp2
    go_ret2
    rw [HT.out]
    exact ⟨rfl, HB1⟩

/-! ### SameSketch -/
def sameS (S T : Sk) : Bool := decide (S.wide = T.wide) && decide (S.rows = T.rows)
theorem sameS_yes {S T : Sk} (h1 : S.wide = T.wide) (h2 : S.rows = T.rows) : sameS S T = true := by simp [sameS, h1, h2]
theorem sameS_refl (S : Sk) : sameS S S = true := sameS_yes rfl rfl

end Go.Proofs.Ytmldjfbnljdamaa.Skt
