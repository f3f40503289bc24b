/-
  What the reference of package sketch returns: SketchEven, SketchCheck, SketchErr, SketchPlace, SketchFits.
-/
import Derived.Test.YtmjoiakggckeoaaSketchBegun
import Derived.WalkSmall
namespace Go.Proofs.Ytmjoiakggckeoaa.Skt
open Go.RowKit
set_option linter.unusedVariables false

set_option maxHeartbeats 1000000 in
theorem refEven_any (B : Nat) (A : Option Addr) (c : Nat) (LL : List (List Int)) (w : World) (ha : Grid B w A c LL) (hs : Summed LL) (h1 : 1 ≤ LL.length) :
    Calls Try.prog 15 #[.slice A LL.length c] w fun e w' => e = .returned (.bool (decide (evenS LL))) ∧ Below w.heap.size w w' := by
  have hlL := ha.len
  have HS := Lib.hid hs
  clear hs
  go_enter Try.func15, Try.ntmps15
  go_wp2
  go_loopw [3] (fun i wr => ∃ k : Nat, 1 ≤ k ∧ k ≤ LL.length ∧ i = .int .i64 (k : Int) ∧ Hid (∀ j, j < k → sm (gl LL j) = sm (gl LL 0)) ∧ Below w.heap.size w wr) (fun i _ => LL.length - (intOf i).toNat)
  case atStart => exact ⟨1, Nat.le_refl _, h1, rfl, Lib.hid (fun j hj => by rw [show j = 0 by omega]), Below.refl _ _⟩
  case round =>
    obtain ⟨k, hk1, hk, rfl, HA, HB⟩ := hrel
    by_cases hlt : k < LL.length
    · obtain ⟨b, o, rfl, hb, _, hr⟩ := (ha.below HB).2.2.2 (by omega)
      obtain ⟨A0, c0, e0, i0, _⟩ := hr (k - 1) (by omega)
      obtain ⟨A1, c1, e1, i1, _⟩ := hr k hlt
      have HI0 := Lib.hid i0
      have HI1 := Lib.hid i1
      have l1 : (k : Int) < (LL.length : Int) := by omega
      have HS1 := Lib.hid (HS.out k hlt)
      have HS0 := Lib.hid (HS.out (k - 1) (by omega))
      have HP := Lib.hid (HA.out (k - 1) (by omega))
      obtain ⟨k', rfl⟩ : ∃ k', k = k' + 1 := ⟨k - 1, by omega⟩
      rw [Nat.add_sub_cancel] at e0 HI0 HS0 HP
      have hkk : ((k' + 1 : Nat) : Int) - 1 = (k' : Int) := by omega
      clear hr i0 i1
      generalize hg1 : gl LL (k' + 1) = R1 at *
      generalize hg0 : gl LL k' = R0 at *
      have HG1 := Lib.hid hg1
      clear hg1 hg0
      by_cases he : sm R1 = sm R0
      · have hn : (sm R1 != sm R0) = false := by simp [he]
        have HE := Lib.hid he
        clear he
        go_wp2
        go_quiet (first
          | (go_at_call 14; refine Calls.quiet_of_same (w_swap (sumOf_any _ _ _ _ ?_ ?_ ?_)) <;> first | exact dn HI1.out _ | exact dn HI0.out _ | exact HS1.out.1 | exact HS1.out.2 | exact HS0.out.1 | exact HS0.out.2))
        go_wp2
        go_roundw
        case rel => exact ⟨k' + 1 + 1, by omega, by omega, by go_num, Lib.hid (fun j hj => by
          by_cases x : j = k' + 1
          · subst x; rw [HG1.out, HE.out]; exact HP.out
          · exact HA.out j (by omega)), below_drewN HB _⟩
        case measure => simp [intOf]; omega
      · have hn : (sm R1 != sm R0) = true := by simp [he]
        have HE : Hid (decide (evenS LL) = false) := Lib.hid (by
          simp only [decide_eq_false_iff_not]; intro h
          have h2 := h (k' + 1) hlt
          rw [HG1.out, ← HP.out] at h2
          exact he h2)
        clear he
        go_wp2
        go_quiet (first
          | (go_at_call 14; refine Calls.quiet_of_same (w_swap (sumOf_any _ _ _ _ ?_ ?_ ?_)) <;> first | exact dn HI1.out _ | exact dn HI0.out _ | exact HS1.out.1 | exact HS1.out.2 | exact HS0.out.1 | exact HS0.out.2))
        go_wp2
        go_ret
        exact ⟨ret_bool HE.out.symm, below_drewN HB _⟩
    · obtain rfl : k = LL.length := by omega
      have HE : Hid (decide (evenS LL) = true) := Lib.hid (by simp only [decide_eq_true_eq]; exact HA.out)
      go_wp2
      go_ret
      exact ⟨ret_bool HE.out.symm, HB⟩

/-! ### SketchCheck -/
theorem rowE_3 {n : Int} {L : List Int} (h : (L.length : Int) = n) {j : Nat} (hj : j < L.length) (hb : ¬ (0 ≤ gi L j ∧ gi L j ≤ 1099511627776)) : rowE n L = 3 := by
  unfold rowE; rw [if_neg (by omega), if_neg (fun h => hb (h j hj))]

set_option maxHeartbeats 2000000 in
theorem refCheck_any (B : Nat) (S : Sk) (A : Option Addr) (c : Nat) (w : World) (ha : Grid B w A c S.rows) :
    Calls Try.prog 9 #[sv S A c] w fun e w' => e = .returned (.int .i64 (checkS S)) ∧ Below w.heap.size w w' := by
  have HW : Below w.heap.size w (w.alloc (so S A c)) := (Below.refl _ _).alloc (Nat.le_refl _) _
  have hlL := ha.len
  by_cases a1 : S.rows.length = 0
  · have q1 : ((S.rows.length : Int) == 0) = true := by simp [a1]
    have HE : Hid (checkS S = 1) := Lib.hid (checkS_head (by unfold headS; rw [if_pos a1]) (by decide))
    clear a1
    go_enter Try.func9, Try.ntmps9
    go_wp2
    go_ret
    exact ⟨ret_int HE.out.symm, HW⟩
  have q1 : ((S.rows.length : Int) == 0) = false := by simpa using a1
  by_cases a2 : 6 < S.rows.length
  · have q2 : decide ((6 : Int) < (S.rows.length : Int)) = true := by simp; omega
    have HE : Hid (checkS S = 2) := Lib.hid (checkS_head (by unfold headS; rw [if_neg a1, if_pos a2]) (by decide))
    clear a1
    go_enter Try.func9, Try.ntmps9
    go_wp2
    go_ret
    exact ⟨ret_int HE.out.symm, HW⟩
  have q2 : decide ((6 : Int) < (S.rows.length : Int)) = false := by simp; omega
  by_cases a3 : 1 ≤ S.wide ∧ S.wide ≤ 64
  · have q3 : decide (1 ≤ S.wide ∧ S.wide ≤ 64) = true := by simpa using a3
    have HH : Hid (headS S = 0) := Lib.hid (headS_ok (by omega) (by omega) (by omega) (by omega))
    have hl6 : S.rows.length ≤ 6 := by omega
    obtain ⟨m, hm⟩ : ∃ m : Nat, S.wide = (m : Int) := ⟨S.wide.toNat, by omega⟩
    have m2 : m ≤ 64 := by omega
    have HM := Lib.hid hm
    have hlr : 1 ≤ S.rows.length := by omega
    clear a1 a2 a3
    have HA1 := ha.below HW
    go_enter Try.func9, Try.ntmps9
    have x0 : (w.alloc (so S A c)).cell? ⟨w.heap.size, 0, none⟩ = some (.int .i64 S.wide) := by simp [go_sem]
    have x1 : (w.alloc (so S A c)).cell? ⟨w.heap.size, 1, none⟩ = some (.slice A S.rows.length c) := by simp [go_sem]
    clear hm
    have hn1 : w.heap.size < (w.alloc (so S A c)).heap.size := by simp
    go_wp2_with fail
    refine (between_any _ _ _ _).mono ?_
    rintro e w1 ⟨rfl, rfl⟩
    rw [q3]
    go_wp2
    generalize w.alloc (so S A c) = w1 at *
    go_loopw [3] (fun i wr => ∃ k : Nat, k ≤ S.rows.length ∧ i = .int .i64 (k : Int) ∧ Hid (∀ j, j < k → rowE S.wide (gl S.rows j) = 0) ∧ Below w1.heap.size w1 wr) (fun i _ => S.rows.length - (intOf i).toNat)
    case atStart => exact ⟨0, by omega, rfl, Lib.hid (fun j hj => by omega), Below.refl _ _⟩
    case round =>
      obtain ⟨k, hk, rfl, HA, HB⟩ := hrel
      have y0 := (HB.cell (p := ⟨w.heap.size, 0, none⟩) hn1).trans x0
      have y1 := (HB.cell (p := ⟨w.heap.size, 1, none⟩) hn1).trans x1
      by_cases hlt : k < S.rows.length
      · obtain ⟨b, o, rfl, hb, _, hr⟩ := (HA1.below HB).2.2.2 (by omega)
        obtain ⟨A1, c1, e1, i1, _⟩ := hr k hlt
        have l1 : (k : Int) < (S.rows.length : Int) := by omega
        clear hr
        generalize hg1 : gl S.rows k = R1 at *
        have HG1 := Lib.hid hg1
        clear hg1
        by_cases hle : (R1.length : Int) = S.wide
        · have q5 : ((R1.length : Int) != S.wide) = false := by simp [hle]
          have HRw := Lib.hid hle
          have hR : R1.length = m := by have := HM.out; omega
          have HRl := Lib.hid hR
          clear hle hR
          go_wp2
          go_quiet (fail)
          go_wp2
          go_loopw [4] (fun i wr => ∃ j : Nat, j ≤ m ∧ i = .int .i64 (j : Int) ∧ Hid (∀ r, r < j → 0 ≤ gi R1 r ∧ gi R1 r ≤ 1099511627776) ∧ Below w1.heap.size w1 wr) (fun i _ => m - (intOf i).toNat)
          case atStart => exact ⟨0, by omega, rfl, Lib.hid (fun j hj => by omega), below_drewN HB _⟩
          case round =>
            clear y0 y1 e1 i1 HB hb
            obtain ⟨j, hj, rfl, HJ, HB⟩ := hrel
            have y0 := (HB.cell (p := ⟨w.heap.size, 0, none⟩) hn1).trans x0
            have y1 := (HB.cell (p := ⟨w.heap.size, 1, none⟩) hn1).trans x1
            obtain ⟨b2, o2, eb, hb, _, hr⟩ := (HA1.below HB).2.2.2 (by omega)
            cases eb
            obtain ⟨A1, c1, e1, i1, _⟩ := hr k hlt
            rw [HG1.out] at e1 i1
            clear hr
            by_cases hjm : j < m
            · have l2 : (j : Int) < S.wide := by rw [HM.out]; omega
              obtain ⟨b1, o1, rfl, t1⟩ := i1.2.2.2 (by rw [HRl.out]; omega)
              have e2 := t1.2 j (by rw [HRl.out]; exact hjm)
              have l3 : (j : Int) < (R1.length : Int) := by rw [HRl.out]; omega
              have h64 : R1.length ≤ 64 := by rw [HRl.out]; exact m2
              by_cases hx : 0 ≤ gi R1 j ∧ gi R1 j ≤ 1099511627776
              · have p1 : decide (0 ≤ gi R1 j ∧ gi R1 j ≤ 1099511627776) = true := by simpa using hx
                have HX := Lib.hid hx
                clear hx t1
                go_wp2_with fail
                refine (between_any _ _ _ _).mono ?_
                rintro e w2 ⟨rfl, rfl⟩
                rw [p1]
                go_wp2
                go_roundw
                case rel => exact ⟨j + 1, by omega, by go_num, Lib.hid (fun r hr => by
                  by_cases x : r = j
                  · subst x; exact HX.out
                  · exact HJ.out r (by omega)), HB⟩
                case measure => simp [intOf]; omega
              · have p1 : decide (0 ≤ gi R1 j ∧ gi R1 j ≤ 1099511627776) = false := by simpa using hx
                have HE : Hid (checkS S = 3) := Lib.hid (by
                  have he : rowE S.wide (gl S.rows k) = 3 := by rw [HG1.out]; exact rowE_3 HRw.out (by rw [HRl.out]; exact hjm) hx
                  have e : rowsE S = rowE S.wide (gl S.rows k) := nz_hit (f := fun i => rowE S.wide (gl S.rows i)) HA.out hlt (by show rowE S.wide (gl S.rows k) ≠ 0; rw [he]; decide)
                  rw [checkS_rows HH.out (by rw [e, he]; decide), e, he])
                clear hx t1
                go_wp2_with fail
                refine (between_any _ _ _ _).mono ?_
                rintro e w2 ⟨rfl, rfl⟩
                rw [p1]
                go_wp2
                go_ret
                exact ⟨ret_int HE.out.symm, HW.trans (HB.mono HW.size)⟩
            · obtain rfl : j = m := by omega
              have l2 : ¬ ((j : Int) < S.wide) := by rw [HM.out]; omega
              have HR0 : Hid (rowE S.wide (gl S.rows k) = 0) := Lib.hid (by rw [HG1.out]; exact rowE_ok HRw.out (fun r hr => HJ.out r (by rw [HRl.out] at hr; exact hr)))
              go_wp2
              go_roundw
              case rel => exact ⟨k + 1, by omega, by go_num, Lib.hid (fun r hr => by
                by_cases x : r = k
                · subst x; exact HR0.out
                · exact HA.out r (by omega)), HB⟩
              case measure => simp [intOf]; omega
        · have q5 : ((R1.length : Int) != S.wide) = true := by simp [hle]
          have HE : Hid (checkS S = 1) := Lib.hid (by
            have he : rowE S.wide (gl S.rows k) = 1 := by unfold rowE; rw [if_pos (by rw [HG1.out]; exact hle)]
            have e : rowsE S = rowE S.wide (gl S.rows k) := nz_hit (f := fun i => rowE S.wide (gl S.rows i)) HA.out hlt (by show rowE S.wide (gl S.rows k) ≠ 0; rw [he]; decide)
            rw [checkS_rows HH.out (by rw [e, he]; decide), e, he])
          clear hle
          go_wp2
          go_quiet (fail)
          go_wp2
          go_ret
          exact ⟨ret_int HE.out.symm, HW.trans (below_drewN (HB.mono HW.size) _)⟩
      · obtain rfl : k = S.rows.length := by omega
        have hf : Fine S := fine_of HH.out (nz_zero HA.out)
        have HF := Lib.hid hf
        clear hf
        by_cases he : evenS S.rows
        · have q : decide (evenS S.rows) = true := by simpa using he
          have HE : Hid (checkS S = 0) := Lib.hid (by rw [checkS_fine HF.out, if_pos he])
          clear he
          go_wp2_with fail
          refine (refEven_any B A c _ _ (HA1.below HB) HF.out.summed hlr).mono ?_
          rintro e w2 ⟨rfl, hb2⟩
          rw [q]
          go_wp2
          go_ret
          exact ⟨ret_int HE.out.symm, HW.trans ((HB.trans (hb2.mono HB.size)).mono HW.size)⟩
        · have q : decide (evenS S.rows) = false := by simpa using he
          have HE : Hid (checkS S = 4) := Lib.hid (by rw [checkS_fine HF.out, if_neg he])
          clear he
          go_wp2_with fail
          refine (refEven_any B A c _ _ (HA1.below HB) HF.out.summed hlr).mono ?_
          rintro e w2 ⟨rfl, hb2⟩
          rw [q]
          go_wp2
          go_ret
          exact ⟨ret_int HE.out.symm, HW.trans ((HB.trans (hb2.mono HB.size)).mono HW.size)⟩
  · have q3 : decide (1 ≤ S.wide ∧ S.wide ≤ 64) = false := by simpa using a3
    have HE : Hid (checkS S = 3) := Lib.hid (checkS_head (by unfold headS; rw [if_neg a1, if_neg a2, if_pos (by omega)]) (by decide))
    clear a1 a3
    go_enter Try.func9, Try.ntmps9
    go_wp2_with fail
    refine (between_any _ _ _ _).mono ?_
    rintro e w1 ⟨rfl, rfl⟩
    rw [q3]
    go_wp2
    go_ret
    exact ⟨ret_int HE.out.symm, HW⟩

end Go.Proofs.Ytmjoiakggckeoaa.Skt
