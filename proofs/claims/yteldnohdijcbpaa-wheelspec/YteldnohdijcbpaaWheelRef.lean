/-
  The reference of package wheel: between, TimerRight, TimerAhead, HasTimer, digits, WheelPlace.
-/
import Derived.Test.YteldnohdijcbpaaWheelSame
namespace Go.Proofs.Yteldnohdijcbpaa.Whl
open Go.RowKit Go.Maps
set_option linter.unusedVariables false

theorem between_any (n a b : Int) (w : World) :
    Calls Try.prog 29 #[.int .i64 n, .int .i64 a, .int .i64 b] w fun e w' => e = .returned (.bool (decide (a ≤ n ∧ n ≤ b))) ∧ w = w' := by
  by_cases h : a ≤ n
  · have hd : decide (a ≤ n) = true := by simpa using h
    go_enter Try.func29, Try.ntmps29
    go_wp2
    go_ret
    exact ⟨ret_bool (by simp [h]), rfl⟩
  · have hd : decide (a ≤ n) = false := by simpa using h
    go_enter Try.func29, Try.ntmps29
    go_wp2
    go_ret
    exact ⟨ret_bool (by simp), rfl⟩

set_option maxHeartbeats 1000000 in
theorem right_any (t : Tm) (now : Int) (w : World) :
    Calls Try.prog 13 #[tv t, .int .i64 now] w fun e w' => e = .returned (.bool (decide (okT now t))) ∧ Below w.heap.size w w' := by
  obtain ⟨i, a⟩ := t
  have HB : Hid (Below w.heap.size w (w.alloc (tbo ⟨i, a⟩))) := Lib.hid ((Below.refl _ _).alloc (Nat.le_refl _) _)
  by_cases h1 : 0 ≤ i ∧ i ≤ 1048576
  · have b1 : decide (0 ≤ i ∧ i ≤ 1048576) = true := by simpa using h1
    by_cases h3 : isT a
    · have HE : Hid (decide (now < a) = decide (okT now ⟨i, a⟩)) := Lib.hid (by unfold okT; simp [h1, h3])
      have b3 : decide (0 ≤ a ∧ a ≤ 262143) = true := by unfold isT at h3; simpa using h3
      clear h1 h3
      go_enter Try.func13, Try.ntmps13
      go_wp2_with fail
      refine (between_any _ _ _ _).mono ?_
      rintro e w' ⟨rfl, rfl⟩
      rw [b1]
      go_wp2_with fail
      refine (between_any _ _ _ _).mono ?_
      rintro e w' ⟨rfl, rfl⟩
      rw [b3]
      go_wp2
      go_ret
      exact ⟨ret_bool HE.out, HB.out⟩
    · have HE : Hid (false = decide (okT now ⟨i, a⟩)) := Lib.hid (by unfold okT; simp [h3])
      have b3 : decide (0 ≤ a ∧ a ≤ 262143) = false := by unfold isT at h3; simpa using h3
      clear h1 h3
      go_enter Try.func13, Try.ntmps13
      go_wp2_with fail
      refine (between_any _ _ _ _).mono ?_
      rintro e w' ⟨rfl, rfl⟩
      rw [b1]
      go_wp2_with fail
      refine (between_any _ _ _ _).mono ?_
      rintro e w' ⟨rfl, rfl⟩
      rw [b3]
      go_wp2
      go_ret
      exact ⟨ret_bool HE.out, HB.out⟩
  · have b1 : decide (0 ≤ i ∧ i ≤ 1048576) = false := by simpa using h1
    have HE : Hid (false = decide (okT now ⟨i, a⟩)) := Lib.hid (by
      symm
      exact decide_eq_false (fun h => h1 ⟨h.1, h.2.1⟩))
    clear h1
    go_enter Try.func13, Try.ntmps13
    go_wp2_with fail
    refine (between_any _ _ _ _).mono ?_
    rintro e w' ⟨rfl, rfl⟩
    rw [b1]
    go_wp2
    go_ret
    exact ⟨ret_bool HE.out, HB.out⟩

set_option maxHeartbeats 1000000 in
theorem ahead_any (s t : Tm) (w : World) :
    Calls Try.prog 31 #[tv s, tv t] w fun e w' => e = .returned (.bool (decide (ltT s t))) ∧ Below w.heap.size w w' := by
  obtain ⟨i, a⟩ := s
  obtain ⟨j, b⟩ := t
  obtain ⟨x0, x1, y0, y1, -, hB⟩ := S2.new _ i a j b w rfl
  have HB := Lib.hid hB
  clear hB
  by_cases h1 : a < b
  · have b1 : decide (a < b) = true := by simpa using h1
    have HE : Hid (true = decide (ltT ⟨i, a⟩ ⟨j, b⟩)) := Lib.hid (by unfold ltT; simp [h1])
    clear h1
    go_enter Try.func31, Try.ntmps31
    go_wp2
    go_ret
    exact ⟨ret_bool HE.out, HB.out⟩
  · have b1 : decide (a < b) = false := by simpa using h1
    by_cases h2 : a = b
    · have b2 : (a == b) = true := by simpa using h2
      have HE : Hid (decide (i < j) = decide (ltT ⟨i, a⟩ ⟨j, b⟩)) := Lib.hid (by unfold ltT; simp [h2])
      clear h1 h2
      go_enter Try.func31, Try.ntmps31
      go_wp2
      go_ret
      exact ⟨ret_bool HE.out, HB.out⟩
    · have b2 : (a == b) = false := by simpa using h2
      have HE : Hid (false = decide (ltT ⟨i, a⟩ ⟨j, b⟩)) := Lib.hid (by unfold ltT; simp [h1, h2])
      clear h1 h2
      go_enter Try.func31, Try.ntmps31
      go_wp2
      go_ret
      exact ⟨ret_bool HE.out, HB.out⟩

theorem has_drop {L : List Tm} {id : Int} {k : Nat} (h : k < L.length) : hasId (L.drop k) id ↔ (gt L k).id = id ∨ hasId (L.drop (k + 1)) id := by
  unfold hasId
  rw [List.drop_eq_getElem_cons h, ← gt_get h]
  simp

set_option maxHeartbeats 2000000 in
theorem hasTimer_any (A : Option Addr) (c : Nat) (L : List Tm) (id : Int) (w : World) (hT : Tms w A c L) :
    Calls Try.prog 14 #[.slice A L.length c, .int .i64 id] w fun e w' => e = .returned (.bool (decide (hasId L id))) ∧ w = w' := by
  have HT := Lib.hid hT
  have hlen := hT.len
  clear hT
  obtain ⟨ln, hln⟩ : ∃ ln, L.length = ln := ⟨_, rfl⟩
  have HLN := Lib.hid hln
  rw [hln] at hlen ⊢
  clear hln
  go_enter Try.func14, Try.ntmps14
  go_wp2
  go_loopw [5] (fun x wr => ∃ k : Nat, k ≤ ln ∧ x = .int .i64 (k : Int) ∧ (hasId L id ↔ hasId (L.drop k) id) ∧ w = wr) (fun x _ => ln - (intOf x).toNat)
  case atStart => exact ⟨0, by omega, rfl, Iff.rfl, rfl⟩
  case round =>
    obtain ⟨k, hk, rfl, hi, rfl⟩ := hrel
    have HI := Lib.hid hi
    clear hi
    by_cases hlt : k < ln
    · have hkn : (k : Int) < (ln : Int) := by omega
      obtain ⟨b, o, rfl, ht⟩ := HT.out.2.2.2 (by rw [HLN.out]; omega)
      have e1 := (ht.2 k (by rw [HLN.out]; exact hlt)).1
      have HD := Lib.hid (HI.out.trans (has_drop (by rw [HLN.out]; exact hlt)))
      clear ht
      generalize (gt L k).id = ti at *
      by_cases he : ti = id
      · have q : (ti == id) = true := by simpa using he
        have HE : Hid (true = decide (hasId L id)) := Lib.hid (by symm; rw [decide_eq_true_iff, HD.out]; exact .inl he)
        clear he
        go_wp2
        go_ret
        exact ⟨ret_bool HE.out, rfl⟩
      · have q : (ti == id) = false := by simpa using he
        have HE : Hid (hasId L id ↔ hasId (L.drop (k + 1)) id) := Lib.hid (HD.out.trans ⟨fun h => h.elim (fun e => absurd e he) (fun x => x), .inr⟩)
        clear he
        go_wp2
        go_roundw
        case rel => exact ⟨k + 1, by omega, by go_num, HE.out, trivial⟩
        case measure => simp [intOf]; omega
    · obtain rfl : k = ln := by omega
      have HE : Hid (false = decide (hasId L id)) := Lib.hid (by
        symm
        rw [decide_eq_false_iff_not, HI.out, ← HLN.out, List.drop_length]
        rintro ⟨u, hu, _⟩
        simp at hu)
      go_wp2
      go_ret
      exact ⟨ret_bool HE.out, rfl⟩

end Go.Proofs.Yteldnohdijcbpaa.Whl
