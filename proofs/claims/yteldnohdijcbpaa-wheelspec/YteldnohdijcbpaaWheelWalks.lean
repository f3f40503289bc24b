/-
  What the small functions of package wheel return: isTime, isTimer, order.
-/
import Derived.Test.YteldnohdijcbpaaWheelMem
import Derived.Deep.QuietTactic
import Derived.BigQuiet
namespace Go.Proofs.Yteldnohdijcbpaa.Whl
open Go.RowKit
set_option linter.unusedVariables false

theorem isTime_any (n : Int) (w : World) :
    Calls Try.prog 19 #[.int .i64 n] w fun e w' => e = .returned (.bool (decide (isT n))) ∧ w = w' := by
  by_cases h1 : 0 ≤ n
  · have hb : decide (0 ≤ n) = true := by simpa using h1
    have HE : Hid (decide (n ≤ 262143) = decide (isT n)) := Lib.hid (by unfold isT; simp [h1])
    go_enter Try.func19, Try.ntmps19
    go_wp2
    go_ret
    exact ⟨ret_bool (by rw [HE.out]), rfl⟩
  · have hb : decide (0 ≤ n) = false := by simpa using h1
    have HE : Hid (false = decide (isT n)) := Lib.hid (by unfold isT; simp [h1])
    go_enter Try.func19, Try.ntmps19
    go_wp2
    go_ret
    exact ⟨ret_bool HE.out, rfl⟩

set_option maxHeartbeats 1000000 in
theorem isTimer_any (now : Int) (t : Tm) (w : World) :
    Calls Try.prog 21 #[.int .i64 now, tv t] w fun e w' => e = .returned (.bool (decide (okT now t))) ∧ Below w.heap.size w w' := by
  obtain ⟨i, a⟩ := t
  have hB : Below w.heap.size w (w.alloc (tbo ⟨i, a⟩)) := (Below.refl _ _).alloc (Nat.le_refl _) _
  have HB := Lib.hid hB
  by_cases h1 : 0 ≤ i
  · have b1 : decide (0 ≤ i) = true := by simpa using h1
    by_cases h2 : i ≤ 1048576
    · have b2 : decide (i ≤ 1048576) = true := by simpa using h2
      by_cases h3 : isT a
      · have HE : Hid (decide (now < a) = decide (okT now ⟨i, a⟩)) := Lib.hid (by unfold okT; simp [h1, h2, h3])
        have H3 : Hid (decide (isT a) = true) := Lib.hid (by simpa using h3)
        clear h1 h2 h3 hB
        go_enter Try.func21, Try.ntmps21
        go_wp2_with fail
        refine (isTime_any _ _).mono ?_
        rintro e w' ⟨rfl, rfl⟩
        rw [H3.out]
        go_wp2
        go_ret
        exact ⟨ret_bool HE.out, HB.out⟩
      · have HE : Hid (false = decide (okT now ⟨i, a⟩)) := Lib.hid (by unfold okT; simp [h3])
        have H3 : Hid (decide (isT a) = false) := Lib.hid (by simpa using h3)
        clear h1 h2 h3 hB
        go_enter Try.func21, Try.ntmps21
        go_wp2_with fail
        refine (isTime_any _ _).mono ?_
        rintro e w' ⟨rfl, rfl⟩
        rw [H3.out]
        go_wp2
        go_ret
        exact ⟨ret_bool HE.out, HB.out⟩
    · have b2 : decide (i ≤ 1048576) = false := by simpa using h2
      have HE : Hid (false = decide (okT now ⟨i, a⟩)) := Lib.hid (by unfold okT; simp [h2])
      clear h1 h2 hB
      go_enter Try.func21, Try.ntmps21
      go_wp2
      go_ret
      exact ⟨ret_bool HE.out, HB.out⟩
  · have b1 : decide (0 ≤ i) = false := by simpa using h1
    have HE : Hid (false = decide (okT now ⟨i, a⟩)) := Lib.hid (by unfold okT; simp [h1])
    clear h1 hB
    go_enter Try.func21, Try.ntmps21
    go_wp2
    go_ret
    exact ⟨ret_bool HE.out, HB.out⟩

/-! ### cmp.Compare, cmp.Or, order -/
theorem compare_any (x y : Int) (w : World) :
    Calls Try.prog 38 #[.int .i64 x, .int .i64 y] w fun e w' => e = .returned (.int .i64 (cmpI x y)) ∧ w = w' := by
  have hn : ∀ (z : Int) (W : World), Calls Try.prog 44 #[.int .i64 z] W fun e w' => e = .returned (.bool false) ∧ W = w' := fun z W => by
    go_enter Try.func44, Try.ntmps44
    go_wp2
    go_ret
    exact ⟨rfl, rfl⟩
  have HN := Lib.hid hn
  clear hn
  by_cases h1 : x < y
  · have HE : Hid ((-1 : Int) = cmpI x y) := Lib.hid (by unfold cmpI; rw [if_pos h1])
    go_enter Try.func38, Try.ntmps38
    go_wp2_with fail
    refine (HN.out _ _).mono ?_
    rintro e w' ⟨rfl, rfl⟩
    go_wp2_with fail
    refine (HN.out _ _).mono ?_
    rintro e w' ⟨rfl, rfl⟩
    go_wp2
    go_ret
    exact ⟨ret_int HE.out, rfl⟩
  · by_cases h2 : y < x
    · have HE : Hid ((1 : Int) = cmpI x y) := Lib.hid (by unfold cmpI; rw [if_neg h1, if_pos h2])
      go_enter Try.func38, Try.ntmps38
      go_wp2_with fail
      refine (HN.out _ _).mono ?_
      rintro e w' ⟨rfl, rfl⟩
      go_wp2_with fail
      refine (HN.out _ _).mono ?_
      rintro e w' ⟨rfl, rfl⟩
      go_wp2
      go_ret
      exact ⟨ret_int HE.out, rfl⟩
    · have HE : Hid ((0 : Int) = cmpI x y) := Lib.hid (by unfold cmpI; rw [if_neg h1, if_neg h2])
      go_enter Try.func38, Try.ntmps38
      go_wp2_with fail
      refine (HN.out _ _).mono ?_
      rintro e w' ⟨rfl, rfl⟩
      go_wp2_with fail
      refine (HN.out _ _).mono ?_
      rintro e w' ⟨rfl, rfl⟩
      go_wp2
      go_ret
      exact ⟨ret_int HE.out, rfl⟩

theorem or_any (x y z : Int) (b : Nat) (w : World) (h0 : w.cell? ⟨b, 0, none⟩ = some (.int .i64 x)) (h1 : w.cell? ⟨b, 1, none⟩ = some (.int .i64 y)) (hz : z = if x ≠ 0 then x else y) :
    Calls Try.prog 37 #[.slice (some ⟨b, 0, none⟩) 2 2] w fun e w' => e = .returned (.int .i64 z) ∧ w = w' := by
  by_cases e0 : x = 0
  · subst e0
    have hz2 : z = y := by simpa using hz
    clear hz
    subst hz2
    by_cases e1 : z = 0
    · subst e1
      go_enter Try.func37, Try.ntmps37
      go_wp2
      go_loopw [8] (fun i wr => ∃ k : Nat, k ≤ 2 ∧ i = .int .i64 (k : Int) ∧ w = wr) (fun i _ => 2 - (intOf i).toNat)
      case atStart => exact ⟨0, by omega, rfl, rfl⟩
      case round =>
        obtain ⟨k, hk, rfl, rfl⟩ := hrel
        rcases (by omega : k = 0 ∨ k = 1 ∨ k = 2) with rfl | rfl | rfl
        · go_wp2
          go_roundw
          case rel => exact ⟨1, by omega, rfl, trivial⟩
          case measure => simp [intOf]
        · go_wp2
          go_roundw
          case rel => exact ⟨2, by omega, rfl, trivial⟩
          case measure => simp [intOf]
        · go_wp2
          go_ret
          exact ⟨rfl, rfl⟩
    · have q : (z != 0) = true := by simpa using e1
      go_enter Try.func37, Try.ntmps37
      go_wp2
      go_loopw [8] (fun i wr => ∃ k : Nat, k ≤ 1 ∧ i = .int .i64 (k : Int) ∧ w = wr) (fun i _ => 2 - (intOf i).toNat)
      case atStart => exact ⟨0, by omega, rfl, rfl⟩
      case round =>
        obtain ⟨k, hk, rfl, rfl⟩ := hrel
        rcases (by omega : k = 0 ∨ k = 1) with rfl | rfl
        · go_wp2
          go_roundw
          case rel => exact ⟨1, by omega, rfl, trivial⟩
          case measure => simp [intOf]
        · go_wp2
          go_ret
          exact ⟨rfl, rfl⟩
  · have q : (x != 0) = true := by simpa using e0
    have hz2 : z = x := by rw [hz, if_pos e0]
    clear hz
    subst hz2
    go_enter Try.func37, Try.ntmps37
    go_wp2
    go_loopw [8] (fun i wr => i = .int .i64 0 ∧ w = wr) (fun i _ => 2 - (intOf i).toNat)
    case atStart => exact ⟨rfl, rfl⟩
    case round =>
      obtain ⟨rfl, rfl⟩ := hrel
      go_wp2
      go_ret
      exact ⟨rfl, rfl⟩

/-- Two boxes of timers. -/
abbrev S2 (n : Nat) (i a j b : Int) (w w' : World) : Prop :=
  w'.cell? ⟨n, 0, none⟩ = some (.int .i64 i) ∧ w'.cell? ⟨n, 1, none⟩ = some (.int .i64 a) ∧ w'.cell? ⟨n + 1, 0, none⟩ = some (.int .i64 j) ∧ w'.cell? ⟨n + 1, 1, none⟩ = some (.int .i64 b) ∧ n + 2 ≤ w'.heap.size ∧ Below n w w'
theorem S2.drew {n : Nat} {i a j b : Int} {w w' : World} (h : S2 n i a j b w w') : S2 n i a j b w w'.drew := ⟨h.1, h.2.1, h.2.2.1, h.2.2.2.1, h.2.2.2.2.1, h.2.2.2.2.2.drew⟩
theorem S2.alloc {n : Nat} {i a j b : Int} {w w' : World} (h : S2 n i a j b w w') (o : Obj) : S2 n i a j b w (w'.alloc o) := by
  obtain ⟨h1, h2, h3, h4, h5, h6⟩ := h
  have hb : Below w'.heap.size w' (w'.alloc o) := (Below.refl _ _).alloc (Nat.le_refl _) o
  exact ⟨(hb.cell (p := ⟨n, 0, none⟩) (by show n < _; omega)).trans h1, (hb.cell (p := ⟨n, 1, none⟩) (by show n < _; omega)).trans h2, (hb.cell (p := ⟨n + 1, 0, none⟩) (by show n + 1 < _; omega)).trans h3, (hb.cell (p := ⟨n + 1, 1, none⟩) (by show n + 1 < _; omega)).trans h4, Nat.le_trans h5 hb.size, h6.trans (hb.mono (by omega))⟩
theorem S2.new (n : Nat) (i a j b : Int) (w : World) (hn : n = w.heap.size) : S2 n i a j b w ((w.alloc (tbo ⟨i, a⟩)).alloc (tbo ⟨j, b⟩)) := by
  subst hn
  have h1 : Below (w.heap.size + 1) (w.alloc (tbo ⟨i, a⟩)) ((w.alloc (tbo ⟨i, a⟩)).alloc (tbo ⟨j, b⟩)) := (Below.refl _ _).alloc (by simp) _
  refine ⟨(h1.cell (p := ⟨w.heap.size, 0, none⟩) (Nat.lt_succ_self _)).trans (by simp [go_sem]), (h1.cell (p := ⟨w.heap.size, 1, none⟩) (Nat.lt_succ_self _)).trans (by simp [go_sem]), ?_, ?_, by simp, ((Below.refl _ w).alloc (Nat.le_refl _) _).alloc (by simp) _⟩
  · have : (w.alloc (tbo ⟨i, a⟩)).heap.size = w.heap.size + 1 := by simp
    rw [← this]; simp [go_sem]
  · have : (w.alloc (tbo ⟨i, a⟩)).heap.size = w.heap.size + 1 := by simp
    rw [← this]; simp [go_sem]

set_option maxHeartbeats 4000000 in
theorem order_any (s t : Tm) (w : World) :
    Calls Try.prog 25 #[tv s, tv t] w fun e w' => e = .returned (.int .i64 (cmpT s t)) ∧ Below w.heap.size w w' := by
  obtain ⟨i, a⟩ := s
  obtain ⟨j, b⟩ := t
  have hS := S2.new _ i a j b w rfl
  have HC : Hid (cmpT ⟨i, a⟩ ⟨j, b⟩ = if cmpI a b ≠ 0 then cmpI a b else cmpI i j) := Lib.hid rfl
  go_enter Try.func25, Try.ntmps25
  go_wp2
  have HS := Lib.hid hS
  clear hS
  generalize ((w.alloc (tbo ⟨i, a⟩)).alloc (tbo ⟨j, b⟩)) = w0 at *
  generalize hn : w.heap.size = n at *
  go_region_held3 (fun w' => w'.cell? ⟨n, 0, none⟩ = some (.int .i64 i) ∧ w'.cell? ⟨n, 1, none⟩ = some (.int .i64 a) ∧ w'.cell? ⟨n + 1, 0, none⟩ = some (.int .i64 j) ∧ w'.cell? ⟨n + 1, 1, none⟩ = some (.int .i64 b) ∧ n + 2 ≤ w'.heap.size ∧ Below n w w')
    (first | exact S2.drew HS.out | exact HS.out | exact S2.alloc ‹_› _ | assumption)
    (first
      | (go_at_call 38; refine (compare_any _ _ _).mono ?_; rintro e w9 ⟨rfl, rfl⟩)
      | (go_at_call 37; refine (or_any (cmpI a b) (cmpI i j) (cmpT ⟨i, a⟩ ⟨j, b⟩) _ _ (by simp [go_sem]) (by simp [go_sem]) HC.out).mono ?_; rintro e w9 ⟨rfl, rfl⟩))
  rename_i hHH
  have HB := Lib.hid hHH.2.2.2.2.2
  clear hHH
  go_wp2
  go_ret
  exact ⟨rfl, by rw [hn]; exact HB.out⟩

end Go.Proofs.Yteldnohdijcbpaa.Whl
