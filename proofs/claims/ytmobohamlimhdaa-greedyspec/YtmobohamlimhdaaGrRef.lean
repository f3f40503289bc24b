/-
  The reference of items: HoardThing, HoardSizes, HoardLeast, HoardFresh.
-/
import Derived.Test.YtmobohamlimhdaaGrCheck
import Derived.Test.YtmobohamlimhdaaKeysRef
import Derived.Test.YtmobohamlimhdaaBelowQuiet
namespace Go.Proofs.Ytmobohamlimhdaa.Grd
open Go.RowKit
open Lru (isK)
set_option linter.unusedVariables false
set_option maxRecDepth 100000

abbrev BtC (n a b : Int) (r : Bool) : Prop := ∀ W : World, Calls Try.prog 28 #[.int .i64 n, .int .i64 a, .int .i64 b] W fun e w' => e = .returned (.bool r) ∧ W = w'

set_option maxHeartbeats 4000000 in
theorem thing_any (f : It) (w : World) : Calls Try.prog 11 #[fv f] w fun e w' => e = .returned (.bool (decide (okI f))) ∧ Below w.heap.size w w' := by
  obtain ⟨k, z, c, u⟩ := f
  have HB0 : Hid (Below w.heap.size w (w.alloc (fo ⟨k, z, c, u⟩))) := Lib.hid (bel_al (Below.refl _ _) (Nat.le_refl _) _)
  obtain ⟨x0, x1, x2, x3⟩ := (Ib.new w ⟨k, z, c, u⟩).cells
  have H1 : Hid (BtC k 0 1048576 (decide (0 ≤ k ∧ k ≤ 1048576))) := Lib.hid (fun W => between_any k 0 1048576 W)
  have H2 : Hid (BtC z 1 1048576 (decide (1 ≤ z ∧ z ≤ 1048576))) := Lib.hid (fun W => between_any z 1 1048576 W)
  have H3 : Hid (BtC c 0 1048576 (decide (0 ≤ c ∧ c ≤ 1048576))) := Lib.hid (fun W => between_any c 0 1048576 W)
  by_cases q1 : 0 ≤ k ∧ k ≤ 1048576
  · rw [decide_eq_true q1] at H1
    by_cases q2 : 1 ≤ z ∧ z ≤ 1048576
    · rw [decide_eq_true q2] at H2
      have HE : Hid (decide (okI ⟨k, z, c, u⟩) = decide (0 ≤ c ∧ c ≤ 1048576)) := Lib.hid (by
        by_cases q3 : 0 ≤ c ∧ c ≤ 1048576
        · rw [decide_eq_true q3]; exact decide_eq_true ⟨q1, q2, q3⟩
        · rw [decide_eq_false q3]; exact decide_eq_false (fun h => q3 h.2.2))
      rw [HE.out]
      clear q1 q2
      generalize decide (0 ≤ c ∧ c ≤ 1048576) = q3 at *
      clear HE
      go_enter Try.func11, Try.ntmps11
      go_wp2_with (first | (with_reducible refine (H1.out _).mono ?_; rintro e w2 ⟨rfl, rfl⟩) | (with_reducible refine (H2.out _).mono ?_; rintro e w2 ⟨rfl, rfl⟩) | (with_reducible refine (H3.out _).mono ?_; rintro e w2 ⟨rfl, rfl⟩))
      go_ret
      exact ⟨rfl, HB0.out⟩
    · rw [decide_eq_false q2] at H2
      have HE : Hid (decide (okI ⟨k, z, c, u⟩) = false) := Lib.hid (decide_eq_false (fun h => q2 h.2.1))
      clear q1 q2
      go_enter Try.func11, Try.ntmps11
      go_wp2_with (first | (with_reducible refine (H1.out _).mono ?_; rintro e w2 ⟨rfl, rfl⟩) | (with_reducible refine (H2.out _).mono ?_; rintro e w2 ⟨rfl, rfl⟩) | (with_reducible refine (H3.out _).mono ?_; rintro e w2 ⟨rfl, rfl⟩))
      go_ret
      exact ⟨ret_bool HE.out.symm, HB0.out⟩
  · rw [decide_eq_false q1] at H1
    have HE : Hid (decide (okI ⟨k, z, c, u⟩) = false) := Lib.hid (decide_eq_false (fun h => q1 h.1))
    clear q1
    go_enter Try.func11, Try.ntmps11
    go_wp2_with (first | (with_reducible refine (H1.out _).mono ?_; rintro e w2 ⟨rfl, rfl⟩) | (with_reducible refine (H2.out _).mono ?_; rintro e w2 ⟨rfl, rfl⟩) | (with_reducible refine (H3.out _).mono ?_; rintro e w2 ⟨rfl, rfl⟩))
    go_ret
    exact ⟨ret_bool HE.out.symm, HB0.out⟩

set_option maxHeartbeats 2000000 in
theorem hsizes_any (A : Option Addr) (c : Nat) (F : List It) (w : World) (hF : Tss w A c F) (h40 : F.length ≤ 40) (hok : ∀ t ∈ F, okI t) :
    Calls Try.prog 13 #[.slice A F.length c] w fun e w' => e = .returned (.int .i64 (sizes F)) ∧ w' = w := by
  have HF := Lib.hid hF
  clear hF
  obtain ⟨n, hn⟩ : ∃ n, F.length = n := ⟨_, rfl⟩
  have HN := Lib.hid hn
  rw [hn] at h40 ⊢
  clear hn
  have HOk := Lib.hid hok
  clear hok
  go_enter Try.func13, Try.ntmps13
  go_wp2
  go_loopw [3, 4] (fun s3 s4 wr => ∃ k : Nat, k ≤ n ∧ s4 = .int .i64 (k : Int) ∧ s3 = .int .i64 (sizes (F.take k)) ∧ w = wr) (fun _ s4 _ => n - (intOf s4).toNat)
  case atStart => exact ⟨0, by omega, rfl, rfl, rfl⟩
  case round =>
    obtain ⟨k, hk, rfl, rfl, rfl⟩ := hrel
    by_cases hlt : k < n
    · have hin : (k : Int) < (n : Int) := by omega
      have hiB : (0 : Int) ≤ (k : Int) := by omega
      have HKL : Hid (k < F.length) := Lib.hid (by rw [HN.out]; exact hlt)
      obtain ⟨b1, o1, rfl, -, e2, -, -⟩ := HF.out.us HKL.out
      have hb := sizes_bound (F := F.take k) (fun t ht => HOk.out t (List.take_subset _ _ ht))
      have hlk : (F.take k).length = k := by rw [List.length_take, HN.out]; omega
      rw [hlk] at hb
      obtain ⟨-, ⟨a1, a2⟩, a3, a4⟩ := HOk.out _ (gt_mem HKL.out)
      have g1 : IntKind.i64.wrap (sizes (F.take k) + (gt F k).size) = sizes (F.take (k + 1)) := by rw [sizes_at HKL.out, IntKind.wrap_i64]; omega
      clear hb hlk a1 a2 a3 a4
      generalize (gt F k).size = z at *
      obtain ⟨s', hs'⟩ : ∃ s', s' = sizes (F.take (k + 1)) := ⟨_, rfl⟩
      rw [← hs'] at g1
      replace hs' := Lib.hid hs'
      generalize sizes (F.take k) = s at *
      go_wp2
      go_roundw
      case rel => exact ⟨k + 1, by omega, by go_num, by rw [← hs'.out], by first | rfl | trivial⟩
      case measure => simp [intOf]; omega
    · obtain rfl : k = n := by omega
      have HE : Hid (sizes (F.take k) = sizes F) := Lib.hid (by rw [← HN.out, List.take_length])
      rw [HE.out]
      go_wp2
      go_ret
      exact ⟨rfl, by first | rfl | trivial⟩

/-- Whether none of the first j is worth less than item i. -/
theorem best_at {L : List It} {i j : Nat} : decide (∀ m, m < j + 1 → (gt L i).worth ≤ (gt L m).worth) = (decide (∀ m, m < j → (gt L i).worth ≤ (gt L m).worth) && !decide ((gt L j).worth < (gt L i).worth)) := by
  by_cases a : ∀ m, m < j → (gt L i).worth ≤ (gt L m).worth
  · by_cases b : (gt L j).worth < (gt L i).worth
    · have : ¬ ∀ m, m < j + 1 → (gt L i).worth ≤ (gt L m).worth := fun h => by have := h j (by omega); omega
      rw [decide_eq_false this, decide_eq_true a, decide_eq_true b]; rfl
    · have : ∀ m, m < j + 1 → (gt L i).worth ≤ (gt L m).worth := fun m hm => by
        by_cases e : m = j
        · subst e; omega
        · exact a m (by omega)
      rw [decide_eq_true this, decide_eq_true a, decide_eq_false b]; rfl
  · have : ¬ ∀ m, m < j + 1 → (gt L i).worth ≤ (gt L m).worth := fun h => a (fun m hm => h m (by omega))
    rw [decide_eq_false this, decide_eq_false a]; rfl
theorem best_is {L : List It} {i : Nat} (h0 : 0 < L.length) (hi : i ≤ lstN L) : decide (∀ m, m < L.length → (gt L i).worth ≤ (gt L m).worth) = decide (i = lstN L) := by
  have hl := lstN_lt h0
  by_cases e : i = lstN L
  · rw [decide_eq_true e]
    refine decide_eq_true (fun m hm => ?_)
    rw [e]
    exact lstN_min (gt_mem hm)
  · rw [decide_eq_false e]
    refine decide_eq_false (fun h => ?_)
    have h1 := h (lstN L) hl
    have h2 := (lst_spec L (L.length - 1) i (by omega)).2 (show i < lst L (L.length - 1) by have : i ≤ lst L (L.length - 1) := hi; have : i ≠ lst L (L.length - 1) := e; omega)
    exact absurd h1 (by have : (gt L (lst L (L.length - 1))).worth < (gt L i).worth := h2; show ¬ (gt L i).worth ≤ (gt L (lst L (L.length - 1))).worth; omega)

set_option maxHeartbeats 4000000 in
theorem hleast_any (A : Option Addr) (c : Nat) (L : List It) (w : World) (hF : Tss w A c L) (h0 : 0 < L.length) (h40 : L.length ≤ 1048576) :
    Calls Try.prog 14 #[.slice A L.length c] w fun e w' => e = .returned (.int .i64 (lstN L : Int)) ∧ Below w.heap.size w w' := by
  have HF := Lib.hid hF
  obtain ⟨b, o, rfl, -⟩ := hF.2.2.2 h0
  clear hF
  have HL := Lib.hid (lstN_lt h0)
  have HBi := Lib.hid (fun i => best_is (L := L) (i := i) h0)
  obtain ⟨n, hn⟩ : ∃ n, L.length = n := ⟨_, rfl⟩
  have HN := Lib.hid hn
  rw [hn] at h0 h40 HL HBi ⊢
  clear hn
  obtain ⟨ls, hls⟩ : ∃ ls, ls = lstN L := ⟨_, rfl⟩
  rw [← hls] at HL HBi ⊢
  clear hls
  have hls40 : ls < n := HL.out
  go_enter Try.func14, Try.ntmps14
  go_wp2
  go_loopw [3] (fun s3 wr => ∃ i : Nat, i ≤ ls ∧ s3 = .int .i64 (i : Int) ∧ Hid (Below w.heap.size w wr)) (fun s3 _ => n - (intOf s3).toNat)
  case atStart => exact ⟨0, by omega, rfl, Lib.hid (Below.refl _ _)⟩
  case round =>
    obtain ⟨i, hi, rfl, HBr⟩ := hrel
    have hin : (i : Int) < (n : Int) := by omega
    have hi0 : (0 : Int) ≤ (i : Int) := by omega
    go_wp2_with fail
    go_loopw [4, 5] (fun s4 s5 wj => ∃ j : Nat, j ≤ n ∧ s5 = .int .i64 (j : Int) ∧ s4 = .bool (decide (∀ m, m < j → (gt L i).worth ≤ (gt L m).worth)) ∧ Hid (Below w.heap.size w wj)) (fun _ s5 _ => n - (intOf s5).toNat)
    case atStart => exact ⟨0, by omega, rfl, by rw [decide_eq_true (fun m hm => absurd hm (Nat.not_lt_zero m))], HBr⟩
    case round =>
      rename World => wj
      obtain ⟨j, hj, rfl, rfl, HBj⟩ := hrel
      by_cases hjl : j < n
      · have hjn : (j : Int) < (n : Int) := by omega
        have hj0 : (0 : Int) ≤ (j : Int) := by omega
        have hb := best_at (L := L) (i := i) (j := j)
        obtain ⟨b1, o1, e, -, -, -, e1⟩ := (HF.out.below HBj.out).us (k := i) (by rw [HN.out]; omega)
        cases e
        obtain ⟨b2, o2, e, -, -, -, e2⟩ := (HF.out.below HBj.out).us (k := j) (by rw [HN.out]; omega)
        cases e
        obtain ⟨bn, hbn⟩ : ∃ bn, bn = decide (∀ m, m < j + 1 → (gt L i).worth ≤ (gt L m).worth) := ⟨_, rfl⟩
        have HBn := Lib.hid hbn
        rw [← hbn] at hb
        clear hbn
        generalize decide (∀ m, m < j → (gt L i).worth ≤ (gt L m).worth) = bo at *
        generalize (gt L i).worth = x at *
        generalize (gt L j).worth = y at *
        by_cases q : y < x
        · have d : decide (y < x) = true := decide_eq_true q
          rw [d] at hb
          have hb' : bn = false := by rw [hb]; simp
          clear hb q
          subst hb'
          go_wp2_with fail
          go_quiet (fail)
          have HB5 : Hid (Below w.heap.size w (wj.drewN nq)) := Lib.hid (bel_drewN HBj.out nq)
          clear e1 e2
          generalize wj.drewN nq = w5 at *
          go_wp2
          go_roundw
          case rel => exact ⟨j + 1, by omega, by go_num, by rw [← HBn.out], HB5⟩
          case measure => simp [intOf]; omega
        · have d : decide (y < x) = false := decide_eq_false q
          rw [d] at hb
          have hb' : bn = bo := by rw [hb]; simp
          clear hb q
          subst hb'
          go_wp2_with fail
          go_quiet (fail)
          have HB5 : Hid (Below w.heap.size w (wj.drewN nq)) := Lib.hid (bel_drewN HBj.out nq)
          clear e1 e2
          generalize wj.drewN nq = w5 at *
          go_wp2
          go_roundw
          case rel => exact ⟨j + 1, by omega, by go_num, by rw [← HBn.out], HB5⟩
          case measure => simp [intOf]; omega
      · obtain rfl : j = n := by omega
        rw [HBi.out i hi]
        by_cases q : i = ls
        · rw [decide_eq_true q]
          subst q
          go_wp2
          go_ret
          exact ⟨rfl, HBj.out⟩
        · rw [decide_eq_false q]
          have hlt : i < ls := by omega
          clear q
          go_wp2
          go_roundw
          case rel => exact ⟨i + 1, by omega, by go_num, HBj⟩
          case measure => simp [intOf]; omega

set_option maxHeartbeats 4000000 in
theorem hfresh_any (fl : Int) (f : It) (w : World) (hf : isWo fl) (hk : okI f) :
    Calls Try.prog 29 #[.int .i64 fl, fv f] w fun e w' => e = .returned (.int .i64 (fresh fl f.size f.cost)) ∧ Below w.heap.size w w' := by
  obtain ⟨k, z, c, u⟩ := f
  have HB0 : Hid (Below w.heap.size w (w.alloc (fo ⟨k, z, c, u⟩))) := Lib.hid (bel_al (Below.refl _ _) (Nat.le_refl _) _)
  obtain ⟨x0, x1, x2, x3⟩ := (Ib.new w ⟨k, z, c, u⟩).cells
  obtain ⟨-, ⟨hz1, hz2⟩, hc1, hc2⟩ := hk
  obtain ⟨hf1, hf2⟩ := hf
  dsimp only at hz1 hz2 hc1 hc2
  have q2 : ¬ z = 0 := by omega
  obtain ⟨a, ha⟩ : ∃ a, a = 1024 * c := ⟨_, rfl⟩
  have q1 : IntKind.i64.wrap (1024 * c) = a := by rw [ha, IntKind.wrap_i64]; omega
  have ha0 : 0 ≤ a := by omega
  have ha1 : a ≤ 1073741824 := by omega
  have hm : a.tmod z = a % z := Int.tmod_eq_emod_of_nonneg ha0
  have hm0 : 0 ≤ a % z := Int.emod_nonneg _ q2
  have hm1 : a % z < z := Int.emod_lt_of_pos _ (by omega)
  have hma : a % z ≤ a := by
    have := Int.emod_add_mul_ediv a z
    have : 0 ≤ a / z := Int.ediv_nonneg ha0 (by omega)
    have : 0 ≤ z * (a / z) := Int.mul_nonneg (by omega) this
    omega
  have q3 : IntKind.i64.wrap (a - a.tmod z) = a - a % z := by rw [hm, IntKind.wrap_i64]; omega
  have hd : (a - a % z).tdiv z = a / z := by
    rw [Int.tdiv_eq_ediv_of_nonneg (by omega)]
    have e : a - a % z = z * (a / z) := by have := Int.emod_add_mul_ediv a z; omega
    rw [e, Int.mul_ediv_cancel_left _ q2]
  have hn0 : 0 ≤ a / z := Int.ediv_nonneg ha0 (by omega)
  have hn1 : a / z ≤ a := Int.ediv_le_self _ ha0
  have q4 : IntKind.i64.wrap ((a - a % z).tdiv z) = a / z := by rw [hd, IntKind.wrap_i64]; omega
  have q5 : IntKind.i64.wrap (fl + a / z) = fl + a / z := by rw [IntKind.wrap_i64]; omega
  have HE : Hid (fresh fl z c = min (fl + a / z) 1125899906842624) := Lib.hid (by unfold fresh; rw [ha])
  rw [HE.out]
  clear hm hm0 hm1 hma hd hn0 hn1 hz1 hz2 hc1 hc2 hf1 hf2 ha0 ha1 HE ha
  generalize a / z = g at *
  generalize a % z = md at *
  by_cases q6 : 1125899906842624 < fl + g
  · have d6 : decide (1125899906842624 < fl + g) = true := by simpa using q6
    have HM : Hid (min (fl + g) 1125899906842624 = 1125899906842624) := Lib.hid (by omega)
    rw [HM.out]
    clear q6
    go_enter Try.func29, Try.ntmps29
    go_wp2_with fail
    go_quiet (fail)
    have HB1 : Hid (Below w.heap.size w ((w.alloc (fo ⟨k, z, c, u⟩)).drewN nq)) := Lib.hid (bel_drewN HB0.out nq)
    clear x0 x1 x2 x3 HB0
    generalize (w.alloc (fo ⟨k, z, c, u⟩)).drewN nq = w1 at *
    go_wp2
    go_ret
    exact ⟨rfl, HB1.out⟩
  · have d6 : decide (1125899906842624 < fl + g) = false := by simpa using q6
    have HM : Hid (min (fl + g) 1125899906842624 = fl + g) := Lib.hid (by omega)
    rw [HM.out]
    clear q6
    go_enter Try.func29, Try.ntmps29
    go_wp2_with fail
    go_quiet (fail)
    have HB1 : Hid (Below w.heap.size w ((w.alloc (fo ⟨k, z, c, u⟩)).drewN nq)) := Lib.hid (bel_drewN HB0.out nq)
    clear x0 x1 x2 x3 HB0
    generalize (w.alloc (fo ⟨k, z, c, u⟩)).drewN nq = w1 at *
    go_wp2
    go_ret
    exact ⟨rfl, HB1.out⟩

end Go.Proofs.Ytmobohamlimhdaa.Grd
