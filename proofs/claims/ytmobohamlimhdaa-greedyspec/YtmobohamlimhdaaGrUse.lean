/-
  Package greedy: initial, total, victim.
-/
import Derived.Test.YtmobohamlimhdaaGrWalks
namespace Go.Proofs.Ytmobohamlimhdaa.Grd
open Go.RowKit
open Lru (isK)
set_option linter.unusedVariables false
set_option maxRecDepth 100000

theorem initial_any (fl : Int) (f : It) (w : World) (hf : isWo fl) (hk : okI f) :
    Calls Try.prog 24 #[.int .i64 fl, fv f] w fun e w' => e = .returned (.int .i64 (fresh fl f.size f.cost)) ∧ Below w.heap.size w w' := by
  obtain ⟨k, z, c, u⟩ := f
  have HB0 : Hid (Below w.heap.size w (w.alloc (fo ⟨k, z, c, u⟩))) := Lib.hid (bel_al (Below.refl _ _) (Nat.le_refl _) _)
  obtain ⟨x0, x1, x2, x3⟩ := (Ib.new w ⟨k, z, c, u⟩).cells
  obtain ⟨-, ⟨hz1, hz2⟩, hc1, hc2⟩ := hk
  obtain ⟨hf1, hf2⟩ := hf
  dsimp only at hz1 hz2 hc1 hc2
  have q1 : IntKind.i64.wrap (1024 * c) = 1024 * c := by rw [IntKind.wrap_i64]; omega
  have q2 : ¬ z = 0 := by omega
  have hd : (1024 * c).tdiv z = 1024 * c / z := Int.tdiv_eq_ediv_of_nonneg (by omega)
  have hn0 : 0 ≤ 1024 * c / z := Int.ediv_nonneg (by omega) (by omega)
  have hn1 : 1024 * c / z ≤ 1024 * c := Int.ediv_le_self _ (by omega)
  have q3 : IntKind.i64.wrap ((1024 * c).tdiv z) = 1024 * c / z := by rw [hd, IntKind.wrap_i64]; omega
  have q4 : IntKind.i64.wrap (fl + 1024 * c / z) = fl + 1024 * c / z := by rw [IntKind.wrap_i64]; omega
  have q5 : min (fl + 1024 * c / z) 1125899906842624 = fresh fl z c := rfl
  clear hd hn0 hn1 hz1 hz2 hc1 hc2 hf1 hf2
  generalize fresh fl z c = fr at *
  generalize 1024 * c / z = q at *
  go_enter Try.func24, Try.ntmps24
  go_wp2
  go_ret
  exact ⟨rfl, HB0.out⟩

theorem sizes_at {F : List It} {k : Nat} (h : k < F.length) : sizes (F.take (k + 1)) = sizes (F.take k) + (gt F k).size := by
  rw [List.take_add_one, List.getElem?_eq_getElem h, Option.toList_some, sizes_app, gt_get h]; simp [sizes]
theorem costs_app : ∀ (A B : List It), costs (A ++ B) = costs A + costs B
  | [], B => by simp [costs]
  | t :: A, B => by show t.cost + costs (A ++ B) = t.cost + costs A + costs B; rw [costs_app]; omega
theorem costs_at {F : List It} {k : Nat} (h : k < F.length) : costs (F.take (k + 1)) = costs (F.take k) + (gt F k).cost := by
  rw [List.take_add_one, List.getElem?_eq_getElem h, Option.toList_some, costs_app, gt_get h]; simp [costs]
theorem sizes_bound : ∀ {F : List It}, (∀ t ∈ F, okI t) → 0 ≤ sizes F ∧ sizes F ≤ 1048576 * (F.length : Int) ∧ 0 ≤ costs F ∧ costs F ≤ 1048576 * (F.length : Int)
  | [], _ => ⟨Int.le_refl _, Int.le_refl _, Int.le_refl _, Int.le_refl _⟩
  | t :: F, h => by
    obtain ⟨h1, h2, h3, h4⟩ := sizes_bound (F := F) (fun u hu => h u (by simp [hu]))
    obtain ⟨-, ⟨a1, a2⟩, a3, a4⟩ := h t (by simp)
    simp only [sizes, costs, List.length_cons]
    omega

set_option maxHeartbeats 2000000 in
theorem total_any (A : Option Addr) (c : Nat) (F : List It) (w : World) (hF : Tss w A c F) (h40 : F.length ≤ 40) (hok : ∀ t ∈ F, okI t) :
    Calls Try.prog 26 #[.slice A F.length c] w fun e w' => e = .returned (.tuple #[.int .i64 (sizes F), .int .i64 (costs F)]) ∧ Below w.heap.size w w' := by
  have HF := Lib.hid hF
  clear hF
  obtain ⟨n, hn⟩ : ∃ n, F.length = n := ⟨_, rfl⟩
  have HN := Lib.hid hn
  rw [hn] at h40 ⊢
  clear hn
  have HOk := Lib.hid hok
  clear hok
  go_enter Try.func26, Try.ntmps26
  go_wp2
  go_loopw [2, 3, 8] (fun s2 s3 s8 wr => ∃ k : Nat, k ≤ n ∧ s8 = .int .i64 (k : Int) ∧ s2 = .int .i64 (sizes (F.take k)) ∧ s3 = .int .i64 (costs (F.take k)) ∧ Hid (Below w.heap.size w wr)) (fun _ _ s8 _ => n - (intOf s8).toNat)
  case atStart => exact ⟨0, by omega, rfl, rfl, rfl, Lib.hid (Below.refl _ _)⟩
  case round =>
    obtain ⟨k, hk, rfl, rfl, rfl, HBr⟩ := hrel
    by_cases hlt : k < n
    · have hin : (k : Int) < (n : Int) := by omega
      have hiB : (0 : Int) ≤ (k : Int) := by omega
      have HKL : Hid (k < F.length) := Lib.hid (by rw [HN.out]; exact hlt)
      have HFr := Lib.hid (HF.out.below HBr.out)
      obtain ⟨b1, o1, rfl, e1, e2, e3, e4⟩ := HFr.out.us HKL.out
      have HBa : Hid (Below w.heap.size w (wr.alloc (fo (gt F k)))) := Lib.hid (bel_al HBr.out HBr.out.size _)
      obtain ⟨n0, n1, n2, n3⟩ := (Ib.new wr (gt F k)).cells
      have hb := sizes_bound (F := F.take k) (fun t ht => HOk.out t (List.take_subset _ _ ht))
      have hlk : (F.take k).length = k := by rw [List.length_take, HN.out]; omega
      rw [hlk] at hb
      obtain ⟨-, ⟨a1, a2⟩, a3, a4⟩ := HOk.out _ (gt_mem HKL.out)
      have g1 : IntKind.i64.wrap (sizes (F.take k) + (gt F k).size) = sizes (F.take (k + 1)) := by rw [sizes_at HKL.out, IntKind.wrap_i64]; omega
      have g2 : IntKind.i64.wrap (costs (F.take k) + (gt F k).cost) = costs (F.take (k + 1)) := by rw [costs_at HKL.out, IntKind.wrap_i64]; omega
      clear hb hlk a1 a2 a3 a4
      generalize gt F k = f at *
      obtain ⟨ky, z, co, u⟩ := f
      dsimp only at e1 e2 e3 e4 n0 n1 n2 n3 g1 g2
      obtain ⟨s', hs'⟩ : ∃ s', s' = sizes (F.take (k + 1)) := ⟨_, rfl⟩
      obtain ⟨c', hc'⟩ : ∃ c', c' = costs (F.take (k + 1)) := ⟨_, rfl⟩
      rw [← hs'] at g1
      rw [← hc'] at g2
      replace hs' := Lib.hid hs'
      replace hc' := Lib.hid hc'
      generalize sizes (F.take k) = s at *
      generalize costs (F.take k) = cc at *
      go_wp2
      go_roundw
      case rel => exact ⟨k + 1, by omega, by go_num, by rw [← hs'.out], by rw [← hc'.out], HBa⟩
      case measure => simp [intOf]; omega
    · obtain rfl : k = n := by omega
      have HE : Hid (sizes (F.take k) = sizes F ∧ costs (F.take k) = costs F) := Lib.hid (by rw [← HN.out, List.take_length]; exact ⟨rfl, rfl⟩)
      rw [HE.out.1, HE.out.2]
      go_wp2
      refine bodyPost_ret (v := .tuple #[.int .i64 (sizes F), .int .i64 (costs F)]) (by simp [results, Try.results26, go_sem]) rfl ?_
      exact ⟨rfl, HBr.out⟩

theorem lst_step (L : List It) (k : Nat) : lst L k = if (gt L k).worth < (gt L (lst L (k - 1))).worth then k else lst L (k - 1) := by
  cases k with
  | zero => show 0 = if _ then 0 else 0; split <;> rfl
  | succ k => rfl

set_option maxHeartbeats 2000000 in
theorem victim_any (A : Option Addr) (c : Nat) (L : List It) (w : World) (hF : Tss w A c L) (h0 : 0 < L.length) (h40 : L.length ≤ 1048576) :
    Calls Try.prog 27 #[.slice A L.length c] w fun e w' => e = .returned (.int .i64 (lstN L : Int)) ∧ Below w.heap.size w w' := by
  have HF := Lib.hid hF
  obtain ⟨b, o, rfl, -⟩ := hF.2.2.2 h0
  clear hF
  obtain ⟨n, hn⟩ : ∃ n, L.length = n := ⟨_, rfl⟩
  have HN := Lib.hid hn
  rw [hn] at h0 h40 ⊢
  clear hn
  go_enter Try.func27, Try.ntmps27
  go_wp2
  go_loopw [3, 8] (fun s3 s8 wr => ∃ k : Nat, k ≤ n ∧ s8 = .int .i64 (k : Int) ∧ s3 = .int .i64 (lst L (k - 1) : Int) ∧ Hid (Below w.heap.size w wr)) (fun _ s8 _ => n - (intOf s8).toNat)
  case atStart => exact ⟨0, by omega, rfl, rfl, Lib.hid (Below.refl _ _)⟩
  case round =>
    obtain ⟨k, hk, rfl, rfl, HBr⟩ := hrel
    by_cases hlt : k < n
    · have hv : lst L (k - 1) < n := by have := lst_le L (k - 1); omega
      have hin : (k : Int) < (n : Int) := by omega
      have hiB : (0 : Int) ≤ (k : Int) := by omega
      have HV : Hid (lst L (k + 1 - 1) = if (gt L k).worth < (gt L (lst L (k - 1))).worth then k else lst L (k - 1)) := Lib.hid (lst_step L k)
      generalize lst L (k - 1) = v at *
      have hvn : (v : Int) < (n : Int) := by omega
      have hvB : (0 : Int) ≤ (v : Int) := by omega
      have HFr := Lib.hid (HF.out.below HBr.out)
      obtain ⟨b1, o1, e, e1, e2, e3, e4⟩ := HFr.out.us (k := k) (by rw [HN.out]; exact hlt)
      cases e
      have HFa := Lib.hid (HFr.out.alloc (fo (gt L k)))
      obtain ⟨b2, o2, e, -, -, -, v4⟩ := HFa.out.us (k := v) (by rw [HN.out]; exact hv)
      cases e
      have HBa : Hid (Below w.heap.size w (wr.alloc (fo (gt L k)))) := Lib.hid (bel_al HBr.out HBr.out.size _)
      have n1 : (wr.alloc (fo (gt L k))).cell? ⟨wr.heap.size, 3, none⟩ = some (.int .i64 (gt L k).worth) := by simp [go_sem]
      generalize gt L k = f at *
      obtain ⟨x, z, cc, u⟩ := f
      generalize (gt L v).worth = y at *
      dsimp only at e1 e2 e3 e4 v4 n1 HV
      by_cases q1 : u < y
      · have d1 : decide (u < y) = true := by simpa using q1
        rw [if_pos q1] at HV
        clear q1
        go_wp2_with fail
        go_quiet (fail)
        have HB1 := Lib.hid (bel_drewN HBa.out nq)
        generalize ((wr.alloc (fo ⟨x, z, cc, u⟩)).drewN nq) = w1 at *
        clear e1 e2 e3 e4 v4 n1
        go_wp2
        go_roundw
        case rel => exact ⟨k + 1, by omega, by go_num, by rw [HV.out], HB1⟩
        case measure => simp [intOf]; omega
      · have d1 : decide (u < y) = false := by simpa using q1
        rw [if_neg q1] at HV
        clear q1
        go_wp2_with fail
        go_quiet (fail)
        have HB1 := Lib.hid (bel_drewN HBa.out nq)
        generalize ((wr.alloc (fo ⟨x, z, cc, u⟩)).drewN nq) = w1 at *
        clear e1 e2 e3 e4 v4 n1
        go_wp2
        go_roundw
        case rel => exact ⟨k + 1, by omega, by go_num, by rw [HV.out], HB1⟩
        case measure => simp [intOf]; omega
    · obtain rfl : k = n := by omega
      have HE : Hid (lstN L = lst L (k - 1)) := Lib.hid (by unfold lstN; rw [HN.out])
      go_wp2
      go_ret
      exact ⟨ret_int (by rw [HE.out]), HBr.out⟩

end Go.Proofs.Ytmobohamlimhdaa.Grd
