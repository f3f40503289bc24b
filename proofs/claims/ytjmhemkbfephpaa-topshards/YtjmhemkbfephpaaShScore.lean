/-
  Package shard: score; slices.Max and slices.Index over a row of scores.
-/
import Derived.Test.YtjmhemkbfephpaaShCheck
namespace Go.Proofs.Ytjmhemkbfephpaa.Shd
open Go.RowKit
set_option linter.unusedVariables false
set_option maxRecDepth 100000

theorem nat_num (n h : BitVec 64) (k : Nat) : ((num n h k : Nat) : Int) = nv (mixB (h ^^^ mixB (n ^^^ BitVec.ofNat 64 k))) := rfl
theorem xor_at (n : BitVec 64) (k : Nat) (h : k < 18446744073709551616) : bits .xor .u64 (nv n) (k : Int) = nv (n ^^^ BitVec.ofNat 64 k) := by
  rw [← nv_lit k h]; exact nv_xor _ _
theorem top_step (f : Nat → Nat) (k : Nat) : max ((top f k : Nat) : Int) ((f k : Nat) : Int) = ((top f (k + 1) : Nat) : Int) := by
  show _ = (((if top f k < f k then f k else top f k : Nat)) : Int)
  split <;> omega

set_option maxHeartbeats 4000000 in
theorem score_any (f : Sh) (h : BitVec 64) (w : World) (h1 : 1 ≤ f.wt ∧ f.wt ≤ 8) (h2 : f.name.size ≤ 40) :
    Calls Try.prog 47 #[fv f, .int .u64 (nv h)] w fun e w' => e = .returned (.int .u64 ((scH f h : Nat) : Int)) ∧ Below w.heap.size w w' := by
  have HK0 : Hid (Sb (w.alloc (fo f)) w.heap.size f) := Lib.hid (Sb.new w _)
  have HB0 : Hid (Below w.heap.size w (w.alloc (fo f))) := Lib.hid (bel_al (Below.refl _ _) (Nat.le_refl _) _)
  have HS := Lib.hid (fun W : World => sum_any f.name W h2)
  obtain ⟨m, hm⟩ : ∃ m : Nat, f.wt = (m : Int) := ⟨f.wt.toNat, by omega⟩
  have hm8 : m ≤ 8 := by omega
  have HT : Hid (scH f h = top (num (fnv f.name.data.toList) h) m) := Lib.hid (by unfold scH; rw [hm, Int.toNat_natCast])
  obtain ⟨x0, x1⟩ := HK0.out.cells
  obtain ⟨nm, wt⟩ := f
  dsimp only at hm x0 x1 HS HT
  subst hm
  clear h1 h2
  generalize fnv nm.data.toList = n at *
  have HSC : Hid (scH ⟨nm, (m : Int)⟩ h = top (num n h) m) := HT
  generalize scH ⟨nm, (m : Int)⟩ h = sv at *
  have hw : IntKind.u64.wrap (m : Int) = (m : Int) := by unfold IntKind.wrap; simp [IntKind.bits, IntKind.signed]; omega
  go_enter Try.func47, Try.ntmps47
  go_wp2_with (go_at_call 46; with_reducible refine (HS.out _).mono ?_; rintro e w2 ⟨rfl, rfl⟩)
  go_loop [7, 18] (fun t i => ∃ k : Nat, k ≤ m ∧ i = .int .u64 (k : Int) ∧ t = .int .u64 ((top (num n h) k : Nat) : Int)) (fun _ i => m - (intOf i).toNat)
  case atStart => exact ⟨0, by omega, rfl, rfl⟩
  case round =>
    obtain ⟨k, hk, rfl, rfl⟩ := hrel
    by_cases hlt : k < m
    · have hin : (k : Int) < (m : Int) := by omega
      have HX := Lib.hid (xor_at n k (by omega))
      have HM := Lib.hid (top_step (num n h) k)
      have HNN := Lib.hid (nat_num n h k)
      generalize hz : top (num n h) (k + 1) = t1 at *
      have HZ := Lib.hid hz
      clear hz
      generalize top (num n h) k = t0 at *
      rw [HNN.out] at HM
      go_wp2_with (first | (go_at_call 64; (first | rw [HX.out] | rw [nv_xor]); refine (mix_any _ _).mono ?_; rintro e w2 ⟨rfl, rfl⟩))
      go_round
      case rel => exact ⟨k + 1, by omega, by go_num, by rw [HM.out, HZ.out]⟩
      case measure => simp [intOf]; omega
    · obtain rfl : k = m := by omega
      go_wp2
      go_ret
      exact ⟨ret_int (by rw [HSC.out]), HB0.out⟩

/-- Block g holds the scores f of n shards. -/
def Scs (w : World) (g n : Nat) (f : Nat → Nat) : Prop := g < w.heap.size ∧ ∀ i, i < n → w.cell? ⟨g, i, none⟩ = some (.int .u64 ((f i : Nat) : Int))
theorem Scs.below {w w' : World} {g n : Nat} {f : Nat → Nat} (h : Scs w g n f) (hb : Below w.heap.size w w') : Scs w' g n f :=
  ⟨Nat.lt_of_lt_of_le h.1 hb.size, fun i hi => (hb.cell (p := ⟨g, i, none⟩) h.1).trans (h.2 i hi)⟩
/-- The first of the greatest. -/
abbrev Best (f : Nat → Nat) (n i : Nat) : Prop := IsBest f (fun _ => True) n i

theorem max_any (g n c : Nat) (f : Nat → Nat) (w : World) (h : Scs w g n f) (h0 : 0 < n) (hn : n ≤ 1048576) :
    Calls Try.prog 36 #[.slice (some ⟨g, 0, none⟩) n c] w fun e w' => (∃ i, e = .returned (.int .u64 ((f i : Nat) : Int)) ∧ Best f n i) ∧ w = w' := by
  have h1 : decide ((n : Int) < 1) = false := by simp; omega
  have hi0 : (0 : Int) < (n : Int) := by omega
  have H0 := Lib.hid h0
  have HN := Lib.hid hn
  have c0 := h.2 0 h0
  have HC := Lib.hid h.2
  clear h0 h
  go_enter Try.func36, Try.ntmps36
  go_wp2
  go_loop [3, 4] (fun t i => ∃ k j : Nat, k ≤ n ∧ i = .int .i64 (k : Int) ∧ t = .int .u64 ((f j : Nat) : Int) ∧ Hid (Best f k j)) (fun _ i => n - (intOf i).toNat)
  case atStart => exact ⟨1, 0, H0.out, rfl, rfl, Lib.hid (best_first (fun j hj => by omega) trivial)⟩
  case round =>
    obtain ⟨k, j, hk, rfl, rfl, HB⟩ := hrel
    clear c0 h1 hi0
    by_cases hlt : k < n
    · have hin : (k : Int) < (n : Int) := by omega
      have hiB : (0 : Int) ≤ (k : Int) := by omega
      have ck := HC.out k hlt
      obtain ⟨q, hm, HQ⟩ : ∃ q : Nat, max ((f j : Nat) : Int) ((f k : Nat) : Int) = ((f q : Nat) : Int) ∧ Hid (Best f (k + 1) q) := by
        by_cases hl : f j < f k
        · exact ⟨k, by omega, Lib.hid (best_take HB.out trivial hl)⟩
        · exact ⟨j, by omega, Lib.hid (best_keep HB.out hl)⟩
      have HM := Lib.hid hm
      clear hm
      generalize hz : f q = z at *
      have HZ := Lib.hid hz
      clear hz
      generalize f j = x at *
      generalize f k = y at *
      go_wp2
      go_round
      case rel => exact ⟨k + 1, q, by omega, by go_num, by rw [HM.out, HZ.out], HQ⟩
      case measure => simp [intOf]; omega
    · obtain rfl : k = n := by omega
      go_wp2
      go_ret
      exact ⟨⟨j, rfl, HB.out⟩, rfl⟩

theorem index_any (g n c i : Nat) (f : Nat → Nat) (w : World) (h : Scs w g n f) (hb : Best f n i) (hn : n ≤ 1048576) :
    Calls Try.prog 35 #[.slice (some ⟨g, 0, none⟩) n c, .int .u64 ((f i : Nat) : Int)] w fun e w' => e = .returned (.int .i64 (i : Int)) ∧ w = w' := by
  have HC := Lib.hid h.2
  have HB := Lib.hid hb
  clear h hb
  go_enter Try.func35, Try.ntmps35
  go_wp2
  go_loop [8] (fun v => ∃ k : Nat, k ≤ i ∧ v = .int .i64 (k : Int)) (fun v => n - (intOf v).toNat)
  case atStart => exact ⟨0, by omega, rfl⟩
  case round =>
    obtain ⟨k, hk, rfl⟩ := hrel
    have hlt : k < n := Nat.lt_of_le_of_lt hk HB.out.1
    have hin : (k : Int) < (n : Int) := by omega
    have hiB : (0 : Int) ≤ (k : Int) := by omega
    have ck := HC.out k hlt
    by_cases he : k = i
    · have hq : (((f i : Nat) : Int) == ((f k : Nat) : Int)) = true := by rw [he]; simp
      have HE := Lib.hid he
      clear he
      generalize f k = y at *
      generalize f i = x at *
      go_wp2
      go_ret
      exact ⟨ret_int (by rw [HE.out]), rfl⟩
    · have hq : (((f i : Nat) : Int) == ((f k : Nat) : Int)) = false := by
        have := (HB.out.2.2 k hlt trivial).2 (by omega)
        rw [beq_eq_false_iff_ne]; omega
      generalize f k = y at *
      generalize f i = x at *
      go_wp2
      go_round
      case rel => exact ⟨k + 1, by omega, by go_num⟩
      case measure => simp [intOf]; omega

end Go.Proofs.Ytjmhemkbfephpaa.Shd
