/-
  TopShards: what is dealt out, as a loop reckons it; the owner of a key.
-/
import Derived.Test.YtjmhemkbfephpaaTopShMem
import Derived.Test.YtjmhemkbfephpaaLruApi2
import Derived.Test.YtjmhemkbfephpaaRingMore
import Derived.Test.YtjmhemkbfephpaaShScores
namespace Go.Proofs.Ytjmhemkbfephpaa.Tsh
open Go.RowKit
open Shd (Sh Shs Nms Strs sc err Best err_zero best_uniq)
set_option linter.unusedVariables false
set_option maxRecDepth 100000

/-- The owner of a key. -/
noncomputable def ow (L : List Sh) (s : ByteArray) : Nat := open Classical in if h : ∃ i, Best (sc L s) L.length i then Classical.choose h else 0
theorem ow_of {L : List Sh} {s : ByteArray} {i : Nat} (h : Best (sc L s) L.length i) : ow L s = i := by
  have hx : ∃ i, Best (sc L s) L.length i := ⟨i, h⟩
  unfold ow
  rw [dif_pos hx]
  exact best_uniq (Classical.choose_spec hx) h
theorem owner_ow (A : Option Addr) (c : Nat) (L : List Sh) (s : ByteArray) (w : World) (h : Shs w A c L) (hN : Nms L) (hs : s.size ≤ maxLen) (he : err L s = 0) :
    ow L s < 20 ∧ Calls Try.prog 21 #[.slice A L.length c, .string s] w fun e w' => e = .returned (.tuple #[.int .i64 ((ow L s : Nat) : Int), .int .i64 0]) ∧ Below w.heap.size w w' := by
  have h0 := (err_zero.1 he)
  have hfew := h0.1.few
  rcases Shd.best_exists (f := sc L s) (ok := fun _ => True) L.length with hn | ⟨i, hi⟩
  · exact absurd trivial (hn 0 h0.2.2)
  · refine ⟨by rw [ow_of hi]; have := hi.1; omega, (Shd.owner_ok A c L s w ⟨h, hN, hs⟩ he).mono ?_⟩
    rintro e w' ⟨⟨j, rfl, hj⟩, hb⟩
    rw [ow_of hj]
    exact ⟨rfl, hb⟩

/-- The first of the keys before k that is the same, as the loop goes back. -/
def back (eq : Nat → Bool) : Nat → Int → Int
  | 0, f => f
  | k + 1, f => back eq k (if eq k = true then (k : Int) else f)
theorem back_succ (eq : Nat → Bool) (k : Nat) (f : Int) : back eq (k + 1) f = back eq k (if eq k = true then (k : Int) else f) := rfl

section
variable (r : Int) (OW : Nat → Nat) (FI : Nat → Int)
abbrev rr (i o : Nat) : List Int := Rng.prt OW FI o i
abbrev kk (i o : Nat) : List Int := Lru.runL r [] (Rng.prt OW FI o i)
abbrev hh (i : Nat) : Nat := Rng.hitA r OW FI i
abbrev ss (n o : Nat) : Nat := Rng.sumN (fun o => Lru.hitsM r [] (Rng.prt OW FI o n)) o
theorem rr_succ (i o : Nat) : rr OW FI (i + 1) o = upd (rr OW FI i) (OW i) (rr OW FI i (OW i) ++ [FI i]) o := by
  unfold rr
  rw [Rng.prt_succ]
  by_cases e : OW i = o
  · subst e; rw [if_pos rfl, upd_self]
  · rw [if_neg e, upd_ne (fun h => e h.symm)]
theorem kk_succ (i o : Nat) : kk r OW FI (i + 1) o = upd (kk r OW FI i) (OW i) (Lru.touch r (kk r OW FI i (OW i)) (FI i)) o := by
  unfold kk
  rw [Rng.prt_succ]
  by_cases e : OW i = o
  · subst e; rw [if_pos rfl, upd_self, Lru.runL_snoc]
  · rw [if_neg e, upd_ne (fun h => e h.symm)]
theorem hh_succ (i : Nat) : hh r OW FI (i + 1) = hh r OW FI i + (if FI i ∈ kk r OW FI i (OW i) then 1 else 0) := rfl
theorem hh_le : ∀ i, hh r OW FI i ≤ i
  | 0 => Nat.le_refl _
  | i + 1 => by
    rw [hh_succ]
    have := hh_le i
    split <;> omega
theorem hits_le (r : Int) : ∀ (xs L : List Int), Lru.hitsM r L xs ≤ xs.length
  | [], _ => Nat.le_refl _
  | x :: xs, L => by
    have := hits_le r xs (Lru.touch r L x)
    unfold Lru.hitsM
    rw [List.length_cons]
    split <;> omega
theorem ss_succ (n o : Nat) : ss r OW FI n (o + 1) = ss r OW FI n o + Lru.hitsM r [] (rr OW FI n o) := rfl
theorem ss_le (n : Nat) : ∀ o, ss r OW FI n o ≤ o * n
  | 0 => Nat.zero_le _
  | o + 1 => by
    rw [Nat.succ_mul]
    have h1 : ss r OW FI n o ≤ o * n := ss_le n o
    have h2 : Lru.hitsM r [] (rr OW FI n o) ≤ (rr OW FI n o).length := hits_le r (rr OW FI n o) []
    have h3 : (rr OW FI n o).length ≤ n := Rng.prt_len OW FI o n
    exact Nat.add_le_add h1 (Nat.le_trans h2 h3)
theorem run_facts {n o : Nat} (hr : Lru.isRm r) (hk : ∀ k, k < n → Lru.isK (FI k)) (hn : n ≤ 40) : Lru.rnE r [] (rr OW FI n o) = 0 ∧ Lru.rnR r [] (rr OW FI n o) = r ∧ Lru.rnL r [] (rr OW FI n o) = kk r OW FI n o ∧ Lru.rnH r [] (rr OW FI n o) = ((Lru.hitsM r [] (rr OW FI n o) : Nat) : Int) := by
  have hE : Lru.rnE r [] (rr OW FI n o) = 0 := by
    unfold Lru.rnE
    have hc : Lru.checkC r [] = 0 := by
      unfold Lru.checkC
      rw [if_pos hr, if_neg (by unfold Lru.isRm at hr; simp; omega)]
      rfl
    rw [if_pos hc, Lru.trace_zero]
    refine ⟨by have : (rr OW FI n o).length ≤ n := Rng.prt_len OW FI o n; omega, fun x hx => ?_⟩
    obtain ⟨k, hk', rfl⟩ := Rng.prt_mem OW FI hx
    exact hk k hk'
  refine ⟨hE, ?_, ?_, ?_⟩
  · unfold Lru.rnR; rw [if_pos hE]
  · unfold Lru.rnL; rw [if_pos hE]
  · unfold Lru.rnH; rw [if_pos hE]
theorem ac_ok {r : Int} {L : List Int} {x : Int} (h : Lru.acE r L x = 0) : Lru.isRm r ∧ Lru.isK x ∧ Lru.acR r L x = r ∧ Lru.acL r L x = Lru.touch r L x ∧ Lru.acH r L x = decide (x ∈ L) := by
  have h1 : Lru.checkC r L = 0 := Classical.byContradiction fun hn => by
    unfold Lru.acE at h; rw [if_neg hn] at h; exact hn h
  have h2 : Lru.isK x := Classical.byContradiction fun hn => by
    unfold Lru.acE at h; rw [if_pos h1, if_neg hn] at h; cases h
  refine ⟨(Lru.check_zero.1 h1).room, h2, ?_, ?_, ?_⟩
  · unfold Lru.acR; rw [if_pos h]
  · unfold Lru.acL; rw [if_pos h]
  · unfold Lru.acH; rw [if_pos h]
end

end Go.Proofs.Ytjmhemkbfephpaa.Tsh
