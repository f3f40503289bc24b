/-
  Package optimal: isRoom, next, goesBefore, victim.
-/
import Derived.Test.YtgdklpgmoanfkaaOptMem
import Derived.Test.YtgdklpgmoanfkaaLruWalks
import Derived.StillTailTactics
import Derived.Deep.RegionHeld3
import Derived.BigQuiet
namespace Go.Proofs.Ytgdklpgmoanfkaa.Opt
open Go.RowKit
open Bst
open Lfu (Us gu gu_get gu_mem gu_set keys keys_len keys_get keys_mem)
open Lru (isRm isK keysE keysE_zero traceE trace_zero)
set_option linter.unusedVariables false
set_option maxRecDepth 100000

theorem bel_drewN {B : Nat} {w w' : World} (h : Below B w w') (n : Nat) : Below B w (w'.drewN n) := h.trans ⟨rfl, rfl, rfl, Nat.le_refl _, fun _ _ => rfl⟩
theorem Uss.us {w : World} {A : Option Addr} {c k : Nat} {F : List Us} (h : Uss w A c F) (hk : k < F.length) : ∃ b o, A = some ⟨b, o, none⟩ ∧ w.cell? ⟨b, o + k * 2, none⟩ = some (.int .i64 (gu F k).key) ∧ w.cell? ⟨b, o + k * 2 + 1, none⟩ = some (.int .i64 (gu F k).cnt) := by
  obtain ⟨b, o, e, ht⟩ := h.2.2.2 (by omega)
  exact ⟨b, o, e, ht.2 k hk⟩

theorem isRoom_any (n : Int) (w : World) : Calls Try.prog 35 #[.int .i64 n] w fun e w' => e = .returned (.bool (decide (isRm n))) ∧ w = w' := by
  by_cases h : 1 ≤ n
  · have hd : decide (1 ≤ n) = true := by simpa using h
    have HE : Hid (decide (isRm n) = decide (n ≤ 40)) := Lib.hid (by simp [isRm, h])
    clear h
    go_enter Try.func35, Try.ntmps35
    go_wp2
    go_ret
    exact ⟨ret_bool HE.out.symm, rfl⟩
  · have hd : decide (1 ≤ n) = false := by simpa using h
    have HE : Hid (decide (isRm n) = false) := Lib.hid (decide_eq_false (fun hh => h hh.1))
    clear h
    go_enter Try.func35, Try.ntmps35
    go_wp2
    go_ret
    exact ⟨ret_bool HE.out.symm, rfl⟩

theorem goes_any (c d : Us) (w : World) : Calls Try.prog 54 #[fv c, fv d] w fun e w' => e = .returned (.bool (decide (Bf c d))) ∧ Below w.heap.size w w' := by
  obtain ⟨a, u⟩ := c
  obtain ⟨b, z⟩ := d
  have HB : Hid (Below w.heap.size w ((w.alloc (fo ⟨a, u⟩)).alloc (fo ⟨b, z⟩))) := Lib.hid (bel_al (bel_al (Below.refl _ _) (Nat.le_refl _) _) (by simp) _)
  by_cases h : u = z
  · have q : (u != z) = false := by simp [h]
    have HE : Hid (decide (Bf ⟨a, u⟩ ⟨b, z⟩) = decide (a < b)) := Lib.hid (by unfold Bf; simp [h])
    clear h
    go_enter Try.func54, Try.ntmps54
    go_wp2
    go_ret
    exact ⟨ret_bool HE.out.symm, HB.out⟩
  · have q : (u != z) = true := by simp [h]
    have HE : Hid (decide (Bf ⟨a, u⟩ ⟨b, z⟩) = decide (z < u)) := Lib.hid (by unfold Bf; simp [h])
    clear h
    go_enter Try.func54, Try.ntmps54
    go_wp2
    go_ret
    exact ⟨ret_bool HE.out.symm, HB.out⟩

theorem dnI {w : World} {A : Option Addr} {c : Nat} {L : List Int} (h : Ints w A c L) (n : Nat) : Ints (w.drewN n) A c L := h.below (bel_drewN (Below.refl _ _) n)
theorem next_any (A : Option Addr) (c : Nat) (L : List Int) (i : Nat) (w : World) (hI : Ints w A c L) (hi : i < L.length) (hl : L.length ≤ 1048576) :
    Calls Try.prog 39 #[.slice A L.length c, .int .i64 (i : Int)] w fun e w' => e = .returned (.int .i64 (again L (i + 1) (gi L i) : Int)) ∧ Below w.heap.size w w' := by
  obtain ⟨b, o, rfl, ht⟩ := hI.2.2.2 (by omega)
  have e1 := ht.2 i hi
  obtain ⟨A2, c2, hsf, hI2⟩ := Lru.slice_from hI (k := i + 1) (by omega)
  have HC := Lib.hid (fun (W : World) (hW : Ints W A2 c2 (L.drop (i + 1))) => Lru.index_any A2 c2 (L.drop (i + 1)) (gi L i) W hW)
  have HI2 := Lib.hid hI2
  have hw : IntKind.i64.wrap ((i : Int) + 1) = (i : Int) + 1 := by rw [IntKind.wrap_i64]; omega
  rw [show ((i + 1 : Nat) : Int) = (i : Int) + 1 by omega] at hsf
  have h1 : (i : Int) < (L.length : Int) := by omega
  have h2 : (0 : Int) ≤ (i : Int) := by omega
  obtain ⟨x, hx⟩ : ∃ x, x = gi L i := ⟨_, rfl⟩
  obtain ⟨ld, hld⟩ : ∃ ld, ld = (L.drop (i + 1)).length := ⟨_, rfl⟩
  rw [← hx] at e1 HC ⊢
  rw [← hld] at hsf HC
  obtain ⟨n, hn⟩ : ∃ n, n = L.length := ⟨_, rfl⟩
  have HBn := Lib.hid (fun q => bel_drewN (Below.refl w.heap.size w) q)
  by_cases hm : x ∈ L.drop (i + 1)
  · have ha := again_in hm
    have hle := again_le (l := L) (i := i + 1) (y := x) (by omega)
    have hnn : (0 : Int) ≤ Lib.idxOf (L.drop (i + 1)) x := by rw [idx_nx hm]; omega
    obtain ⟨p, hp⟩ : ∃ p, p = Lib.idxOf (L.drop (i + 1)) x := ⟨_, rfl⟩
    rw [← hp] at HC ha hnn
    have q1 : decide ((0 : Int) ≤ p) = true := by simpa using hnn
    have hw2 : IntKind.i64.wrap ((i : Int) + 1 + p) = (again L (i + 1) x : Int) := by rw [IntKind.wrap_i64]; omega
    generalize again L (i + 1) x = q at *
    rw [← hn] at hsf h1 ⊢
    clear ht hI hI2 hm hp hx hld hn hi hl ha hle hnn
    go_enter Try.func39, Try.ntmps39
    go_wp2_with fail
    go_quiet (first | (go_at_call 42; (with_reducible refine Calls.quiet_of_same (HC.out _ ?_)); exact dnI HI2.out _))
    go_wp2
    go_ret
    exact ⟨rfl, HBn.out _⟩
  · have ha := again_out (l := L) (i := i + 1) (y := x) (by omega) hm
    have hnn := Lru.idx_out hm
    obtain ⟨p, hp⟩ : ∃ p, p = Lib.idxOf (L.drop (i + 1)) x := ⟨_, rfl⟩
    rw [← hp] at HC hnn
    have q1 : decide ((0 : Int) ≤ p) = false := by simp; omega
    rw [ha]
    rw [← hn] at hsf h1 ⊢
    clear ht hI hI2 hm hp hx hld hn hi hl ha hnn
    go_enter Try.func39, Try.ntmps39
    go_wp2_with fail
    go_quiet (first | (go_at_call 42; (with_reducible refine Calls.quiet_of_same (HC.out _ ?_)); exact dnI HI2.out _))
    go_wp2
    go_ret
    exact ⟨rfl, HBn.out _⟩

set_option maxHeartbeats 2000000 in
theorem victim_any (A : Option Addr) (c : Nat) (L : List Us) (w : World) (hF : Uss w A c L) (h0 : 0 < L.length) (h40 : L.length ≤ 1048576) :
    Calls Try.prog 48 #[.slice A L.length c] w fun e w' => e = .returned (.int .i64 (vicC L L.length : Int)) ∧ Below w.heap.size w w' := by
  have HF := Lib.hid hF
  obtain ⟨b, o, rfl, hbt⟩ := hF.2.2.2 h0
  have HBl := Lib.hid hbt.1
  clear hF hbt
  obtain ⟨n, hn⟩ : ∃ n, L.length = n := ⟨_, rfl⟩
  have HN := Lib.hid hn
  rw [hn] at h0 h40 ⊢
  clear hn
  go_enter Try.func48, Try.ntmps48
  go_wp2
  go_loopw [3, 8] (fun s3 s8 wr => ∃ k : Nat, k ≤ n ∧ s8 = .int .i64 (k : Int) ∧ s3 = .int .i64 (vicC L k : Int) ∧ Hid (Below w.heap.size w wr)) (fun _ s8 _ => n - (intOf s8).toNat)
  case atStart => exact ⟨0, by omega, rfl, rfl, Lib.hid (Below.refl _ _)⟩
  case round =>
    obtain ⟨k, hk, rfl, rfl, HBr⟩ := hrel
    by_cases hlt : k < n
    · have hv : vicC L k < n := by
        rcases Nat.eq_zero_or_pos k with e | e
        · subst e; exact h0
        · have := vicC_lt L k e; omega
      have hin : (k : Int) < (n : Int) := by omega
      have hiB : (0 : Int) ≤ (k : Int) := by omega
      have HV : Hid (vicC L (k + 1) = if Bf (gu L k) (gu L (vicC L k)) then k else vicC L k) := Lib.hid rfl
      generalize vicC L k = v at *
      have hvn : (v : Int) < (n : Int) := by omega
      have hvB : (0 : Int) ≤ (v : Int) := by omega
      have HFr := Lib.hid (HF.out.below HBr.out)
      obtain ⟨b1, o1, e, e1, e2⟩ := HFr.out.us (k := k) (by rw [HN.out]; exact hlt)
      cases e
      obtain ⟨b2, o2, e, v1, v2⟩ := HFr.out.us (k := v) (by rw [HN.out]; exact hv)
      cases e
      have hbr : b < wr.heap.size := Nat.lt_of_lt_of_le HBl.out HBr.out.size
      generalize gu L k = f at *
      generalize gu L v = g at *
      have HBa : Hid (Below wr.heap.size wr (wr.alloc (fo f))) := Lib.hid (bel_al (Below.refl _ _) (Nat.le_refl _) _)
      have HS : Hid (∀ W, Below (wr.alloc (fo f)).heap.size (wr.alloc (fo f)) W → W.cell? ⟨wr.heap.size, 0, none⟩ = some (.int .i64 f.key) ∧ W.cell? ⟨wr.heap.size, 1, none⟩ = some (.int .i64 f.cnt) ∧ W.cell? ⟨b, o + v * 2, none⟩ = some (.int .i64 g.key) ∧ W.cell? ⟨b, o + v * 2 + 1, none⟩ = some (.int .i64 g.cnt)) := Lib.hid (fun W hW => by
        have hb2 : Below wr.heap.size wr W := HBa.out.trans (hW.mono (by simp))
        refine ⟨(hW.cell (p := ⟨wr.heap.size, 0, none⟩) (by simp)).trans (by simp [go_sem]), (hW.cell (p := ⟨wr.heap.size, 1, none⟩) (by simp)).trans (by simp [go_sem]), (hb2.cell (p := ⟨b, _, none⟩) hbr).trans v1, (hb2.cell (p := ⟨b, _, none⟩) hbr).trans v2⟩)
      have HG := Lib.hid (goes_any f g)
      clear v1 v2 hbr
      obtain ⟨x, u⟩ := f
      obtain ⟨y, z⟩ := g
      dsimp only at e1 e2 HS HG HV HBa
      obtain ⟨pp, hpp⟩ : ∃ pp, pp = wr.heap.size := ⟨_, rfl⟩
      rw [← hpp] at HS
      have HBw : Hid (∀ W, Below (wr.alloc (fo ⟨x, u⟩)).heap.size (wr.alloc (fo ⟨x, u⟩)) W → Below w.heap.size w W) := Lib.hid (fun W hW => HBr.out.trans ((HBa.out.trans (hW.mono (by simp))).mono HBr.out.size))
      go_wp2_with fail
      rw [← hpp]
      clear hpp HBa
      generalize wr.alloc (.cells #[.int .i64 x, .int .i64 u] 56) = wa at *
      by_cases q1 : Bf ⟨x, u⟩ ⟨y, z⟩
      · have HD : Hid (decide (Bf ⟨x, u⟩ ⟨y, z⟩) = true) := Lib.hid (by simpa using q1)
        rw [if_pos q1] at HV
        clear q1 e1 e2
        go_region_held3 (fun w' => w'.cell? ⟨pp, 0, none⟩ = some (.int .i64 x) ∧ w'.cell? ⟨pp, 1, none⟩ = some (.int .i64 u) ∧ w'.cell? ⟨b, o + v * 2, none⟩ = some (.int .i64 y) ∧ w'.cell? ⟨b, o + v * 2 + 1, none⟩ = some (.int .i64 z))
          (first | exact HS.out _ hB5 | exact HS.out _ (Below.refl _ _).drew)
          (first | (go_at_call 54; refine (HG.out wa.drew).mono ?_; rintro e w5 ⟨rfl, hb5⟩; rw [HD.out]; have hB5 : Below wa.heap.size wa w5 := (Below.refl _ _).drew.trans hb5))
        rename_i hHH
        have HB5 := Lib.hid (HBw.out _ hB5)
        clear hHH hB5 hb5
        go_wp2
        go_roundw
        case rel => exact ⟨k + 1, by omega, by go_num, by rw [HV.out], HB5⟩
        case measure => simp [intOf]; omega
      · have HD : Hid (decide (Bf ⟨x, u⟩ ⟨y, z⟩) = false) := Lib.hid (by simpa using q1)
        rw [if_neg q1] at HV
        clear q1 e1 e2
        go_region_held3 (fun w' => w'.cell? ⟨pp, 0, none⟩ = some (.int .i64 x) ∧ w'.cell? ⟨pp, 1, none⟩ = some (.int .i64 u) ∧ w'.cell? ⟨b, o + v * 2, none⟩ = some (.int .i64 y) ∧ w'.cell? ⟨b, o + v * 2 + 1, none⟩ = some (.int .i64 z))
          (first | exact HS.out _ hB5 | exact HS.out _ (Below.refl _ _).drew)
          (first | (go_at_call 54; refine (HG.out wa.drew).mono ?_; rintro e w5 ⟨rfl, hb5⟩; rw [HD.out]; have hB5 : Below wa.heap.size wa w5 := (Below.refl _ _).drew.trans hb5))
        rename_i hHH
        have HB5 := Lib.hid (HBw.out _ hB5)
        clear hHH hB5 hb5
        go_wp2
        go_roundw
        case rel => exact ⟨k + 1, by omega, by go_num, by rw [HV.out], HB5⟩
        case measure => simp [intOf]; omega
    · obtain rfl : k = n := by omega
      go_wp2
      go_ret
      exact ⟨rfl, HBr.out⟩

end Go.Proofs.Ytgdklpgmoanfkaa.Opt
