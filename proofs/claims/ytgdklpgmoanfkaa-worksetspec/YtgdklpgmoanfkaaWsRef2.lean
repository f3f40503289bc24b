/-
  The reference: WorkFaults, WorkPhases.
-/
import Derived.Test.YtgdklpgmoanfkaaWsRef
import Derived.Deep.RegionHeld3
import Derived.StillTailTactics
namespace Go.Proofs.Ytgdklpgmoanfkaa.Wst
open Go.RowKit
open Lru (isRm isK traceE trace_zero)
open Dst (win fltK row)
open Two
set_option linter.unusedVariables false
set_option maxRecDepth 100000

set_option maxHeartbeats 8000000 in
theorem workFaults_any (A : Option Addr) (c : Nat) (L : List Int) (n : Nat) (w : World) (hI : Ints w A c L) (hk : ∀ x ∈ L, isK x) (hl : L.length ≤ 400) (hn1 : 1 ≤ n) (hn2 : n ≤ 400) :
    Calls Try.prog 14 #[.slice A L.length c, .int .i64 (n : Int)] w fun e w' => e = .returned (.int .i64 (fltK L n L.length : Int)) ∧ Below w.heap.size w w' := by
  have HI := Lib.hid hI
  have HWs : Hid (∀ (k : Nat) (W : World), Below w.heap.size w W → k + 1 < L.length → Calls Try.prog 13 #[.slice A L.length c, .int .i64 (k : Int), .int .i64 (n : Int)] W fun e w' => ∃ A' c', e = .returned (.slice A' (wset L n k).length c') ∧ Ints w' A' c' (wset L n k) ∧ Below W.heap.size W w') := Lib.hid (fun k W hW hkl => by
    refine (workSet_any A c L k n W (hI.below hW) hk (by omega) hl hn1 hn2).mono ?_
    rintro e w' ⟨v, rfl, ho, hb⟩
    obtain ⟨A', c', rfl, hI'⟩ := ints_of_own ho
    exact ⟨A', c', rfl, hI', hb⟩)
  obtain ⟨ln, hln⟩ : ∃ ln, L.length = ln := ⟨_, rfl⟩
  have HN := Lib.hid hln
  rw [hln] at hl ⊢
  simp only [hln] at HWs
  clear hI hk hln
  go_enter Try.func14, Try.ntmps14
  go_wp2
  go_loopw [5, 6] (fun s5 s6 wr => ∃ k : Nat, k ≤ ln ∧ s6 = .int .i64 (k : Int) ∧ s5 = .int .i64 (fltK L n k : Int) ∧ Below w.heap.size w wr) (fun _ i _ => ln - (intOf i).toNat)
  case atStart => exact ⟨0, by omega, rfl, rfl, Below.refl _ _⟩
  case round =>
    obtain ⟨k, hk, rfl, rfl, hb⟩ := hrel
    have HB := Lib.hid hb
    by_cases hlt : k < ln
    · have hin : (k : Int) < (ln : Int) := by omega
      have hiB : (0 : Int) ≤ (k : Int) := by omega
      have hkL : k < L.length := by rw [HN.out]; exact hlt
      obtain ⟨b, o, rfl, ht⟩ := (HI.out.below hb).2.2.2 (by omega)
      have e1 := ht.2 k hkL
      have hfl := flt_le L n k
      have hw1 : IntKind.i64.wrap ((fltK L n k : Int) + 1) = (fltK L n k : Int) + 1 := by rw [IntKind.wrap_i64]; omega
      have HS := Lib.hid (flt_succ L n k)
      have HBt := Lib.hid ht.1
      clear ht hb hkL hfl
      by_cases h0 : k = 0
      · have q0 : ((k : Int) == 0) = true := by simp [h0]
        have HS2 : Hid (fltK L n (k + 1) = fltK L n k + 1) := Lib.hid (by rw [HS.out, if_neg (by rw [h0, win_zero]; simp)])
        clear h0
        generalize gi L k = y at *
        generalize fltK L n k = f at *
        go_wp2
        go_quiet (fail)
        have HBq : Hid (Below w.heap.size w (wr.drewN nq)) := Lib.hid (bel_drewN HB.out _)
        generalize wr.drewN nq = wq at *
        go_wp2
        go_roundw
        case rel => exact ⟨k + 1, by omega, by go_num, by rw [HS2.out]; go_num, HBq.out⟩
        case measure => simp [intOf]; omega
      · have q0 : ((k : Int) == 0) = false := by simp; omega
        obtain ⟨m, hm⟩ : ∃ m, k = m + 1 := ⟨k - 1, by omega⟩
        have HW := Lib.hid (fun (W : World) (h : Below w.heap.size w W) => HWs.out m W h (by omega))
        have hw2 : IntKind.i64.wrap ((k : Int) - 1) = (m : Int) := by rw [IntKind.wrap_i64]; omega
        have hwin : gi L k ∈ win L n k ↔ gi L k ∈ wset L n m := by rw [mem_wset, hm]
        have HBd : Hid (Below w.heap.size w wr.drew) := Lib.hid HB.out.drew
        have HK : Hid (∀ w' : World, Below wr.heap.size wr w' → w'.cell? ⟨b, o + k, none⟩ = some (.int .i64 (gi L k))) := Lib.hid (fun w' h => (h.cell (p := ⟨b, o + k, none⟩) HBt.out).trans e1)
        by_cases hmem : gi L k ∈ win L n k
        · have HS2 : Hid (fltK L n (k + 1) = fltK L n k) := Lib.hid (by rw [HS.out, if_pos hmem]; rfl)
          have HHs := Lib.hid (fun (A' : Option Addr) (c' : Nat) (W : World) (h : Ints W A' c' (wset L n m)) => Kr.hasInt_b A' c' (wset L n m) (gi L k) true W h (decide_eq_true (hwin.1 hmem)))
          clear hmem hwin h0 hm
          generalize gi L k = y at *
          generalize fltK L n k = f at *
          generalize wset L n m = Sm at *
          generalize Sm.length = sl at *
          go_wp2
          go_region_held3 (fun w' => w'.cell? ⟨b, o + k, none⟩ = some (.int .i64 y))
            (first | exact HK.out _ hBd | exact HK.out _ (Below.refl _ _).drew)
            (first
              | (go_at_call 13; (with_reducible refine (HW.out wr.drew HBd.out).mono ?_); rintro e wd ⟨Av, cv, rfl, hIv, hbd⟩; have hBd : Below wr.heap.size wr wd := (Below.refl _ _).drew.trans hbd)
              | (go_at_call 18; (with_reducible refine (HHs.out Av cv wd hIv).mono ?_); rintro e w' ⟨rfl, rfl⟩))
          have HB4 := Lib.hid (HB.out.trans (hBd.mono HB.out.size))
          clear hBd hbd hIv
          go_wp2
          go_roundw
          case rel => exact ⟨k + 1, by omega, by go_num, by rw [HS2.out], HB4.out⟩
          case measure => simp [intOf]; omega
        · have HS2 : Hid (fltK L n (k + 1) = fltK L n k + 1) := Lib.hid (by rw [HS.out, if_neg hmem])
          have HHs := Lib.hid (fun (A' : Option Addr) (c' : Nat) (W : World) (h : Ints W A' c' (wset L n m)) => Kr.hasInt_b A' c' (wset L n m) (gi L k) false W h (decide_eq_false (fun h => hmem (hwin.2 h))))
          clear hmem hwin h0 hm
          generalize gi L k = y at *
          generalize fltK L n k = f at *
          generalize wset L n m = Sm at *
          generalize Sm.length = sl at *
          go_wp2
          go_region_held3 (fun w' => w'.cell? ⟨b, o + k, none⟩ = some (.int .i64 y))
            (first | exact HK.out _ hBd | exact HK.out _ (Below.refl _ _).drew)
            (first
              | (go_at_call 13; (with_reducible refine (HW.out wr.drew HBd.out).mono ?_); rintro e wd ⟨Av, cv, rfl, hIv, hbd⟩; have hBd : Below wr.heap.size wr wd := (Below.refl _ _).drew.trans hbd)
              | (go_at_call 18; (with_reducible refine (HHs.out Av cv wd hIv).mono ?_); rintro e w' ⟨rfl, rfl⟩))
          have HB4 := Lib.hid (HB.out.trans (hBd.mono HB.out.size))
          clear hBd hbd hIv
          go_wp2
          go_roundw
          case rel => exact ⟨k + 1, by omega, by go_num, by rw [HS2.out]; go_num, HB4.out⟩
          case measure => simp [intOf]; omega
    · obtain rfl : k = ln := by omega
      clear hb hlt
      go_wp2
      go_ret
      exact ⟨rfl, HB.out⟩

end Go.Proofs.Ytgdklpgmoanfkaa.Wst
