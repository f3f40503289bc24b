/-
  The reference of package wheel: digits, WheelPlace.
-/
import Derived.Test.YteldnohdijcbpaaWheelRef
namespace Go.Proofs.Yteldnohdijcbpaa.Whl
open Go.RowKit Go.Maps
set_option linter.unusedVariables false

theorem int_info : (Try.prog.info? 3).map (fun i => (i.zero, i.size, i.bytes)) = some (some (.int .i64 0), 1, 8) := by kernel_rfl
abbrev enc1 (x : Int) : Value := .int .i64 x
/-- Block g is a row of ints of the call's own. -/
def Rw (w : World) (g : Nat) (L : List Int) : Prop := w.heap[g]? = some (.cells (L.map enc1).toArray 3 (0, 0))
abbrev gj (L : List Int) (j : Nat) : Int := L.getD j 0
section
variable {w w' : World} {g : Nat} {L : List Int}
theorem Rw.lt (h : Rw w g L) : g < w.heap.size := (Array.getElem?_eq_some_iff.1 h).1
theorem Rw.below {B : Nat} (h : Rw w g L) (hb : Below B w w') (hg : g < B) : Rw w' g L := (hb.block g hg).trans h
theorem Rw.set (h : Rw w g L) (j : Nat) (x : Int) : Rw (w.setCell ⟨g, j, none⟩ (.int .i64 x)) g (L.set j x) := by
  unfold Rw at *
  rw [heap_setCell_same w g j _ _ _ h, List.setIfInBounds_toArray, List.map_set]
theorem Rw.cell (h : Rw w g L) {j : Nat} (hj : j < L.length) : w.cell? ⟨g, j, none⟩ = some (.int .i64 (gj L j)) := by
  rw [cell_of_row w g j _ _ (0, 0) h, List.getElem?_toArray, List.getElem?_map, List.getElem?_eq_getElem hj, gj, List.getD_eq_getElem?_getD, List.getElem?_eq_getElem hj]
  rfl
theorem Rw.frozen (h : Rw w g L) (j : Nat) : w.frozen? ⟨g, j, none⟩ = false := by
  unfold Rw at h; simp [World.frozen?, h]
end
theorem run_make6 (w : World) :
    (Instr.makeSlice 66 (.int .i64 6) (.int .i64 6)).run Try.prog w = .ok (.slice (some ⟨w.heap.size, 0, none⟩) 6 6) (w.alloc (.cells (Array.replicate 6 (enc1 0)) 3)) := by
  obtain ⟨i0, hi0, hz0, hz1, hz2⟩ := info_parts int_info
  have hr := run_make (P := Try.prog) w 66 3 i0 _ Try.underlying66 hi0 hz0 .i64 .i64 6 6 (by omega) (by omega) (by rw [hz2]; omega) (by omega)
  rw [show Int.toNat 6 = 6 from rfl, hz1, Nat.mul_one] at hr
  rw [hr]
  congr 3
  apply Array.ext'
  exact toList_madeCells_one _ _

/-- A digit; the digits from the k-th on. -/
def dg (n k : Nat) : Int := ((n / 8 ^ (5 - k) % 8 : Nat) : Int)
def dl (n k : Nat) : List Int := (List.range 6).map (fun j => if k ≤ j then dg n j else 0)
theorem dl_len (n k : Nat) : (dl n k).length = 6 := by simp [dl]
theorem dl_set {n k : Nat} (h : k < 6) : (dl n (k + 1)).set k (dg n k) = dl n k := by
  rcases (by omega : k = 0 ∨ k = 1 ∨ k = 2 ∨ k = 3 ∨ k = 4 ∨ k = 5) with rfl | rfl | rfl | rfl | rfl | rfl <;> rfl
theorem dl_get {n j : Nat} (h : j < 6) : gj (dl n 0) j = dg n j := by
  unfold gj dl
  rw [List.getD_eq_getElem?_getD, List.getElem?_map, List.getElem?_range h]
  rfl

set_option maxHeartbeats 2000000 in
theorem digits_any (n : Nat) (w : World) (hn : n < 262144) :
    Calls Try.prog 41 #[.int .i64 (n : Int)] w fun e w' => e = .returned (.slice (some ⟨w.heap.size, 0, none⟩) 6 6) ∧ Rw w' w.heap.size (dl n 0) ∧ Below w.heap.size w w' := by
  have hmk := run_make6 w
  have HR0 : Hid (Rw (w.alloc (.cells (Array.replicate 6 (enc1 0)) 3)) w.heap.size (dl n 6)) := Lib.hid (heap_alloc_new w _)
  have HB0 : Hid (Below w.heap.size w (w.alloc (.cells (Array.replicate 6 (enc1 0)) 3))) := Lib.hid ((Below.refl _ _).alloc (Nat.le_refl _) _)
  go_enter Try.func41, Try.ntmps41
  go_wp2
  clear hmk
  generalize w.alloc (.cells (Array.replicate 6 (enc1 0)) 3) = w0 at *
  generalize hg : w.heap.size = g at *
  have HG := Lib.hid hg
  clear hg
  go_loopw [0, 4] (fun y x wr => ∃ k : Nat, k ≤ 6 ∧ x = .int .i64 ((k : Int) - 1) ∧ y = .int .i64 ((n / 8 ^ (6 - k) : Nat) : Int) ∧ Rw wr g (dl n k) ∧ Below g w wr) (fun _ x _ => (intOf x + 1).toNat)
  case atStart => exact ⟨6, by omega, rfl, by simp, HR0.out, HB0.out⟩
  case round =>
    obtain ⟨k, hk, rfl, rfl, hR, hB⟩ := hrel
    have HB := Lib.hid hB
    clear hB
    by_cases h0 : k = 0
    · subst h0
      have HR := Lib.hid hR
      clear hR
      go_wp2
      go_ret
      exact ⟨by rw [HG.out]; rfl, by rw [HG.out]; exact HR.out, by rw [HG.out]; exact HB.out⟩
    · obtain ⟨m, rfl⟩ : ∃ m, k = m + 1 := ⟨k - 1, by omega⟩
      have e1 := hR.cell (j := m) (by rw [dl_len]; omega)
      have f1 := hR.frozen m
      have HS := hR.set m (dg n m)
      rw [dl_set (by omega)] at HS
      have HS := Lib.hid HS
      have HD : Hid (dg n m = ((n / 8 ^ (6 - (m + 1)) : Nat) : Int).tmod 8) := Lib.hid (by unfold dg; rw [show 6 - (m + 1) = 5 - m by omega]; rfl)
      have HQ : Hid (((n / 8 ^ (6 - m) : Nat) : Int) = ((n / 8 ^ (6 - (m + 1)) / 8 : Nat) : Int)) := Lib.hid (by
        rw [Nat.div_div_eq_div_mul, ← Nat.pow_succ, show (6 - (m + 1)).succ = 6 - m by omega])
      have hq : n / 8 ^ (6 - (m + 1)) < 262144 := Nat.lt_of_le_of_lt (Nat.div_le_self _ _) hn
      clear hR h0
      generalize n / 8 ^ (6 - (m + 1)) = z at *
      have hm1 : ((m + 1 : Nat) : Int) - 1 = (m : Int) := by omega
      rw [hm1]
      have hm2 : (m : Int) < 6 := by omega
      have hm3 : (0 : Int) ≤ (m : Int) := by omega
      clear hm1
      rw [HD.out] at HS
      generalize gj (dl n (m + 1)) m = old at *
      go_wp2
      go_roundw
      case rel =>
        refine ⟨m, by omega, ?_, ?_, HS.out, HB.out.setCell (p := ⟨g, m, none⟩) (Nat.le_refl _) _⟩
        · go_num
        · rw [HQ.out]; first | rfl | go_num
      case measure => simp [intOf]

/-! ### WheelPlace -/
theorem dg_eq {a n i : Nat} (h : a / 8 ^ (6 - i) = n / 8 ^ (6 - i)) (hi : i < 6) : dg a i = dg n i ↔ a / 8 ^ (5 - i) = n / 8 ^ (5 - i) := by
  have e : ∀ x : Nat, x / 8 ^ (5 - i) / 8 = x / 8 ^ (6 - i) := fun x => by
    rw [Nat.div_div_eq_div_mul, ← Nat.pow_succ, show (5 - i).succ = 6 - i by omega]
  have ea := e a
  have en := e n
  unfold dg
  constructor
  · intro h1
    have h2 : a / 8 ^ (5 - i) % 8 = n / 8 ^ (5 - i) % 8 := by exact_mod_cast h1
    omega
  · intro h1
    rw [h1]

set_option maxHeartbeats 4000000 in
theorem wplace_any (a n : Nat) (w : World) (ha : a < 262144) (hn : n < 262144) (hlt : n < a) :
    Calls Try.prog 30 #[.int .i64 (a : Int), .int .i64 (n : Int)] w fun e w' => e = .returned (.int .i64 (slotN n a : Int)) ∧ Below w.heap.size w w' := by
  have H1 := Lib.hid (digits_any a w ha)
  have H2 := Lib.hid (digits_any n · hn)
  have HN : Hid (n < a) := Lib.hid hlt
  go_enter Try.func30, Try.ntmps30
  go_wp2_with fail
  refine H1.out.mono ?_
  rintro e w1 ⟨rfl, hR1, hb1⟩
  go_wp2_with fail
  refine (H2.out _).mono ?_
  rintro e w2 ⟨rfl, hR2, hb2⟩
  have R1 := Lib.hid (hR1.below hb2 hR1.lt)
  have R2 := Lib.hid hR2
  have HB : Hid (Below w.heap.size w w2) := Lib.hid (hb1.trans (hb2.mono hb1.size))
  clear hb1 hb2 hR1 hR2 hlt H1 H2
  go_wp2
  generalize hg1 : w.heap.size = g1 at *
  have HG1 := Lib.hid hg1
  clear hg1
  generalize w1.heap.size = g2 at *
  go_loopw [7] (fun x wr => ∃ i : Nat, i ≤ 5 ∧ x = .int .i64 (i : Int) ∧ a / 8 ^ (6 - i) = n / 8 ^ (6 - i) ∧ Rw wr g1 (dl a 0) ∧ Rw wr g2 (dl n 0) ∧ Below g1 w wr) (fun x _ => (5 - intOf x).toNat)
  case atStart => exact ⟨0, by omega, rfl, by rw [Nat.div_eq_of_lt (by simp; omega), Nat.div_eq_of_lt (by simp; omega)], R1.out, R2.out, HB.out⟩
  case round =>
    obtain ⟨i, hi, rfl, heq, hr1, hr2, hb⟩ := hrel
    have e1 := hr1.cell (j := i) (by rw [dl_len]; omega)
    have e2 := hr2.cell (j := i) (by rw [dl_len]; omega)
    rw [dl_get (by omega)] at e1 e2
    have HR1 := Lib.hid hr1
    have HR2 := Lib.hid hr2
    have HBr := Lib.hid hb
    have HE := Lib.hid heq
    have HD := Lib.hid (dg_eq heq (by omega))
    have hi6 : (i : Int) < 6 := by omega
    clear hr1 hr2 hb heq
    by_cases hc : i < 5 ∧ dg a i = dg n i
    · obtain ⟨h5, hd⟩ := hc
      have q1 : decide ((i : Int) < 5) = true := by simp; omega
      have q0 : decide (i < 5) = true := by simp; omega
      have HE2 : Hid (a / 8 ^ (6 - (i + 1)) = n / 8 ^ (6 - (i + 1))) := Lib.hid (by rw [show 6 - (i + 1) = 5 - i by omega]; exact HD.out.1 hd)
      have q2 : (dg a i == dg n i) = true := by simpa using hd
      clear hd HD
      generalize dg a i = da at *
      generalize dg n i = db at *
      go_wp2
      go_quiet (fail)
      have HR1' := Lib.hid (HR1.out.below (below_drewN (g1 + 1) wr nq) (Nat.lt_succ_self _))
      have HR2' := Lib.hid (HR2.out.below (below_drewN (g2 + 1) wr nq) (Nat.lt_succ_self _))
      have HBr' : Hid (Below g1 w (wr.drewN nq)) := Lib.hid (HBr.out.trans (below_drewN _ _ _))
      generalize wr.drewN nq = w4 at *
      go_wp2
      go_roundw
      case rel => exact ⟨i + 1, by omega, by go_num, HE2.out, HR1'.out, HR2'.out, HBr'.out⟩
      case measure => simp [intOf]; omega
    · have HL : Hid (lev n a = 5 - i) := Lib.hid (by
        have hne : n ≠ a := by have := HN.out; omega
        refine lev_one hne (by rw [show 5 - i + 1 = 6 - i by omega]; exact HE.out) ?_
        by_cases h5 : i < 5
        · exact fun h => hc ⟨h5, HD.out.2 h⟩
        · rw [show 5 - i = 0 by omega]; simp; omega)
      have HSl : Hid ((slotN n a : Int) = 8 * (5 - (i : Int)) + dg a i) := Lib.hid (by
        unfold slotN dg
        rw [HL.out]
        omega)
      have hdb : 0 ≤ dg a i ∧ dg a i < 8 := by unfold dg; omega
      obtain ⟨hd1, hd2⟩ := hdb
      by_cases h5 : i < 5
      · have q1 : decide ((i : Int) < 5) = true := by simp; omega
        have q0 : decide (i < 5) = true := by simp; omega
        have q2 : (dg a i == dg n i) = false := by simpa using fun h => hc ⟨h5, h⟩
        clear hc HD HE HL
        generalize dg a i = da at *
        generalize dg n i = db at *
        go_wp2
        go_quiet (fail)
        have e1' := ((below_drewN (g1 + 1) wr nq).cell (p := ⟨g1, i, none⟩) (Nat.lt_succ_self _)).trans e1
        have HBr' : Hid (Below g1 w (wr.drewN nq)) := Lib.hid (HBr.out.trans (below_drewN _ _ _))
        clear e1 e2
        generalize wr.drewN nq = w4 at *
        go_wp2
        go_ret
        exact ⟨ret_int (by rw [HSl.out]), by rw [HG1.out]; exact HBr'.out⟩
      · have q1 : decide ((i : Int) < 5) = false := by simp; omega
        have q0 : decide (i < 5) = false := by simp; omega
        clear hc HD HE HL
        generalize dg a i = da at *
        generalize dg n i = db at *
        go_wp2
        go_quiet (fail)
        have e1' := ((below_drewN (g1 + 1) wr nq).cell (p := ⟨g1, i, none⟩) (Nat.lt_succ_self _)).trans e1
        have HBr' : Hid (Below g1 w (wr.drewN nq)) := Lib.hid (HBr.out.trans (below_drewN _ _ _))
        clear e1 e2
        generalize wr.drewN nq = w4 at *
        go_wp2
        go_ret
        exact ⟨ret_int (by rw [HSl.out]), by rw [HG1.out]; exact HBr'.out⟩

end Go.Proofs.Yteldnohdijcbpaa.Whl
