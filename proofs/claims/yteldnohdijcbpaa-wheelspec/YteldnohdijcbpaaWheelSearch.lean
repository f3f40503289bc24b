/-
  slices.BinarySearchFunc at timers.
-/
import Derived.Test.YteldnohdijcbpaaWheelConcat
import Derived.Shelf.Abstract
namespace Go.Proofs.Yteldnohdijcbpaa.Whl
open Go.RowKit
set_option linter.unusedVariables false

/-- A box of a timer and one timer of a row. -/
abbrev S4 (p : Nat) (t : Tm) (b q : Nat) (u : Tm) (w w' : World) : Prop :=
  w'.cell? ⟨p, 0, none⟩ = some (.int .i64 t.id) ∧ w'.cell? ⟨p, 1, none⟩ = some (.int .i64 t.tm) ∧ w'.cell? ⟨b, q, none⟩ = some (.int .i64 u.id) ∧ w'.cell? ⟨b, q + 1, none⟩ = some (.int .i64 u.tm) ∧ Below w.heap.size w w'
theorem S4.next {p : Nat} {t : Tm} {b q : Nat} {u : Tm} {w w' w'' : World} (h : S4 p t b q u w w') (hp : p < w.heap.size) (hb : b < w.heap.size) (hw : Below w'.heap.size w' w'') : S4 p t b q u w w'' := by
  obtain ⟨h1, h2, h3, h4, h5⟩ := h
  have hs := h5.size
  exact ⟨(hw.cell (p := ⟨p, 0, none⟩) (by show p < _; omega)).trans h1, (hw.cell (p := ⟨p, 1, none⟩) (by show p < _; omega)).trans h2, (hw.cell (p := ⟨b, q, none⟩) (by show b < _; omega)).trans h3, (hw.cell (p := ⟨b, q + 1, none⟩) (by show b < _; omega)).trans h4, h5.trans (hw.mono hs)⟩
theorem S4.drew {p : Nat} {t : Tm} {b q : Nat} {u : Tm} {w w' : World} (h : S4 p t b q u w w') : S4 p t b q u w w'.drew := ⟨h.1, h.2.1, h.2.2.1, h.2.2.2.1, h.2.2.2.2.drew⟩

theorem below_drewN (n : Nat) (w : World) : ∀ m, Below n w (w.drewN m)
  | 0 => Below.refl _ _
  | m + 1 => by
    have h := (below_drewN n w m).drew
    exact h

set_option maxHeartbeats 8000000 in
theorem search_any (A : Option Addr) (c : Nat) (L : List Tm) (t : Tm) (w : World) (hT : Tms w A c L) (hl : L.length ≤ 1048576) (hs : Sorted L) :
    Calls Try.prog 24 #[.slice A L.length c, tv t, .func (.func 25) #[] #[]] w fun e w' =>
      ∃ (p : Nat) (fb : Bool), e = .returned (.tuple #[.int .i64 (p : Int), .bool fb]) ∧ p ≤ L.length ∧ (∀ a, a < p → ltT (gt L a) t) ∧ (∀ a, p ≤ a → a < L.length → ¬ ltT (gt L a) t) ∧ Below w.heap.size w w' := by
  have hs' : ∀ a b, a < b → b < L.length → ltT (gt L a) (gt L b) := fun a b hab hb => by
    rw [gt_get (by omega), gt_get hb]
    exact List.pairwise_iff_getElem.1 hs a b (by omega) hb hab
  have HS := Lib.hid hs'
  obtain ⟨i0, a0⟩ := t
  have hb0 : Below w.heap.size w (w.alloc (tbo ⟨i0, a0⟩)) := (Below.refl _ _).alloc (Nat.le_refl _) _
  have t0 : (w.alloc (tbo ⟨i0, a0⟩)).cell? ⟨w.heap.size, 0, none⟩ = some (.int .i64 i0) := by simp [go_sem]
  have t1 : (w.alloc (tbo ⟨i0, a0⟩)).cell? ⟨w.heap.size, 1, none⟩ = some (.int .i64 a0) := by simp [go_sem]
  have hz : w.heap.size < (w.alloc (tbo ⟨i0, a0⟩)).heap.size := by simp
  have HT := Lib.hid (hT.below hb0)
  have HB0 := Lib.hid hb0
  clear hs hs' hT hb0
  generalize hn : L.length = n at *
  have HN := Lib.hid hn
  clear hn
  go_enter Try.func24, Try.ntmps24
  go_wp2
  generalize w.alloc (tbo ⟨i0, a0⟩) = w1 at *
  generalize hm : w.heap.size = m at *
  have HM := Lib.hid hm
  clear hm
  go_loopw [9, 10] (fun x y wr => ∃ i j : Nat, i ≤ j ∧ j ≤ n ∧ x = .int .i64 (i : Int) ∧ y = .int .i64 (j : Int) ∧ (∀ a, a < i → ltT (gt L a) ⟨i0, a0⟩) ∧ (∀ a, j ≤ a → a < n → ¬ ltT (gt L a) ⟨i0, a0⟩) ∧ Below w1.heap.size w1 wr) (fun x y _ => (intOf y).toNat - (intOf x).toNat)
  case atStart => exact ⟨0, n, by omega, by omega, rfl, rfl, fun a h => by omega, fun a h h2 => by omega, Below.refl _ _⟩
  case round =>
    obtain ⟨i, j, hij, hj, rfl, rfl, ha, hb, hw⟩ := hrel
    have HA := Lib.hid ha
    have HBn := Lib.hid hb
    have HW := Lib.hid hw
    clear ha hb hw
    by_cases hlt : i < j
    · have hlt' : (i : Int) < (j : Int) := by omega
      obtain ⟨b, o, rfl, hb, hr⟩ := HT.out.2.2.2 (by rw [HN.out]; omega)
      obtain ⟨h, hh⟩ : ∃ h, h = (i + j) / 2 := ⟨_, rfl⟩
      have hh1 : i ≤ h := by omega
      have hh2 : h < j := by omega
      have hhI : ((i : Int) + (j : Int)) / 2 = (h : Int) := by omega
      have hhn : (h : Int) < (n : Int) := by omega
      obtain ⟨g1, g2⟩ := hr h (by rw [HN.out]; omega)
      have hS : S4 m ⟨i0, a0⟩ b (o + h * 2) (gt L h) w1 wr := ⟨(HW.out.cell (p := ⟨m, 0, none⟩) hz).trans t0, (HW.out.cell (p := ⟨m, 1, none⟩) hz).trans t1, (HW.out.cell (p := ⟨b, _, none⟩) hb).trans g1, (HW.out.cell (p := ⟨b, _, none⟩) hb).trans g2, HW.out⟩
      have HS4 := Lib.hid hS
      have HCs : Hid (∀ W, Calls Try.prog 25 #[tv (gt L h), tv ⟨i0, a0⟩] W fun e w' => e = .returned (.int .i64 (cmpT (gt L h) ⟨i0, a0⟩)) ∧ Below W.heap.size W w') := Lib.hid (order_any _ _)
      clear hS hr g1 g2 hh
      by_cases hc : ltT (gt L h) ⟨i0, a0⟩
      · have hq : decide (cmpT (gt L h) ⟨i0, a0⟩ < 0) = true := by simpa using cmpT_lt.2 hc
        have HL : Hid (∀ a, a < h + 1 → ltT (gt L a) ⟨i0, a0⟩) := Lib.hid (fun a hah => by
          by_cases e : a = h
          · rw [e]; exact hc
          · exact ltT_trans (HS.out a h (by omega) (by omega)) hc)
        clear hc
        generalize cmpT (gt L h) ⟨i0, a0⟩ = z at *
        generalize gt L h = u at *
        obtain ⟨gi, ga⟩ := u
        go_wp2
        go_region_held3 (fun w' => w'.cell? ⟨m, 0, none⟩ = some (.int .i64 i0) ∧ w'.cell? ⟨m, 1, none⟩ = some (.int .i64 a0) ∧ w'.cell? ⟨b, o + h * 2, none⟩ = some (.int .i64 gi) ∧ w'.cell? ⟨b, o + h * 2 + 1, none⟩ = some (.int .i64 ga) ∧ Below w1.heap.size w1 w')
          (first | exact S4.drew HS4.out | exact S4.next (t := ⟨i0, a0⟩) (u := ⟨gi, ga⟩) ‹_› hz hb hb8 | assumption)
          (first | (go_at_call 25; refine (HCs.out _).mono ?_; rintro e w8 ⟨rfl, hb8⟩))
        rename_i hHH
        have HW8 := Lib.hid hHH.2.2.2.2
        clear hHH hb8
        go_wp2
        go_roundw
        case rel => exact ⟨h + 1, j, by omega, hj, by go_num, rfl, HL.out, HBn.out, HW8.out⟩
        case measure => simp [intOf]; omega
      · have hq : decide (cmpT (gt L h) ⟨i0, a0⟩ < 0) = false := by simpa using cmpT_ge.2 hc
        have HL : Hid (∀ a, h ≤ a → a < n → ¬ ltT (gt L a) ⟨i0, a0⟩) := Lib.hid (fun a hah han hlt3 => by
          by_cases e : a = h
          · rw [e] at hlt3; exact hc hlt3
          · exact hc (ltT_trans (HS.out h a (by omega) (by omega)) hlt3))
        clear hc
        generalize cmpT (gt L h) ⟨i0, a0⟩ = z at *
        generalize gt L h = u at *
        obtain ⟨gi, ga⟩ := u
        go_wp2
        go_region_held3 (fun w' => w'.cell? ⟨m, 0, none⟩ = some (.int .i64 i0) ∧ w'.cell? ⟨m, 1, none⟩ = some (.int .i64 a0) ∧ w'.cell? ⟨b, o + h * 2, none⟩ = some (.int .i64 gi) ∧ w'.cell? ⟨b, o + h * 2 + 1, none⟩ = some (.int .i64 ga) ∧ Below w1.heap.size w1 w')
          (first | exact S4.drew HS4.out | exact S4.next (t := ⟨i0, a0⟩) (u := ⟨gi, ga⟩) ‹_› hz hb hb8 | assumption)
          (first | (go_at_call 25; refine (HCs.out _).mono ?_; rintro e w8 ⟨rfl, hb8⟩))
        rename_i hHH
        have HW8 := Lib.hid hHH.2.2.2.2
        clear hHH hb8
        go_wp2
        go_roundw
        case rel => exact ⟨i, h, by omega, by omega, rfl, rfl, HA.out, HL.out, HW8.out⟩
        case measure => simp [intOf]; omega
    · obtain rfl : i = j := by omega
      by_cases hin : i < n
      · have hin' : (i : Int) < (n : Int) := by omega
        obtain ⟨b, o, rfl, hb, hr⟩ := HT.out.2.2.2 (by rw [HN.out]; omega)
        obtain ⟨g1, g2⟩ := hr i (by rw [HN.out]; omega)
        have hS : S4 m ⟨i0, a0⟩ b (o + i * 2) (gt L i) w1 wr := ⟨(HW.out.cell (p := ⟨m, 0, none⟩) hz).trans t0, (HW.out.cell (p := ⟨m, 1, none⟩) hz).trans t1, (HW.out.cell (p := ⟨b, _, none⟩) hb).trans g1, (HW.out.cell (p := ⟨b, _, none⟩) hb).trans g2, HW.out⟩
        have HS4 := Lib.hid hS
        have HCs : Hid (∀ W, Calls Try.prog 25 #[tv (gt L i), tv ⟨i0, a0⟩] W fun e w' => e = .returned (.int .i64 (cmpT (gt L i) ⟨i0, a0⟩)) ∧ Below W.heap.size W w') := Lib.hid (order_any _ _)
        clear hS hr g1 g2
        generalize cmpT (gt L i) ⟨i0, a0⟩ = z at *
        generalize hq : (z == 0) = q
        generalize gt L i = u at *
        obtain ⟨gi, ga⟩ := u
        go_wp2
        go_region_held3 (fun w' => w'.cell? ⟨m, 0, none⟩ = some (.int .i64 i0) ∧ w'.cell? ⟨m, 1, none⟩ = some (.int .i64 a0) ∧ w'.cell? ⟨b, o + i * 2, none⟩ = some (.int .i64 gi) ∧ w'.cell? ⟨b, o + i * 2 + 1, none⟩ = some (.int .i64 ga) ∧ Below w1.heap.size w1 w')
          (first | exact S4.drew HS4.out | exact S4.next (t := ⟨i0, a0⟩) (u := ⟨gi, ga⟩) ‹_› hz hb hb8 | assumption)
          (first | (go_at_call 25; refine (HCs.out _).mono ?_; rintro e w8 ⟨rfl, hb8⟩))
        rename_i hHH
        have HW8 := Lib.hid (HB0.out.trans (hHH.2.2.2.2.mono (Nat.le_of_lt hz)))
        clear hHH hb8
        go_wp2
        go_ret2
        exact ⟨i, _, rfl, hj, HA.out, HBn.out, by rw [HM.out]; exact HW8.out⟩
      · obtain rfl : i = n := by omega
        have HW9 := Lib.hid (HB0.out.trans (HW.out.mono (Nat.le_of_lt hz)))
        go_wp2
        go_quiet (fail)
        go_wp2
        go_ret2
        exact ⟨i, _, rfl, hj, HA.out, HBn.out, by rw [HM.out]; first | exact HW9.out | exact HW9.out.trans (below_drewN _ _ _)⟩

end Go.Proofs.Yteldnohdijcbpaa.Whl
