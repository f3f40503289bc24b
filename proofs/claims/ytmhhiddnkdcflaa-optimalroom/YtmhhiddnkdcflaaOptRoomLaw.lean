/-
  The walk of the law on the bound and on more room.
-/
import Derived.Test.YtmhhiddnkdcflaaOptBeatsLaw
namespace Go.Proofs.Ytmhhiddnkdcflaa.Opt
open Go.RowKit
open Bst
open Lru (isRm isK keysE keysE_zero traceE trace_zero)
set_option linter.unusedVariables false
set_option maxRecDepth 100000

theorem bndE_zero {m r l : Int} (h : bndE m r l = 0) : isRm r ∧ isRm l ∧ l ≤ r := by
  unfold bndE at h
  split at h
  · rename_i h1
    split at h
    · cases h
    · exact ⟨h1.2.2.1, h1.2.2.2, by omega⟩
  · cases h
theorem room_ok {r l : Int} {xs : List Int} (h1 : evE r xs = 0) (h2 : evE l xs = 0) (h3 : bndE (evm l xs : Int) r l = 0) :
    (xs.length : Int) - Lru.rnH r [] xs ≤ bndV (evm l xs : Int) r l ∧ evm r xs ≤ evm l xs := by
  obtain ⟨hr, hl, hlr⟩ := bndE_zero h3
  have e := (lru_ok h1).1
  have a1 := hr.1
  have a2 := hl.1
  refine ⟨?_, by rw [evm_eq h1, evm_eq h2]; exact missB_more (by omega) (by omega) xs⟩
  have hle := Lru.hitsM_le r [] xs
  have hb := lru_bound (k := r.toNat) (h := l.toNat) (by omega) (by omega) xs
  rw [show ((r.toNat : Nat) : Int) = r by omega] at hb
  unfold Lru.rnH bndV
  rw [if_pos e, if_pos h3, evm_eq h2]
  have hc : ((r.toNat * missB l.toNat [] xs / (r.toNat - l.toNat + 1) + r.toNat : Nat) : Int) = r * (missB l.toNat [] xs : Int) / (r - l + 1) + r := by
    rw [Int.natCast_add, Int.natCast_ediv, Int.natCast_mul, show ((r.toNat : Nat) : Int) = r by omega, show ((r.toNat - l.toNat + 1 : Nat) : Int) = r - l + 1 by omega]
  rw [← hc]
  omega

set_option maxHeartbeats 8000000 in
theorem optimalRoom_walk (A : Option Addr) (c : Nat) (xs : List Int) (r l : Int) (w : World) (hI : Ints w A c xs) :
    Calls Try.prog 6 #[.slice A xs.length c, .int .i64 r, .int .i64 l] w fun e w' => e = .returned (.bool true) ∧ Below w.heap.size w w' := by
  have HI := Lib.hid hI
  have HRn := Lib.hid (fun (W : World) (h : Ints W A c xs) => Evictions_any A c xs l W h)
  have HRm := Lib.hid (fun (W : World) (h : Ints W A c xs) => Evictions_any A c xs r W h)
  have HRl := Lib.hid (fun (W : World) (h : Ints W A c xs) => Lru.run_any r none A 0 c [] xs W (Ints.none_ _) h)
  have HBd := Lib.hid (fun (W : World) => Bound_any (evm l xs : Int) r l W)
  unfold ER at HRn HRm
  unfold Lru.NR at HRl
  have HG := Lib.hid (fun (h1 : evE r xs = 0) => lru_ok h1)
  have HF := Lib.hid (fun (h1 : evE r xs = 0) (h2 : evE l xs = 0) (h3 : bndE (evm l xs : Int) r l = 0) => And.intro (room_ok h1 h2 h3) (trace_zero.1 (evE_zero.1 h1).1).1)
  unfold HitOk at HG
  clear hI
  generalize Lru.rnR r [] xs = R1 at *
  generalize Lru.rnL r [] xs = M1 at *
  generalize Lru.rnH r [] xs = h1 at *
  generalize Lru.rnE r [] xs = e1 at *
  generalize evs r xs = Vr at *
  generalize evs l xs = Vl at *
  generalize bndV (evm l xs : Int) r l = bv at *
  generalize bndE (evm l xs : Int) r l = be at *
  generalize evm r xs = mr at *
  generalize evm l xs = ml at *
  generalize evE r xs = er at *
  generalize evE l xs = el at *
  generalize xs.length = ln at *
  go_enter Try.func6, Try.ntmps6
  go_wp2_with fail
  refine (HRn.out w HI.out).mono ?_
  rintro e w1 ⟨A1, c1, rfl, -, hb1⟩
  have HB1 := Lib.hid hb1
  clear hb1
  go_wp2_with fail
  refine (HRm.out w1 (HI.out.below HB1.out)).mono ?_
  rintro e w2 ⟨A2, c2, rfl, -, hb2⟩
  have HB2 : Hid (Below w.heap.size w w2) := Lib.hid (HB1.out.trans (hb2.mono HB1.out.size))
  clear hb2
  go_wp2_with fail
  refine (HRl.out w2 (HI.out.below HB2.out)).mono ?_
  rintro e w3 ⟨A3, c3, rfl, -, -, hb3⟩
  have HB3 : Hid (Below w.heap.size w (w3.alloc (Lru.co R1 A3 c3 M1))) := Lib.hid (bel_al (HB2.out.trans (hb3.mono HB2.out.size)) (Nat.le_trans HB2.out.size hb3.size) _)
  clear hb3
  go_wp2_with fail
  refine (HBd.out _).mono ?_
  rintro e w4 ⟨rfl, rfl⟩
  go_wp2_with fail
  refine (begun_any _).mono ?_
  rintro e w5 ⟨rfl, hb5⟩
  have HB5 : Hid (Below w.heap.size w w5) := Lib.hid (HB3.out.trans (hb5.mono HB3.out.size))
  clear hb5
  by_cases q0 : el = 0
  · have d0 : (el != 0) = false := by simp [q0]
    by_cases q1 : er = 0
    · have d1 : (er != 0) = false := by simp [q1]
      obtain ⟨rfl, a1, a2, -⟩ := HG.out q1
      by_cases q2 : be = 0
      · have d2 : (be != 0) = false := by simp [q2]
        obtain ⟨⟨f1, f2⟩, hl⟩ := HF.out q1 q0 q2
        have w1 : IntKind.i64.wrap ((ln : Int) - h1) = (ln : Int) - h1 := by rw [IntKind.wrap_i64]; omega
        have d3 : decide ((ln : Int) - h1 ≤ bv) = true := by simpa using f1
        have d4 : decide ((mr : Int) ≤ (ml : Int)) = true := by simp; omega
        have d5 : decide (mr ≤ ml) = true := by simp; omega
        clear q0 q1 q2 a1 a2 f1 f2 hl
        go_wp2
        go_ret
        exact ⟨rfl, HB5.out⟩
      · have d2 : (be != 0) = true := by simpa using q2
        clear q0 q1 q2 a1 a2
        go_wp2
        go_ret
        exact ⟨rfl, HB5.out⟩
    · have d1 : (er != 0) = true := by simpa using q1
      clear q0 q1
      go_wp2
      go_ret
      exact ⟨rfl, HB5.out⟩
  · have d0 : (el != 0) = true := by simpa using q0
    clear q0
    go_wp2
    go_ret
    exact ⟨rfl, HB5.out⟩

end Go.Proofs.Ytmhhiddnkdcflaa.Opt
