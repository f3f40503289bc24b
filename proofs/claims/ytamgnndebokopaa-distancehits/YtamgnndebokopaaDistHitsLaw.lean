/-
  The walks of the laws on hits and on more room.
-/
import Derived.Test.YtamgnndebokopaaDistBegun
import Derived.Test.YtamgnndebokopaaLruApi2
namespace Go.Proofs.Ytamgnndebokopaa.Dst
open Go.RowKit
open Lru (isRm isK traceE trace_zero checkC rnE rnH rnL rnR hitsM)
open Two
set_option linter.unusedVariables false
set_option maxRecDepth 100000

theorem check_empty (r : Int) : checkC r [] = if isRm r then 0 else 3 := by
  unfold checkC
  by_cases h : isRm r
  · rw [if_pos h, if_pos h, if_neg (by have := h.1; simp; omega)]; rfl
  · rw [if_neg h, if_neg h]
theorem run_ok {r : Int} {l : List Int} (h0 : traceE l = 0) (hr : isRm r) : rnE r [] l = 0 ∧ rnH r [] l = gi (Dst.hI l) (r.toNat - 1) := by
  have e : rnE r [] l = 0 := by unfold rnE; rw [check_empty, if_pos hr, if_pos rfl, h0]
  refine ⟨e, ?_⟩
  unfold rnH
  rw [if_pos e, hI_lru hr]
theorem run_bad {r : Int} {l : List Int} (hr : ¬ isRm r) : rnE r [] l = 3 := by unfold rnE; rw [check_empty, if_neg hr, if_neg (by decide)]

set_option maxHeartbeats 8000000 in
theorem distanceHits_walk (A : Option Addr) (c : Nat) (xs : List Int) (r : Int) (w : World) (hI : Ints w A c xs) :
    Calls Try.prog 4 #[.slice A xs.length c, .int .i64 r] w fun e w' => e = .returned (.bool true) ∧ Below w.heap.size w w' := by
  have HI := Lib.hid hI
  have HH := Lib.hid (fun (W : World) (h : Ints W A c xs) => (Hits_any A c xs W h).mono (fun _ _ k => k.re))
  have HR := Lib.hid (fun (W : World) (h : Ints W A c xs) => Lru.run_any r none A 0 c [] xs W (Ints.none_ _) h)
  unfold RE at HH
  unfold Lru.NR at HR
  have HF := Lib.hid (fun (h0 : traceE xs = 0) (hr : isRm r) => run_ok h0 hr)
  have HG := Lib.hid (fun (hr : ¬ isRm r) => run_bad (l := xs) hr)
  have HD := Lib.hid (fun (h0 : traceE xs = 0) => show hsL xs = Dst.hI xs by unfold hsL; rw [if_pos h0])
  clear hI
  generalize rnR r [] xs = R1 at *
  generalize rnL r [] xs = M1 at *
  generalize rnH r [] xs = h1 at *
  generalize rnE r [] xs = e1 at *
  generalize xs.length = ln at *
  generalize traceE xs = t at *
  go_enter Try.func4, Try.ntmps4
  go_wp2_with fail
  refine (HH.out w HI.out).mono ?_
  rintro e w1 ⟨A1, c1, rfl, hI1, hb1⟩
  have HB1 := Lib.hid hb1
  have HJ1 := Lib.hid hI1
  clear hb1 hI1
  go_wp2_with fail
  refine (HR.out w1 (HI.out.below HB1.out)).mono ?_
  rintro e w2 ⟨A2, c2, rfl, -, -, hb2⟩
  have HB2 : Hid (Below w.heap.size w (w2.alloc (Lru.co R1 A2 c2 M1))) := Lib.hid (bel_al (HB1.out.trans (hb2.mono HB1.out.size)) (Nat.le_trans HB1.out.size hb2.size) _)
  have HJ2 : Hid (Ints (w2.alloc (Lru.co R1 A2 c2 M1)) A1 c1 (hsL xs)) := Lib.hid ((HJ1.out.below hb2).alloc _)
  clear hb2
  go_wp2_with fail
  refine (begun_any _).mono ?_
  rintro e w3 ⟨rfl, hb3⟩
  have HB3 : Hid (Below w.heap.size w w3) := Lib.hid (HB2.out.trans (hb3.mono HB2.out.size))
  have HJ3 := Lib.hid (HJ2.out.below hb3)
  clear hb3
  by_cases q0 : t = 0
  · have d0 : (t != 0) = false := by simp [q0]
    by_cases q1 : isRm r
    · obtain ⟨rfl, hv⟩ := HF.out q0 q1
      have hj := HJ3.out
      rw [HD.out q0] at hj
      obtain ⟨b, o, rfl, ht⟩ := hj.2.2.2 (by rw [hI_len]; omega)
      obtain ⟨m, hm⟩ : ∃ m : Nat, r = (m : Int) + 1 := ⟨r.toNat - 1, by have := q1.1; omega⟩
      have hm40 : m < 40 := by have := q1.2; omega
      have c4 := ht.2 m (by rw [hI_len]; exact hm40)
      rw [show r.toNat - 1 = m by omega] at hv
      have HLn : Hid ((hsL xs).length = 40) := Lib.hid (by rw [HD.out q0, hI_len])
      subst hm
      have wr1 : IntKind.i64.wrap ((m : Int) + 1 - 1) = (m : Int) := by rw [IntKind.wrap_i64]; omega
      have i1 : (m : Int) < 40 := by omega
      have i2 : (0 : Int) ≤ (m : Int) := by omega
      have q : (gi (Dst.hI xs) m == h1) = true := by simpa using hv.symm
      clear q0 q1 hv hj ht
      generalize gi (Dst.hI xs) m = x at *
      rw [HLn.out]
      go_wp2
      go_ret
      exact ⟨rfl, HB3.out⟩
    · have e3 := HG.out q1
      subst e3
      by_cases q2 : r < 1
      · have d1 : decide (r < 1) = true := by simpa using q2
        clear q0 q1 q2
        generalize (hsL xs).length = lh at *
        go_wp2
        go_ret
        exact ⟨rfl, HB3.out⟩
      · have d1 : decide (r < 1) = false := by simpa using q2
        have d2 : decide (40 < r) = true := by unfold isRm at q1; simp; omega
        clear q0 q1 q2
        generalize (hsL xs).length = lh at *
        go_wp2
        go_ret
        exact ⟨rfl, HB3.out⟩
  · have d0 : (t != 0) = true := by simpa using q0
    clear q0
    generalize (hsL xs).length = lh at *
    go_wp2
    go_ret
    exact ⟨rfl, HB3.out⟩

end Go.Proofs.Ytamgnndebokopaa.Dst
