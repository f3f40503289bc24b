/-
  The walk of the law on LRU with as much room.
-/
import Derived.Test.YtgdklpgmoanfkaaWsBegun
import Derived.Test.YtgdklpgmoanfkaaKeysRef
import Derived.Test.YtgdklpgmoanfkaaLruApi2
namespace Go.Proofs.Ytgdklpgmoanfkaa.Wst
open Go.RowKit
open Lru (isRm isK traceE trace_zero checkC check_zero rnE rnH rnL rnR hitsM runL slice_upto co Bx)
open Dst (win fltK row misses_flt)
open Two
set_option linter.unusedVariables false
set_option maxRecDepth 100000

theorem run_zero {r : Int} {l : List Int} (h : traceE l = 0) (hr : isRm r) : rnE r [] l = 0 ∧ rnH r [] l = (hitsM r [] l : Int) ∧ rnL r [] l = runL r [] l := by
  have hc : checkC r [] = 0 := check_zero.2 ⟨hr, by simp; have := hr.1; omega, by simp, List.nodup_nil⟩
  have e : rnE r [] l = 0 := by unfold rnE; rw [if_pos hc, h]
  exact ⟨e, by unfold rnH; rw [if_pos e], by unfold rnL; rw [if_pos e]⟩
theorem room_ok {l : List Int} {r : Int} (h : wkE l r = 0) (hr : r ≤ 40) : traceE l = 0 ∧ isRm r ∧ l.length ≤ 200 := by
  obtain ⟨h1, h2⟩ := wkE_zero.1 h
  exact ⟨h1, ⟨h2.1, hr⟩, (trace_zero.1 h1).1⟩
theorem room_hits {l : List Int} {r : Int} (h : wkE l r = 0) (hr : r ≤ 40) : rnE r [] l = 0 ∧ 0 ≤ rnH r [] l ∧ rnH r [] l ≤ 200 ∧ (l.length : Int) - rnH r [] l ≤ (flV l r : Int) := by
  obtain ⟨h1, h2, h3⟩ := room_ok h hr
  obtain ⟨e1, e2, -⟩ := run_zero h1 h2
  have h4 := misses_flt h2.1 (l := l) (Nat.le_refl _)
  rw [List.take_length] at h4
  have h5 := Lru.hitsM_le r [] l
  have h6 : flV l r = fltK l r.toNat l.length := by unfold flV; rw [if_pos h]
  refine ⟨e1, by rw [e2]; exact Int.natCast_nonneg _, by rw [e2]; omega, ?_⟩
  rw [e2, h6]; omega
theorem room_take {l : List Int} {r : Int} {j : Nat} (h : wkE l r = 0) (hr : r ≤ 40) (hj : j < l.length) :
    rnE r [] (l.take (j + 1)) = 0 ∧ stE l (j : Int) r = 0 ∧ (stV l (j : Int) r).length ≤ 200 ∧ ∀ x ∈ stV l (j : Int) r, x ∈ rnL r [] (l.take (j + 1)) := by
  obtain ⟨h1, h2, h3⟩ := room_ok h hr
  have ht : traceE (l.take (j + 1)) = 0 := trace_zero.2 ⟨by rw [List.length_take]; omega, fun x hx => (trace_zero.1 h1).2 x (List.mem_of_mem_take hx)⟩
  obtain ⟨e1, -, e3⟩ := run_zero ht h2
  have hE : stE l (j : Int) r = 0 := stE_zero.2 ⟨h, by omega, by omega⟩
  have hV : stV l (j : Int) r = wset l r.toNat j := by unfold stV; rw [if_pos hE]; rfl
  refine ⟨e1, hE, ?_, fun x hx => ?_⟩
  · rw [hV]; have := wset_len l r.toNat j; have := h2.2; omega
  · rw [hV] at hx
    rw [e3]
    exact wset_lru h2.1 hj hx

set_option maxHeartbeats 8000000 in
theorem worksetRoom_walk (A : Option Addr) (c : Nat) (xs : List Int) (i x : Int) (w : World) (hI : Ints w A c xs) :
    Calls Try.prog 5 #[.slice A xs.length c, .int .i64 i, .int .i64 x] w fun e w' => e = .returned (.bool true) ∧ Below w.heap.size w w' := by
  have HI := Lib.hid hI
  have HFl := Lib.hid (fun (W : World) (h : Ints W A c xs) => Faults_any A c xs x W h)
  have HSe := Lib.hid (fun (j : Nat) (W : World) (h : Ints W A c xs) => Set_any A c xs (j : Int) x W h)
  have HR1 := Lib.hid (fun (W : World) (h : Ints W A c xs) => Lru.run_any x none A 0 c [] xs W (Ints.none_ _) h)
  unfold Lru.NR at HR1
  unfold RE at HSe
  have HG1 := Lib.hid (fun (h : wkE xs x = 0) (hr : x ≤ 40) => room_hits h hr)
  have HG2 := Lib.hid (fun (h : wkE xs x = 0) (hr : x ≤ 40) (j : Nat) (hj : j < xs.length) => room_take h hr hj)
  have HG3 := Lib.hid (fun (h : wkE xs x = 0) (hr : x ≤ 40) => (room_ok h hr).2.2)
  have HTk : Hid (∀ j : Nat, j < xs.length → ∃ A1, (∀ W : World, (Instr.slice 22 (.slice A xs.length c) none (some (.int .i64 ((j : Int) + 1))) none).run Try.prog W = .ok (.slice A1 (j + 1) c) W) ∧
      ∀ W : World, Below w.heap.size w W → Calls Try.prog 19 #[Lru.cv x none 0 [], .slice A1 (j + 1) c] W (Lru.NR x [] (xs.take (j + 1)) W)) := Lib.hid (fun j hj => by
    obtain ⟨A1, hs1, hI1, -⟩ := slice_upto hI (k := j + 1) (by omega)
    have hl : (xs.take (j + 1)).length = j + 1 := by rw [List.length_take]; omega
    rw [hl] at hs1
    refine ⟨A1, hs1, fun W hW => ?_⟩
    have := Lru.run_any x none A1 0 c [] (xs.take (j + 1)) W (Ints.none_ _) (hI1.below hW)
    rwa [hl] at this)
  clear hI
  generalize rnR x [] xs = R1 at *
  generalize rnL x [] xs = M1 at *
  generalize rnH x [] xs = h1 at *
  generalize rnE x [] xs = e1 at *
  generalize wkE xs x = ef at *
  generalize flV xs x = fv at *
  obtain ⟨n, hn⟩ : ∃ n, xs.length = n := ⟨_, rfl⟩
  have HN := Lib.hid hn
  rw [hn] at HFl HR1 HG1 HG3 ⊢
  simp only [hn] at HSe HG2 HTk
  clear hn
  go_enter Try.func5, Try.ntmps5
  go_wp2_with fail
  refine (HFl.out w HI.out).mono ?_
  rintro e w1 ⟨rfl, rfl⟩
  go_wp2_with fail
  refine (begun_any _).mono ?_
  rintro e w1 ⟨rfl, hb1⟩
  have HB1 := Lib.hid hb1
  clear hb1
  by_cases q0 : ef = 0
  · have d0 : (ef != 0) = false := by simp [q0]
    by_cases q1 : x ≤ 40
    · have d1 : decide (40 < x) = false := by simp; omega
      obtain ⟨z1, z2, z3, z4⟩ := HG1.out q0 q1
      have hn200 := HG3.out q0 q1
      subst z1
      have hw1 : IntKind.i64.wrap ((n : Int) - h1) = (n : Int) - h1 := by rw [IntKind.wrap_i64]; omega
      have d2 : decide ((fv : Int) < (n : Int) - h1) = false := by simp; omega
      clear z2 z3 z4
      go_wp2_with fail
      refine (HR1.out w1 (HI.out.below HB1.out)).mono ?_
      rintro e w2 ⟨A2, c2, rfl, -, -, hb2⟩
      have HB2 : Hid (Below w.heap.size w (w2.alloc (co R1 A2 c2 M1))) := Lib.hid (bel_al (HB1.out.trans (hb2.mono HB1.out.size)) (Nat.le_trans HB1.out.size hb2.size) _)
      clear hb2
      by_cases q2 : i < 0
      · have d3 : decide (i < 0) = true := by simpa using q2
        clear q0 q1 q2
        go_wp2
        go_ret
        exact ⟨rfl, HB2.out⟩
      · have d3 : decide (i < 0) = false := by simpa using q2
        by_cases q3 : i < (n : Int)
        · have d4 : decide ((n : Int) ≤ i) = false := by simp; omega
          obtain ⟨j, rfl⟩ := nat_of (show 0 ≤ i by omega)
          have hj : j < n := by omega
          have d4' : decide (n ≤ j) = false := by simp; omega
          obtain ⟨g1, g2, g3, g4⟩ := HG2.out q0 q1 j hj
          obtain ⟨A3, hs3, hr3⟩ := HTk.out j hj
          have HR3 := Lib.hid hr3
          unfold Lru.NR at HR3
          have HS3 := Lib.hid (HSe.out j)
          rw [g1] at HR3
          rw [g2] at HS3
          have HMem := Lib.hid g4
          have hw2 : IntKind.i64.wrap ((j : Int) + 1) = (j : Int) + 1 := by rw [IntKind.wrap_i64]; omega
          clear hr3 g1 g2 g4 q0 q1 q2 q3
          generalize rnR x [] (xs.take (j + 1)) = R3 at *
          generalize rnL x [] (xs.take (j + 1)) = M3 at *
          generalize rnH x [] (xs.take (j + 1)) = h3 at *
          generalize stV xs (j : Int) x = X at *
          obtain ⟨xl, hxl⟩ : ∃ xl, X.length = xl := ⟨_, rfl⟩
          have HXL := Lib.hid hxl
          rw [hxl] at HS3 g3
          clear hxl
          go_wp2_with fail
          refine (HR3.out _ HB2.out).mono ?_
          rintro e w5 ⟨A5, c5, rfl, hI5, -, hb5⟩
          have X5 := Lib.hid (Bx.new (r := R3) hI5)
          have HB5 : Hid (Below w.heap.size w (w5.alloc (co R3 A5 c5 M3))) := Lib.hid (bel_al (HB2.out.trans (hb5.mono HB2.out.size)) (Nat.le_trans HB2.out.size hb5.size) _)
          clear hI5 hb5
          go_wp2_with fail
          refine (HS3.out _ (HI.out.below HB5.out)).mono ?_
          rintro e w6 ⟨A6, c6, rfl, hI6, hb6⟩
          have X6 := Lib.hid (X5.out.below hb6)
          have HI6 := Lib.hid hI6
          have HB6 : Hid (Below w.heap.size w w6) := Lib.hid (HB5.out.trans (hb6.mono HB5.out.size))
          clear hI6 hb6
          generalize w5.heap.size = p5 at *
          go_wp2
          go_loopw [17] (fun s17 wr => ∃ k : Nat, k ≤ xl ∧ s17 = .int .i64 (k : Int) ∧ Below w6.heap.size w6 wr) (fun i _ => xl - (intOf i).toNat)
          case atStart => exact ⟨0, by omega, rfl, Below.refl _ _⟩
          case round =>
            obtain ⟨k, hk, rfl, hb⟩ := hrel
            have HB := Lib.hid hb
            by_cases hlt : k < xl
            · have hin : (k : Int) < (xl : Int) := by omega
              have hiB : (0 : Int) ≤ (k : Int) := by omega
              have hkX : k < X.length := by rw [HXL.out]; exact hlt
              obtain ⟨b1, o1, rfl, ht⟩ := (HI6.out.below hb).2.2.2 (by omega)
              have e1 := ht.2 k hkX
              have hm := HMem.out _ (gi_mem hkX)
              have Xr := Lib.hid (X6.out.below hb)
              have x1 := Xr.out.2.2.1
              have HC := Lib.hid (fun (W : World) (h : Ints W A5 c5 M3) => Kr.hasInt_b A5 c5 M3 (gi X k) true W h (decide_eq_true hm))
              clear ht hm hb hkX
              generalize gi X k = y at *
              generalize M3.length = ml at *
              go_wp2
              go_quiet (first | (go_at_call 18; (with_reducible refine Calls.quiet_of_same (HC.out _ ?_)); exact dnI Xr.out.ints _))
              have HBq : Hid (Below w6.heap.size w6 (wr.drewN nq)) := Lib.hid (bel_drewN HB.out _)
              clear x1 e1
              go_wp2
              go_roundw
              case rel => exact ⟨k + 1, by omega, by go_num, HBq.out⟩
              case measure => simp [intOf]; omega
            · obtain rfl : k = xl := by omega
              clear hb hlt
              go_wp2
              go_ret
              exact ⟨rfl, HB6.out.trans (HB.out.mono HB6.out.size)⟩
        · have d4 : decide ((n : Int) ≤ i) = true := by simp; omega
          clear q0 q1 q2 q3
          go_wp2
          go_ret
          exact ⟨rfl, HB2.out⟩
    · have d1 : decide (40 < x) = true := by simp; omega
      clear q0 q1
      go_wp2
      go_ret
      exact ⟨rfl, HB1.out⟩
  · have d0 : (ef != 0) = true := by simp [q0]
    clear q0
    go_wp2
    go_ret
    exact ⟨rfl, HB1.out⟩

end Go.Proofs.Ytgdklpgmoanfkaa.Wst
