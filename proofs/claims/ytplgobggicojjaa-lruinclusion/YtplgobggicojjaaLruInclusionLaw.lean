/-
  The walk of the law on two rooms.
-/
import Derived.Test.YtplgobggicojjaaLruBegun
namespace Go.Proofs.Ytplgobggicojjaa.Lru
open Go.RowKit Go.Maps
set_option linter.unusedVariables false

theorem incl_facts {r q : Int} {xs : List Int} (h1 : rnE r [] xs = 0) (h2 : rnE q [] xs = 0) (hq : r ≤ q) :
    rnH r [] xs ≤ rnH q [] xs ∧ (rnL r [] xs).length ≤ (rnL q [] xs).length ∧ rnL r [] xs = (rnL q [] xs).take (rnL r [] xs).length := by
  have g1 : checkC r [] = 0 := by
    unfold rnE at h1
    split at h1
    · assumption
    · exact absurd h1 (by assumption)
  have hr := (check_zero.1 g1).room.1
  have e1 : rnL r [] xs = (stack [] xs).take r.toNat := by
    unfold rnL; rw [if_pos h1]
    have := runL_stack hr (S := []) (xs := xs)
    rwa [List.take_nil] at this
  have e2 : rnL q [] xs = (stack [] xs).take q.toNat := by
    unfold rnL; rw [if_pos h2]
    have := runL_stack (r := q) (by omega) (S := []) (xs := xs)
    rwa [List.take_nil] at this
  have hh : rnH r [] xs ≤ rnH q [] xs := by
    unfold rnH; rw [if_pos h1, if_pos h2]
    have := hits_mono hr hq (S := []) (xs := xs)
    rw [List.take_nil, List.take_nil] at this
    omega
  refine ⟨hh, ?_, ?_⟩
  · rw [e1, e2]; simp only [List.length_take]; omega
  · rw [e1, e2, List.take_take, List.length_take]
    generalize stack [] xs = S
    by_cases hl : r.toNat ≤ S.length
    · rw [Nat.min_eq_left hl, Nat.min_eq_left (by omega)]
    · rw [List.take_of_length_le (by omega), List.take_of_length_le (by omega)]

set_option maxHeartbeats 8000000 in
theorem lruInclusion_walk (A : Option Addr) (c : Nat) (xs : List Int) (r q : Int) (w : World) (hI : Ints w A c xs) :
    Calls Try.prog 4 #[.slice A xs.length c, .int .i64 r, .int .i64 q] w fun e w' => e = .returned (.bool true) ∧ Below w.heap.size w w' := by
  have HI := Lib.hid hI
  have HR1 := Lib.hid (fun (B : Option Addr) (d : Nat) (W : World) (h : Ints W B d xs) => run_any r none B 0 d [] xs W (Ints.none_ _) h)
  have HR2 := Lib.hid (fun (B : Option Addr) (d : Nat) (W : World) (h : Ints W B d xs) => run_any q none B 0 d [] xs W (Ints.none_ _) h)
  unfold NR at HR1 HR2
  have HF := Lib.hid (fun (h1 : rnE r [] xs = 0) (h2 : rnE q [] xs = 0) (hq : r ≤ q) => incl_facts h1 h2 hq)
  clear hI
  generalize rnR r [] xs = R1 at *
  generalize rnL r [] xs = M1 at *
  generalize rnH r [] xs = h1 at *
  generalize rnE r [] xs = e1 at *
  generalize rnR q [] xs = R2 at *
  generalize rnL q [] xs = M2 at *
  generalize rnH q [] xs = h2 at *
  generalize rnE q [] xs = e2 at *
  go_enter Try.func4, Try.ntmps4
  go_wp2_with fail
  refine (HR1.out A c w HI.out).mono ?_
  rintro e w1 ⟨A1, c1, rfl, hI1, -, hb1⟩
  have X1 := Lib.hid (Bx.new (r := R1) hI1)
  have HB1 : Hid (Below w.heap.size w (w1.alloc (co R1 A1 c1 M1))) := Lib.hid (bel_al hb1 hb1.size _)
  clear hI1 hb1
  go_wp2_with fail
  refine (HR2.out A c _ (HI.out.below HB1.out)).mono ?_
  rintro e w2 ⟨A2, c2, rfl, hI2, -, hb2⟩
  have X2 := Lib.hid ((X1.out.below hb2).alloc (co R2 A2 c2 M2))
  have Y2 := Lib.hid (Bx.new (r := R2) hI2)
  have HB2 : Hid (Below w.heap.size w (w2.alloc (co R2 A2 c2 M2))) := Lib.hid (bel_al (HB1.out.trans (hb2.mono HB1.out.size)) (Nat.le_trans HB1.out.size hb2.size) _)
  clear hI2 hb2
  go_wp2_with fail
  refine (begun_any _).mono ?_
  rintro e w3 ⟨rfl, hb3⟩
  have X3 := Lib.hid (X2.out.below hb3)
  have Y3 := Lib.hid (Y2.out.below hb3)
  have HB3 : Hid (Below w.heap.size w w3) := Lib.hid (HB2.out.trans (hb3.mono HB2.out.size))
  clear hb3
  generalize w1.heap.size = p1 at *
  generalize w2.heap.size = p2 at *
  by_cases q1 : e1 = 0
  · have d1 : (e1 != 0) = false := by simp [q1]
    by_cases q2 : e2 = 0
    · have d2 : (e2 != 0) = false := by simp [q2]
      by_cases q3 : r ≤ q
      · have d3 : decide (q < r) = false := by simp; omega
        obtain ⟨f1, f2, f3⟩ := HF.out q1 q2 q3
        have d4 : decide (h1 ≤ h2) = true := by simpa using f1
        obtain ⟨A', hsl, hT', -⟩ := slice_upto Y3.out.ints f2
        have HS := Lib.hid (sameInts_any A1 A' c1 c2 M1 (M2.take M1.length) w3.drew X3.out.ints hT')
        rw [show decide (M1 = M2.take M1.length) = true by simpa using f3] at HS
        have hlt : (M2.take M1.length).length = M1.length := by rw [List.length_take]; omega
        rw [hlt] at HS hsl
        have d5 : decide ((M1.length : Int) ≤ (M2.length : Int)) = true := by simp; omega
        have d6 : (M1.length : Int) ≤ (M2.length : Int) := by omega
        have HK : Hid (∀ w' : World, Below w3.heap.size w3 w' → w'.cell? ⟨p1, 1, none⟩ = some (.slice A1 M1.length c1) ∧ w'.cell? ⟨p2, 1, none⟩ = some (.slice A2 M2.length c2)) := Lib.hid (fun w' hb => ⟨(X3.out.below hb).2.2.1, (Y3.out.below hb).2.2.1⟩)
        clear q1 q2 q3 f1 f2 f3 hlt hT'
        generalize M1.length = n1 at *
        generalize M2.length = n2 at *
        go_wp2
        go_region_held3 (fun w' => w'.cell? ⟨p1, 1, none⟩ = some (.slice A1 n1 c1) ∧ w'.cell? ⟨p2, 1, none⟩ = some (.slice A2 n2 c2))
          (first | exact HK.out _ (below_undrew hb4) | exact HK.out _ (Below.refl _ _).drew)
          (first | (go_at_call 19; refine HS.out.mono ?_; rintro e w4 ⟨rfl, hb4⟩))
        have HB4 : Hid (Below w.heap.size w w4) := Lib.hid (HB3.out.trans ((below_undrew hb4).mono HB3.out.size))
        go_wp2
        go_ret
        exact ⟨rfl, HB4.out⟩
      · have d3 : decide (q < r) = true := by simp; omega
        clear q1 q2 q3
        go_wp2
        go_ret
        exact ⟨rfl, HB3.out⟩
    · have d2 : (e2 != 0) = true := by simpa using q2
      clear q1 q2
      go_wp2
      go_ret
      exact ⟨rfl, HB3.out⟩
  · have d1 : (e1 != 0) = true := by simpa using q1
    clear q1
    go_wp2
    go_ret
    exact ⟨rfl, HB3.out⟩

end Go.Proofs.Ytplgobggicojjaa.Lru
