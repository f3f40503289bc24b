/-
  The walk of the law on the key that was accessed last.
-/
import Derived.Test.YtplgobggicojjaaLruBegun
namespace Go.Proofs.Ytplgobggicojjaa.Lru
open Go.RowKit Go.Maps
set_option linter.unusedVariables false

theorem hasInt_sw (A : Option Addr) (c : Nat) (L : List Int) (n : Int) (b : Bool) (w : World) (ha : Ints w A c L) (hb : decide (n ∈ L) = b) :
    Calls Try.prog 20 #[.slice A L.length c, .int .i64 n] w fun e w' => e = .returned (.bool b) ∧ w' = w := by
  subst hb
  exact (hasInt_any A c L n w ha).mono (fun e w' ⟨h1, h2⟩ => ⟨h1, h2.symm⟩)

theorem bel_dn {B : Nat} {a w : World} (h : Below B a w) (n : Nat) : Below B a (w.drewN n) := h.trans ⟨rfl, rfl, rfl, Nat.le_refl _, fun _ _ => rfl⟩
theorem dnI {w : World} {A : Option Addr} {c : Nat} {L : List Int} (h : Ints w A c L) (n : Nat) : Ints (w.drewN n) A c L := h.below (bel_dn (Below.refl _ _) n)
theorem rn_good {r : Int} {L xs : List Int} (h : rnE r L xs = 0) : rnR r L xs = r ∧ rnL r L xs = runL r L xs ∧ Good r L ∧ Good r (runL r L xs) ∧ xs.length ≤ 200 ∧ ∀ x ∈ xs, isK x := by
  have g0 : checkC r L = 0 := by
    unfold rnE at h
    split at h
    · assumption
    · exact absurd h (by assumption)
  have ht : traceE xs = 0 := by unfold rnE at h; rwa [if_pos g0] at h
  have hg := check_zero.1 g0
  have hx := trace_zero.1 ht
  exact ⟨by unfold rnR; rw [if_pos h], by unfold rnL; rw [if_pos h], hg, runL_good hg hx.2, hx.1, hx.2⟩
theorem last_first {r : Int} {L xs : List Int} {m : Nat} (hm : xs.length = m + 1) : ∃ T, runL r L xs = gi xs m :: T := by
  have e : xs = xs.take m ++ [gi xs m] := by
    have := take_one (xs := xs) (k := m) (by omega)
    rw [← this, List.take_of_length_le (by omega)]
  refine ⟨((runL r L (xs.take m)).erase (gi xs m)).take (r.toNat - 1), ?_⟩
  conv => lhs; rw [e, runL_snoc]
  rfl
theorem recent_facts {r : Int} {L xs : List Int} {m : Nat} (h : rnE r L xs = 0) (hm : xs.length = m + 1) :
    acE r (rnL r L xs) (gi xs m) = 0 ∧ acL r (rnL r L xs) (gi xs m) = rnL r L xs ∧ acH r (rnL r L xs) (gi xs m) = true ∧ acG r (rnL r L xs) (gi xs m) = -1 ∧ acR r (rnL r L xs) (gi xs m) = r ∧
    rzE r (rnL r L xs) 1 = 0 ∧ rzL r (rnL r L xs) 1 = [gi xs m] ∧ (rzO r (rnL r L xs) 1).length + 1 = (rnL r L xs).length := by
  obtain ⟨e1, e2, g1, g2, hl, hk⟩ := rn_good h
  obtain ⟨T, hT⟩ := last_first (r := r) (L := L) hm
  have hx : isK (gi xs m) := hk _ (gi_mem (by omega))
  rw [e2]
  have eA : acE r (runL r L xs) (gi xs m) = 0 := by unfold acE; rw [if_pos (check_zero.2 g2), if_pos hx]
  have eZ : rzE r (runL r L xs) 1 = 0 := by unfold rzE; rw [if_pos (check_zero.2 g2), if_pos (by decide)]
  have hf := g2.few
  refine ⟨eA, ?_, ?_, ?_, ?_, eZ, ?_, ?_⟩
  · unfold acL; rw [if_pos eA, hT]
    unfold touch
    rw [List.erase_cons_head, List.take_of_length_le]
    rw [hT] at hf
    simp only [List.length_cons] at hf
    omega
  · unfold acH; rw [if_pos eA, hT]; simp
  · unfold acG; rw [if_pos eA]; unfold gone; rw [if_pos (by rw [hT]; simp)]
  · unfold acR; rw [if_pos eA]
  · unfold rzL; rw [if_pos eZ, hT]; rfl
  · unfold rzO; rw [if_pos eZ, hT]; simp
theorem same_one (A : Option Addr) (c q : Nat) (x : Int) (w : World) (hq : q = w.heap.size) (h : Ints w A c [x]) :
    Calls Try.prog 19 #[.slice A ([x] : List Int).length c, .slice (some ⟨q, 0, none⟩) 1 1] (w.alloc (.cells #[.int .i64 x] 3)) fun e w' => e = .returned (.bool true) ∧ Below w.heap.size w w' :=
  same_lit A c 1 q [x] [x] true w hq h rfl (by unfold maxLen; decide) (by simp)

set_option maxHeartbeats 20000000 in
set_option maxRecDepth 100000 in
theorem lruRecent_walk (r : Int) (A : Option Addr) (c : Nat) (L : List Int) (A1 : Option Addr) (c1 : Nat) (xs : List Int) (key : Int) (w : World) (hI : Ints w A c L) (hJ : Ints w A1 c1 xs) :
    Calls Try.prog 6 #[cv r A c L, .slice A1 xs.length c1, .int .i64 key] w fun e w' => e = .returned (.bool true) ∧ Below w.heap.size w w' := by
  have X0 := Lib.hid (Bx.new (r := r) hI)
  have HB0 : Hid (Below w.heap.size w (w.alloc (co r A c L))) := Lib.hid (bel_al (Below.refl _ _) (Nat.le_refl _) _)
  have HJ := Lib.hid hJ
  have HR1 := Lib.hid (fun (W : World) (h : Ints W A c L) (h' : Ints W A1 c1 xs) => run_any r A A1 c c1 L xs W h h')
  unfold NR at HR1
  clear hI hJ
  by_cases q1 : rnE r L xs = 0
  · have HG := Lib.hid (rn_good q1)
    have d1 : (rnE r L xs != 0) = false := by simp [q1]
    have HF := Lib.hid (fun (m : Nat) (hm : xs.length = m + 1) => recent_facts q1 hm)
    rw [HG.out.1] at HR1
    have HMem : Hid (∀ x ∈ rnL r L xs, x ∈ L ∨ x ∈ xs) := Lib.hid (fun x hx => by rw [HG.out.2.1] at hx; exact runL_mem hx)
    have HNil : Hid (xs.length = 0 → rnL r L xs = L) := Lib.hid (fun h => by rw [HG.out.2.1, List.length_eq_zero_iff.1 h]; rfl)
    have HMl : Hid ((rnL r L xs).length ≤ 40) := Lib.hid (by rw [HG.out.2.1]; have := HG.out.2.2.2.1.few; have := HG.out.2.2.2.1.room.2; omega)
    have hl200 : xs.length ≤ 200 := HG.out.2.2.2.2.1
    clear q1 HG
    generalize rnL r L xs = M1 at *
    generalize rnH r L xs = h1 at *
    generalize rnE r L xs = e1 at *
    obtain ⟨-, x1, x2, -⟩ := X0.out
    go_enter Try.func6, Try.ntmps6
    go_wp2_with fail
    refine (HR1.out _ X0.out.ints (HJ.out.below HB0.out)).mono ?_
    rintro e w1 ⟨B1, k1, rfl, hI1, -, hbb⟩
    have X1 := Lib.hid ((X0.out.below hbb).alloc (co r B1 k1 M1))
    have Y1 := Lib.hid (Bx.new (r := r) hI1)
    have HB1 : Hid (Below w.heap.size w (w1.alloc (co r B1 k1 M1))) := Lib.hid (bel_al (HB0.out.trans (hbb.mono HB0.out.size)) (Nat.le_trans HB0.out.size hbb.size) _)
    clear hI1 hbb x1 x2
    go_wp2_with fail
    refine (begun_any _).mono ?_
    rintro e w3 ⟨rfl, hb3⟩
    have X3 := Lib.hid (X1.out.below hb3)
    have Y3 := Lib.hid (Y1.out.below hb3)
    have HB3 : Hid (Below w.heap.size w w3) := Lib.hid (HB1.out.trans (hb3.mono HB1.out.size))
    clear hb3
    generalize w1.heap.size = p1 at *
    have hn40 : M1.length ≤ 40 := HMl.out
    go_wp2
    go_loopw [10] (fun i wr => ∃ k : Nat, k ≤ M1.length ∧ i = .int .i64 (k : Int) ∧ Below w3.heap.size w3 wr) (fun i _ => M1.length - (intOf i).toNat)
    case atStart => exact ⟨0, by omega, rfl, Below.refl _ _⟩
    case round =>
      obtain ⟨k, hk, rfl, hb⟩ := hrel
      have Xr := Lib.hid (X3.out.below hb)
      have Yr := Lib.hid (Y3.out.below hb)
      have HBr := Lib.hid hb
      have HBw : Hid (Below w.heap.size w wr) := Lib.hid (HB3.out.trans (hb.mono HB3.out.size))
      have HJr := Lib.hid (HJ.out.below HBw.out)
      clear hb
      obtain ⟨-, x1, x2, -⟩ := Xr.out
      obtain ⟨-, y1, y2, -⟩ := Yr.out
      by_cases hlt : k < M1.length
      · have hin : (k : Int) < (M1.length : Int) := by omega
        have hiB : (0 : Int) ≤ (k : Int) := by omega
        have hkM : k < M1.length := hlt
        obtain ⟨b, o, rfl, ht⟩ := Yr.out.ints.2.2.2 (by omega)
        have e1' := ht.2 k hkM
        have HMm := Lib.hid (HMem.out _ (gi_mem hkM))
        have HBt := Lib.hid ht.1
        clear ht hkM
        generalize gi M1 k = x at *
        have HKr : Hid (∀ w' : World, Below wr.heap.size wr w' → w'.cell? ⟨w.heap.size, 1, none⟩ = some (.slice A L.length c) ∧ w'.cell? ⟨p1, 1, none⟩ = some (.slice (some ⟨b, o, none⟩) M1.length k1) ∧ w'.cell? ⟨b, o + k, none⟩ = some (.int .i64 x)) := Lib.hid (fun w' hb => ⟨(Xr.out.below hb).2.2.1, (Yr.out.below hb).2.2.1, (hb.cell (p := ⟨b, o + k, none⟩) HBt.out).trans e1'⟩)
        have HBd : Hid (Below w3.heap.size w3 wr.drew) := Lib.hid HBr.out.drew
        by_cases q2 : x ∈ L
        · have HC := Lib.hid (fun (W : World) (h : Ints W A c L) => hasInt_sw A c L x true W h (by simpa using q2))
          clear q2
          go_wp2
          go_quiet (first | (go_at_call 20; (with_reducible refine Calls.quiet_of_same (HC.out _ ?_)); exact dnI Xr.out.ints _))
          have HBq : Hid (Below w3.heap.size w3 (wr.drewN nq)) := Lib.hid (bel_dn HBr.out _)
          clear x1 x2 y1 y2 e1'
          go_wp2
          go_roundw
          case rel => exact ⟨k + 1, by omega, by go_num, HBq.out⟩
          case measure => simp [intOf]; omega
        · have q3 : x ∈ xs := HMm.out.resolve_left q2
          have HC := Lib.hid (hasInt_sw A c L x false wr.drew Xr.out.ints (by simpa using q2))
          have HD := Lib.hid (hasInt_sw A1 c1 xs x true wr.drew HJr.out (by simpa using q3))
          clear q2 q3
          go_wp2
          clear x1 x2 y1 y2 e1'
          go_region_held3 (fun w' => w'.cell? ⟨w.heap.size, 1, none⟩ = some (.slice A L.length c) ∧ w'.cell? ⟨p1, 1, none⟩ = some (.slice (some ⟨b, o, none⟩) M1.length k1) ∧ w'.cell? ⟨b, o + k, none⟩ = some (.int .i64 x))
            (first | exact HKr.out _ (Below.refl _ _).drew)
            (first | (go_at_call 20; (with_reducible refine HC.out.mono ?_); rintro e w' ⟨rfl, rfl⟩) | (go_at_call 20; (with_reducible refine HD.out.mono ?_); rintro e w' ⟨rfl, rfl⟩))
          go_wp2
          go_roundw
          case rel => exact ⟨k + 1, by omega, by go_num, HBd.out⟩
          case measure => simp [intOf]; omega
      · obtain rfl : k = M1.length := by omega
        clear hlt
        by_cases q5 : xs.length = 0
        · have HS := Lib.hid (sameCache_any r r B1 A k1 c M1 L wr Yr.out.ints Xr.out.ints)
          rw [show decide (r = r ∧ M1 = L) = true by simp [HNil.out q5]] at HS
          have d5 : ((xs.length : Int) == 0) = true := by simp [q5]
          clear q5
          go_wp2_with fail
          refine HS.out.mono ?_
          rintro e w5 ⟨rfl, hb5⟩
          have HB5 : Hid (Below w.heap.size w w5) := Lib.hid (HBw.out.trans (hb5.mono HBw.out.size))
          clear hb5 x1 x2 y1 y2
          go_wp2
          go_ret
          exact ⟨rfl, HB5.out⟩
        · obtain ⟨m, hm⟩ : ∃ m, xs.length = m + 1 := ⟨xs.length - 1, by omega⟩
          obtain ⟨f1, f2, f3, f4, f5, f6, f7, f8⟩ := HF.out m hm
          have d5 : ((xs.length : Int) == 0) = false := beq_false_of_ne (by omega)
          obtain ⟨b, o, rfl, ht⟩ := HJr.out.2.2.2 (by omega)
          have e1' := ht.2 m (by omega)
          have hw : IntKind.i64.wrap ((xs.length : Int) - 1) = (m : Int) := by rw [IntKind.wrap_i64, hm]; omega
          have hin : (m : Int) < (xs.length : Int) := by omega
          have hAc := Lib.hid (fun (W : World) (h : Ints W B1 k1 M1) => access_any r B1 k1 M1 (gi xs m) W h)
          have hRz := Lib.hid (fun (W : World) (h : Ints W B1 k1 M1) => resize_any r B1 k1 M1 1 W h)
          unfold AR at hAc
          unfold ZR at hRz
          simp only [f1, f2, f3, f4, f5] at hAc
          simp only [f6, f7] at hRz
          have HS2 := Lib.hid (fun (B : Option Addr) (d q : Nat) (W : World) (hq : q = W.heap.size) (h : Ints W B d [gi xs m]) => same_one B d q (gi xs m) W hq h)
          obtain ⟨X1, hX1⟩ : ∃ X1, X1 = [gi xs m] := ⟨_, rfl⟩
          rw [← hX1] at hRz HS2
          clear hX1
          obtain ⟨lo, hlo⟩ : ∃ lo, (rzO r M1 1).length = lo := ⟨_, rfl⟩
          simp only [hlo] at hRz
          generalize rzR r M1 1 = R3 at *
          have hml : M1.length = lo + 1 := by rw [← f8, hlo]
          have hwn : IntKind.i64.wrap ((M1.length : Int) - 1) = (lo : Int) := by rw [IntKind.wrap_i64, hml]; omega
          have HMl2 := Lib.hid hml
          clear hml
          clear ht f1 f2 f3 f4 f5 f6 f7 f8 hlo HF HNil
          generalize gi xs m = x at *
          generalize xs.length = lx at *
          go_wp2_with fail
          refine (hAc.out _ Yr.out.ints).mono ?_
          rintro e w5 ⟨A5, c5, rfl, hI5, -, hb5⟩
          have Y5 := Lib.hid ((Yr.out.below hb5).alloc (co r A5 c5 M1))
          have Z5 := Lib.hid (Bx.new (r := r) hI5)
          have HB5 : Hid (Below w.heap.size w (w5.alloc (co r A5 c5 M1))) := Lib.hid (bel_al (HBw.out.trans (hb5.mono HBw.out.size)) (Nat.le_trans HBw.out.size hb5.size) _)
          clear hb5 hI5 x1 x2 y1 y2 e1'
          obtain ⟨-, y1, y2, -⟩ := Y5.out
          go_wp2_with fail
          refine (hRz.out _ Y5.out.ints).mono ?_
          rintro e w6 ⟨A6, c6, B6, d6, rfl, hI6, hJ6, -, -, hb6⟩
          have Y6 := Lib.hid ((Y5.out.below hb6).alloc (co R3 A6 c6 X1))
          have Z6 := Lib.hid ((Z5.out.below hb6).alloc (co R3 A6 c6 X1))
          have U6 := Lib.hid (Bx.new (r := R3) hI6)
          have HB6 : Hid (Below w.heap.size w (w6.alloc (co R3 A6 c6 X1))) := Lib.hid (bel_al (HB5.out.trans (hb6.mono HB5.out.size)) (Nat.le_trans HB5.out.size hb6.size) _)
          clear hb6 hI6 hJ6 y1 y2
          have HS := Lib.hid (sameCache_any r r A5 B1 c5 k1 M1 M1 _ Z6.out.ints Y6.out.ints)
          rw [show decide (r = r ∧ M1 = M1) = true by simp] at HS
          obtain ⟨-, y1, y2, -⟩ := Y6.out
          obtain ⟨-, z1, z2, -⟩ := Z6.out
          go_wp2_with fail
          refine HS.out.mono ?_
          rintro e w7 ⟨rfl, hb7⟩
          have Y7 := Lib.hid (Y6.out.below hb7)
          have U7 := Lib.hid (U6.out.below hb7)
          have HB7 : Hid (Below w.heap.size w w7) := Lib.hid (HB6.out.trans (hb7.mono HB6.out.size))
          clear hb7 y1 y2 z1 z2
          obtain ⟨-, u1, u2, -⟩ := U7.out
          go_wp2_with fail
          refine (HS2.out A6 c6 _ w7 rfl U7.out.ints).mono ?_
          rintro e w9 ⟨rfl, hb9⟩
          have Y9 := Lib.hid (Y7.out.below hb9)
          have HB9 : Hid (Below w.heap.size w w9) := Lib.hid (HB7.out.trans (hb9.mono HB7.out.size))
          clear hb9 u1 u2
          obtain ⟨-, y1, y2, -⟩ := Y9.out
          go_wp2
          go_ret
          exact ⟨rfl, HB9.out⟩
  · have HE := Lib.hid q1
    have HM0 : Hid ((rnL r L xs).length = 0) := Lib.hid (by unfold rnL; rw [if_neg q1]; rfl)
    have d1 : (rnE r L xs != 0) = true := by simpa using q1
    clear q1
    generalize rnR r L xs = R1 at *
    generalize rnL r L xs = M1 at *
    generalize rnH r L xs = h1 at *
    generalize rnE r L xs = e1 at *
    obtain ⟨-, x1, x2, -⟩ := X0.out
    go_enter Try.func6, Try.ntmps6
    go_wp2_with fail
    refine (HR1.out _ X0.out.ints (HJ.out.below HB0.out)).mono ?_
    rintro e w1 ⟨B1, k1, rfl, hI1, -, hbb⟩
    have Y1 := Lib.hid (Bx.new (r := R1) hI1)
    have HB1 : Hid (Below w.heap.size w (w1.alloc (co R1 B1 k1 M1))) := Lib.hid (bel_al (HB0.out.trans (hbb.mono HB0.out.size)) (Nat.le_trans HB0.out.size hbb.size) _)
    clear hI1 hbb x1 x2
    go_wp2_with fail
    refine (begun_any _).mono ?_
    rintro e w3 ⟨rfl, hb3⟩
    have Y3 := Lib.hid (Y1.out.below hb3)
    have HB3 : Hid (Below w.heap.size w w3) := Lib.hid (HB1.out.trans (hb3.mono HB1.out.size))
    clear hb3
    obtain ⟨-, y1, y2, -⟩ := Y3.out
    rw [HM0.out] at y2
    go_wp2
    go_ret
    exact ⟨rfl, HB3.out⟩

end Go.Proofs.Ytplgobggicojjaa.Lru
