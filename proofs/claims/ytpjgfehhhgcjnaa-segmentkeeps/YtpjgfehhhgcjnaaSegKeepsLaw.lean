/-
  The walk of the law on what one access keeps.
-/
import Derived.Test.YtpjgfehhhgcjnaaSegFacts
namespace Go.Proofs.Ytpjgfehhhgcjnaa.Seg
open Go.RowKit Go.Maps
open Lru (isRm isK keysE keysE_zero traceE trace_zero touch)
set_option linter.unusedVariables false
set_option maxRecDepth 100000

theorem bel_dn {B : Nat} {a w : World} (h : Below B a w) (n : Nat) : Below B a (w.drewN n) := h.trans ⟨rfl, rfl, rfl, Nat.le_refl _, fun _ _ => rfl⟩
theorem dnI {w : World} {A : Option Addr} {c : Nat} {L : List Int} (h : Ints w A c L) (n : Nat) : Ints (w.drewN n) A c L := h.below (bel_dn (Below.refl _ _) n)
theorem hasI (A : Option Addr) (c n : Nat) (L : List Int) (x : Int) (b : Bool) (w : World) (hn : L.length = n) (ha : Ints w A c L) (hb : decide (x ∈ L) = b) :
    Calls Try.prog 18 #[.slice A n c, .int .i64 x] w fun e w' => e = .returned (.bool b) ∧ w' = w := by
  subst hb hn
  exact (hasInt_any A c L x w ha).mono (fun e w' ⟨h1, h2⟩ => ⟨h1, h2.symm⟩)
theorem keysI (f s : Int) (A B : Option Addr) (c d n m : Nat) (N O : List Int) (w : World) (hn : N.length = n) (hm : O.length = m) (hN : Ints w A c N) (hO : Ints w B d O) :
    Calls Try.prog 9 #[kv f s (.slice A n c) (.slice B m d)] w (KR f s (N, O) w) := by
  subst hn hm
  exact keys_any f s A B c d N O w hN hO
theorem good_len {f s : Int} {N O : List Int} (h : checkS f s N O = 0) : (N ++ O).length ≤ 80 := by
  have g := check_zero.1 h
  rw [List.length_append]
  have := g.lenN
  have := g.lenO
  omega

set_option maxHeartbeats 16000000 in
theorem segmentKeeps_walk (f s : Int) (A : Option Addr) (c : Nat) (N : List Int) (B : Option Addr) (d : Nat) (O : List Int) (x : Int) (w : World) (hN : Ints w A c N) (hO : Ints w B d O) :
    Calls Try.prog 5 #[kv f s (.slice A N.length c) (.slice B O.length d), .int .i64 x] w fun e w' => e = .returned (.bool true) ∧ Below w.heap.size w w' := by
  have X0 := Lib.hid (Kb.new w f s (.slice A N.length c) (.slice B O.length d))
  have HB0 : Hid (Below w.heap.size w (w.alloc (ko f s (.slice A N.length c) (.slice B O.length d)))) := Lib.hid (bel_al (Below.refl _ _) (Nat.le_refl _) _)
  have HN0 := Lib.hid (hN.below HB0.out)
  have HO0 := Lib.hid (hO.below HB0.out)
  have HR := Lib.hid (access_any f s A B c d N O x _ HN0.out HO0.out)
  unfold AR at HR
  clear hN hO
  have HF := Lib.hid (fun e => keeps_facts (f := f) (s := s) (t := (N, O)) (x := x) e)
  have HX := Lib.hid (fun e => acbad_facts (f := f) (s := s) (t := (N, O)) (x := x) e)
  obtain ⟨n, hn⟩ : ∃ n, N.length = n := ⟨_, rfl⟩
  obtain ⟨m, hm⟩ : ∃ m, O.length = m := ⟨_, rfl⟩
  have HKh := Lib.hid (fun (W : World) (a : Ints W A c N) (b : Ints W B d O) => keysI f s A B c d n m N O W hn hm a b)
  by_cases q1 : acE f s (N, O) x = 0
  · obtain ⟨r1, r2, r3, r4, r5, g1, g2, g3, g4, g5⟩ := HF.out q1
    have r80 := good_len r3
    rw [r1, r1, q1] at HR
    unfold KR at HKh
    rw [r2, r3] at HKh
    generalize acT f s (N, O) x = T at *
    generalize acG f s (N, O) x = G at *
    generalize acH f s (N, O) x = hit at *
    obtain ⟨T1, T2⟩ := T
    dsimp only at HR r2 r3 r4 r5 g2 g3 g4 g5 HKh r80
    obtain ⟨n1, hn1⟩ : ∃ n, T1.length = n := ⟨_, rfl⟩
    obtain ⟨m1, hm1⟩ : ∃ m, T2.length = m := ⟨_, rfl⟩
    obtain ⟨j1, hj1⟩ : ∃ m, G.length = m := ⟨_, rfl⟩
    have HKx := Lib.hid (fun (A : Option Addr) (c : Nat) (B : Option Addr) (d : Nat) (W : World) (a : Ints W A c T1) (b : Ints W B d T2) => keysI f s A B c d n1 m1 T1 T2 W hn1 hm1 a b)
    unfold KR at HKx
    rw [r5, r4] at HKx
    generalize N ++ O = a at *
    generalize T1 ++ T2 = bb at *
    obtain ⟨la, hla⟩ : ∃ m, a.length = m := ⟨_, rfl⟩
    obtain ⟨lb, hlb⟩ : ∃ m, bb.length = m := ⟨_, rfl⟩
    have HLa := Lib.hid hla
    have HLb := Lib.hid hlb
    have HLg := Lib.hid hj1
    simp only [hn, hm, hn1, hm1, hj1] at X0 HB0 HN0 HO0 HR ⊢
    simp only [hla] at HKh
    simp only [hlb] at HKx
    rw [hla] at r80
    rw [hlb, hla, hj1] at g5
    rw [hj1] at g1
    have G4 := Lib.hid g4
    have HCa : Hid (∀ (A : Option Addr) (c : Nat) (W : World), Ints W A c a → Calls Try.prog 18 #[.slice A la c, .int .i64 x] W fun e w' => e = .returned (.bool hit) ∧ w' = W) := Lib.hid (fun A c W h => hasI A c la a x hit W hla h g2.symm)
    have HCb : Hid (∀ (A : Option Addr) (c : Nat) (W : World), Ints W A c bb → Calls Try.prog 18 #[.slice A lb c, .int .i64 x] W fun e w' => e = .returned (.bool true) ∧ w' = W) := Lib.hid (fun A c W h => hasI A c lb bb x true W hlb h (decide_eq_true g3))
    have p1 : decide ((1 : Int) < (j1 : Int)) = false := by simp; omega
    have p2 : (hit != hit) = false := by simp
    have HW : Hid (hit = true → (lb : Int) = (la : Int) - (j1 : Int)) := Lib.hid (fun h => by subst h; simp only [if_true] at g5; omega)
    have HV : Hid (hit = false → (lb : Int) = (la : Int) + 1 - (j1 : Int)) := Lib.hid (fun h => by subst h; simp only [Bool.false_eq_true, if_false] at g5; omega)
    clear hn hm hn1 hm1 hj1 hla hlb HF HX q1 r1 r2 r3 r4 r5 g2 g3 g4 g5
    obtain ⟨x1, x2, x3, x4⟩ := X0.out.cells
    go_enter Try.func5, Try.ntmps5
    go_wp2_with fail
    refine HR.out.mono ?_
    rintro e w1 ⟨B1, k1, C1, l1, E1, ke, rfl, hi1, hj1, he1, hb1⟩
    have X1 := Lib.hid ((X0.out.below hb1).alloc (ko f s (.slice B1 n1 k1) (.slice C1 m1 l1)))
    have N1 := Lib.hid ((HN0.out.below hb1).alloc (ko f s (.slice B1 n1 k1) (.slice C1 m1 l1)))
    have O1 := Lib.hid ((HO0.out.below hb1).alloc (ko f s (.slice B1 n1 k1) (.slice C1 m1 l1)))
    have Y1 := Lib.hid (Kb.new w1 f s (.slice B1 n1 k1) (.slice C1 m1 l1))
    have I1 := Lib.hid ((ints_own hi1).2.alloc (ko f s (.slice B1 n1 k1) (.slice C1 m1 l1)))
    have J1 := Lib.hid ((ints_own hj1).2.alloc (ko f s (.slice B1 n1 k1) (.slice C1 m1 l1)))
    have E1' := Lib.hid ((ints_own he1).2.alloc (ko f s (.slice B1 n1 k1) (.slice C1 m1 l1)))
    have HB1 : Hid (Below w.heap.size w (w1.alloc (ko f s (.slice B1 n1 k1) (.slice C1 m1 l1)))) := Lib.hid (bel_al (HB0.out.trans (hb1.mono HB0.out.size)) (Nat.le_trans HB0.out.size hb1.size) _)
    clear hi1 hj1 he1 hb1 x1 x2 x3 x4
    obtain ⟨x1, x2, x3, x4⟩ := X1.out.cells
    go_wp2_with fail
    refine (HKh.out _ N1.out O1.out).mono ?_
    rintro e w2 ⟨Ea, ca, rfl, ha2, hb2⟩
    have Y2 := Lib.hid (Y1.out.below hb2)
    have I2 := Lib.hid (I1.out.below hb2)
    have J2 := Lib.hid (J1.out.below hb2)
    have E2 := Lib.hid (E1'.out.below hb2)
    have A2 := Lib.hid (ints_own ha2).2
    have HB2 : Hid (Below w.heap.size w w2) := Lib.hid (HB1.out.trans (hb2.mono HB1.out.size))
    clear ha2 hb2 x1 x2 x3 x4
    obtain ⟨x1, x2, x3, x4⟩ := Y2.out.cells
    go_wp2_with fail
    refine (HKx.out B1 k1 C1 l1 _ I2.out J2.out).mono ?_
    rintro e w3 ⟨Eb, cb, rfl, hb3', hb3⟩
    have E3 := Lib.hid (E2.out.below hb3)
    have A3 := Lib.hid (A2.out.below hb3)
    have B3 := Lib.hid (ints_own hb3').2
    have HB3 : Hid (Below w.heap.size w w3) := Lib.hid (HB2.out.trans (hb3.mono HB2.out.size))
    clear hb3' hb3 x1 x2 x3 x4
    go_wp2_with fail
    refine (begun_any _).mono ?_
    rintro e w4 ⟨rfl, hb4⟩
    have E4 := Lib.hid (E3.out.below hb4)
    have A4 := Lib.hid (A3.out.below hb4)
    have B4 := Lib.hid (B3.out.below hb4)
    have HB4 : Hid (Below w.heap.size w w4) := Lib.hid (HB3.out.trans (hb4.mono HB3.out.size))
    clear hb4
    go_wp2_with fail
    refine (HCa.out _ _ _ A4.out).mono ?_
    rintro e w5 ⟨rfl, rfl⟩
    go_wp2_with fail
    refine (HCb.out _ _ _ B4.out).mono ?_
    rintro e w6 ⟨rfl, rfl⟩
    clear HCa HCb HKx HKh HR
    go_wp2
    go_loopw [13] (fun i wr => ∃ k : Nat, k ≤ la ∧ i = .int .i64 (k : Int) ∧ Hid (Below w6.heap.size w6 wr)) (fun i _ => la - (intOf i).toNat)
    case atStart => exact ⟨0, by omega, rfl, Lib.hid (Below.refl _ _)⟩
    case round =>
      obtain ⟨k, hk, rfl, HBr⟩ := hrel
      have Ar := Lib.hid (A4.out.below HBr.out)
      have Br := Lib.hid (B4.out.below HBr.out)
      have Er := Lib.hid (E4.out.below HBr.out)
      by_cases hlt : k < la
      · have hin : (k : Int) < (la : Int) := by omega
        have hiB : (0 : Int) ≤ (k : Int) := by omega
        have hka : k < a.length := by rw [HLa.out]; exact hlt
        obtain ⟨b, o, rfl, ht⟩ := Ar.out.2.2.2 (by omega)
        have e1 := ht.2 k hka
        have HG := Lib.hid (G4.out _ (gi_mem hka))
        clear ht hka
        generalize gi a k = y at *
        by_cases q2 : y ∈ G
        · have HCg := Lib.hid (fun (W : World) (h : Ints W E1 ke G) => hasI E1 ke j1 G y true W HLg.out h (decide_eq_true q2))
          have HCb := Lib.hid (fun (W : World) (h : Ints W Eb cb bb) => hasI Eb cb lb bb y false W HLb.out h (by rw [HG.out, decide_eq_true q2]; rfl))
          clear q2
          go_wp2
          go_quiet (first
            | (go_at_call 18; (with_reducible refine Calls.quiet_of_same (HCb.out _ ?_)); exact dnI Br.out _)
            | (go_at_call 18; (with_reducible refine Calls.quiet_of_same (HCg.out _ ?_)); exact dnI Er.out _))
          have HBq : Hid (Below w6.heap.size w6 (wr.drewN nq)) := Lib.hid (bel_dn HBr.out _)
          clear e1
          go_wp2
          go_roundw
          case rel => exact ⟨k + 1, by omega, by go_num, HBq⟩
          case measure => simp [intOf]; omega
        · have HCg := Lib.hid (fun (W : World) (h : Ints W E1 ke G) => hasI E1 ke j1 G y false W HLg.out h (decide_eq_false q2))
          have HCb := Lib.hid (fun (W : World) (h : Ints W Eb cb bb) => hasI Eb cb lb bb y true W HLb.out h (by rw [HG.out, decide_eq_false q2]; rfl))
          clear q2
          go_wp2
          go_quiet (first
            | (go_at_call 18; (with_reducible refine Calls.quiet_of_same (HCb.out _ ?_)); exact dnI Br.out _)
            | (go_at_call 18; (with_reducible refine Calls.quiet_of_same (HCg.out _ ?_)); exact dnI Er.out _))
          have HBq : Hid (Below w6.heap.size w6 (wr.drewN nq)) := Lib.hid (bel_dn HBr.out _)
          clear e1
          go_wp2
          go_roundw
          case rel => exact ⟨k + 1, by omega, by go_num, HBq⟩
          case measure => simp [intOf]; omega
      · obtain rfl : k = la := by omega
        have HBx : Hid (Below w.heap.size w wr) := Lib.hid (HB4.out.trans (HBr.out.mono HB4.out.size))
        clear G4 hlt
        cases hit with
        | true =>
          have hv := HW.out rfl
          have w1' : IntKind.i64.wrap ((k : Int) + 0) = (k : Int) := by rw [IntKind.wrap_i64]; omega
          have w2' : IntKind.i64.wrap ((k : Int) - (j1 : Int)) = (lb : Int) := by rw [IntKind.wrap_i64]; omega
          clear HW HV hv
          go_wp2
          go_ret
          exact ⟨ret_bool (by simp), HBx.out⟩
        | false =>
          have hv := HV.out rfl
          have w1' : IntKind.i64.wrap ((k : Int) + 1) = (k : Int) + 1 := by rw [IntKind.wrap_i64]; omega
          have w2' : IntKind.i64.wrap ((k : Int) + 1 - (j1 : Int)) = (lb : Int) := by rw [IntKind.wrap_i64]; omega
          clear HW HV hv
          go_wp2
          go_ret
          exact ⟨ret_bool (by simp), HBx.out⟩
  · obtain ⟨z1, z2⟩ := HX.out q1
    have d1 : (acE f s (N, O) x != 0) = true := by simpa using q1
    rw [z1, z2] at HR
    clear q1 z1 z2 HF HX
    generalize acR f s (N, O) x f = R1 at *
    generalize acR f s (N, O) x s = R2 at *
    generalize acE f s (N, O) x = er at *
    generalize acH f s (N, O) x = hit at *
    dsimp only [List.length_nil] at HR
    have HKx := Lib.hid (fun (A : Option Addr) (c : Nat) (B : Option Addr) (d : Nat) (W : World) (a : Ints W A c []) (b : Ints W B d []) => keysI R1 R2 A B c d 0 0 [] [] W rfl rfl a b)
    simp only [hn, hm] at X0 HB0 HN0 HO0 HR ⊢
    unfold KR at HKh HKx
    generalize kyL f s (N, O) = a at *
    generalize kyL R1 R2 ([], []) = bb at *
    dsimp only at HKh HKx
    generalize checkS f s N O = ef at *
    generalize checkS R1 R2 [] [] = eg at *
    obtain ⟨la, hla⟩ : ∃ m, a.length = m := ⟨_, rfl⟩
    obtain ⟨lb, hlb⟩ : ∃ m, bb.length = m := ⟨_, rfl⟩
    simp only [hla] at HKh
    simp only [hlb] at HKx
    clear hn hm hla hlb
    obtain ⟨x1, x2, x3, x4⟩ := X0.out.cells
    go_enter Try.func5, Try.ntmps5
    go_wp2_with fail
    refine HR.out.mono ?_
    rintro e w1 ⟨B1, k1, C1, l1, E1, ke, rfl, hi1, hj1, he1, hb1⟩
    have X1 := Lib.hid ((X0.out.below hb1).alloc (ko R1 R2 (.slice B1 0 k1) (.slice C1 0 l1)))
    have N1 := Lib.hid ((HN0.out.below hb1).alloc (ko R1 R2 (.slice B1 0 k1) (.slice C1 0 l1)))
    have O1 := Lib.hid ((HO0.out.below hb1).alloc (ko R1 R2 (.slice B1 0 k1) (.slice C1 0 l1)))
    have Y1 := Lib.hid (Kb.new w1 R1 R2 (.slice B1 0 k1) (.slice C1 0 l1))
    have I1 := Lib.hid ((ints_own hi1).2.alloc (ko R1 R2 (.slice B1 0 k1) (.slice C1 0 l1)))
    have J1 := Lib.hid ((ints_own hj1).2.alloc (ko R1 R2 (.slice B1 0 k1) (.slice C1 0 l1)))
    have HB1 : Hid (Below w.heap.size w (w1.alloc (ko R1 R2 (.slice B1 0 k1) (.slice C1 0 l1)))) := Lib.hid (bel_al (HB0.out.trans (hb1.mono HB0.out.size)) (Nat.le_trans HB0.out.size hb1.size) _)
    clear hi1 hj1 he1 hb1 x1 x2 x3 x4
    obtain ⟨x1, x2, x3, x4⟩ := X1.out.cells
    go_wp2_with fail
    refine (HKh.out _ N1.out O1.out).mono ?_
    rintro e w2 ⟨Ea, ca, rfl, -, hb2⟩
    have Y2 := Lib.hid (Y1.out.below hb2)
    have I2 := Lib.hid (I1.out.below hb2)
    have J2 := Lib.hid (J1.out.below hb2)
    have HB2 : Hid (Below w.heap.size w w2) := Lib.hid (HB1.out.trans (hb2.mono HB1.out.size))
    clear hb2 x1 x2 x3 x4
    obtain ⟨x1, x2, x3, x4⟩ := Y2.out.cells
    go_wp2_with fail
    refine (HKx.out B1 k1 C1 l1 _ I2.out J2.out).mono ?_
    rintro e w3 ⟨Eb, cb, rfl, -, hb3⟩
    have Y3 := Lib.hid (Y2.out.below hb3)
    have HB3 : Hid (Below w.heap.size w w3) := Lib.hid (HB2.out.trans (hb3.mono HB2.out.size))
    clear hb3 x1 x2 x3 x4
    go_wp2_with fail
    refine (begun_any _).mono ?_
    rintro e w4 ⟨rfl, hb4⟩
    have Y4 := Lib.hid (Y3.out.below hb4)
    have HB4 : Hid (Below w.heap.size w w4) := Lib.hid (HB3.out.trans (hb4.mono HB3.out.size))
    clear hb4
    obtain ⟨x1, x2, x3, x4⟩ := Y4.out.cells
    go_wp2
    go_ret
    exact ⟨rfl, HB4.out⟩

end Go.Proofs.Ytpjgfehhhgcjnaa.Seg
