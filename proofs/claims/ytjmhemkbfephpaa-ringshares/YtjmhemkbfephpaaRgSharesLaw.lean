/-
  RingShares: the shares add up to the whole ring; a shard that gets points loses nothing, and no other one gains.
-/
import Derived.Test.YtjmhemkbfephpaaRgBegun
import Derived.Test.YtjmhemkbfephpaaLruWalks
namespace Go.Proofs.Ytjmhemkbfephpaa.Rng
open Go.RowKit
open Two (REO RE)
set_option linter.unusedVariables false
set_option maxRecDepth 100000

theorem cnt_len {f : Int → Int} {i : Int} : ∀ {n : Nat} {a : Int}, cnt f i a n ≤ n
  | 0, _ => Nat.le_refl _
  | n + 1, a => by
    unfold cnt
    have := cnt_len (f := f) (i := i) (n := n) (a := a + 1)
    split <;> omega
theorem share_len (L : List Pt) (i : Int) : share L i ≤ 65536 := cnt_len
theorem sumS_len (L : List Pt) : ∀ k, sumS (share L) k ≤ 65536 * k
  | 0 => Nat.le_refl _
  | k + 1 => by
    have h1 := sumS_len L k
    have h2 := share_len L (k : Int)
    unfold sumS; omega
theorem shE_zero {L : List Pt} {n : Int} (h : shE L n = 0) : Good L ∧ ¬ L.length = 0 := by
  have h1 : checkR L = 0 := Classical.byContradiction fun hh => hh ((shE_check (n := n) hh).symm.trans h)
  have h2 : ¬ (n < 1 ∨ 20 < n) := fun hh => by rw [shE_range h1 hh] at h; cases h
  exact ⟨check_zero.1 h1, fun hh => by rw [shE_none h1 h2 hh] at h; cases h⟩
theorem shL_20 {L : List Pt} (h : shE L 20 = 0) : (shL L 20).length = 20 ∧ ∀ k, k < 20 → gi (shL L 20) k = (share L (k : Int) : Int) := by
  unfold shL
  rw [if_pos h]
  refine ⟨by simp, fun k hk => ?_⟩
  rw [gi_get (by simpa using hk)]
  simp
theorem shares_grow {L : List Pt} {s : Int} {P : List Int} (h1 : shE L 20 = 0) (h2 : adE L s P = 0) : shE (adL L s P) 20 = 0 ∧ share L s ≤ share (adL L s P) s ∧ ∀ i, i ≠ s → share (adL L s P) i ≤ share L i := by
  obtain ⟨hG, hn⟩ := shE_zero h1
  obtain ⟨-, hs, hp, hF, hl⟩ := adE_zero h2
  have hM : adL L s P = addP L s P := adL_ok h2
  rw [hM]
  exact ⟨shE_ok (check_zero.2 (add_good h2)) (by omega) (by rw [addP_len]; omega), share_gain (own_add (s := s) (fun e => hn (by rw [e]; rfl)) hG.asc hF.1 hF.2)⟩

theorem shares_facts {L : List Pt} (h : shE L 20 = 0) : ∃ acc : Nat → Int, acc 0 = 0 ∧ acc 20 = 65536 ∧ ∀ k, k < 20 → acc (k + 1) = acc k + gi (shL L 20) k ∧ 0 ≤ acc k ∧ acc k ≤ 1310720 ∧ 0 ≤ gi (shL L 20) k ∧ gi (shL L 20) k ≤ 65536 := by
  obtain ⟨-, hg⟩ := shL_20 h
  obtain ⟨hG, hn⟩ := shE_zero h
  refine ⟨fun k => ((sumS (share L) k : Nat) : Int), rfl, (by show ((sumS (share L) 20 : Nat) : Int) = 65536; rw [share_sum hG (fun e => hn (by rw [e]; rfl))]; rfl), fun k hk => ?_⟩
  have h1 := sumS_len L k
  have h2 := share_len L (k : Int)
  rw [hg k hk]
  dsimp only
  refine ⟨?_, by omega, by omega, by omega, by omega⟩
  show ((sumS (share L) k + share L (k : Int) : Nat) : Int) = _
  omega
theorem shares_cmp {L : List Pt} {s : Int} {P : List Int} (h1 : shE L 20 = 0) (h2 : adE L s P = 0) : shE (adL L s P) 20 = 0 ∧ (shL (adL L s P) 20).length = 20 ∧ ∀ k : Nat, k < 20 → ((k : Int) = s → gi (shL L 20) k ≤ gi (shL (adL L s P) 20) k) ∧ ((k : Int) ≠ s → gi (shL (adL L s P) 20) k ≤ gi (shL L 20) k) := by
  obtain ⟨a1, a2, a3⟩ := shares_grow h1 h2
  obtain ⟨b1, b2⟩ := shL_20 a1
  obtain ⟨c1, c2⟩ := shL_20 h1
  refine ⟨a1, b1, fun k hk => ⟨fun e => ?_, fun e => ?_⟩⟩
  · rw [b2 k hk, c2 k hk, e]; omega
  · rw [b2 k hk, c2 k hk]; have := a3 _ e; omega

set_option maxHeartbeats 8000000 in
theorem ringShares_walk (A : Option Addr) (c : Nat) (L : List Pt) (s : Int) (B : Option Addr) (d : Nat) (P : List Int) (w : World) (hL : Pts w A c L) (hP : Ints w B d P) :
    Calls Try.prog 5 #[.slice A L.length c, .int .i64 s, .slice B P.length d] w fun e w' => e = .returned (.bool true) ∧ Below w.heap.size w w' := by
  obtain ⟨m, hm⟩ : ∃ m, m = min P.length 20 := ⟨_, rfl⟩
  have hmk : m ≤ P.length := by omega
  have hmin : min (P.length : Int) (20 : Int) = (m : Int) := by omega
  obtain ⟨B', hsl, hP', -⟩ := Lru.slice_upto hP hmk
  have hl1 := hL.len
  have hl2 := hP.len
  have HSh := Lib.hid (shares_any A c L 20 w hL)
  have HAd := Lib.hid (fun (W : World) (hW : Below w.heap.size w W) => add_any A B' c d L s (P.take m) W (hL.below hW) (hP'.below hW))
  have HBG := Lib.hid begun_any
  by_cases q1 : shE L 20 = 0
  · obtain ⟨acc, ha0, ha20, hak⟩ := shares_facts q1
    have hcmp := fun h2 => shares_cmp (s := s) (P := P.take m) q1 h2
    have hS20 := (shL_20 q1).1
    rw [q1] at HSh
    have HA0 := Lib.hid ha0
    have HA20 := Lib.hid ha20
    have HAK := Lib.hid hak
    have HCMP := Lib.hid hcmp
    have HS20 := Lib.hid hS20
    clear hP' hL hP hm hmk q1 ha0 ha20 hak hcmp hS20
    generalize L.length = ln at *
    generalize P.length = lp at *
    generalize (P.take m).length = lm at *
    generalize adL L s (P.take m) = M at *
    generalize adE L s (P.take m) = e1 at *
    generalize shL L 20 = S at *
    have HSM := Lib.hid (fun (W : World) (A' : Option Addr) (c' : Nat) (h : Pts W A' c' M) => shares_any A' c' M 20 W h)
    generalize shL M 20 = T at *
    generalize shE M 20 = e4 at *
    obtain ⟨lM, hlM⟩ : ∃ lM, M.length = lM := ⟨_, rfl⟩
    rw [hlM] at HSM
    have HLM := Lib.hid hlM
    clear hlM
    go_enter Try.func5, Try.ntmps5
    go_wp2_with fail
    refine HSh.out.mono ?_
    intro e w1 hr1
    obtain ⟨A1, c1, rfl, hI1, hb1⟩ := hr1.re
    rw [HS20.out]
    have HI1 := Lib.hid hI1
    have HB1 := Lib.hid hb1
    clear hr1 hI1 hb1 HSh
    go_wp2_with fail
    refine (HBG.out w1).mono ?_
    rintro e w2 ⟨rfl, hb2⟩
    have HI2 := Lib.hid (HI1.out.below hb2)
    have HB2 := Lib.hid (HB1.out.trans (hb2.mono HB1.out.size))
    clear hb2 HI1 HB1
    go_wp2
    go_loopw [9, 10] (fun a i wr => ∃ k : Nat, k ≤ 20 ∧ a = .int .i64 (acc k) ∧ i = .int .i64 (k : Int) ∧ w2 = wr) (fun _ i _ => 20 - (intOf i).toNat)
    case atStart => exact ⟨0, by omega, by rw [HA0.out], rfl, rfl⟩
    case round =>
      obtain ⟨k, hk, rfl, rfl, rfl⟩ := hrel
      by_cases hlt : k < 20
      · have hin : (k : Int) < 20 := by omega
        have hiB : (0 : Int) ≤ (k : Int) := by omega
        obtain ⟨b, o, rfl, ht⟩ := HI2.out.2.2.2 (by rw [HS20.out]; omega)
        have e1' := ht.2 k (by rw [HS20.out]; exact hlt)
        obtain ⟨g1, g2, g3, g4, g5⟩ := HAK.out k hlt
        have hw1 : IntKind.i64.wrap (acc k + gi S k) = acc (k + 1) := by rw [g1, IntKind.wrap_i64]; omega
        have dn : decide (gi S k < 0) = false := by simp; omega
        clear ht g1 g2 g3 g4 g5
        generalize gi S k = z at *
        obtain ⟨x1, hx1⟩ : ∃ x1, acc (k + 1) = x1 := ⟨_, rfl⟩
        rw [hx1] at hw1
        have HX1 := Lib.hid hx1
        clear hx1
        go_wp2
        go_roundw
        case rel => exact ⟨k + 1, by omega, by rw [HX1.out], by go_num, by first | rfl | trivial⟩
        case measure => simp [intOf]; omega
      · obtain rfl : k = 20 := by omega
        rw [HA20.out]
        clear HA0 HA20 HAK hlt hk
        by_cases q2 : e1 = 0
        · have d1 : (e1 != 0) = false := by simpa using q2
          have d2 : (e1 == 0) = true := by simpa using q2
          have d3 : decide (e1 = 0) = true := by simpa using q2
          obtain ⟨r1, r2, r3⟩ := HCMP.out q2
          have HT20 := Lib.hid r2
          have HTS := Lib.hid r3
          have HE4 := Lib.hid r1
          clear q2 HCMP r1 r2 r3
          go_wp2_with fail
          refine (HAd.out w2 HB2.out).mono ?_
          rintro e w3 ⟨v3, rfl, ho3, hb3⟩
          obtain ⟨A3, c3, rfl, hI3, -⟩ := pts_of_own ho3
          rw [HLM.out]
          have HM3 := Lib.hid hI3
          have HI3 := Lib.hid (HI2.out.below hb3)
          have HB3 := Lib.hid (HB2.out.trans (hb3.mono HB2.out.size))
          clear ho3 hI3 hb3
          go_wp2_with fail
          refine (HSM.out w3 _ _ HM3.out).mono ?_
          intro e w4 hr4
          obtain ⟨A4, c4, rfl, hI4, hb4⟩ := hr4.re
          rw [HT20.out, HE4.out]
          have HT4 := Lib.hid hI4
          have HI4 := Lib.hid (HI3.out.below hb4)
          have HB4 := Lib.hid (HB3.out.trans (hb4.mono HB3.out.size))
          clear hr4 hI4 hb4
          go_wp2
          go_loopw [15] (fun i wr => ∃ k : Nat, k ≤ 20 ∧ i = .int .i64 (k : Int) ∧ Hid (Below w4.heap.size w4 wr)) (fun i _ => 20 - (intOf i).toNat)
          case atStart => exact ⟨0, by omega, rfl, Lib.hid (Below.refl _ _)⟩
          case round =>
            obtain ⟨k, hk, rfl, HBr⟩ := hrel
            by_cases hlt : k < 20
            · have hin : (k : Int) < 20 := by omega
              have hiB : (0 : Int) ≤ (k : Int) := by omega
              obtain ⟨b, o, rfl, ht⟩ := (HI4.out.below HBr.out).2.2.2 (by rw [HS20.out]; omega)
              have u1 := ht.2 k (by rw [HS20.out]; exact hlt)
              obtain ⟨b2, o2, rfl, ht2⟩ := (HT4.out.below HBr.out).2.2.2 (by rw [HT20.out]; omega)
              have u2 := ht2.2 k (by rw [HT20.out]; exact hlt)
              obtain ⟨g1, g2⟩ := HTS.out k hlt
              clear ht ht2
              generalize gi S k = y at *
              generalize gi T k = z at *
              by_cases q : (k : Int) = s
              · have t1 : decide ((k : Int) = s) = true := by simpa using q
                have t2 : ((k : Int) == s) = true := by simpa using q
                have t3 : ((k : Int) != s) = false := by simpa using q
                have t4 : decide (z < y) = false := by have := g1 q; simp; omega
                clear g1 g2 q
                go_wp2_with fail
                go_quiet (fail)
                have HB9 := Lib.hid (bel_drewN HBr.out nq)
                clear u1 u2
                rename World => wr
                generalize wr.drewN nq = w9 at *
                go_wp2
                go_roundw
                case rel => exact ⟨k + 1, by omega, by go_num, HB9⟩
                case measure => simp [intOf]; omega
              · have t1 : decide ((k : Int) = s) = false := by simpa using q
                have t2 : ((k : Int) == s) = false := by simpa using q
                have t3 : ((k : Int) != s) = true := by simpa using q
                have t4 : decide (y < z) = false := by have := g2 q; simp; omega
                clear g1 g2 q
                go_wp2_with fail
                go_quiet (fail)
                have HB9 := Lib.hid (bel_drewN HBr.out nq)
                clear u1 u2
                rename World => wr
                generalize wr.drewN nq = w9 at *
                go_wp2
                go_roundw
                case rel => exact ⟨k + 1, by omega, by go_num, HB9⟩
                case measure => simp [intOf]; omega
            · obtain rfl : k = 20 := by omega
              have HB9 := Lib.hid (HB4.out.trans (HBr.out.mono HB4.out.size))
              go_wp2
              go_ret
              exact ⟨rfl, HB9.out⟩
        · have d1 : (e1 != 0) = true := by simpa using q2
          have d2 : (e1 == 0) = false := by simpa using q2
          have d3 : decide (e1 = 0) = false := by simpa using q2
          clear q2 HCMP
          go_wp2_with fail
          refine (HAd.out w2 HB2.out).mono ?_
          rintro e w3 ⟨v3, rfl, ho3, hb3⟩
          obtain ⟨A3, c3, rfl, hI3, -⟩ := pts_of_own ho3
          rw [HLM.out]
          have HB3 := Lib.hid (HB2.out.trans (hb3.mono HB2.out.size))
          clear ho3 hI3 hb3
          go_wp2
          go_ret
          exact ⟨rfl, HB3.out⟩
  · have HS0 : Hid ((shL L 20).length = 0) := Lib.hid (by rw [shL_bad q1]; rfl)
    have d1 : (shE L 20 != 0) = true := by simpa using q1
    have d2 : (shE L 20 == 0) = false := by simpa using q1
    have d3 : decide (shE L 20 = 0) = false := by simpa using q1
    clear hP' hL hP hm hmk q1 HAd
    generalize L.length = ln at *
    generalize P.length = lp at *
    generalize (P.take m).length = lm at *
    generalize shE L 20 = e1 at *
    generalize shL L 20 = S at *
    go_enter Try.func5, Try.ntmps5
    go_wp2_with fail
    refine HSh.out.mono ?_
    intro e w1 hr1
    obtain ⟨A1, c1, rfl, hI1, hb1⟩ := hr1.re
    rw [HS0.out]
    have HB1 := Lib.hid hb1
    clear hr1 hI1 hb1 HSh
    go_wp2_with fail
    refine (HBG.out w1).mono ?_
    rintro e w2 ⟨rfl, hb2⟩
    have HB2 := Lib.hid (HB1.out.trans (hb2.mono HB1.out.size))
    clear hb2
    go_wp2
    go_ret
    exact ⟨rfl, HB2.out⟩

end Go.Proofs.Ytjmhemkbfephpaa.Rng
