/-
  The walk of the law on frames that are spared.
-/
import Derived.Test.YtdcimkllonflkaaClockBegun
import Derived.Test.YtdcimkllonflkaaClockMath2
namespace Go.Proofs.Ytdcimkllonflkaa.Clk
open Go.RowKit Go.Maps
open Lru (isRm isK keysE keysE_zero traceE trace_zero ints_lit)
set_option linter.unusedVariables false
set_option maxRecDepth 100000

theorem ac_good {r h : Int} {F : List Fr} {x : Int} (e : acE r h F x = 0) : ∃ hn : Nat, h = (hn : Int) ∧ Good r (hn : Int) F ∧ isK x ∧ Good r ((tch r (hn, F) x).1 : Int) (tch r (hn, F) x).2 ∧
    acR r h F x = r ∧ acP r h F x = ((tch r (hn, F) x).1 : Int) ∧ acF r h F x = (tch r (hn, F) x).2 ∧ acH r h F x = decide (x ∈ keys F) ∧ acG r h F x = gone r (hn, F) x := by
  have e1 : checkK r h F = 0 := by
    unfold acE at e
    split at e
    · assumption
    · exact absurd e (by assumption)
  have g := check_zero.1 e1
  obtain ⟨hn, rfl⟩ := g.nat
  have hk : isK x := by
    unfold acE at e
    rw [if_pos e1] at e
    by_cases h : isK x
    · exact h
    · rw [if_neg h] at e; cases e
  refine ⟨hn, rfl, g, hk, tch_good (s := (hn, F)) g hk, ?_, ?_, ?_, ?_, ?_⟩
  · unfold acR; rw [if_pos e]
  · unfold acP; rw [if_pos e, Int.toNat_natCast]
  · unfold acF; rw [if_pos e, Int.toNat_natCast]
  · unfold acH; rw [if_pos e]
  · unfold acG; rw [if_pos e, Int.toNat_natCast]
/-- What the law asks of an access. -/
theorem spares_facts {r h : Int} {F : List Fr} {x : Int} (e : acE r h F x = 0) : checkK (acR r h F x) (acP r h F x) (acF r h F x) = 0 ∧
    ((acH r h F x = true ∨ acG r h F x < 0) ∨ acH r h F x = false ∧ 0 ≤ acG r h F x ∧
      usedOf F (acG r h F x) F.length = (F.take F.length).all Fr.used ∧ (∀ i, i < (acF r h F x).length → (gf (acF r h F x) i).key ≠ acG r h F x) ∧ ((keys (acF r h F x)).take (acF r h F x).length).count x = 1 ∧ ((acF r h F x).length : Int) = r ∧ r ≤ 40) := by
  obtain ⟨hn, rfl, g, hk, g2, e1, e2, e3, e4, e5⟩ := ac_good e
  rw [e1, e2, e3, e4, e5]
  refine ⟨check_zero.2 g2, ?_⟩
  by_cases hx : x ∈ keys F
  · exact .inl (.inl (by simpa using hx))
  · by_cases hf : (F.length : Int) < r
    · exact .inl (.inr (by unfold gone; rw [if_neg hx, if_pos hf]; decide))
    · obtain ⟨a, b, c, d, f⟩ := spare_facts g hx hf hk
      exact .inr ⟨by simpa using hx, f, by rw [List.take_length]; exact a, b, by rw [← keys_len, List.take_length]; exact c, d, g.room.2⟩

set_option maxHeartbeats 20000000 in
theorem clockSpares_walk (r h : Int) (A : Option Addr) (c : Nat) (F : List Fr) (x : Int) (w : World) (hI : Frs w A c F) :
    Calls Try.prog 5 #[kv r h (.slice A F.length c), .int .i64 x] w fun e w' => e = .returned (.bool true) ∧ Below w.heap.size w w' := by
  have X0 := Lib.hid (Kb.new w r h (.slice A F.length c))
  have HB0 : Hid (Below w.heap.size w (w.alloc (ko r h (.slice A F.length c)))) := Lib.hid (bel_al (Below.refl _ _) (Nat.le_refl _) _)
  have HI := Lib.hid hI
  have HA := Lib.hid (fun (W : World) (a : Frs W A c F) => access_any r h A c F x W a)
  unfold AR at HA
  have hlen := hI.len
  clear hI
  by_cases q1 : acE r h F x = 0
  · have HF := Lib.hid (spares_facts q1)
    have HCk := Lib.hid (fun (B : Option Addr) (d : Nat) (W : World) (a : Frs W B d (acF r h F x)) => check_any (acR r h F x) (acP r h F x) B d (acF r h F x) W a)
    simp only [HF.out.1] at HCk
    have HF2 := Lib.hid HF.out.2
    simp only [q1] at HA
    clear q1 HF
    generalize acF r h F x = M at *
    generalize acR r h F x = R at *
    generalize acP r h F x = P at *
    generalize acH r h F x = hit at *
    generalize acG r h F x = g at *
    obtain ⟨lf, hlf⟩ : ∃ lf, F.length = lf := ⟨_, rfl⟩
    obtain ⟨lm, hlm⟩ : ∃ lm, M.length = lm := ⟨_, rfl⟩
    have HLF := Lib.hid hlf
    have HLM := Lib.hid hlm
    simp only [hlf, hlm] at HA
    simp only [hlm] at HCk
    rw [hlf, hlm] at HF2
    rw [hlf] at X0 HB0 hlen ⊢
    clear hlf hlm
    obtain ⟨x1, x2, x3, -, -, -⟩ := X0.out.cells
    rcases HF2.out with q2 | ⟨q2, q3, q4, q5, q6, q7, q8⟩
    · have hd : hit = true ∨ (hit = false ∧ decide (g < 0) = true) := by
        rcases q2 with q | q
        · exact .inl q
        · cases hit
          · exact .inr ⟨rfl, by simpa using q⟩
          · exact .inl rfl
      clear HF2 q2
      rcases hd with rfl | ⟨rfl, d2⟩
      all_goals
        go_enter Try.func5, Try.ntmps5
        go_wp2_with fail
        refine (HA.out _ (HI.out.below HB0.out)).mono ?_
        rintro e w1 ⟨B1, k1, rfl, hI1, -, hbb⟩
        have Y1 := Lib.hid (Kb.new w1 R P (.slice B1 lm k1))
        have I1 := Lib.hid (hI1.alloc (ko R P (.slice B1 lm k1)))
        have HB1 : Hid (Below w.heap.size w (w1.alloc (ko R P (.slice B1 lm k1)))) := Lib.hid (bel_al (HB0.out.trans (hbb.mono HB0.out.size)) (Nat.le_trans HB0.out.size hbb.size) _)
        clear hI1 hbb x1 x2 x3
        go_wp2_with fail
        refine (begun_any _).mono ?_
        rintro e w3 ⟨rfl, hb3⟩
        have Y3 := Lib.hid (Y1.out.below hb3)
        have I3 := Lib.hid (I1.out.below hb3)
        have HB3 : Hid (Below w.heap.size w w3) := Lib.hid (HB1.out.trans (hb3.mono HB1.out.size))
        clear hb3
        obtain ⟨y1, y2, y3, -, -, -⟩ := Y3.out.cells
        go_wp2_with fail
        refine (HCk.out B1 k1 _ I3.out).mono ?_
        rintro e w4 ⟨rfl, hb4⟩
        have HB4 : Hid (Below w.heap.size w w4) := Lib.hid (HB3.out.trans (hb4.mono HB3.out.size))
        clear hb4 y1 y2 y3
        go_wp2
        go_ret
        exact ⟨rfl, HB4.out⟩
    · subst q2
      have d1 : decide (g < 0) = false := by simp; omega
      have HQ4 := Lib.hid q4
      have HQ5 := Lib.hid q5
      have HQ6 := Lib.hid q6
      have d7 : ((lm : Int) == r) = true := by simpa using q7
      have hm40 : lm ≤ 40 := by omega
      clear HF2 q3 q4 q5 q6 q7 q8
      go_enter Try.func5, Try.ntmps5
      go_wp2_with fail
      refine (HA.out _ (HI.out.below HB0.out)).mono ?_
      rintro e w1 ⟨B1, k1, rfl, hI1, -, hbb⟩
      have X1 := Lib.hid ((X0.out.below hbb).alloc (ko R P (.slice B1 lm k1)))
      have Y1 := Lib.hid (Kb.new w1 R P (.slice B1 lm k1))
      have I1 := Lib.hid (hI1.alloc (ko R P (.slice B1 lm k1)))
      have HB1 : Hid (Below w.heap.size w (w1.alloc (ko R P (.slice B1 lm k1)))) := Lib.hid (bel_al (HB0.out.trans (hbb.mono HB0.out.size)) (Nat.le_trans HB0.out.size hbb.size) _)
      clear hI1 hbb x1 x2 x3
      go_wp2_with fail
      refine (begun_any _).mono ?_
      rintro e w3 ⟨rfl, hb3⟩
      have X3 := Lib.hid (X1.out.below hb3)
      have Y3 := Lib.hid (Y1.out.below hb3)
      have I3 := Lib.hid (I1.out.below hb3)
      have HB3 : Hid (Below w.heap.size w w3) := Lib.hid (HB1.out.trans (hb3.mono HB1.out.size))
      have J3 := Lib.hid (HI.out.below HB3.out)
      clear hb3
      generalize w1.heap.size = p1 at *
      obtain ⟨x1, x2, x3, -, -, -⟩ := X3.out.cells
      obtain ⟨y1, y2, y3, -, -, -⟩ := Y3.out.cells
      go_wp2
      go_loop [9, 10, 11] (fun al us i => ∃ k : Nat, k ≤ lf ∧ i = .int .i64 (k : Int) ∧ al = .bool ((F.take k).all Fr.used) ∧ us = .bool (usedOf F g k)) (fun _ _ i => lf - (intOf i).toNat)
      case atStart => exact ⟨0, by omega, rfl, rfl, rfl⟩
      case round =>
        obtain ⟨k, hk, rfl, rfl, rfl⟩ := hrel
        by_cases hlt : k < lf
        · have hkn : (k : Int) < (lf : Int) := by omega
          obtain ⟨b, o, rfl, e1, e2⟩ := J3.out.fr (k := k) (by rw [HLF.out]; exact hlt)
          have HA1 := Lib.hid (all_take (F := F) (k := k) (by rw [HLF.out]; exact hlt))
          have HU1 : Hid (usedOf F g (k + 1) = if (gf F k).key = g then (gf F k).used else usedOf F g k) := Lib.hid rfl
          generalize gf F k = f at *
          obtain ⟨fx, fu⟩ := f
          dsimp only at e1 e2 HA1 HU1
          generalize (F.take k).all Fr.used = al at *
          generalize usedOf F g k = us at *
          by_cases hg : fx = g
          · have d2 : (fx == g) = true := by simpa using hg
            rw [if_pos hg] at HU1
            clear hg
            cases al
            all_goals
              go_wp2
              go_round
              case rel => exact ⟨k + 1, by omega, by go_num, by rw [HA1.out]; first | rfl | simp, by rw [HU1.out]⟩
              case measure => simp [intOf]; omega
          · have d2 : (fx == g) = false := by simpa using hg
            rw [if_neg hg] at HU1
            clear hg
            cases al
            all_goals
              go_wp2
              go_round
              case rel => exact ⟨k + 1, by omega, by go_num, by rw [HA1.out]; first | rfl | simp, by rw [HU1.out]⟩
              case measure => simp [intOf]; omega
        · obtain rfl : k = lf := by omega
          generalize (F.take k).all Fr.used = al at *
          generalize usedOf F g k = us at *
          have d8 : (us == al) = true := by simpa using HQ4.out
          go_wp2
          go_loop [12, 13] (fun q i => ∃ j : Nat, j ≤ lm ∧ i = .int .i64 (j : Int) ∧ q = .int .i64 (((keys M).take j).count x : Int)) (fun _ i => lm - (intOf i).toNat)
          case atStart => exact ⟨0, by omega, rfl, rfl⟩
          case round =>
            obtain ⟨j, hj, rfl, rfl⟩ := hrel
            by_cases hlt2 : j < lm
            · have hkn : (j : Int) < (lm : Int) := by omega
              have HJM : Hid (j < M.length) := Lib.hid (by rw [HLM.out]; exact hlt2)
              obtain ⟨b, o, rfl, e1, e2⟩ := I3.out.fr HJM.out
              have HN := Lib.hid (HQ5.out j (by rw [← HLM.out]; exact HJM.out))
              have HC1 := Lib.hid (count_take (x := x) HJM.out)
              have hcl : ((keys M).take j).count x ≤ j := by
                have := List.count_le_length (a := x) (l := (keys M).take j)
                rw [List.length_take] at this; omega
              generalize gf M j = f at *
              obtain ⟨fx, fu⟩ := f
              dsimp only at e1 e2 HN HC1
              have d2 : (fx == g) = false := by simpa using HN.out
              generalize ((keys M).take j).count x = cn at *
              by_cases hg : fx = x
              · have d3 : (fx == x) = true := by simpa using hg
                rw [if_pos hg] at HC1
                clear hg
                go_wp2
                go_round
                case rel => exact ⟨j + 1, by omega, by go_num, by rw [HC1.out]; go_num⟩
                case measure => simp [intOf]; omega
              · have d3 : (fx == x) = false := by simpa using hg
                rw [if_neg hg] at HC1
                clear hg
                go_wp2
                go_round
                case rel => exact ⟨j + 1, by omega, by go_num, by rw [HC1.out]; rfl⟩
                case measure => simp [intOf]; omega
            · obtain rfl : j = lm := by omega
              have d9 : ((((keys M).take j).count x : Int) == 1) = true := by have := HQ6.out; simp [this]
              generalize ((keys M).take j).count x = cn at *
              go_wp2_with fail
              refine (HCk.out B1 k1 _ I3.out).mono ?_
              rintro e w4 ⟨rfl, hb4⟩
              have HB4 : Hid (Below w.heap.size w w4) := Lib.hid (HB3.out.trans (hb4.mono HB3.out.size))
              clear hb4
              go_wp2
              go_ret
              exact ⟨rfl, HB4.out⟩
  · have d1 : (acE r h F x != 0) = true := by simpa using q1
    clear q1
    generalize acF r h F x = M at *
    generalize acR r h F x = R at *
    generalize acP r h F x = P at *
    generalize acH r h F x = hit at *
    generalize acG r h F x = g at *
    generalize acE r h F x = er at *
    obtain ⟨lm, hlm⟩ : ∃ lm, M.length = lm := ⟨_, rfl⟩
    simp only [hlm] at HA
    clear hlm
    obtain ⟨x1, x2, x3, -, -, -⟩ := X0.out.cells
    go_enter Try.func5, Try.ntmps5
    go_wp2_with fail
    refine (HA.out _ (HI.out.below HB0.out)).mono ?_
    rintro e w1 ⟨B1, k1, rfl, hI1, -, hbb⟩
    have HB1 : Hid (Below w.heap.size w (w1.alloc (ko R P (.slice B1 lm k1)))) := Lib.hid (bel_al (HB0.out.trans (hbb.mono HB0.out.size)) (Nat.le_trans HB0.out.size hbb.size) _)
    clear hI1 hbb x1 x2 x3
    go_wp2_with fail
    refine (begun_any _).mono ?_
    rintro e w3 ⟨rfl, hb3⟩
    have HB3 : Hid (Below w.heap.size w w3) := Lib.hid (HB1.out.trans (hb3.mono HB1.out.size))
    clear hb3
    go_wp2
    go_ret
    exact ⟨rfl, HB3.out⟩

end Go.Proofs.Ytdcimkllonflkaa.Clk
