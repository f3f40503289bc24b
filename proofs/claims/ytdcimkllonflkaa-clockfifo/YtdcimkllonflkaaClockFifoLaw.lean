/-
  The walk of the law on keys that are accessed once.
-/
import Derived.Test.YtdcimkllonflkaaClockPartsLaw
import Derived.Test.YtdcimkllonflkaaClockMath2
namespace Go.Proofs.Ytdcimkllonflkaa.Clk
open Go.RowKit Go.Maps
open Lru (isRm isK keysE keysE_zero traceE trace_zero ints_lit)
set_option linter.unusedVariables false
set_option maxRecDepth 100000

/-- No key from k on, up to j, is that of place k. -/
def lastB (xs : List Int) (k j : Nat) : Bool := ((xs.take j).drop (k + 1)).all (fun y => y != gi xs k)
theorem lastB_step {xs : List Int} {k j : Nat} (hj : j < xs.length) (hk : k + 1 ≤ j) : lastB xs k (j + 1) = (lastB xs k j && (gi xs j != gi xs k)) := by
  unfold lastB
  rw [take_one hj, List.drop_append_of_le_length (by rw [List.length_take]; omega), List.all_append]
  simp
theorem lastB_none (xs : List Int) (k : Nat) : lastB xs k (k + 1) = true := by
  unfold lastB; rw [List.drop_of_length_le (by rw [List.length_take]; omega)]; rfl
theorem lastB_all {xs : List Int} {k : Nat} (hk : k < xs.length) (h : lastB xs k xs.length = true) : ∀ t, k < t → ∀ ht : t < xs.length, xs[t] ≠ xs[k] := by
  intro t hkt ht e
  unfold lastB at h
  rw [List.take_length, List.all_eq_true] at h
  have hm : xs[t] ∈ xs.drop (k + 1) := by
    have : xs[t] = (xs.drop (k + 1))[t - (k + 1)]'(by rw [List.length_drop]; omega) := by rw [List.getElem_drop]; congr 1; omega
    rw [this]; exact List.getElem_mem _
  have := h _ hm
  rw [gi_get hk, e] at this
  simp at this
theorem in_step {F : List Fr} {j : Nat} {x : Int} (hj : j < F.length) : decide (x ∈ (keys F).take (j + 1)) = (decide (x ∈ (keys F).take j) || ((gf F j).key == x)) := by
  have hk : j < (keys F).length := by rw [keys_len]; exact hj
  rw [List.take_add_one, List.getElem?_eq_getElem hk, keys_get hj]
  generalize (gf F j).key = y
  by_cases h : y = x
  · simp [h]
  · have h2 : ¬ x = y := fun e => h e.symm
    simp [h, h2]
theorem fifo_facts {r : Int} {xs : List Int} (e : rnE r 0 [] xs = 0) (h0 : rnH r 0 [] xs = 0) : xs.length ≤ 200 ∧ 1 ≤ r ∧ r ≤ 40 ∧ (rnF r 0 [] xs).length ≤ 40 ∧
    ∀ k, k < xs.length → lastB xs k xs.length = true → (decide (gi xs k ∈ (keys (rnF r 0 [] xs)).take (rnF r 0 [] xs).length) != decide ((xs.length : Int) - r ≤ (k : Int))) = false := by
  obtain ⟨hn, h1, g, g2, hl, hk, e1, e2, e3, e4⟩ := rn_good e
  obtain rfl : hn = 0 := by omega
  rw [e4] at h0
  have h0' : hitsC r (0, []) xs = 0 := by omega
  rw [e3]
  refine ⟨hl, g.room.1, g.room.2, g2.len40, fun k hk hb => ?_⟩
  have := fifo_in g.room.1 xs h0' hk (lastB_all hk hb)
  rw [← keys_len, List.take_length, gi_get hk]
  simp only [this, bne_self_eq_false]

set_option maxHeartbeats 20000000 in
theorem clockFifo_walk (r : Int) (A1 : Option Addr) (c1 : Nat) (xs : List Int) (w : World) (hJ : Ints w A1 c1 xs) :
    Calls Try.prog 6 #[.int .i64 r, .slice A1 xs.length c1] w fun e w' => e = .returned (.bool true) ∧ Below w.heap.size w w' := by
  have HJ := Lib.hid hJ
  have HR := Lib.hid (run_any r 0 none 0 [] A1 c1 xs w (Frs.none_ _) hJ)
  unfold NR at HR
  clear hJ
  by_cases q1 : rnE r 0 [] xs = 0 ∧ rnH r 0 [] xs = 0
  · obtain ⟨q1, q2⟩ := q1
    have HF := Lib.hid (fifo_facts q1 q2)
    rw [q1, q2] at HR
    clear q1 q2
    generalize rnF r 0 [] xs = M at *
    generalize rnP r 0 [] xs = P at *
    generalize rnR r 0 [] xs = R at *
    obtain ⟨ln, hln⟩ : ∃ ln, xs.length = ln := ⟨_, rfl⟩
    obtain ⟨lm, hlm⟩ : ∃ lm, M.length = lm := ⟨_, rfl⟩
    have HLN := Lib.hid hln
    have HLM := Lib.hid hlm
    rw [hln, hlm] at HF
    simp only [hln, hlm] at HR
    rw [hln]
    obtain ⟨hl200, hr1, hr40, hm40, hq⟩ := HF.out
    have HQ := Lib.hid hq
    clear hln hlm hq HF
    go_enter Try.func6, Try.ntmps6
    go_wp2_with fail
    refine HR.out.mono ?_
    rintro e w1 ⟨B1, k1, rfl, hI1, -, hbb⟩
    have Y1 := Lib.hid (Kb.new w1 R P (.slice B1 lm k1))
    have I1 := Lib.hid (hI1.alloc (ko R P (.slice B1 lm k1)))
    have HB1 : Hid (Below w.heap.size w (w1.alloc (ko R P (.slice B1 lm k1)))) := Lib.hid (bel_al hbb hbb.size _)
    clear hI1 hbb
    go_wp2_with fail
    refine (begun_any _).mono ?_
    rintro e w3 ⟨rfl, hb3⟩
    have Y3 := Lib.hid (Y1.out.below hb3)
    have I3 := Lib.hid (I1.out.below hb3)
    have HB3 : Hid (Below w.heap.size w w3) := Lib.hid (HB1.out.trans (hb3.mono HB1.out.size))
    have J3 := Lib.hid (HJ.out.below HB3.out)
    clear hb3
    generalize w1.heap.size = p1 at *
    go_wp2
    go_loopw [8] (fun i wr => ∃ k : Nat, k ≤ ln ∧ i = .int .i64 (k : Int) ∧ Hid (Below w3.heap.size w3 wr)) (fun i _ => ln - (intOf i).toNat)
    case atStart => exact ⟨0, by omega, rfl, Lib.hid (Below.refl _ _)⟩
    case round =>
      obtain ⟨k, hk, rfl, HBr⟩ := hrel
      by_cases hlt : k < ln
      · have hkn : (k : Int) < (ln : Int) := by omega
        have HKX : Hid (k < xs.length) := Lib.hid (by rw [HLN.out]; exact hlt)
        have HQk := Lib.hid (HQ.out k hlt)
        go_wp2
        go_loopw [9, 10] (fun b i wr2 => ∃ j : Nat, j ≤ lm ∧ i = .int .i64 (j : Int) ∧ b = .bool (decide (gi xs k ∈ (keys M).take j)) ∧ Hid (Below w3.heap.size w3 wr2)) (fun _ i _ => lm - (intOf i).toNat)
        case atStart => exact ⟨0, by omega, rfl, rfl, HBr⟩
        case round =>
          obtain ⟨j, hj, rfl, rfl, HBs⟩ := hrel
          rename World => ws
          have Ys := Lib.hid (Y3.out.below HBs.out)
          obtain ⟨y1, y2, y3, -, -, -⟩ := Ys.out.cells
          by_cases hlt2 : j < lm
          · have hjn : (j : Int) < (lm : Int) := by omega
            have HJM : Hid (j < M.length) := Lib.hid (by rw [HLM.out]; exact hlt2)
            obtain ⟨b, o, rfl, e1, e2⟩ := (I3.out.below HBs.out).fr HJM.out
            obtain ⟨b2, o2, rfl, ht⟩ := (J3.out.below HBs.out).2.2.2 (by have := HKX.out; omega)
            have e3 := ht.2 k HKX.out
            clear ht
            have HIn := Lib.hid (in_step (x := gi xs k) HJM.out)
            generalize gf M j = f at *
            obtain ⟨fx, fu⟩ := f
            dsimp only at e1 e2 HIn
            generalize gi xs k = x at *
            obtain ⟨ib, hib⟩ : ∃ ib, decide (x ∈ (keys M).take j) = ib := ⟨_, rfl⟩
            rw [hib] at HIn ⊢
            clear hib
            cases ib
            all_goals
              go_wp2
              go_quiet (fail)
              have HB2 : Hid (Below w3.heap.size w3 (ws.drewN nq)) := Lib.hid (bel_drewN HBs.out _)
              clear y1 y2 y3 e1 e2 e3
              generalize ws.drewN nq = w5 at *
              go_wp2
              go_roundw
              case rel => exact ⟨j + 1, by omega, by go_num, by rw [HIn.out]; first | rfl | simp, HB2⟩
              case measure => simp [intOf]; omega
          · obtain rfl : j = lm := by omega
            obtain ⟨ib, hib⟩ : ∃ ib, decide (gi xs k ∈ (keys M).take j) = ib := ⟨_, rfl⟩
            rw [hib] at HQk ⊢
            clear hib hlt2
            have hk1 : IntKind.i64.wrap ((k : Int) + 1) = ((k + 1 : Nat) : Int) := by rw [IntKind.wrap_i64]; omega
            go_wp2
            clear y1 y2 y3
            go_loopw [11, 12] (fun b i wr3 => ∃ t : Nat, k + 1 ≤ t ∧ t ≤ ln ∧ i = .int .i64 (t : Int) ∧ b = .bool (lastB xs k t) ∧ Hid (Below w3.heap.size w3 wr3)) (fun _ i _ => ln - (intOf i).toNat)
            case atStart => exact ⟨k + 1, Nat.le_refl _, by omega, by first | rfl | go_num, by rw [lastB_none], HBs⟩
            case round =>
              obtain ⟨t, ht1, ht, rfl, rfl, HBt⟩ := hrel
              rename World => wt
              by_cases hlt3 : t < ln
              · have htn : (t : Int) < (ln : Int) := by omega
                have HTX : Hid (t < xs.length) := Lib.hid (by rw [HLN.out]; exact hlt3)
                obtain ⟨b2, o2, rfl, ht2⟩ := (J3.out.below HBt.out).2.2.2 (by have := HKX.out; omega)
                have e3 := ht2.2 k HKX.out
                have e4 := ht2.2 t HTX.out
                clear ht2
                have HLs := Lib.hid (lastB_step HTX.out ht1)
                generalize gi xs k = x at *
                generalize gi xs t = y at *
                generalize lastB xs k t = lb at *
                cases lb
                all_goals
                  go_wp2
                  go_quiet (fail)
                  have HB2 : Hid (Below w3.heap.size w3 (wt.drewN nq)) := Lib.hid (bel_drewN HBt.out _)
                  clear e3 e4
                  generalize wt.drewN nq = w5 at *
                  go_wp2
                  go_roundw
                  case rel => exact ⟨t + 1, by omega, by omega, by go_num, by rw [HLs.out]; first | rfl | simp, HB2⟩
                  case measure => simp [intOf]; omega
              · obtain rfl : t = ln := by omega
                have hw : IntKind.i64.wrap ((t : Int) - r) = (t : Int) - r := by rw [IntKind.wrap_i64]; omega
                clear hlt3
                by_cases hlb : lastB xs k t = true
                · have d1 : (ib == decide ((t : Int) - r ≤ (k : Int))) = true := by
                    have := HQk.out hlb
                    generalize decide ((t : Int) - r ≤ (k : Int)) = db at *
                    simpa using this
                  rw [hlb]
                  clear hlb HQk
                  go_wp2
                  go_roundw
                  case rel => exact ⟨k + 1, by omega, by first | rfl | go_num, HBt⟩
                  case measure => simp [intOf]; omega
                · have hlb2 : lastB xs k t = false := by simpa using hlb
                  rw [hlb2]
                  clear hlb hlb2
                  go_wp2
                  go_roundw
                  case rel => exact ⟨k + 1, by omega, by first | rfl | go_num, HBt⟩
                  case measure => simp [intOf]; omega
      · obtain rfl : k = ln := by omega
        have HB4 : Hid (Below w.heap.size w wr) := Lib.hid (HB3.out.trans (HBr.out.mono HB3.out.size))
        go_wp2
        go_ret
        exact ⟨rfl, HB4.out⟩
  · have hd : (rnE r 0 [] xs != 0) = true ∨ ((rnE r 0 [] xs != 0) = false ∧ decide (0 < rnH r 0 [] xs) = true) := by
      by_cases q2 : rnE r 0 [] xs = 0
      · have q3 : ¬ rnH r 0 [] xs = 0 := fun h => q1 ⟨q2, h⟩
        have := rnH_bound r 0 [] xs
        exact .inr ⟨by simp [q2], by simp; omega⟩
      · exact .inl (by simpa using q2)
    clear q1
    generalize rnF r 0 [] xs = M at *
    generalize rnP r 0 [] xs = P at *
    generalize rnR r 0 [] xs = R at *
    generalize rnH r 0 [] xs = hh at *
    generalize rnE r 0 [] xs = er at *
    obtain ⟨lm, hlm⟩ : ∃ lm, M.length = lm := ⟨_, rfl⟩
    simp only [hlm] at HR
    clear hlm
    rcases hd with d1 | ⟨d1, d2⟩
    all_goals
      go_enter Try.func6, Try.ntmps6
      go_wp2_with fail
      refine HR.out.mono ?_
      rintro e w1 ⟨B1, k1, rfl, hI1, -, hbb⟩
      have HB1 : Hid (Below w.heap.size w (w1.alloc (ko R P (.slice B1 lm k1)))) := Lib.hid (bel_al hbb hbb.size _)
      clear hI1 hbb
      go_wp2_with fail
      refine (begun_any _).mono ?_
      rintro e w3 ⟨rfl, hb3⟩
      have HB3 : Hid (Below w.heap.size w w3) := Lib.hid (HB1.out.trans (hb3.mono HB1.out.size))
      clear hb3
      go_wp2
      go_ret
      exact ⟨rfl, HB3.out⟩

end Go.Proofs.Ytdcimkllonflkaa.Clk
