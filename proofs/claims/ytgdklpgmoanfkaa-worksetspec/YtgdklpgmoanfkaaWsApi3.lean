/-
  Package workset: nextPhase, Phases.
-/
import Derived.Test.YtgdklpgmoanfkaaWsApi2
namespace Go.Proofs.Ytgdklpgmoanfkaa.Wst
open Go.RowKit
open Lru (isRm isK traceE trace_zero)
open Dst (win fltK row)
open Two
set_option linter.unusedVariables false
set_option maxRecDepth 100000

set_option maxHeartbeats 4000000 in
theorem nextPhase_any (A : Option Addr) (c : Nat) (L : List Int) (b n m : Nat) (w : World) (hI : Ints w A c L) (hb : b < L.length) (hl : L.length ≤ 400) (hn1 : 1 ≤ n) (hn2 : n ≤ 400) (hm : m ≤ 400) :
    Calls Try.prog 27 #[.slice A L.length c, .int .i64 (b : Int), .int .i64 (n : Int), .int .i64 (m : Int)] w fun e w' =>
      (∃ a : Nat, e = .returned (.int .i64 (a : Int)) ∧ b + n ≤ a ∧ (∀ j, b + n ≤ j → j < a → m ≤ cmn L n b j) ∧ (a < L.length → cmn L n b a < m)) ∧ Below w.heap.size w w' := by
  have HS := Lib.hid (set_any A c L b n w hI hb hl hn1 hn2)
  have HSe := Lib.hid (fun (j : Nat) (W : World) (h : Below w.heap.size w W) (hj : j < L.length) => set_any A c L j n W (hI.below h) hj hl hn1 hn2)
  have HCm := Lib.hid (fun (A1 A2 : Option Addr) (c1 c2 : Nat) (j : Nat) (W : World) (h1 : Ints W A1 c1 (wset L n b)) (h2 : Ints W A2 c2 (wset L n j)) =>
    common_any A1 A2 c1 c2 (wset L n b) (wset L n j) W h1 h2 (wset_inc _ _ _) (Nat.le_trans (wset_len _ _ _) hn2) (Nat.le_trans (wset_len _ _ _) hn2))
  obtain ⟨ln, hln⟩ : ∃ ln, L.length = ln := ⟨_, rfl⟩
  rw [hln] at HS hl hb ⊢
  simp only [hln] at HSe
  have hw1 : IntKind.i64.wrap ((b : Int) + (n : Int)) = ((b + n : Nat) : Int) := by rw [IntKind.wrap_i64]; omega
  clear hI hln
  generalize hWb : wset L n b = Wb at *
  have HWb := Lib.hid hWb
  clear hWb
  generalize Wb.length = wbl at *
  go_enter Try.func27, Try.ntmps27
  go_wp2_with fail
  refine HS.out.mono ?_
  rintro e w1 ⟨A1, c1, rfl, hI1, hb1⟩
  have HI1 := Lib.hid hI1
  have HB1 := Lib.hid hb1
  clear hI1 hb1
  go_wp2
  go_loopw [10] (fun s10 wr => ∃ a : Nat, b + n ≤ a ∧ a ≤ b + n + ln ∧ s10 = .int .i64 (a : Int) ∧ Hid (∀ j, b + n ≤ j → j < a → m ≤ cmn L n b j) ∧ Below w1.heap.size w1 wr) (fun i _ => ln - (intOf i).toNat)
  case atStart => exact ⟨b + n, Nat.le_refl _, by omega, rfl, Lib.hid (fun j h1 h2 => by omega), Below.refl _ _⟩
  case round =>
    obtain ⟨a, ha1, ha2, rfl, HA, hbr⟩ := hrel
    have HBr := Lib.hid hbr
    have HBw : Hid (Below w.heap.size w wr) := Lib.hid (HB1.out.trans (hbr.mono HB1.out.size))
    have HI2 := Lib.hid (HI1.out.below hbr)
    clear hbr
    by_cases hlt : a < ln
    · have q1 : decide ((a : Int) < (ln : Int)) = true := by simp; omega
      have q1' : decide (a < ln) = true := by simp; omega
      have HSa := Lib.hid (HSe.out a wr HBw.out hlt)
      have HCa := Lib.hid (fun (A1 A2 : Option Addr) (c1 c2 : Nat) (W : World) (h1 : Ints W A1 c1 Wb) (h2 : Ints W A2 c2 (wset L n a)) => HCm.out A1 A2 c1 c2 a W h1 h2)
      have hcm : cmn L n b a = com Wb (wset L n a) := by unfold cmn; rw [HWb.out]
      have hcl := com_le Wb (wset L n a)
      have HX := Lib.hid hcm
      clear hcm
      generalize wset L n a = Wa at *
      generalize Wa.length = wal at *
      generalize com Wb Wa = cc at *
      clear hcl
      by_cases hc : m ≤ cc
      · have q2 : decide ((m : Int) ≤ (cc : Int)) = true := by simp; omega
        have q2' : decide (m ≤ cc) = true := by simp; omega
        have HN : Hid (∀ j, b + n ≤ j → j < a + 1 → m ≤ cmn L n b j) := Lib.hid (fun j h1 h2 => by
          by_cases e : j = a
          · subst e; rw [HX.out]; exact hc
          · exact HA.out j h1 (by omega))
        clear hc
        go_wp2_with fail
        refine HSa.out.mono ?_
        rintro e w3 ⟨A3, c3, rfl, hI3, hb3⟩
        have HC3 := Lib.hid (HCa.out A1 A3 c1 c3 w3 (HI2.out.below hb3) hI3)
        have HB3 : Hid (Below w1.heap.size w1 w3) := Lib.hid (HBr.out.trans (hb3.mono HBr.out.size))
        clear hI3 hb3
        go_wp2_with fail
        refine HC3.out.mono ?_
        rintro e w4 ⟨rfl, hb4⟩
        have HB4 : Hid (Below w1.heap.size w1 w4) := Lib.hid (HB3.out.trans (hb4.mono HB3.out.size))
        clear hb4
        go_wp2
        go_roundw
        case rel => exact ⟨a + 1, by omega, by omega, by go_num, HN, HB4.out⟩
        case measure => simp [intOf]; omega
      · have q2 : decide ((m : Int) ≤ (cc : Int)) = false := by simp; omega
        have q2' : decide (m ≤ cc) = false := by simp; omega
        have HN : Hid (cmn L n b a < m) := Lib.hid (by rw [HX.out]; omega)
        clear hc
        go_wp2_with fail
        refine HSa.out.mono ?_
        rintro e w3 ⟨A3, c3, rfl, hI3, hb3⟩
        have HC3 := Lib.hid (HCa.out A1 A3 c1 c3 w3 (HI2.out.below hb3) hI3)
        have HB3 : Hid (Below w1.heap.size w1 w3) := Lib.hid (HBr.out.trans (hb3.mono HBr.out.size))
        clear hI3 hb3
        go_wp2_with fail
        refine HC3.out.mono ?_
        rintro e w4 ⟨rfl, hb4⟩
        have HB4 : Hid (Below w1.heap.size w1 w4) := Lib.hid (HB3.out.trans (hb4.mono HB3.out.size))
        clear hb4
        go_wp2
        go_ret
        exact ⟨⟨a, rfl, ha1, HA.out, fun _ => HN.out⟩, HB1.out.trans (HB4.out.mono HB1.out.size)⟩
    · have q1 : decide ((a : Int) < (ln : Int)) = false := by simp; omega
      have q1' : decide (a < ln) = false := by simp; omega
      go_wp2
      go_ret
      exact ⟨⟨a, rfl, ha1, HA.out, fun h => absurd h hlt⟩, HBw.out⟩

set_option maxHeartbeats 4000000 in
theorem Phases_any (A : Option Addr) (c : Nat) (L : List Int) (x y : Int) (w : World) (hI : Ints w A c L) :
    Calls Try.prog 11 #[.slice A L.length c, .int .i64 x, .int .i64 y] w (REO (phV L x y) (phE L x y) w) := by
  have HC := Lib.hid (check_any A c L x w hI)
  have HI := Lib.hid hI
  clear hI
  by_cases h0 : wkE L x = 0
  · have hl200 := (trace_zero.1 (wkE_zero.1 h0).1).1
    have hx := (wkE_zero.1 h0).2
    have q0 := h0
    rw [h0] at HC
    by_cases hy : isN y
    · have hE := phE_zero.2 ⟨h0, hy⟩
      obtain ⟨n, rfl⟩ := nat_of (show 0 ≤ x by have := hx.1; omega)
      obtain ⟨m, rfl⟩ := nat_of (show 0 ≤ y by have := hy.1; omega)
      have hn1 := hx.1
      have hn2 := hx.2
      have hm2 := hy.2
      have HL : Hid (phV L (n : Int) (m : Int) = phK L n m L.length) := Lib.hid (by unfold phV; rw [if_pos hE]; rfl)
      have HIs := Lib.hid (isNumber_any (m : Int) true w (decide_eq_true hy))
      have HNx := Lib.hid (fun (b : Nat) (W : World) (h : Below w.heap.size w W) (hb : b < L.length) => nextPhase_any A c L b n m W (HI.out.below h) hb (by omega) (by omega) (by omega) (by omega))
      rw [hE, HL.out]
      obtain ⟨ln, hln⟩ : ∃ ln, L.length = ln := ⟨_, rfl⟩
      have hnn : 1 ≤ n := by omega
      rw [hln] at HC hl200 ⊢
      simp only [hln] at HNx
      clear h0 hy hE hx q0 hn1 hn2 hm2 HL hln
      unfold REO
      obtain ⟨g0, hg0⟩ : ∃ g0, w.heap.size = g0 := ⟨_, rfl⟩
      rw [hg0] at HNx ⊢
      have HG0 := Lib.hid hg0
      have HB0 : Hid (Below g0 w w) := Lib.hid (Below.refl _ _)
      clear hg0
      go_enter Try.func11, Try.ntmps11
      go_wp2_with fail
      refine HC.out.mono ?_
      rintro e w2 ⟨rfl, rfl⟩
      go_wp2_with fail
      refine HIs.out.mono ?_
      rintro e w2 ⟨rfl, rfl⟩
      go_wp2
      go_loopw [9, 10] (fun s9 s10 wr => ∃ (b : Nat) (B : List Int), s10 = .int .i64 (b : Int) ∧ OwnI wr g0 s9 B ∧ Below g0 w2 wr ∧ Hid ((b < ln ∧ phK L n m (b + 1) = B ++ [(b : Int)]) ∨ (ln ≤ b ∧ phK L n m ln = B))) (fun _ i _ => ln - (intOf i).toNat)
      case atStart => exact ⟨0, [], rfl, own_none _ _, HB0.out, Lib.hid (by
        by_cases e : 0 < ln
        · exact .inl ⟨e, rfl⟩
        · obtain rfl : ln = 0 := by omega
          exact .inr ⟨by omega, rfl⟩)⟩
      case round =>
        obtain ⟨b, B, rfl, ho, hb, hst⟩ := hrel
        by_cases hlt : b < ln
        · have q1 : decide ((b : Int) < (ln : Int)) = true := by simp; omega
          have q1' : decide (b < ln) = true := by simp; omega
          have hs : phK L n m (b + 1) = B ++ [(b : Int)] := by
            rcases hst.out with h | h
            · exact h.2
            · omega
          have hBl : B.length ≤ 1000 := by
            have := phK_len L n m (b + 1)
            rw [hs] at this
            simp at this
            omega
          have HBl := Lib.hid hBl
          have HSt := Lib.hid hs
          have HO := Lib.hid ho
          have HB := Lib.hid hb
          obtain ⟨Ag, cg, rfl, -⟩ := ints_of_own ho
          clear ho hb hst hs hBl
          generalize hGn : B.length = gl at *
          have HGn := Lib.hid hGn
          clear hGn
          have HZ : Hid (g0 ≤ wr.heap.size) := Lib.hid (by have := HB.out.size; have := HG0.out; omega)
          go_wp2_with (first
            | (at_builtin; refine wpList_append_lies1 rfl _ _ rfl g0 _ B rfl HO.out (b : Int) _ rfl (by rw [HGn.out]; exact HBl.out) HZ.out ?_)
            | go_in)
          intro g cap w8 h3 h4 h5
          have HB8 := Lib.hid ((bel_al HB.out HZ.out _).grown h4 (Nat.le_trans HZ.out (by simp)) (fun q hq => (HO.out.lt q hq).1))
          have HO8 := Lib.hid h3
          have HZ8 : Hid (g0 ≤ w8.heap.size) := Lib.hid (by have := HB8.out.size; have := HG0.out; omega)
          clear h3 h4 h5
          have HN8 := Lib.hid (HNx.out b w8 HB8.out hlt)
          go_wp2_with fail
          refine HN8.out.mono ?_
          rintro e w9 ⟨⟨a, rfl, ha1, ha2, ha3⟩, hb9⟩
          have HO9 := Lib.hid (own_bel HO8.out hb9)
          have HB9 : Hid (Below g0 w2 w9) := Lib.hid (HB8.out.trans (hb9.mono HZ8.out))
          have HR9 : Hid ((a < ln ∧ phK L n m (a + 1) = (B ++ [(b : Int)]) ++ [(a : Int)]) ∨ (ln ≤ a ∧ phK L n m ln = B ++ [(b : Int)])) := Lib.hid (by
            by_cases e : a < ln
            · exact .inl ⟨e, ph_next hnn HSt.out ha1 ha2 (ha3 e)⟩
            · exact .inr ⟨by omega, ph_end hnn HSt.out ha2 hlt (by omega)⟩)
          clear ha2 ha3 hb9
          go_wp2
          go_roundw
          case rel => exact ⟨a, B ++ [(b : Int)], rfl, HO9.out, HB9.out, HR9⟩
          case measure => simp [intOf]; omega
        · have q1 : decide ((b : Int) < (ln : Int)) = false := by simp; omega
          have q1' : decide (b < ln) = false := by simp; omega
          have hs : phK L n m ln = B := by
            rcases hst.out with h | h
            · omega
            · exact h.2
          have HSt := Lib.hid hs
          have HO := Lib.hid ho
          have HB := Lib.hid hb
          obtain ⟨Ag, cg, rfl, -⟩ := ints_of_own ho
          clear ho hb hst hs
          go_wp2
          refine bodyPost_ret (v := .tuple #[.slice Ag B.length cg, .int .i64 0]) (by simp [results, Try.results11, go_sem]) rfl ?_
          exact ⟨_, rfl, by rw [HSt.out]; exact HO.out, HB.out⟩
    · have hE : phE L x y = 3 := by unfold phE; rw [if_pos h0, if_neg hy]
      have HL : Hid (phV L x y = []) := Lib.hid (by unfold phV; rw [if_neg (by omega)])
      have HIs := Lib.hid (isNumber_any y false w (decide_eq_false hy))
      rw [hE, HL.out]
      clear h0 hy hE hx q0 HL HI hl200
      generalize L.length = ln at *
      go_enter Try.func11, Try.ntmps11
      go_wp2_with fail
      refine HC.out.mono ?_
      rintro e w2 ⟨rfl, rfl⟩
      go_wp2_with fail
      refine HIs.out.mono ?_
      rintro e w2 ⟨rfl, rfl⟩
      go_wp2
      refine bodyPost_ret (v := .tuple #[.slice none 0 0, .int .i64 3]) (by simp [results, Try.results11, go_sem]) rfl ?_
      exact REO.bad (Below.refl _ _)
  · have hE : phE L x y = wkE L x := by unfold phE; rw [if_neg h0]
    have HL : Hid (phV L x y = []) := Lib.hid (by unfold phV; rw [if_neg (by omega)])
    have q : (wkE L x != 0) = true := by simpa using h0
    rw [hE, HL.out]
    clear h0 hE HL HI
    generalize wkE L x = t at *
    generalize L.length = ln at *
    go_enter Try.func11, Try.ntmps11
    go_wp2_with fail
    refine HC.out.mono ?_
    rintro e w2 ⟨rfl, rfl⟩
    go_wp2
    refine bodyPost_ret (v := .tuple #[.slice none 0 0, .int .i64 t]) (by simp [results, Try.results11, go_sem]) rfl ?_
    exact REO.bad (Below.refl _ _)

end Go.Proofs.Ytgdklpgmoanfkaa.Wst
