/-
  The walk of the law on a repeated trace.
-/
import Derived.Test.YtamgnndebokopaaDistBegun
import Derived.Test.YtamgnndebokopaaTwoInts
import Derived.Test.YtamgnndebokopaaKeysRef
namespace Go.Proofs.Ytamgnndebokopaa.Dst
open Go.RowKit
open Lru (isRm isK traceE trace_zero)
open Two
set_option linter.unusedVariables false
set_option maxRecDepth 100000

theorem gat_take {l : List Int} {k : Nat} (hk : k < l.length) : gat [] (l.take (k + 1)) = if gi l k ∈ gat [] (l.take k) then gat [] (l.take k) else gat [] (l.take k) ++ [gi l k] := by
  rw [List.take_add_one, List.getElem?_eq_getElem hk, ← gi_get hk]
  exact gat_snoc _ _ _
theorem gat_take_le (l : List Int) (k : Nat) : (gat [] (l.take k)).length ≤ k := by
  rw [gat_len]
  have h1 := uq_len_le (l.take k)
  rw [List.length_take] at h1
  omega
theorem dst_twice_le {l : List Int} {i : Nat} (h : i < l.length + l.length) : i < l.length ∨ ∃ j, j < l.length ∧ i = l.length + j := by
  by_cases h1 : i < l.length
  · exact .inl h1
  · exact .inr ⟨i - l.length, by omega, by omega⟩

set_option maxHeartbeats 16000000 in
theorem distanceRepeat_walk (A : Option Addr) (c : Nat) (xs : List Int) (w : World) (hI : Ints w A c xs) (hz : xs.length ≤ 1048576) :
    Calls Try.prog 6 #[.slice A xs.length c] w fun e w' => e = .returned (.bool true) ∧ Below w.heap.size w w' := by
  have HI := Lib.hid hI
  have HDs := Lib.hid (fun (W : World) (h : Ints W A c xs) => (Distances_any A c xs W h).mono (fun _ _ k => k.re))
  have HDt := Lib.hid (fun (B : Option Addr) (d : Nat) (W : World) (h : Ints W B d (xs ++ xs)) => (Distances_any B d (xs ++ xs) W h).mono (fun _ _ k => k.re))
  unfold RE at HDs HDt
  have HOm := Lib.hid (own_made w)
  obtain ⟨n, hn⟩ : ∃ n, xs.length = n := ⟨_, rfl⟩
  have HN := Lib.hid hn
  have HN2 : Hid ((xs ++ xs).length = 2 * n) := Lib.hid (by rw [List.length_append, hn]; omega)
  have HLs : Hid (([] : List Int).length + xs.length ≤ 1099511627776 ∧ ([] ++ xs : List Int).length + xs.length ≤ 1099511627776) := Lib.hid (by simp; omega)
  rw [HN2.out] at HDt
  simp only [hn] at HDs hz ⊢
  -- the errors
  have HT : Hid (traceE (xs ++ xs) = 0 → traceE xs = 0) := Lib.hid (fun h => by
    obtain ⟨a, b⟩ := trace_zero.1 h
    exact trace_zero.2 ⟨by rw [List.length_append] at a; omega, fun x hx => b x (by simp [hx])⟩)
  by_cases h0 : traceE (xs ++ xs) = 0
  · have h1 := HT.out h0
    have hl200 := (trace_zero.1 h1).1
    have HD : Hid (dsL xs = dI xs ∧ dsL (xs ++ xs) = dI (xs ++ xs)) := Lib.hid ⟨by unfold dsL; rw [if_pos h1], by unfold dsL; rw [if_pos h0]⟩
    rw [h1, HD.out.1, dI_len] at HDs
    rw [h0, HD.out.2, dI_len] at HDt
    simp only [HN2.out] at HDt
    rw [hn] at HDs hl200
    clear hI hn h0 h1 HD HT
    go_enter Try.func6, Try.ntmps6
    go_wp2_with fail
    refine (HDs.out w HI.out).mono ?_
    rintro e w1 ⟨A1, c1, rfl, hI1, hb1⟩
    have HB1 := Lib.hid hb1
    have HJ1 := Lib.hid hI1
    clear hb1 hI1 HOm
    have HOm := Lib.hid (own_made w1 w1.heap.size (Nat.le_refl _))
    have HBm : Hid (Below w1.heap.size w1 (w1.alloc (.cells #[] 3))) := Lib.hid (bel_al (Below.refl _ _) (Nat.le_refl _) _)
    go_wp2_with (first
      | (at_builtin; refine wpList_append_m rfl _ _ rfl w1.heap.size _ [] rfl HOm.out A c n xs HN.out.symm rfl ((HI.out.below HB1.out).below HBm.out) HLs.out.1 HBm.out.size ?_; intro v2 w2 h3 h4; have HO2 := Lib.hid h3; have HB2 := Lib.hid (HBm.out.grown h4 HBm.out.size (fun q hq => (HOm.out.lt q hq).1)); clear h3 h4)
      | (at_builtin; refine wpList_append_m rfl _ _ rfl w1.heap.size _ ([] ++ xs) rfl HO2.out A c n xs HN.out.symm rfl ((HI.out.below HB1.out).below HB2.out) HLs.out.2 HB2.out.size ?_; intro v3 w3 h3 h4; have HB3 := Lib.hid (HB2.out.grown h4 HB2.out.size (fun q hq => (HO2.out.lt q hq).1)); rw [List.nil_append] at h3; obtain ⟨A3, c3, rfl, hI3⟩ := ints_of_own h3; rw [HN2.out]; have HI3 := Lib.hid hI3; clear h3 h4 hI3)
      | fail)
    refine (HDt.out A3 c3 w3 HI3.out).mono ?_
    rintro e w4 ⟨A4, c4, rfl, hI4, hb4⟩
    have HB4 : Hid (Below w1.heap.size w1 w4) := Lib.hid (HB3.out.trans (hb4.mono HB3.out.size))
    have HK4 := Lib.hid hI4
    clear hb4 hI4
    go_wp2_with fail
    refine (begun_any _).mono ?_
    rintro e w5 ⟨rfl, hb5⟩
    have HB5 : Hid (Below w1.heap.size w1 w5) := Lib.hid (HB4.out.trans (hb5.mono HB4.out.size))
    have HJ5 := Lib.hid (HJ1.out.below HB5.out)
    have HK5 := Lib.hid (HK4.out.below hb5)
    have HX5 := Lib.hid ((HI.out.below HB1.out).below HB5.out)
    have HW5 : Hid (Below w.heap.size w w5) := Lib.hid (HB1.out.trans (HB5.out.mono HB1.out.size))
    clear hb5 HOm HBm HB1 HB2 HB3 HB4 HB5 HO2 HI3 HK4 HJ1 HDs HDt
    have wr1 : IntKind.i64.wrap (2 * (n : Int)) = 2 * (n : Int) := by rw [IntKind.wrap_i64]; omega
    have d1 : (((2 * n : Nat) : Int) != 2 * (n : Int)) = false := by simp
    have d2 : (((2 * n : Nat) : Int) == 2 * (n : Int)) = true := by simp
    have d3 : ((n : Int) != (n : Int)) = false := by simp
    have d4 : ((n : Int) == (n : Int)) = true := by simp
    go_wp2
    go_loopw [7, 8] (fun s7 s8 wr => ∃ k : Nat, k ≤ n ∧ s8 = .int .i64 (k : Int) ∧ OwnI wr w5.heap.size s7 (gat [] (xs.take k)) ∧ Below w5.heap.size w5 wr) (fun _ i _ => n - (intOf i).toNat)
    case atStart => exact ⟨0, by omega, rfl, own_none _ _, Below.refl _ _⟩
    case round =>
      obtain ⟨k, hk, rfl, ho, hb⟩ := hrel
      by_cases hlt : k < n
      · have hkL : k < xs.length := by rw [HN.out]; exact hlt
        have hin : (k : Int) < (n : Int) := by omega
        have hiB : (0 : Int) ≤ (k : Int) := by omega
        obtain ⟨b, o, rfl, -⟩ := HX5.out.2.2.2 (by omega)
        obtain ⟨b1, o1, rfl, -⟩ := HJ5.out.2.2.2 (by rw [dI_len]; omega)
        obtain ⟨b2, o2, rfl, -⟩ := HK5.out.2.2.2 (by rw [dI_len, HN2.out]; omega)
        have HCs := Lib.hid (fun (W : World) (h : Below w5.heap.size w5 W) => show W.cell? ⟨b, o + k, none⟩ = some (.int .i64 (gi xs k)) ∧ W.cell? ⟨b1, o1 + k, none⟩ = some (.int .i64 (dst xs k : Int)) ∧ W.cell? ⟨b2, o2 + k, none⟩ = some (.int .i64 (dst xs k : Int)) ∧ W.cell? ⟨b2, o2 + (n + k), none⟩ = some (.int .i64 (dst (xs ++ xs) (n + k) : Int)) by
          have a1 := HX5.out.below h
          have a2 := HJ5.out.below h
          have a3 := HK5.out.below h
          obtain ⟨_, _, e1, t1⟩ := a1.2.2.2 (by omega)
          obtain ⟨_, _, e2, t2⟩ := a2.2.2.2 (by rw [dI_len]; omega)
          obtain ⟨_, _, e3, t3⟩ := a3.2.2.2 (by rw [dI_len, HN2.out]; omega)
          cases e1
          cases e2
          cases e3
          refine ⟨t1.2 k hkL, ?_, ?_, ?_⟩
          · rw [t2.2 k (by rw [dI_len]; exact hkL), dI_get hkL]
          · rw [t3.2 k (by rw [dI_len, HN2.out]; omega), dI_get (by rw [HN2.out]; omega), dst_first hkL]
          · rw [t3.2 (n + k) (by rw [dI_len, HN2.out]; omega), dI_get (by rw [HN2.out]; omega)])
        obtain ⟨g1, g2, -⟩ := dst_again hkL
        have hd1 := dst_le (l := xs ++ xs) (k := xs.length + k) (by rw [List.length_append]; omega)
        rw [HN.out] at g1 g2 hd1
        have HG := Lib.hid (gat_take hkL)
        have hgl := gat_take_le xs k
        have HO := Lib.hid ho
        have HB := Lib.hid hb
        obtain ⟨Ag, cg, rfl, hIg⟩ := ints_of_own ho
        clear ho hb hkL
        generalize gat [] (xs.take k) = G at *
        generalize gi xs k = z at *
        generalize dst xs k = dx at *
        generalize dst (xs ++ xs) (n + k) = dy at *
        have q1 : ((dx : Int) != (dx : Int)) = false := by simp
        have q2 : decide ((dy : Int) < 1) = false := by simp; omega
        have q2' : decide (dy < 1) = false := by simp; omega
        have wr2 : IntKind.i64.wrap ((n : Int) + (k : Int)) = ((n + k : Nat) : Int) := by rw [IntKind.wrap_i64]; omega
        have i5 : ((n + k : Nat) : Int) < ((2 * n : Nat) : Int) := by omega
        have i6 : (0 : Int) ≤ ((n + k : Nat) : Int) := by omega
        have i7 : (k : Int) < ((2 * n : Nat) : Int) := by omega
        have HFin : Hid ((0 < dx ∧ ((dy : Int) != (dx : Int)) = false) ∨ ¬ 0 < dx) := Lib.hid (by
          by_cases h : 0 < dx
          · exact .inl ⟨h, by have := g2 h; simp; omega⟩
          · exact .inr h)
        clear g1 g2 hd1
        generalize hnk : n + k = nk at *
        generalize hnn : 2 * n = nn at *
        by_cases hm : z ∈ G
        · have HHas := Lib.hid (Kr.hasInt_b Ag cg G z true wr hIg (decide_eq_true hm))
          rw [if_pos hm] at HG
          clear hm hIg
          generalize G.length = gl at *
          obtain ⟨e1, e2, e3, e4⟩ := HCs.out wr HB.out
          have HBn := Lib.hid (fun m => bel_drewN HB.out m)
          rcases HFin.out with ⟨h, q4⟩ | h
          · have q3 : decide ((0 : Int) < (dx : Int)) = true := by simp; omega
            have q3' : decide (0 < dx) = true := by simpa using h
            clear h
            go_wp2_with fail
            refine HHas.out.mono ?_
            rintro e w7 ⟨rfl, rfl⟩
            go_wp2
            go_quiet (fail)
            go_wp2
            go_roundw
            case rel => exact ⟨k + 1, by omega, by go_num, by rw [HG.out]; exact own_bel HO.out (bel_drewN (Below.refl _ _) _), HBn.out _⟩
            case measure => simp [intOf]; omega
          · have q3 : decide ((0 : Int) < (dx : Int)) = false := by simp; omega
            have q3' : decide (0 < dx) = false := by simpa using h
            clear h
            go_wp2_with fail
            refine HHas.out.mono ?_
            rintro e w7 ⟨rfl, rfl⟩
            go_wp2
            go_quiet (fail)
            go_wp2
            go_roundw
            case rel => exact ⟨k + 1, by omega, by go_num, by rw [HG.out]; exact own_bel HO.out (bel_drewN (Below.refl _ _) _), HBn.out _⟩
            case measure => simp [intOf]; omega
        · have HHas := Lib.hid (Kr.hasInt_b Ag cg G z false wr hIg (decide_eq_false hm))
          rw [if_neg hm] at HG
          clear hm hIg
          have HGl : Hid (G.length ≤ 1000) := Lib.hid (by omega)
          generalize hGn : G.length = gl at *
          have HGn := Lib.hid hGn
          clear hGn
          obtain ⟨e1, -⟩ := HCs.out wr HB.out
          go_wp2_with fail
          refine HHas.out.mono ?_
          rintro e w7 ⟨rfl, rfl⟩
          go_wp2_with (first
            | (at_builtin; refine wpList_append_lies1 rfl _ _ rfl w5.heap.size _ G rfl HO.out z _ rfl (by rw [HGn.out]; exact HGl.out) HB.out.size ?_)
            | go_in)
          intro g cap w8 h3 h4 h5
          have HB8 := Lib.hid ((bel_al HB.out HB.out.size _).grown h4 (Nat.le_trans HB.out.size (by simp)) (fun q hq => (HO.out.lt q hq).1))
          have HO8 : Hid (OwnI w8 w5.heap.size (.slice (some ⟨g, 0, none⟩) (G.length + 1) cap) (gat [] (xs.take (k + 1)))) := Lib.hid (by rw [HG.out]; exact h3)
          clear h3 h4 h5 e1
          generalize G.length + 1 = gl1 at *
          obtain ⟨e1, e2, e3, e4⟩ := HCs.out w8 HB8.out
          have HBn := Lib.hid (fun m => bel_drewN HB8.out m)
          rcases HFin.out with ⟨h, q4⟩ | h
          · have q3 : decide ((0 : Int) < (dx : Int)) = true := by simp; omega
            have q3' : decide (0 < dx) = true := by simpa using h
            clear h
            go_wp2
            go_quiet (fail)
            go_wp2
            go_roundw
            case rel => exact ⟨k + 1, by omega, by go_num, own_bel HO8.out (bel_drewN (Below.refl _ _) _), HBn.out _⟩
            case measure => simp [intOf]; omega
          · have q3 : decide ((0 : Int) < (dx : Int)) = false := by simp; omega
            have q3' : decide (0 < dx) = false := by simpa using h
            clear h
            go_wp2
            go_quiet (fail)
            go_wp2
            go_roundw
            case rel => exact ⟨k + 1, by omega, by go_num, own_bel HO8.out (bel_drewN (Below.refl _ _) _), HBn.out _⟩
            case measure => simp [intOf]; omega
      · obtain rfl : k = n := by omega
        have HE : Hid (gat [] (xs.take k) = gat [] xs) := Lib.hid (by rw [List.take_of_length_le (by rw [HN.out]; exact Nat.le_refl _)])
        rw [HE.out] at ho
        obtain ⟨A7, c7, rfl, -⟩ := ints_of_own ho
        have HK7 := Lib.hid (HK5.out.below hb)
        have HW7 : Hid (Below w.heap.size w wr) := Lib.hid (HW5.out.trans (hb.mono HW5.out.size))
        have HQ := Lib.hid (fun (i : Nat) (h : k ≤ i) (h' : i < 2 * k) => show dst (xs ++ xs) i ≤ (gat [] xs).length by
          obtain ⟨j, rfl⟩ : ∃ j, i = k + j := ⟨i - k, by omega⟩
          have := (dst_again (l := xs) (i := j) (by rw [HN.out]; omega)).2.2
          rw [HN.out] at this
          rw [gat_len]
          exact this)
        clear ho hb hlt
        generalize (gat [] xs).length = gl at *
        generalize wr = w7 at *
        go_wp2
        generalize hnn : 2 * k = nn at *
        go_loop [9] (fun s9 => ∃ i : Nat, k ≤ i ∧ i ≤ nn ∧ s9 = .int .i64 (i : Int)) (fun i => nn - (intOf i).toNat)
        case atStart => exact ⟨k, Nat.le_refl _, by omega, rfl⟩
        case round =>
          obtain ⟨i, hi1, hi2, rfl⟩ := hrel
          by_cases hlt : i < nn
          · have hin : (i : Int) < (nn : Int) := by omega
            have hiB : (0 : Int) ≤ (i : Int) := by omega
            obtain ⟨b2, o2, rfl, ht⟩ := HK7.out.2.2.2 (by rw [dI_len, HN2.out]; omega)
            have e1 := ht.2 i (by rw [dI_len, HN2.out]; omega)
            rw [dI_get (by rw [HN2.out]; omega)] at e1
            have q := HQ.out i hi1 hlt
            clear ht
            generalize dst (xs ++ xs) i = dd at *
            have q1 : decide ((gl : Int) < (dd : Int)) = false := by simp; omega
            have q1' : decide (gl < dd) = false := by simp; omega
            clear q
            go_wp2
            go_round
            case rel => exact ⟨i + 1, by omega, by omega, by go_num⟩
            case measure => simp [intOf]; omega
          · obtain rfl : i = nn := by omega
            clear hlt
            go_wp2
            go_ret
            exact ⟨rfl, HW7.out⟩
  · have d0 : (traceE (xs ++ xs) != 0) = true := by simpa using h0
    clear hI hn h0 HT
    generalize traceE (xs ++ xs) = t2 at *
    generalize traceE xs = t at *
    go_enter Try.func6, Try.ntmps6
    go_wp2_with fail
    refine (HDs.out w HI.out).mono ?_
    rintro e w1 ⟨A1, c1, rfl, -, hb1⟩
    have HB1 := Lib.hid hb1
    clear hb1 HOm
    have HOm := Lib.hid (own_made w1 w1.heap.size (Nat.le_refl _))
    have HBm : Hid (Below w1.heap.size w1 (w1.alloc (.cells #[] 3))) := Lib.hid (bel_al (Below.refl _ _) (Nat.le_refl _) _)
    generalize (dsL xs).length = l1 at *
    go_wp2_with (first
      | (at_builtin; refine wpList_append_m rfl _ _ rfl w1.heap.size _ [] rfl HOm.out A c n xs HN.out.symm rfl ((HI.out.below HB1.out).below HBm.out) HLs.out.1 HBm.out.size ?_; intro v2 w2 h3 h4; have HO2 := Lib.hid h3; have HB2 := Lib.hid (HBm.out.grown h4 HBm.out.size (fun q hq => (HOm.out.lt q hq).1)); clear h3 h4)
      | (at_builtin; refine wpList_append_m rfl _ _ rfl w1.heap.size _ ([] ++ xs) rfl HO2.out A c n xs HN.out.symm rfl ((HI.out.below HB1.out).below HB2.out) HLs.out.2 HB2.out.size ?_; intro v3 w3 h3 h4; have HB3 := Lib.hid (HB2.out.grown h4 HB2.out.size (fun q hq => (HO2.out.lt q hq).1)); rw [List.nil_append] at h3; obtain ⟨A3, c3, rfl, hI3⟩ := ints_of_own h3; rw [HN2.out]; have HI3 := Lib.hid hI3; clear h3 h4 hI3)
      | fail)
    refine (HDt.out A3 c3 w3 HI3.out).mono ?_
    rintro e w4 ⟨A4, c4, rfl, -, hb4⟩
    have HB4 : Hid (Below w1.heap.size w1 w4) := Lib.hid (HB3.out.trans (hb4.mono HB3.out.size))
    clear hb4
    generalize (dsL (xs ++ xs)).length = l2 at *
    go_wp2_with fail
    refine (begun_any _).mono ?_
    rintro e w5 ⟨rfl, hb5⟩
    have HB5 : Hid (Below w1.heap.size w1 w5) := Lib.hid (HB4.out.trans (hb5.mono HB4.out.size))
    have HW5 : Hid (Below w.heap.size w w5) := Lib.hid (HB1.out.trans (HB5.out.mono HB1.out.size))
    clear hb5
    by_cases q0 : t = 0
    · have d1 : (t != 0) = false := by simp [q0]
      clear q0
      go_wp2
      go_ret
      exact ⟨rfl, HW5.out⟩
    · have d1 : (t != 0) = true := by simpa using q0
      clear q0
      go_wp2
      go_ret
      exact ⟨rfl, HW5.out⟩

end Go.Proofs.Ytamgnndebokopaa.Dst
