/-
  The reference: WorkPhases.
-/
import Derived.Test.YtgdklpgmoanfkaaWsRef
import Derived.StillTailTactics
namespace Go.Proofs.Ytgdklpgmoanfkaa.Wst
open Go.RowKit
open Lru (isRm isK traceE trace_zero)
open Dst (win fltK row)
open Two
set_option linter.unusedVariables false
set_option maxRecDepth 100000

/-- What phK is at a place that is not the first. -/
theorem ph_at {l : List Int} {n m k : Nat} (h : k ≠ 0) : ∃ b : Nat, b < k ∧ 0 < (phK l n m k).length ∧ gi (phK l n m k) ((phK l n m k).length - 1) = (b : Int) ∧
    (k < b + n → phK l n m (k + 1) = phK l n m k) ∧ (b + n ≤ k → cmn l n b k < m → phK l n m (k + 1) = phK l n m k ++ [(k : Int)]) ∧ (¬ cmn l n b k < m → phK l n m (k + 1) = phK l n m k) := by
  obtain ⟨B, b, e, h1, h2⟩ := phK_last (l := l) (n := n) (m := m) (i := k) (by omega)
  have hl := lst_snoc B b
  rw [← e] at hl
  refine ⟨b, h1, by rw [e]; simp, ?_, fun h => ?_, fun h3 h4 => ?_, fun h => ?_⟩
  · rw [e, List.length_append, List.length_singleton, Nat.add_sub_cancel, gi_get (by simp), List.getElem_append_right (Nat.le_refl _)]
    simp
  · rw [phK_succ (by assumption), hl, if_neg (fun h => by omega)]
  · rw [phK_succ (by assumption), hl, if_pos ⟨h3, h4⟩]
  · rw [phK_succ (by assumption), hl, if_neg (fun k => h k.2)]

set_option maxHeartbeats 16000000 in
theorem workPhases_any (A : Option Addr) (c : Nat) (L : List Int) (n m : Nat) (w : World) (hI : Ints w A c L) (hk : ∀ x ∈ L, isK x) (hl : L.length ≤ 400) (hn1 : 1 ≤ n) (hn2 : n ≤ 400) (hm2 : m ≤ 400) :
    Calls Try.prog 15 #[.slice A L.length c, .int .i64 (n : Int), .int .i64 (m : Int)] w fun e w' => ∃ v, e = .returned v ∧ OwnI w' w.heap.size v (phK L n m L.length) ∧ Below w.heap.size w w' := by
  have HWs : Hid (∀ (k : Nat) (W : World), Below w.heap.size w W → k < L.length → Calls Try.prog 13 #[.slice A L.length c, .int .i64 (k : Int), .int .i64 (n : Int)] W fun e w' => ∃ A' c', e = .returned (.slice A' (wset L n k).length c') ∧ Ints w' A' c' (wset L n k) ∧ Below W.heap.size W w') := Lib.hid (fun k W hW hkl => by
    refine (workSet_any A c L k n W (hI.below hW) hk hkl hl hn1 hn2).mono ?_
    rintro e w' ⟨v, rfl, ho, hb⟩
    obtain ⟨A', c', rfl, hI'⟩ := ints_of_own ho
    exact ⟨A', c', rfl, hI', hb⟩)
  obtain ⟨ln, hln⟩ : ∃ ln, L.length = ln := ⟨_, rfl⟩
  rw [hln] at hl ⊢
  simp only [hln] at HWs
  clear hI hk hln
  go_enter Try.func15, Try.ntmps15
  go_wp2
  go_loopw [7, 8] (fun s7 s8 wr => ∃ k : Nat, k ≤ ln ∧ s8 = .int .i64 (k : Int) ∧ OwnI wr w.heap.size s7 (phK L n m k) ∧ Below w.heap.size w wr) (fun _ i _ => ln - (intOf i).toNat)
  case atStart => exact ⟨0, by omega, rfl, own_none _ _, Below.refl _ _⟩
  case round =>
    obtain ⟨k, hk, rfl, ho, hb⟩ := hrel
    have HB := Lib.hid hb
    have HO := Lib.hid ho
    by_cases hlt : k < ln
    · have hin : (k : Int) < (ln : Int) := by omega
      obtain ⟨Ag, cg, rfl, hIg⟩ := ints_of_own ho
      have hgl := phK_len L n m k
      by_cases h0 : k = 0
      · have q0 : ((k : Int) == 0) = true := by simp [h0]
        have HS2 : Hid (phK L n m (k + 1) = phK L n m k ++ [0]) := Lib.hid (by rw [h0]; rfl)
        clear h0 ho hb hIg
        generalize phK L n m k = G at *
        have HGl : Hid (G.length ≤ 1000) := Lib.hid (by omega)
        clear hgl
        generalize hGn : G.length = gl at *
        have HGn := Lib.hid hGn
        clear hGn
        go_wp2_with (first
          | (at_builtin; refine wpList_append_lies1 rfl _ _ rfl w.heap.size _ G rfl HO.out 0 _ rfl (by rw [HGn.out]; exact HGl.out) HB.out.size ?_)
          | go_in)
        intro g cap w8 h3 h4 h5
        have HB8 := Lib.hid ((bel_al HB.out HB.out.size _).grown h4 (Nat.le_trans HB.out.size (by simp)) (fun q hq => (HO.out.lt q hq).1))
        have HO8 : Hid (OwnI w8 w.heap.size (.slice (some ⟨g, 0, none⟩) (G.length + 1) cap) (phK L n m (k + 1))) := Lib.hid (by rw [HS2.out]; exact h3)
        clear h3 h4 h5
        go_wp2
        go_roundw
        case rel => exact ⟨k + 1, by omega, by go_num, HO8.out, HB8.out⟩
        case measure => simp [intOf]; omega
      · have q0 : ((k : Int) == 0) = false := by simp; omega
        obtain ⟨b, hbk, hpos, hgi, HP1, HP2, HP3⟩ := ph_at (l := L) (n := n) (m := m) h0
        have P1 := Lib.hid HP1
        have P2 := Lib.hid HP2
        have P3 := Lib.hid HP3
        have HGi := Lib.hid hgi
        have HIg := Lib.hid hIg
        clear HP1 HP2 HP3 h0 ho hb hgi hIg
        have HL1 := Lib.hid (HWs.out b)
        have HL2 := Lib.hid (HWs.out k)
        have HX : Hid (cmn L n b k = com (wset L n b) (wset L n k)) := Lib.hid rfl
        have HSl : Hid ((wset L n b).length ≤ 400) := Lib.hid (Nat.le_trans (wset_len _ _ _) hn2)
        generalize cmn L n b k = cm at *
        generalize wset L n b = Sb at *
        generalize wset L n k = Sk at *
        generalize phK L n m k = G at *
        obtain ⟨gl, hGn⟩ : ∃ gl, G.length = gl + 1 := ⟨G.length - 1, by omega⟩
        have HGn := Lib.hid hGn
        rw [hGn] at HGi hgl ⊢
        clear hGn hpos
        rw [show gl + 1 - 1 = gl from rfl] at HGi
        obtain ⟨b1, o1, rfl, ht⟩ := HIg.out.2.2.2 (by rw [HGn.out]; omega)
        have e1 := ht.2 gl (by rw [HGn.out]; omega)
        rw [HGi.out] at e1
        have hw1 : IntKind.i64.wrap (((gl + 1 : Nat) : Int) - 1) = (gl : Int) := by rw [IntKind.wrap_i64]; omega
        have i1 : (gl : Int) < ((gl + 1 : Nat) : Int) := by omega
        have i2 : (0 : Int) ≤ (gl : Int) := by omega
        have hw2 : IntKind.i64.wrap ((k : Int) - (b : Int)) = (k : Int) - (b : Int) := by rw [IntKind.wrap_i64]; omega
        obtain ⟨gn, hgn⟩ : ∃ gn, gl + 1 = gn := ⟨_, rfl⟩
        have HGg := Lib.hid hgn
        rw [hgn] at hw1 i1 hgl ⊢
        clear ht hgn
        have HOg : Hid (OwnI wr w.heap.size (.slice (some ⟨b1, o1, none⟩) gn cg) G) := Lib.hid (by
          have h := HO.out
          rwa [HGn.out, HGg.out] at h)
        by_cases c1 : k < b + n
        · have d1 : decide ((k : Int) - (b : Int) < (n : Int)) = true := by simp; omega
          have HE := Lib.hid (P1.out c1)
          clear c1
          go_wp2
          go_roundw
          case rel => exact ⟨k + 1, by omega, by go_num, by rw [HE.out]; exact HOg.out, HB.out⟩
          case measure => simp [intOf]; omega
        · have d1 : decide ((k : Int) - (b : Int) < (n : Int)) = false := by simp; omega
          have hbl : b < ln := by omega
          have hbn : b + n ≤ k := by omega
          have HC5 := Lib.hid (HL1.out wr HB.out hbl)
          obtain ⟨sl, hsl⟩ : ∃ sl, Sb.length = sl := ⟨_, rfl⟩
          have HSb := Lib.hid hsl
          rw [hsl] at HC5 HSl
          have hsl400 := HSl.out
          obtain ⟨tl, htl⟩ : ∃ tl, Sk.length = tl := ⟨_, rfl⟩
          have HSk := Lib.hid htl
          simp only [htl] at HL2
          have P2' := Lib.hid (P2.out hbn)
          clear c1 hsl htl hbn
          go_wp2_with fail
          refine HC5.out.mono ?_
          rintro e w5 ⟨A5, c5, rfl, hI5, hb5⟩
          have HO5 := Lib.hid (own_bel HOg.out hb5)
          have HB5 : Hid (Below w.heap.size w w5) := Lib.hid (HB.out.trans (hb5.mono HB.out.size))
          have HI5 := Lib.hid hI5
          clear hI5 hb5 e1
          have HC6 := Lib.hid (HL2.out w5 HB5.out hlt)
          go_wp2_with fail
          refine HC6.out.mono ?_
          rintro e w6 ⟨A6, c6, rfl, hI6, hb6⟩
          have HO6 := Lib.hid (own_bel HO5.out hb6)
          have HB6 : Hid (Below w.heap.size w w6) := Lib.hid (HB5.out.trans (hb6.mono HB5.out.size))
          have HI6 := Lib.hid (HI5.out.below hb6)
          have HJ6 := Lib.hid hI6
          clear hI6 hb6
          go_wp2
          go_loop [12, 13] (fun s12 s13 => ∃ j : Nat, j ≤ sl ∧ s13 = .int .i64 (j : Int) ∧ s12 = .int .i64 (comK Sb Sk j : Int)) (fun _ i => sl - (intOf i).toNat)
          case atStart => exact ⟨0, by omega, rfl, rfl⟩
          case round =>
            obtain ⟨j, hj, rfl, rfl⟩ := hrel
            by_cases hjl : j < sl
            · have j1 : (j : Int) < (sl : Int) := by omega
              have j2 : (0 : Int) ≤ (j : Int) := by omega
              have hjS : j < Sb.length := by rw [HSb.out]; exact hjl
              obtain ⟨b5, o5, rfl, ht⟩ := HI6.out.2.2.2 (by omega)
              have e5 := ht.2 j hjS
              have HK := Lib.hid (comK_succ (B := Sk) hjS)
              have hle := comK_le Sb Sk j
              have hw3 : IntKind.i64.wrap ((comK Sb Sk j : Int) + 1) = (comK Sb Sk j : Int) + 1 := by rw [IntKind.wrap_i64]; omega
              clear ht hjS hle
              by_cases hm : gi Sb j ∈ Sk
              · have hh := Kr.hasInt_b A6 c6 Sk (gi Sb j) true w6 HJ6.out (decide_eq_true hm)
                rw [HSk.out] at hh
                have HH := Lib.hid hh
                rw [if_pos hm] at HK
                clear hm hh
                generalize gi Sb j = y at *
                generalize comK Sb Sk j = cc at *
                go_wp2_with fail
                refine HH.out.mono ?_
                rintro e w7 ⟨rfl, rfl⟩
                go_wp2
                go_round
                case rel => exact ⟨j + 1, by omega, by go_num, by rw [HK.out]; go_num⟩
                case measure => simp [intOf]; omega
              · have hh := Kr.hasInt_b A6 c6 Sk (gi Sb j) false w6 HJ6.out (decide_eq_false hm)
                rw [HSk.out] at hh
                have HH := Lib.hid hh
                rw [if_neg hm] at HK
                clear hm hh
                generalize gi Sb j = y at *
                generalize comK Sb Sk j = cc at *
                go_wp2_with fail
                refine HH.out.mono ?_
                rintro e w7 ⟨rfl, rfl⟩
                go_wp2
                go_round
                case rel => exact ⟨j + 1, by omega, by go_num, by rw [HK.out]; rfl⟩
                case measure => simp [intOf]; omega
            · obtain rfl : j = sl := by omega
              have HE : Hid (comK Sb Sk j = cm) := Lib.hid (by rw [HX.out, ← HSb.out, comK_all])
              rw [HE.out]
              clear hjl
              by_cases c2 : cm < m
              · have d2 : decide ((cm : Int) < (m : Int)) = true := by simp; omega
                have d2' : decide (cm < m) = true := by simp; omega
                have HE2 := Lib.hid (P2'.out c2)
                have HGl : Hid (G.length ≤ 1000) := Lib.hid (by rw [HGn.out, HGg.out]; omega)
                clear c2
                go_wp2_with (first
                  | (at_builtin; refine wpList_append_lies1 rfl _ _ rfl w.heap.size _ G rfl HO6.out (k : Int) _ rfl HGl.out HB6.out.size ?_)
                  | go_in)
                intro g cap w8 h3 h4 h5
                have HB8 := Lib.hid ((bel_al HB6.out HB6.out.size _).grown h4 (Nat.le_trans HB6.out.size (by simp)) (fun q hq => (HO6.out.lt q hq).1))
                have HO8 : Hid (OwnI w8 w.heap.size (.slice (some ⟨g, 0, none⟩) (G.length + 1) cap) (phK L n m (k + 1))) := Lib.hid (by rw [HE2.out]; exact h3)
                clear h3 h4 h5
                go_wp2
                go_roundw
                case rel => exact ⟨k + 1, by omega, by go_num, HO8.out, HB8.out⟩
                case measure => simp [intOf]; omega
              · have d2 : decide ((cm : Int) < (m : Int)) = false := by simp; omega
                have d2' : decide (cm < m) = false := by simp; omega
                have HE2 := Lib.hid (P3.out c2)
                clear c2
                go_wp2
                go_roundw
                case rel => exact ⟨k + 1, by omega, by go_num, by rw [HE2.out]; exact HO6.out, HB6.out⟩
                case measure => simp [intOf]; omega
    · obtain rfl : k = ln := by omega
      obtain ⟨Ag, cg, rfl, -⟩ := ints_of_own ho
      clear ho hb hlt
      generalize (phK L n m k).length = gl at *
      go_wp2
      go_ret
      exact ⟨_, rfl, HO.out, HB.out⟩

end Go.Proofs.Ytgdklpgmoanfkaa.Wst
