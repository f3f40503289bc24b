/-
  The walk of the law that compares with the reference.
-/
import Derived.Test.YtgdklpgmoanfkaaWsBegun
import Derived.Test.YtgdklpgmoanfkaaWsRef2
import Derived.Test.YtgdklpgmoanfkaaWsRef3
namespace Go.Proofs.Ytgdklpgmoanfkaa.Wst
open Go.RowKit
open Lru (isRm isK traceE trace_zero)
open Dst (win fltK row)
open Two
set_option linter.unusedVariables false
set_option maxRecDepth 100000

theorem same_w (A B : Option Addr) (c d n m : Nat) (L M : List Int) (w : World) (hn : L.length = n) (hm : M.length = m) (h : L = M) (ha : Ints w A c L) (hb : Ints w B d M) :
    Calls Try.prog 17 #[.slice A n c, .slice B m d] w fun e w' => e = .returned (.bool true) ∧ Below w.heap.size w w' := by
  subst hn hm
  have := sameInts_any A B c d L M w ha hb
  rwa [decide_eq_true h] at this
theorem spec_set {l : List Int} {i x : Int} (h : wkE l x = 0) : (0 ≤ i → i < (l.length : Int) → stE l i x = 0 ∧ stV l i x = wset l x.toNat i.toNat) ∧ (¬ (0 ≤ i ∧ i < (l.length : Int)) → stE l i x = 3 ∧ stV l i x = []) := by
  refine ⟨fun h1 h2 => ?_, fun h1 => ?_⟩
  · have e := stE_zero.2 ⟨h, h1, h2⟩
    exact ⟨e, by unfold stV; rw [if_pos e]⟩
  · have e : stE l i x = 3 := by unfold stE; rw [if_pos h, if_neg h1]
    exact ⟨e, by unfold stV; rw [if_neg (by omega)]⟩
theorem spec_ph {l : List Int} {x y : Int} (h : wkE l x = 0) : (isN y → phE l x y = 0 ∧ phV l x y = phK l x.toNat y.toNat l.length) ∧ (¬ isN y → phE l x y = 3 ∧ phV l x y = []) := by
  refine ⟨fun h1 => ?_, fun h1 => ?_⟩
  · have e := phE_zero.2 ⟨h, h1⟩
    exact ⟨e, by unfold phV; rw [if_pos e]⟩
  · have e : phE l x y = 3 := by unfold phE; rw [if_pos h, if_neg h1]
    exact ⟨e, by unfold phV; rw [if_neg (by omega)]⟩
theorem spec_bad {l : List Int} {i x y : Int} (h : ¬ wkE l x = 0) : stE l i x = wkE l x ∧ stV l i x = [] ∧ zsV l x = [] ∧ flV l x = 0 ∧ phE l x y = wkE l x ∧ phV l x y = [] := by
  have e1 : stE l i x = wkE l x := by unfold stE; rw [if_neg h]
  have e2 : phE l x y = wkE l x := by unfold phE; rw [if_neg h]
  exact ⟨e1, by unfold stV; rw [if_neg (by rw [e1]; exact h)], by unfold zsV; rw [if_neg h], by unfold flV; rw [if_neg h], e2, by unfold phV; rw [if_neg (by rw [e2]; exact h)]⟩

set_option maxHeartbeats 32000000 in
theorem worksetSpec_walk (A : Option Addr) (c : Nat) (xs : List Int) (i x y : Int) (w : World) (hI : Ints w A c xs) :
    Calls Try.prog 3 #[.slice A xs.length c, .int .i64 i, .int .i64 x, .int .i64 y] w fun e w' => e = .returned (.bool true) ∧ Below w.heap.size w w' := by
  have HI := Lib.hid hI
  have HSt := Lib.hid (fun (W : World) (h : Ints W A c xs) => Set_any A c xs i x W h)
  have HZs := Lib.hid (fun (W : World) (h : Ints W A c xs) => (Sizes_any A c xs x W h).mono (fun _ _ k => k.re))
  have HFl := Lib.hid (fun (W : World) (h : Ints W A c xs) => Faults_any A c xs x W h)
  have HPh := Lib.hid (fun (W : World) (h : Ints W A c xs) => (Phases_any A c xs x y W h).mono (fun _ _ k => k.re))
  have HEr := Lib.hid (fun (W : World) (h : Ints W A c xs) => workErr_any A c xs x W h)
  unfold RE at HSt HZs HPh
  by_cases h0 : wkE xs x = 0
  · have hx := (wkE_zero.1 h0).2
    have ht := (wkE_zero.1 h0).1
    have hl200 := (trace_zero.1 ht).1
    have hK := (trace_zero.1 ht).2
    have HS1 := Lib.hid (spec_set (i := i) h0)
    have HS2 := Lib.hid (spec_ph (y := y) h0)
    have HZe : Hid (zsV xs x = zsI xs x.toNat) := Lib.hid (by unfold zsV; rw [if_pos h0])
    have HFe : Hid (flV xs x = fltK xs x.toNat xs.length) := Lib.hid (by unfold flV; rw [if_pos h0])
    obtain ⟨n, rfl⟩ := nat_of (show 0 ≤ x by have := hx.1; omega)
    rw [show ((n : Int)).toNat = n from rfl] at HS1 HS2 HZe HFe
    have hn1 : 1 ≤ n := by have := hx.1; omega
    have hn2 : n ≤ 200 := by have := hx.2; omega
    have HWs : Hid (∀ (k : Nat) (W : World), Below w.heap.size w W → k < xs.length → Calls Try.prog 13 #[.slice A xs.length c, .int .i64 (k : Int), .int .i64 (n : Int)] W fun e w' => ∃ A' c', e = .returned (.slice A' (wset xs n k).length c') ∧ Ints w' A' c' (wset xs n k) ∧ Below W.heap.size W w') := Lib.hid (fun k W hW hkl => by
      refine (workSet_any A c xs k n W (hI.below hW) hK hkl (by omega) hn1 (by omega)).mono ?_
      rintro e w' ⟨v, rfl, ho, hb⟩
      obtain ⟨A', c', rfl, hI'⟩ := ints_of_own ho
      exact ⟨A', c', rfl, hI', hb⟩)
    have HWf := Lib.hid (fun (W : World) (h : Below w.heap.size w W) => workFaults_any A c xs n W (hI.below h) hK (by omega) hn1 (by omega))
    have HWp : Hid (∀ (m : Nat) (W : World), Below w.heap.size w W → m ≤ 400 → Calls Try.prog 15 #[.slice A xs.length c, .int .i64 (n : Int), .int .i64 (m : Int)] W fun e w' => ∃ A' c', e = .returned (.slice A' (phK xs n m xs.length).length c') ∧ Ints w' A' c' (phK xs n m xs.length) ∧ Below W.heap.size W w') := Lib.hid (fun m W hW hm => by
      refine (workPhases_any A c xs n m W (hI.below hW) hK (by omega) hn1 (by omega) hm).mono ?_
      rintro e w' ⟨v, rfl, ho, hb⟩
      obtain ⟨A', c', rfl, hI'⟩ := ints_of_own ho
      exact ⟨A', c', rfl, hI', hb⟩)
    rw [h0] at HZs HFl HEr
    rw [HZe.out] at HZs
    rw [HFe.out] at HFl
    have HZg := Lib.hid (fun (k : Nat) (hk : k < xs.length) => zsI_get (n := n) hk)
    have HZL : Hid ((zsI xs n).length = xs.length) := Lib.hid (zsI_len xs n)
    rw [HZL.out] at HZs
    generalize fltK xs n xs.length = fv at *
    generalize zsI xs n = Z at *
    generalize stV xs i (n : Int) = SV at *
    generalize stE xs i (n : Int) = se at *
    generalize phV xs (n : Int) y = PV at *
    generalize phE xs (n : Int) y = pe at *
    obtain ⟨ln, hln⟩ : ∃ ln, xs.length = ln := ⟨_, rfl⟩
    rw [hln] at HSt HZs HFl HPh HEr HS1 HS2 HWf HZL hl200 ⊢
    simp only [hln] at HWs HWp HZg
    obtain ⟨sl, hsl⟩ : ∃ sl, SV.length = sl := ⟨_, rfl⟩
    obtain ⟨pl, hpl⟩ : ∃ pl, PV.length = pl := ⟨_, rfl⟩
    have HSL := Lib.hid hsl
    have HPL := Lib.hid hpl
    rw [hsl] at HSt
    rw [hpl] at HPh
    clear hI h0 hx ht hK hln hsl hpl hn1 hn2 HZe HFe
    go_enter Try.func3, Try.ntmps3
    go_wp2_with fail
    refine (HSt.out w HI.out).mono ?_
    rintro e w1 ⟨A1, c1, rfl, hI1, hb1⟩
    have HB1 := Lib.hid hb1
    have HJ1 := Lib.hid hI1
    clear hb1 hI1
    go_wp2_with fail
    refine (HZs.out w1 (HI.out.below HB1.out)).mono ?_
    rintro e w2 ⟨A2, c2, rfl, hI2, hb2⟩
    have HB2 : Hid (Below w.heap.size w w2) := Lib.hid (HB1.out.trans (hb2.mono HB1.out.size))
    have HJ2 := Lib.hid (HJ1.out.below hb2)
    have HK2 := Lib.hid hI2
    clear hb2 hI2
    go_wp2_with fail
    refine (HFl.out w2 (HI.out.below HB2.out)).mono ?_
    rintro e w3 ⟨rfl, rfl⟩
    go_wp2_with fail
    refine (HPh.out w2 (HI.out.below HB2.out)).mono ?_
    rintro e w4 ⟨A4, c4, rfl, hI4, hb4⟩
    have HB4 : Hid (Below w.heap.size w w4) := Lib.hid (HB2.out.trans (hb4.mono HB2.out.size))
    have HX4 : Hid (∀ W : World, Below w4.heap.size w4 W → Ints W A1 c1 SV ∧ Ints W A2 c2 Z ∧ Ints W A4 c4 PV) := Lib.hid (fun W h => ⟨(HJ2.out.below hb4).below h, (HK2.out.below hb4).below h, hI4.below h⟩)
    clear hb4 hI4 HJ1 HJ2 HK2 HB1 HB2
    go_wp2_with fail
    refine (HEr.out w4 (HI.out.below HB4.out)).mono ?_
    rintro e w5 ⟨rfl, rfl⟩
    clear HSt HZs HFl HPh HEr
    by_cases q1 : i < 0
    · have d0 : decide (i < 0) = true := by simpa using q1
      obtain ⟨rfl, hSe⟩ := HS1.out.2 (fun h => by omega)
      obtain rfl : sl = 0 := by rw [← HSL.out, hSe]; rfl
      have HB5 := HB4
      have HX5 : Hid (∀ W : World, Below w4.heap.size w4 W → Ints W A1 c1 SV ∧ Ints W none 0 SV ∧ Ints W A2 c2 Z ∧ Ints W A4 c4 PV) := Lib.hid (fun W h => by
        obtain ⟨a1, a2, a3⟩ := HX4.out W h
        exact ⟨a1, by rw [hSe]; exact Ints.none_ _, a2, a3⟩)
      clear hSe HX4
      clear q1
      go_wp2
      go_loopw [21, 24] (fun s21 s24 wr => ∃ k : Nat, k ≤ ln ∧ s24 = .int .i64 (k : Int) ∧ OwnI wr w4.heap.size s21 (Z.take k) ∧ Below w4.heap.size w4 wr) (fun _ i _ => ln - (intOf i).toNat)
      case atStart => exact ⟨0, by omega, rfl, own_none _ _, Below.refl _ _⟩
      case round =>
        obtain ⟨k, hk, rfl, ho, hb⟩ := hrel
        by_cases hlt : k < ln
        · have hin : (k : Int) < (ln : Int) := by omega
          have HBw : Hid (Below w.heap.size w wr) := Lib.hid (HB5.out.trans (hb.mono HB5.out.size))
          have HA2 := Lib.hid (HWs.out k wr HBw.out hlt)
          have HTk : Hid (Z.take (k + 1) = Z.take k ++ [((wset xs n k).length : Int)]) := Lib.hid (by rw [take_succ_gi (by rw [HZL.out]; exact hlt), HZg.out k hlt])
          have HGl : Hid ((Z.take k).length ≤ 1000) := Lib.hid (by rw [List.length_take]; omega)
          have HO := Lib.hid ho
          have HB := Lib.hid hb
          obtain ⟨Ag, cg, rfl, -⟩ := ints_of_own ho
          clear ho hb
          generalize Z.take k = G at *
          generalize wset xs n k = Sk at *
          generalize Sk.length = z at *
          generalize hGn : G.length = gl at *
          have HGn := Lib.hid hGn
          clear hGn
          go_wp2_with fail
          refine HA2.out.mono ?_
          rintro e w7 ⟨A7, c7, rfl, -, hb7⟩
          have HO7 := Lib.hid (own_bel HO.out hb7)
          have HB7 : Hid (Below w4.heap.size w4 w7) := Lib.hid (HB.out.trans (hb7.mono HB.out.size))
          clear hb7
          go_wp2_with (first
            | (at_builtin; refine wpList_append_lies1 rfl _ _ rfl w4.heap.size _ G rfl HO7.out (z : Int) _ rfl (by rw [HGn.out]; exact HGl.out) HB7.out.size ?_)
            | go_in)
          intro g cap w8 h3 h4 h5
          have HB8 := Lib.hid ((bel_al HB7.out HB7.out.size _).grown h4 (Nat.le_trans HB7.out.size (by simp)) (fun q hq => (HO7.out.lt q hq).1))
          have HO8 : Hid (OwnI w8 w4.heap.size (.slice (some ⟨g, 0, none⟩) (G.length + 1) cap) (Z.take (k + 1))) := Lib.hid (by rw [HTk.out]; exact h3)
          clear h3 h4 h5
          go_wp2
          go_roundw
          case rel => exact ⟨k + 1, by omega, by go_num, HO8.out, HB8.out⟩
          case measure => simp [intOf]; omega
        · obtain rfl : k = ln := by omega
          rw [List.take_of_length_le (by rw [HZL.out]; exact Nat.le_refl _)] at ho
          obtain ⟨A8, c8, rfl, hI8⟩ := ints_of_own ho
          rw [HZL.out]
          have HB8 : Hid (Below w.heap.size w wr) := Lib.hid (HB5.out.trans (hb.mono HB5.out.size))
          have HX8 : Hid (∀ W : World, Below wr.heap.size wr W → Ints W A1 c1 SV ∧ Ints W none 0 SV ∧ Ints W A2 c2 Z ∧ Ints W A8 c8 Z ∧ Ints W A4 c4 PV) := Lib.hid (fun W h => by
            obtain ⟨a1, a2, a3, a4⟩ := HX5.out W (hb.trans (h.mono hb.size))
            exact ⟨a1, a2, a3, hI8.below h, a4⟩)
          clear ho hb hI8 hlt HX5 HWs HZg
          generalize wr = w8 at *
          go_wp2_with fail
          refine (HWf.out w8 HB8.out).mono ?_
          rintro e w9 ⟨rfl, hb9⟩
          have HB9 : Hid (Below w.heap.size w w9) := Lib.hid (HB8.out.trans (hb9.mono HB8.out.size))
          have HX9 : Hid (∀ W : World, Below w9.heap.size w9 W → Ints W A1 c1 SV ∧ Ints W none 0 SV ∧ Ints W A2 c2 Z ∧ Ints W A8 c8 Z ∧ Ints W A4 c4 PV) := Lib.hid (fun W h => HX8.out W (hb9.trans (h.mono hb9.size)))
          clear hb9 HX8
          have df : ((fv : Int) == (fv : Int)) = true := by simp
          have df' : (fv == fv) = true := by simp
          by_cases z1 : y < 1
          · have d1 : decide (y < 1) = true := by simpa using z1
            obtain ⟨rfl, hPe⟩ := HS2.out.2 (fun h => by have := h.1; omega)
            obtain rfl : pl = 0 := by rw [← HPL.out, hPe]; rfl
            have HXe : Hid (∀ W : World, Below w9.heap.size w9 W → Ints W A1 c1 SV ∧ Ints W none 0 SV ∧ Ints W A2 c2 Z ∧ Ints W A8 c8 Z ∧ Ints W A4 c4 PV ∧ Ints W none 0 PV) := Lib.hid (fun W h => by
              obtain ⟨a1, a2, a3, a4, a5⟩ := HX9.out W h
              exact ⟨a1, a2, a3, a4, a5, by rw [hPe]; exact Ints.none_ _⟩)
            have HBe := HB9
            clear z1 hPe HX9
            go_wp2_with fail
            refine (begun_any _).mono ?_
            rintro e w20 ⟨rfl, hb20⟩
            obtain ⟨t1, t2, t3, t4, t5, t6⟩ := HXe.out w20 hb20
            have T1 := Lib.hid t1
            have T2 := Lib.hid t2
            have T3 := Lib.hid t3
            have T4 := Lib.hid t4
            have T5 := Lib.hid t5
            have T6 := Lib.hid t6
            have HB20 : Hid (Below w.heap.size w w20) := Lib.hid (HBe.out.trans (hb20.mono HBe.out.size))
            clear t1 t2 t3 t4 t5 t6 hb20
            go_wp2_with fail
            refine (same_w A1 none c1 0 0 0 SV SV w20 HSL.out HSL.out rfl T1.out T2.out).mono ?_
            rintro e w21 ⟨rfl, hb21⟩
            have HB21 : Hid (Below w.heap.size w w21) := Lib.hid (HB20.out.trans (hb21.mono HB20.out.size))
            have U3 := Lib.hid (T3.out.below hb21)
            have U4 := Lib.hid (T4.out.below hb21)
            have U5 := Lib.hid (T5.out.below hb21)
            have U6 := Lib.hid (T6.out.below hb21)
            clear hb21 T1 T2 T3 T4 T5 T6
            go_wp2_with fail
            refine (same_w A2 A8 c2 c8 k k Z Z w21 HZL.out HZL.out rfl U3.out U4.out).mono ?_
            rintro e w22 ⟨rfl, hb22⟩
            have HB22 : Hid (Below w.heap.size w w22) := Lib.hid (HB21.out.trans (hb22.mono HB21.out.size))
            have V5 := Lib.hid (U5.out.below hb22)
            have V6 := Lib.hid (U6.out.below hb22)
            clear hb22 U3 U4 U5 U6
            go_wp2_with fail
            refine (same_w A4 none c4 0 0 0 PV PV w22 HPL.out HPL.out rfl V5.out V6.out).mono ?_
            rintro e w23 ⟨rfl, hb23⟩
            have HB23 : Hid (Below w.heap.size w w23) := Lib.hid (HB22.out.trans (hb23.mono HB22.out.size))
            clear hb23
            go_wp2
            go_ret
            exact ⟨rfl, HB23.out⟩
          · have d1 : decide (y < 1) = false := by simpa using z1
            by_cases z2 : 200 < y
            · have d2 : decide (200 < y) = true := by simpa using z2
              obtain ⟨rfl, hPe⟩ := HS2.out.2 (fun h => by have := h.2; omega)
              obtain rfl : pl = 0 := by rw [← HPL.out, hPe]; rfl
              have HXe : Hid (∀ W : World, Below w9.heap.size w9 W → Ints W A1 c1 SV ∧ Ints W none 0 SV ∧ Ints W A2 c2 Z ∧ Ints W A8 c8 Z ∧ Ints W A4 c4 PV ∧ Ints W none 0 PV) := Lib.hid (fun W h => by
                obtain ⟨a1, a2, a3, a4, a5⟩ := HX9.out W h
                exact ⟨a1, a2, a3, a4, a5, by rw [hPe]; exact Ints.none_ _⟩)
              have HBe := HB9
              clear z1 z2 hPe HX9
              go_wp2_with fail
              refine (begun_any _).mono ?_
              rintro e w20 ⟨rfl, hb20⟩
              obtain ⟨t1, t2, t3, t4, t5, t6⟩ := HXe.out w20 hb20
              have T1 := Lib.hid t1
              have T2 := Lib.hid t2
              have T3 := Lib.hid t3
              have T4 := Lib.hid t4
              have T5 := Lib.hid t5
              have T6 := Lib.hid t6
              have HB20 : Hid (Below w.heap.size w w20) := Lib.hid (HBe.out.trans (hb20.mono HBe.out.size))
              clear t1 t2 t3 t4 t5 t6 hb20
              go_wp2_with fail
              refine (same_w A1 none c1 0 0 0 SV SV w20 HSL.out HSL.out rfl T1.out T2.out).mono ?_
              rintro e w21 ⟨rfl, hb21⟩
              have HB21 : Hid (Below w.heap.size w w21) := Lib.hid (HB20.out.trans (hb21.mono HB20.out.size))
              have U3 := Lib.hid (T3.out.below hb21)
              have U4 := Lib.hid (T4.out.below hb21)
              have U5 := Lib.hid (T5.out.below hb21)
              have U6 := Lib.hid (T6.out.below hb21)
              clear hb21 T1 T2 T3 T4 T5 T6
              go_wp2_with fail
              refine (same_w A2 A8 c2 c8 k k Z Z w21 HZL.out HZL.out rfl U3.out U4.out).mono ?_
              rintro e w22 ⟨rfl, hb22⟩
              have HB22 : Hid (Below w.heap.size w w22) := Lib.hid (HB21.out.trans (hb22.mono HB21.out.size))
              have V5 := Lib.hid (U5.out.below hb22)
              have V6 := Lib.hid (U6.out.below hb22)
              clear hb22 U3 U4 U5 U6
              go_wp2_with fail
              refine (same_w A4 none c4 0 0 0 PV PV w22 HPL.out HPL.out rfl V5.out V6.out).mono ?_
              rintro e w23 ⟨rfl, hb23⟩
              have HB23 : Hid (Below w.heap.size w w23) := Lib.hid (HB22.out.trans (hb23.mono HB22.out.size))
              clear hb23
              go_wp2
              go_ret
              exact ⟨rfl, HB23.out⟩
            · have d2 : decide (200 < y) = false := by simpa using z2
              obtain ⟨m, rfl⟩ := nat_of (show 0 ≤ y by omega)
              obtain ⟨rfl, hPe⟩ := HS2.out.1 (show isN (m : Int) from ⟨by omega, by omega⟩)
              have hcall := HWp.out m w9 HB9.out (by omega)
              rw [show ((m : Int)).toNat = m from rfl] at hPe
              rw [← hPe, HPL.out] at hcall
              have HCall := Lib.hid hcall
              clear z1 z2 hPe hcall
              go_wp2_with fail
              refine HCall.out.mono ?_
              rintro e w10 ⟨A9, c9, rfl, hI9, hb10⟩
              have HBe : Hid (Below w.heap.size w w10) := Lib.hid (HB9.out.trans (hb10.mono HB9.out.size))
              have HXe : Hid (∀ W : World, Below w10.heap.size w10 W → Ints W A1 c1 SV ∧ Ints W none 0 SV ∧ Ints W A2 c2 Z ∧ Ints W A8 c8 Z ∧ Ints W A4 c4 PV ∧ Ints W A9 c9 PV) := Lib.hid (fun W h => by
                obtain ⟨a1, a2, a3, a4, a5⟩ := HX9.out W (hb10.trans (h.mono hb10.size))
                exact ⟨a1, a2, a3, a4, a5, hI9.below h⟩)
              clear hI9 hb10 HX9
              go_wp2_with fail
              refine (begun_any _).mono ?_
              rintro e w20 ⟨rfl, hb20⟩
              obtain ⟨t1, t2, t3, t4, t5, t6⟩ := HXe.out w20 hb20
              have T1 := Lib.hid t1
              have T2 := Lib.hid t2
              have T3 := Lib.hid t3
              have T4 := Lib.hid t4
              have T5 := Lib.hid t5
              have T6 := Lib.hid t6
              have HB20 : Hid (Below w.heap.size w w20) := Lib.hid (HBe.out.trans (hb20.mono HBe.out.size))
              clear t1 t2 t3 t4 t5 t6 hb20
              go_wp2_with fail
              refine (same_w A1 none c1 0 0 0 SV SV w20 HSL.out HSL.out rfl T1.out T2.out).mono ?_
              rintro e w21 ⟨rfl, hb21⟩
              have HB21 : Hid (Below w.heap.size w w21) := Lib.hid (HB20.out.trans (hb21.mono HB20.out.size))
              have U3 := Lib.hid (T3.out.below hb21)
              have U4 := Lib.hid (T4.out.below hb21)
              have U5 := Lib.hid (T5.out.below hb21)
              have U6 := Lib.hid (T6.out.below hb21)
              clear hb21 T1 T2 T3 T4 T5 T6
              go_wp2_with fail
              refine (same_w A2 A8 c2 c8 k k Z Z w21 HZL.out HZL.out rfl U3.out U4.out).mono ?_
              rintro e w22 ⟨rfl, hb22⟩
              have HB22 : Hid (Below w.heap.size w w22) := Lib.hid (HB21.out.trans (hb22.mono HB21.out.size))
              have V5 := Lib.hid (U5.out.below hb22)
              have V6 := Lib.hid (U6.out.below hb22)
              clear hb22 U3 U4 U5 U6
              go_wp2_with fail
              refine (same_w A4 A9 c4 c9 pl pl PV PV w22 HPL.out HPL.out rfl V5.out V6.out).mono ?_
              rintro e w23 ⟨rfl, hb23⟩
              have HB23 : Hid (Below w.heap.size w w23) := Lib.hid (HB22.out.trans (hb23.mono HB22.out.size))
              clear hb23
              go_wp2
              go_ret
              exact ⟨rfl, HB23.out⟩
    · have d0 : decide (i < 0) = false := by simpa using q1
      by_cases q2 : i < (ln : Int)
      · obtain ⟨j, rfl⟩ := nat_of (show 0 ≤ i by omega)
        have dj : decide ((ln : Int) ≤ (j : Int)) = false := by simp; omega
        have dj' : decide (ln ≤ j) = false := by simp; omega
        have hj : j < ln := by omega
        obtain ⟨rfl, hSe⟩ := HS1.out.1 (by omega) q2
        have hcall := HWs.out j w4 HB4.out hj
        rw [show ((j : Int)).toNat = j from rfl] at hSe
        rw [← hSe, HSL.out] at hcall
        have HCall := Lib.hid hcall
        clear q1 q2 hSe hcall
        go_wp2_with fail
        refine HCall.out.mono ?_
        rintro e w5 ⟨A5, c5, rfl, hI5, hb5⟩
        have HB5 : Hid (Below w.heap.size w w5) := Lib.hid (HB4.out.trans (hb5.mono HB4.out.size))
        have HX5 : Hid (∀ W : World, Below w5.heap.size w5 W → Ints W A1 c1 SV ∧ Ints W A5 c5 SV ∧ Ints W A2 c2 Z ∧ Ints W A4 c4 PV) := Lib.hid (fun W h => by
          obtain ⟨a1, a2, a3⟩ := HX4.out W (hb5.trans (h.mono hb5.size))
          exact ⟨a1, hI5.below h, a2, a3⟩)
        clear hI5 hb5 HX4
        go_wp2
        go_loopw [21, 24] (fun s21 s24 wr => ∃ k : Nat, k ≤ ln ∧ s24 = .int .i64 (k : Int) ∧ OwnI wr w5.heap.size s21 (Z.take k) ∧ Below w5.heap.size w5 wr) (fun _ i _ => ln - (intOf i).toNat)
        case atStart => exact ⟨0, by omega, rfl, own_none _ _, Below.refl _ _⟩
        case round =>
          obtain ⟨k, hk, rfl, ho, hb⟩ := hrel
          by_cases hlt : k < ln
          · have hin : (k : Int) < (ln : Int) := by omega
            have HBw : Hid (Below w.heap.size w wr) := Lib.hid (HB5.out.trans (hb.mono HB5.out.size))
            have HA2 := Lib.hid (HWs.out k wr HBw.out hlt)
            have HTk : Hid (Z.take (k + 1) = Z.take k ++ [((wset xs n k).length : Int)]) := Lib.hid (by rw [take_succ_gi (by rw [HZL.out]; exact hlt), HZg.out k hlt])
            have HGl : Hid ((Z.take k).length ≤ 1000) := Lib.hid (by rw [List.length_take]; omega)
            have HO := Lib.hid ho
            have HB := Lib.hid hb
            obtain ⟨Ag, cg, rfl, -⟩ := ints_of_own ho
            clear ho hb
            generalize Z.take k = G at *
            generalize wset xs n k = Sk at *
            generalize Sk.length = z at *
            generalize hGn : G.length = gl at *
            have HGn := Lib.hid hGn
            clear hGn
            go_wp2_with fail
            refine HA2.out.mono ?_
            rintro e w7 ⟨A7, c7, rfl, -, hb7⟩
            have HO7 := Lib.hid (own_bel HO.out hb7)
            have HB7 : Hid (Below w5.heap.size w5 w7) := Lib.hid (HB.out.trans (hb7.mono HB.out.size))
            clear hb7
            go_wp2_with (first
              | (at_builtin; refine wpList_append_lies1 rfl _ _ rfl w5.heap.size _ G rfl HO7.out (z : Int) _ rfl (by rw [HGn.out]; exact HGl.out) HB7.out.size ?_)
              | go_in)
            intro g cap w8 h3 h4 h5
            have HB8 := Lib.hid ((bel_al HB7.out HB7.out.size _).grown h4 (Nat.le_trans HB7.out.size (by simp)) (fun q hq => (HO7.out.lt q hq).1))
            have HO8 : Hid (OwnI w8 w5.heap.size (.slice (some ⟨g, 0, none⟩) (G.length + 1) cap) (Z.take (k + 1))) := Lib.hid (by rw [HTk.out]; exact h3)
            clear h3 h4 h5
            go_wp2
            go_roundw
            case rel => exact ⟨k + 1, by omega, by go_num, HO8.out, HB8.out⟩
            case measure => simp [intOf]; omega
          · obtain rfl : k = ln := by omega
            rw [List.take_of_length_le (by rw [HZL.out]; exact Nat.le_refl _)] at ho
            obtain ⟨A8, c8, rfl, hI8⟩ := ints_of_own ho
            rw [HZL.out]
            have HB8 : Hid (Below w.heap.size w wr) := Lib.hid (HB5.out.trans (hb.mono HB5.out.size))
            have HX8 : Hid (∀ W : World, Below wr.heap.size wr W → Ints W A1 c1 SV ∧ Ints W A5 c5 SV ∧ Ints W A2 c2 Z ∧ Ints W A8 c8 Z ∧ Ints W A4 c4 PV) := Lib.hid (fun W h => by
              obtain ⟨a1, a2, a3, a4⟩ := HX5.out W (hb.trans (h.mono hb.size))
              exact ⟨a1, a2, a3, hI8.below h, a4⟩)
            clear ho hb hI8 hlt HX5 HWs HZg
            generalize wr = w8 at *
            go_wp2_with fail
            refine (HWf.out w8 HB8.out).mono ?_
            rintro e w9 ⟨rfl, hb9⟩
            have HB9 : Hid (Below w.heap.size w w9) := Lib.hid (HB8.out.trans (hb9.mono HB8.out.size))
            have HX9 : Hid (∀ W : World, Below w9.heap.size w9 W → Ints W A1 c1 SV ∧ Ints W A5 c5 SV ∧ Ints W A2 c2 Z ∧ Ints W A8 c8 Z ∧ Ints W A4 c4 PV) := Lib.hid (fun W h => HX8.out W (hb9.trans (h.mono hb9.size)))
            clear hb9 HX8
            have df : ((fv : Int) == (fv : Int)) = true := by simp
            have df' : (fv == fv) = true := by simp
            by_cases z1 : y < 1
            · have d1 : decide (y < 1) = true := by simpa using z1
              obtain ⟨rfl, hPe⟩ := HS2.out.2 (fun h => by have := h.1; omega)
              obtain rfl : pl = 0 := by rw [← HPL.out, hPe]; rfl
              have HXe : Hid (∀ W : World, Below w9.heap.size w9 W → Ints W A1 c1 SV ∧ Ints W A5 c5 SV ∧ Ints W A2 c2 Z ∧ Ints W A8 c8 Z ∧ Ints W A4 c4 PV ∧ Ints W none 0 PV) := Lib.hid (fun W h => by
                obtain ⟨a1, a2, a3, a4, a5⟩ := HX9.out W h
                exact ⟨a1, a2, a3, a4, a5, by rw [hPe]; exact Ints.none_ _⟩)
              have HBe := HB9
              clear z1 hPe HX9
              go_wp2_with fail
              refine (begun_any _).mono ?_
              rintro e w20 ⟨rfl, hb20⟩
              obtain ⟨t1, t2, t3, t4, t5, t6⟩ := HXe.out w20 hb20
              have T1 := Lib.hid t1
              have T2 := Lib.hid t2
              have T3 := Lib.hid t3
              have T4 := Lib.hid t4
              have T5 := Lib.hid t5
              have T6 := Lib.hid t6
              have HB20 : Hid (Below w.heap.size w w20) := Lib.hid (HBe.out.trans (hb20.mono HBe.out.size))
              clear t1 t2 t3 t4 t5 t6 hb20
              go_wp2_with fail
              refine (same_w A1 A5 c1 c5 sl sl SV SV w20 HSL.out HSL.out rfl T1.out T2.out).mono ?_
              rintro e w21 ⟨rfl, hb21⟩
              have HB21 : Hid (Below w.heap.size w w21) := Lib.hid (HB20.out.trans (hb21.mono HB20.out.size))
              have U3 := Lib.hid (T3.out.below hb21)
              have U4 := Lib.hid (T4.out.below hb21)
              have U5 := Lib.hid (T5.out.below hb21)
              have U6 := Lib.hid (T6.out.below hb21)
              clear hb21 T1 T2 T3 T4 T5 T6
              go_wp2_with fail
              refine (same_w A2 A8 c2 c8 k k Z Z w21 HZL.out HZL.out rfl U3.out U4.out).mono ?_
              rintro e w22 ⟨rfl, hb22⟩
              have HB22 : Hid (Below w.heap.size w w22) := Lib.hid (HB21.out.trans (hb22.mono HB21.out.size))
              have V5 := Lib.hid (U5.out.below hb22)
              have V6 := Lib.hid (U6.out.below hb22)
              clear hb22 U3 U4 U5 U6
              go_wp2_with fail
              refine (same_w A4 none c4 0 0 0 PV PV w22 HPL.out HPL.out rfl V5.out V6.out).mono ?_
              rintro e w23 ⟨rfl, hb23⟩
              have HB23 : Hid (Below w.heap.size w w23) := Lib.hid (HB22.out.trans (hb23.mono HB22.out.size))
              clear hb23
              go_wp2
              go_ret
              exact ⟨rfl, HB23.out⟩
            · have d1 : decide (y < 1) = false := by simpa using z1
              by_cases z2 : 200 < y
              · have d2 : decide (200 < y) = true := by simpa using z2
                obtain ⟨rfl, hPe⟩ := HS2.out.2 (fun h => by have := h.2; omega)
                obtain rfl : pl = 0 := by rw [← HPL.out, hPe]; rfl
                have HXe : Hid (∀ W : World, Below w9.heap.size w9 W → Ints W A1 c1 SV ∧ Ints W A5 c5 SV ∧ Ints W A2 c2 Z ∧ Ints W A8 c8 Z ∧ Ints W A4 c4 PV ∧ Ints W none 0 PV) := Lib.hid (fun W h => by
                  obtain ⟨a1, a2, a3, a4, a5⟩ := HX9.out W h
                  exact ⟨a1, a2, a3, a4, a5, by rw [hPe]; exact Ints.none_ _⟩)
                have HBe := HB9
                clear z1 z2 hPe HX9
                go_wp2_with fail
                refine (begun_any _).mono ?_
                rintro e w20 ⟨rfl, hb20⟩
                obtain ⟨t1, t2, t3, t4, t5, t6⟩ := HXe.out w20 hb20
                have T1 := Lib.hid t1
                have T2 := Lib.hid t2
                have T3 := Lib.hid t3
                have T4 := Lib.hid t4
                have T5 := Lib.hid t5
                have T6 := Lib.hid t6
                have HB20 : Hid (Below w.heap.size w w20) := Lib.hid (HBe.out.trans (hb20.mono HBe.out.size))
                clear t1 t2 t3 t4 t5 t6 hb20
                go_wp2_with fail
                refine (same_w A1 A5 c1 c5 sl sl SV SV w20 HSL.out HSL.out rfl T1.out T2.out).mono ?_
                rintro e w21 ⟨rfl, hb21⟩
                have HB21 : Hid (Below w.heap.size w w21) := Lib.hid (HB20.out.trans (hb21.mono HB20.out.size))
                have U3 := Lib.hid (T3.out.below hb21)
                have U4 := Lib.hid (T4.out.below hb21)
                have U5 := Lib.hid (T5.out.below hb21)
                have U6 := Lib.hid (T6.out.below hb21)
                clear hb21 T1 T2 T3 T4 T5 T6
                go_wp2_with fail
                refine (same_w A2 A8 c2 c8 k k Z Z w21 HZL.out HZL.out rfl U3.out U4.out).mono ?_
                rintro e w22 ⟨rfl, hb22⟩
                have HB22 : Hid (Below w.heap.size w w22) := Lib.hid (HB21.out.trans (hb22.mono HB21.out.size))
                have V5 := Lib.hid (U5.out.below hb22)
                have V6 := Lib.hid (U6.out.below hb22)
                clear hb22 U3 U4 U5 U6
                go_wp2_with fail
                refine (same_w A4 none c4 0 0 0 PV PV w22 HPL.out HPL.out rfl V5.out V6.out).mono ?_
                rintro e w23 ⟨rfl, hb23⟩
                have HB23 : Hid (Below w.heap.size w w23) := Lib.hid (HB22.out.trans (hb23.mono HB22.out.size))
                clear hb23
                go_wp2
                go_ret
                exact ⟨rfl, HB23.out⟩
              · have d2 : decide (200 < y) = false := by simpa using z2
                obtain ⟨m, rfl⟩ := nat_of (show 0 ≤ y by omega)
                obtain ⟨rfl, hPe⟩ := HS2.out.1 (show isN (m : Int) from ⟨by omega, by omega⟩)
                have hcall := HWp.out m w9 HB9.out (by omega)
                rw [show ((m : Int)).toNat = m from rfl] at hPe
                rw [← hPe, HPL.out] at hcall
                have HCall := Lib.hid hcall
                clear z1 z2 hPe hcall
                go_wp2_with fail
                refine HCall.out.mono ?_
                rintro e w10 ⟨A9, c9, rfl, hI9, hb10⟩
                have HBe : Hid (Below w.heap.size w w10) := Lib.hid (HB9.out.trans (hb10.mono HB9.out.size))
                have HXe : Hid (∀ W : World, Below w10.heap.size w10 W → Ints W A1 c1 SV ∧ Ints W A5 c5 SV ∧ Ints W A2 c2 Z ∧ Ints W A8 c8 Z ∧ Ints W A4 c4 PV ∧ Ints W A9 c9 PV) := Lib.hid (fun W h => by
                  obtain ⟨a1, a2, a3, a4, a5⟩ := HX9.out W (hb10.trans (h.mono hb10.size))
                  exact ⟨a1, a2, a3, a4, a5, hI9.below h⟩)
                clear hI9 hb10 HX9
                go_wp2_with fail
                refine (begun_any _).mono ?_
                rintro e w20 ⟨rfl, hb20⟩
                obtain ⟨t1, t2, t3, t4, t5, t6⟩ := HXe.out w20 hb20
                have T1 := Lib.hid t1
                have T2 := Lib.hid t2
                have T3 := Lib.hid t3
                have T4 := Lib.hid t4
                have T5 := Lib.hid t5
                have T6 := Lib.hid t6
                have HB20 : Hid (Below w.heap.size w w20) := Lib.hid (HBe.out.trans (hb20.mono HBe.out.size))
                clear t1 t2 t3 t4 t5 t6 hb20
                go_wp2_with fail
                refine (same_w A1 A5 c1 c5 sl sl SV SV w20 HSL.out HSL.out rfl T1.out T2.out).mono ?_
                rintro e w21 ⟨rfl, hb21⟩
                have HB21 : Hid (Below w.heap.size w w21) := Lib.hid (HB20.out.trans (hb21.mono HB20.out.size))
                have U3 := Lib.hid (T3.out.below hb21)
                have U4 := Lib.hid (T4.out.below hb21)
                have U5 := Lib.hid (T5.out.below hb21)
                have U6 := Lib.hid (T6.out.below hb21)
                clear hb21 T1 T2 T3 T4 T5 T6
                go_wp2_with fail
                refine (same_w A2 A8 c2 c8 k k Z Z w21 HZL.out HZL.out rfl U3.out U4.out).mono ?_
                rintro e w22 ⟨rfl, hb22⟩
                have HB22 : Hid (Below w.heap.size w w22) := Lib.hid (HB21.out.trans (hb22.mono HB21.out.size))
                have V5 := Lib.hid (U5.out.below hb22)
                have V6 := Lib.hid (U6.out.below hb22)
                clear hb22 U3 U4 U5 U6
                go_wp2_with fail
                refine (same_w A4 A9 c4 c9 pl pl PV PV w22 HPL.out HPL.out rfl V5.out V6.out).mono ?_
                rintro e w23 ⟨rfl, hb23⟩
                have HB23 : Hid (Below w.heap.size w w23) := Lib.hid (HB22.out.trans (hb23.mono HB22.out.size))
                clear hb23
                go_wp2
                go_ret
                exact ⟨rfl, HB23.out⟩
      · have dj : decide ((ln : Int) ≤ i) = true := by simp; omega
        obtain ⟨rfl, hSe⟩ := HS1.out.2 (fun h => by omega)
        obtain rfl : sl = 0 := by rw [← HSL.out, hSe]; rfl
        have HB5 := HB4
        have HX5 : Hid (∀ W : World, Below w4.heap.size w4 W → Ints W A1 c1 SV ∧ Ints W none 0 SV ∧ Ints W A2 c2 Z ∧ Ints W A4 c4 PV) := Lib.hid (fun W h => by
          obtain ⟨a1, a2, a3⟩ := HX4.out W h
          exact ⟨a1, by rw [hSe]; exact Ints.none_ _, a2, a3⟩)
        clear hSe HX4
        clear q1 q2
        go_wp2
        go_loopw [21, 24] (fun s21 s24 wr => ∃ k : Nat, k ≤ ln ∧ s24 = .int .i64 (k : Int) ∧ OwnI wr w4.heap.size s21 (Z.take k) ∧ Below w4.heap.size w4 wr) (fun _ i _ => ln - (intOf i).toNat)
        case atStart => exact ⟨0, by omega, rfl, own_none _ _, Below.refl _ _⟩
        case round =>
          obtain ⟨k, hk, rfl, ho, hb⟩ := hrel
          by_cases hlt : k < ln
          · have hin : (k : Int) < (ln : Int) := by omega
            have HBw : Hid (Below w.heap.size w wr) := Lib.hid (HB5.out.trans (hb.mono HB5.out.size))
            have HA2 := Lib.hid (HWs.out k wr HBw.out hlt)
            have HTk : Hid (Z.take (k + 1) = Z.take k ++ [((wset xs n k).length : Int)]) := Lib.hid (by rw [take_succ_gi (by rw [HZL.out]; exact hlt), HZg.out k hlt])
            have HGl : Hid ((Z.take k).length ≤ 1000) := Lib.hid (by rw [List.length_take]; omega)
            have HO := Lib.hid ho
            have HB := Lib.hid hb
            obtain ⟨Ag, cg, rfl, -⟩ := ints_of_own ho
            clear ho hb
            generalize Z.take k = G at *
            generalize wset xs n k = Sk at *
            generalize Sk.length = z at *
            generalize hGn : G.length = gl at *
            have HGn := Lib.hid hGn
            clear hGn
            go_wp2_with fail
            refine HA2.out.mono ?_
            rintro e w7 ⟨A7, c7, rfl, -, hb7⟩
            have HO7 := Lib.hid (own_bel HO.out hb7)
            have HB7 : Hid (Below w4.heap.size w4 w7) := Lib.hid (HB.out.trans (hb7.mono HB.out.size))
            clear hb7
            go_wp2_with (first
              | (at_builtin; refine wpList_append_lies1 rfl _ _ rfl w4.heap.size _ G rfl HO7.out (z : Int) _ rfl (by rw [HGn.out]; exact HGl.out) HB7.out.size ?_)
              | go_in)
            intro g cap w8 h3 h4 h5
            have HB8 := Lib.hid ((bel_al HB7.out HB7.out.size _).grown h4 (Nat.le_trans HB7.out.size (by simp)) (fun q hq => (HO7.out.lt q hq).1))
            have HO8 : Hid (OwnI w8 w4.heap.size (.slice (some ⟨g, 0, none⟩) (G.length + 1) cap) (Z.take (k + 1))) := Lib.hid (by rw [HTk.out]; exact h3)
            clear h3 h4 h5
            go_wp2
            go_roundw
            case rel => exact ⟨k + 1, by omega, by go_num, HO8.out, HB8.out⟩
            case measure => simp [intOf]; omega
          · obtain rfl : k = ln := by omega
            rw [List.take_of_length_le (by rw [HZL.out]; exact Nat.le_refl _)] at ho
            obtain ⟨A8, c8, rfl, hI8⟩ := ints_of_own ho
            rw [HZL.out]
            have HB8 : Hid (Below w.heap.size w wr) := Lib.hid (HB5.out.trans (hb.mono HB5.out.size))
            have HX8 : Hid (∀ W : World, Below wr.heap.size wr W → Ints W A1 c1 SV ∧ Ints W none 0 SV ∧ Ints W A2 c2 Z ∧ Ints W A8 c8 Z ∧ Ints W A4 c4 PV) := Lib.hid (fun W h => by
              obtain ⟨a1, a2, a3, a4⟩ := HX5.out W (hb.trans (h.mono hb.size))
              exact ⟨a1, a2, a3, hI8.below h, a4⟩)
            clear ho hb hI8 hlt HX5 HWs HZg
            generalize wr = w8 at *
            go_wp2_with fail
            refine (HWf.out w8 HB8.out).mono ?_
            rintro e w9 ⟨rfl, hb9⟩
            have HB9 : Hid (Below w.heap.size w w9) := Lib.hid (HB8.out.trans (hb9.mono HB8.out.size))
            have HX9 : Hid (∀ W : World, Below w9.heap.size w9 W → Ints W A1 c1 SV ∧ Ints W none 0 SV ∧ Ints W A2 c2 Z ∧ Ints W A8 c8 Z ∧ Ints W A4 c4 PV) := Lib.hid (fun W h => HX8.out W (hb9.trans (h.mono hb9.size)))
            clear hb9 HX8
            have df : ((fv : Int) == (fv : Int)) = true := by simp
            have df' : (fv == fv) = true := by simp
            by_cases z1 : y < 1
            · have d1 : decide (y < 1) = true := by simpa using z1
              obtain ⟨rfl, hPe⟩ := HS2.out.2 (fun h => by have := h.1; omega)
              obtain rfl : pl = 0 := by rw [← HPL.out, hPe]; rfl
              have HXe : Hid (∀ W : World, Below w9.heap.size w9 W → Ints W A1 c1 SV ∧ Ints W none 0 SV ∧ Ints W A2 c2 Z ∧ Ints W A8 c8 Z ∧ Ints W A4 c4 PV ∧ Ints W none 0 PV) := Lib.hid (fun W h => by
                obtain ⟨a1, a2, a3, a4, a5⟩ := HX9.out W h
                exact ⟨a1, a2, a3, a4, a5, by rw [hPe]; exact Ints.none_ _⟩)
              have HBe := HB9
              clear z1 hPe HX9
              go_wp2_with fail
              refine (begun_any _).mono ?_
              rintro e w20 ⟨rfl, hb20⟩
              obtain ⟨t1, t2, t3, t4, t5, t6⟩ := HXe.out w20 hb20
              have T1 := Lib.hid t1
              have T2 := Lib.hid t2
              have T3 := Lib.hid t3
              have T4 := Lib.hid t4
              have T5 := Lib.hid t5
              have T6 := Lib.hid t6
              have HB20 : Hid (Below w.heap.size w w20) := Lib.hid (HBe.out.trans (hb20.mono HBe.out.size))
              clear t1 t2 t3 t4 t5 t6 hb20
              go_wp2_with fail
              refine (same_w A1 none c1 0 0 0 SV SV w20 HSL.out HSL.out rfl T1.out T2.out).mono ?_
              rintro e w21 ⟨rfl, hb21⟩
              have HB21 : Hid (Below w.heap.size w w21) := Lib.hid (HB20.out.trans (hb21.mono HB20.out.size))
              have U3 := Lib.hid (T3.out.below hb21)
              have U4 := Lib.hid (T4.out.below hb21)
              have U5 := Lib.hid (T5.out.below hb21)
              have U6 := Lib.hid (T6.out.below hb21)
              clear hb21 T1 T2 T3 T4 T5 T6
              go_wp2_with fail
              refine (same_w A2 A8 c2 c8 k k Z Z w21 HZL.out HZL.out rfl U3.out U4.out).mono ?_
              rintro e w22 ⟨rfl, hb22⟩
              have HB22 : Hid (Below w.heap.size w w22) := Lib.hid (HB21.out.trans (hb22.mono HB21.out.size))
              have V5 := Lib.hid (U5.out.below hb22)
              have V6 := Lib.hid (U6.out.below hb22)
              clear hb22 U3 U4 U5 U6
              go_wp2_with fail
              refine (same_w A4 none c4 0 0 0 PV PV w22 HPL.out HPL.out rfl V5.out V6.out).mono ?_
              rintro e w23 ⟨rfl, hb23⟩
              have HB23 : Hid (Below w.heap.size w w23) := Lib.hid (HB22.out.trans (hb23.mono HB22.out.size))
              clear hb23
              go_wp2
              go_ret
              exact ⟨rfl, HB23.out⟩
            · have d1 : decide (y < 1) = false := by simpa using z1
              by_cases z2 : 200 < y
              · have d2 : decide (200 < y) = true := by simpa using z2
                obtain ⟨rfl, hPe⟩ := HS2.out.2 (fun h => by have := h.2; omega)
                obtain rfl : pl = 0 := by rw [← HPL.out, hPe]; rfl
                have HXe : Hid (∀ W : World, Below w9.heap.size w9 W → Ints W A1 c1 SV ∧ Ints W none 0 SV ∧ Ints W A2 c2 Z ∧ Ints W A8 c8 Z ∧ Ints W A4 c4 PV ∧ Ints W none 0 PV) := Lib.hid (fun W h => by
                  obtain ⟨a1, a2, a3, a4, a5⟩ := HX9.out W h
                  exact ⟨a1, a2, a3, a4, a5, by rw [hPe]; exact Ints.none_ _⟩)
                have HBe := HB9
                clear z1 z2 hPe HX9
                go_wp2_with fail
                refine (begun_any _).mono ?_
                rintro e w20 ⟨rfl, hb20⟩
                obtain ⟨t1, t2, t3, t4, t5, t6⟩ := HXe.out w20 hb20
                have T1 := Lib.hid t1
                have T2 := Lib.hid t2
                have T3 := Lib.hid t3
                have T4 := Lib.hid t4
                have T5 := Lib.hid t5
                have T6 := Lib.hid t6
                have HB20 : Hid (Below w.heap.size w w20) := Lib.hid (HBe.out.trans (hb20.mono HBe.out.size))
                clear t1 t2 t3 t4 t5 t6 hb20
                go_wp2_with fail
                refine (same_w A1 none c1 0 0 0 SV SV w20 HSL.out HSL.out rfl T1.out T2.out).mono ?_
                rintro e w21 ⟨rfl, hb21⟩
                have HB21 : Hid (Below w.heap.size w w21) := Lib.hid (HB20.out.trans (hb21.mono HB20.out.size))
                have U3 := Lib.hid (T3.out.below hb21)
                have U4 := Lib.hid (T4.out.below hb21)
                have U5 := Lib.hid (T5.out.below hb21)
                have U6 := Lib.hid (T6.out.below hb21)
                clear hb21 T1 T2 T3 T4 T5 T6
                go_wp2_with fail
                refine (same_w A2 A8 c2 c8 k k Z Z w21 HZL.out HZL.out rfl U3.out U4.out).mono ?_
                rintro e w22 ⟨rfl, hb22⟩
                have HB22 : Hid (Below w.heap.size w w22) := Lib.hid (HB21.out.trans (hb22.mono HB21.out.size))
                have V5 := Lib.hid (U5.out.below hb22)
                have V6 := Lib.hid (U6.out.below hb22)
                clear hb22 U3 U4 U5 U6
                go_wp2_with fail
                refine (same_w A4 none c4 0 0 0 PV PV w22 HPL.out HPL.out rfl V5.out V6.out).mono ?_
                rintro e w23 ⟨rfl, hb23⟩
                have HB23 : Hid (Below w.heap.size w w23) := Lib.hid (HB22.out.trans (hb23.mono HB22.out.size))
                clear hb23
                go_wp2
                go_ret
                exact ⟨rfl, HB23.out⟩
              · have d2 : decide (200 < y) = false := by simpa using z2
                obtain ⟨m, rfl⟩ := nat_of (show 0 ≤ y by omega)
                obtain ⟨rfl, hPe⟩ := HS2.out.1 (show isN (m : Int) from ⟨by omega, by omega⟩)
                have hcall := HWp.out m w9 HB9.out (by omega)
                rw [show ((m : Int)).toNat = m from rfl] at hPe
                rw [← hPe, HPL.out] at hcall
                have HCall := Lib.hid hcall
                clear z1 z2 hPe hcall
                go_wp2_with fail
                refine HCall.out.mono ?_
                rintro e w10 ⟨A9, c9, rfl, hI9, hb10⟩
                have HBe : Hid (Below w.heap.size w w10) := Lib.hid (HB9.out.trans (hb10.mono HB9.out.size))
                have HXe : Hid (∀ W : World, Below w10.heap.size w10 W → Ints W A1 c1 SV ∧ Ints W none 0 SV ∧ Ints W A2 c2 Z ∧ Ints W A8 c8 Z ∧ Ints W A4 c4 PV ∧ Ints W A9 c9 PV) := Lib.hid (fun W h => by
                  obtain ⟨a1, a2, a3, a4, a5⟩ := HX9.out W (hb10.trans (h.mono hb10.size))
                  exact ⟨a1, a2, a3, a4, a5, hI9.below h⟩)
                clear hI9 hb10 HX9
                go_wp2_with fail
                refine (begun_any _).mono ?_
                rintro e w20 ⟨rfl, hb20⟩
                obtain ⟨t1, t2, t3, t4, t5, t6⟩ := HXe.out w20 hb20
                have T1 := Lib.hid t1
                have T2 := Lib.hid t2
                have T3 := Lib.hid t3
                have T4 := Lib.hid t4
                have T5 := Lib.hid t5
                have T6 := Lib.hid t6
                have HB20 : Hid (Below w.heap.size w w20) := Lib.hid (HBe.out.trans (hb20.mono HBe.out.size))
                clear t1 t2 t3 t4 t5 t6 hb20
                go_wp2_with fail
                refine (same_w A1 none c1 0 0 0 SV SV w20 HSL.out HSL.out rfl T1.out T2.out).mono ?_
                rintro e w21 ⟨rfl, hb21⟩
                have HB21 : Hid (Below w.heap.size w w21) := Lib.hid (HB20.out.trans (hb21.mono HB20.out.size))
                have U3 := Lib.hid (T3.out.below hb21)
                have U4 := Lib.hid (T4.out.below hb21)
                have U5 := Lib.hid (T5.out.below hb21)
                have U6 := Lib.hid (T6.out.below hb21)
                clear hb21 T1 T2 T3 T4 T5 T6
                go_wp2_with fail
                refine (same_w A2 A8 c2 c8 k k Z Z w21 HZL.out HZL.out rfl U3.out U4.out).mono ?_
                rintro e w22 ⟨rfl, hb22⟩
                have HB22 : Hid (Below w.heap.size w w22) := Lib.hid (HB21.out.trans (hb22.mono HB21.out.size))
                have V5 := Lib.hid (U5.out.below hb22)
                have V6 := Lib.hid (U6.out.below hb22)
                clear hb22 U3 U4 U5 U6
                go_wp2_with fail
                refine (same_w A4 A9 c4 c9 pl pl PV PV w22 HPL.out HPL.out rfl V5.out V6.out).mono ?_
                rintro e w23 ⟨rfl, hb23⟩
                have HB23 : Hid (Below w.heap.size w w23) := Lib.hid (HB22.out.trans (hb23.mono HB22.out.size))
                clear hb23
                go_wp2
                go_ret
                exact ⟨rfl, HB23.out⟩
  · obtain ⟨b1, b2, b3, b4, b5, b6⟩ := spec_bad (i := i) (y := y) h0
    have d0 : (wkE xs x == 0) = false := by simpa using h0
    have d1 : (wkE xs x == wkE xs x) = true := by simp
    rw [b1, b2] at HSt
    rw [b3] at HZs
    rw [b4] at HFl
    rw [b5, b6] at HPh
    clear h0 b1 b2 b3 b4 b5 b6 hI
    generalize wkE xs x = t at *
    generalize xs.length = ln at *
    go_enter Try.func3, Try.ntmps3
    go_wp2_with fail
    refine (HSt.out w HI.out).mono ?_
    rintro e w1 ⟨A1, c1, rfl, hI1, hb1⟩
    have HB1 := Lib.hid hb1
    have HJ1 := Lib.hid hI1
    clear hb1 hI1
    go_wp2_with fail
    refine (HZs.out w1 (HI.out.below HB1.out)).mono ?_
    rintro e w2 ⟨A2, c2, rfl, hI2, hb2⟩
    have HB2 : Hid (Below w.heap.size w w2) := Lib.hid (HB1.out.trans (hb2.mono HB1.out.size))
    have HJ2 := Lib.hid (HJ1.out.below hb2)
    have HK2 := Lib.hid hI2
    clear hb2 hI2
    go_wp2_with fail
    refine (HFl.out w2 (HI.out.below HB2.out)).mono ?_
    rintro e w3 ⟨rfl, rfl⟩
    go_wp2_with fail
    refine (HPh.out w2 (HI.out.below HB2.out)).mono ?_
    rintro e w4 ⟨A4, c4, rfl, hI4, hb4⟩
    have HB4 : Hid (Below w.heap.size w w4) := Lib.hid (HB2.out.trans (hb4.mono HB2.out.size))
    have HJ4 := Lib.hid (HJ2.out.below hb4)
    have HK4 := Lib.hid (HK2.out.below hb4)
    have HL4 := Lib.hid hI4
    clear hb4 hI4
    go_wp2_with fail
    refine (HEr.out w4 (HI.out.below HB4.out)).mono ?_
    rintro e w5 ⟨rfl, rfl⟩
    go_wp2_with fail
    refine (begun_any _).mono ?_
    rintro e w7 ⟨rfl, hb7⟩
    have HB7 : Hid (Below w.heap.size w w7) := Lib.hid (HB4.out.trans (hb7.mono HB4.out.size))
    have HC7 := Lib.hid hb7
    clear hb7
    go_wp2_with fail
    refine (same_w A1 none c1 0 0 0 [] [] w7 rfl rfl rfl (HJ4.out.below HC7.out) (Ints.none_ _)).mono ?_
    rintro e w8 ⟨rfl, hb8⟩
    have HB8 : Hid (Below w.heap.size w w8) := Lib.hid (HB7.out.trans (hb8.mono HB7.out.size))
    have HC8 := Lib.hid (HC7.out.trans (hb8.mono HC7.out.size))
    clear hb8
    go_wp2_with fail
    refine (same_w A2 none c2 0 0 0 [] [] w8 rfl rfl rfl (HK4.out.below HC8.out) (Ints.none_ _)).mono ?_
    rintro e w9 ⟨rfl, hb9⟩
    have HB9 : Hid (Below w.heap.size w w9) := Lib.hid (HB8.out.trans (hb9.mono HB8.out.size))
    have HC9 := Lib.hid (HC8.out.trans (hb9.mono HC8.out.size))
    clear hb9
    go_wp2_with fail
    refine (same_w A4 none c4 0 0 0 [] [] w9 rfl rfl rfl (HL4.out.below HC9.out) (Ints.none_ _)).mono ?_
    rintro e w10 ⟨rfl, hb10⟩
    have HB10 : Hid (Below w.heap.size w w10) := Lib.hid (HB9.out.trans (hb10.mono HB9.out.size))
    clear hb10
    go_wp2
    go_ret
    exact ⟨rfl, HB10.out⟩

end Go.Proofs.Ytgdklpgmoanfkaa.Wst
