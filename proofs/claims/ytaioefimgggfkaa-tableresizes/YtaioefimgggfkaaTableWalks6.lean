/-
  What Get, Delete and Resize of package table return.
-/
import Derived.Test.YtaioefimgggfkaaTableWalks5
namespace Go.Proofs.Ytaioefimgggfkaa
open Go.RowKit
set_option linter.unusedVariables false

theorem below_drewN {B : Nat} {a w : World} (h : Below B a w) (n : Nat) : Below B a (w.drewN n) := ⟨h.os, h.tape, h.output, h.size, h.block⟩
theorem w_swap {P : Program} {f : FuncId} {args : Array Value} {w : World} {v : Value} (h : Calls P f args w fun e w' => e = .returned v ∧ w = w') : Calls P f args w fun e w' => e = .returned v ∧ w' = w :=
  h.mono fun _ _ ⟨a, b⟩ => ⟨a, b.symm⟩

set_option maxHeartbeats 1000000 in
theorem get_any (A : Option Addr) (c : Nat) (L : List Sl) (key : ByteArray) (w : World) (ht : Tab w A c L) :
    Calls Try.prog 7 #[.slice A L.length c, .string key] w fun e w' => e = .returned (.tuple #[.int .i64 (getM L key).1, .int .i64 (getM L key).2.1, .int .i64 (getM L key).2.2]) ∧ Below w.heap.size w w' := by
  by_cases hf : (findM L key).2 = 0
  · obtain ⟨ha, hc, hk, _⟩ := findM_lt hf
    obtain ⟨h0, h1, _, _⟩ := checkM_inv hc
    obtain ⟨b, o, rfl, hT⟩ := ht.2 h0
    have HF := Lib.hid hf
    have HL := homeN_lt key L.length (by omega)
    have HD := ds_lt HL ha
    have HR : Hid (getM L key = ((sl L (findM L key).1).val, (ds L.length (homeN key L.length) (findM L key).1 : Int) + 1, 0)) := Lib.hid (by unfold getM; rw [if_pos hf])
    clear hf hc
    go_enter Try.func7, Try.ntmps7
    go_wp2_with fail
    refine (find_any _ c L key _ ht).mono ?_
    rintro e w' ⟨rfl, hb⟩
    rw [HF.out]
    obtain ⟨_, _, c2⟩ := (hT.below hb).2 _ ha
    generalize (findM L key).1 = a at *
    go_wp2
    have ha2 : (a : Int) < (L.length : Int) := by omega
    go_quiet (first
      | (go_at_call 21; exact Calls.quiet_of_same (w_swap (home_any key L.length _ hk (by omega) (by omega))))
      | (go_at_call 20; exact Calls.quiet_of_same (w_swap (steps_any _ _ L.length _ HL ha (by omega)))))
    go_wp2
    go_ret3
    exact ⟨by rw [HR.out]; rfl, below_drewN hb _⟩
  · have HR : Hid (getM L key = (0, 0, (findM L key).2)) := Lib.hid (by unfold getM; rw [if_neg hf])
    have hq := bd_ne hf
    clear hf
    go_enter Try.func7, Try.ntmps7
    go_wp2_with fail
    refine (find_any _ c L key _ ht).mono ?_
    rintro e w' ⟨rfl, hb⟩
    go_wp2
    go_ret3
    exact ⟨by rw [HR.out]; rfl, hb⟩

/-! ### Delete -/
theorem delL_zero (n start d : Nat) (R : List Sl) (e : Nat) : delL n start 0 d R e = R := rfl
theorem delL_stop {n start f d : Nat} {R : List Sl} {e : Nat} (h : (sl R (ps n start d)).used = false) : delL n start (f + 1) d R e = R := by
  rw [delL, if_neg (by rw [h]; simp)]
theorem delL_stay {n start f d : Nat} {R : List Sl} {e : Nat} (h : (sl R (ps n start d)).used = true) (hp : passB (sl R (ps n start d)).key n e (ps n start d) = false) : delL n start (f + 1) d R e = delL n start f (d + 1) R e := by
  rw [delL, if_pos h, if_neg (by rw [hp]; simp)]
theorem delL_move {n start f d : Nat} {R : List Sl} {e : Nat} (h : (sl R (ps n start d)).used = true) (hp : passB (sl R (ps n start d)).key n e (ps n start d) = true) :
    delL n start (f + 1) d R e = delL n start f (d + 1) ((R.set e (sl R (ps n start d))).set (ps n start d) Sl.no) (ps n start d) := by
  rw [delL, if_pos h, if_pos hp]
theorem keys_set {R : List Sl} {i : Nat} {s : Sl} (h : ∀ i, i < R.length → (sl R i).key.size ≤ 40) (hs : s.key.size ≤ 40) : ∀ j, j < (R.set i s).length → (sl (R.set i s) j).key.size ≤ 40 := by
  intro j hj
  rw [List.length_set] at hj
  by_cases hi : i < R.length
  · rw [sl_set hi]; split
    · exact hs
    · exact h j hj
  · rw [List.set_eq_of_length_le (by omega)]; exact h j hj

set_option maxHeartbeats 1000000 in
theorem delete_any (A : Option Addr) (c : Nat) (L : List Sl) (key : ByteArray) (w : World) (ht : Tab w A c L) :
    Calls Try.prog 9 #[.slice A L.length c, .string key] w (TabR (delM L key) w) := by
  by_cases hf : (findM L key).2 = 0
  · obtain ⟨ha, hc, hk, _⟩ := findM_lt hf
    obtain ⟨h0, h1, _, _⟩ := checkM_inv hc
    obtain ⟨b, o, rfl, hT⟩ := ht.2 h0
    have HF := Lib.hid hf
    have HR : Hid (delM L key = (dropL L (findM L key).1, 0)) := Lib.hid (by unfold delM; rw [if_pos hf])
    have HN := Lib.hid (neat_of hc)
    have HS := Lib.hid (keys_of hc)
    clear hf hc
    go_enter Try.func9, Try.ntmps9
    go_wp2_with fail
    refine (find_any _ c L key _ ht).mono ?_
    rintro e w' ⟨rfl, hb⟩
    rw [HF.out]
    have hT' := hT.below hb
    generalize (findM L key).1 = a at *
    go_wp2_with fail
    refine (copy_any L b o c _ h0 h1 hT' HN.out HS.out).mono ?_
    rintro e w2 ⟨rfl, HO, hb2⟩
    have hz := hb.size
    have hz2 := hb2.size
    have HB2 : Below w.heap.size w w2 := hb.trans (hb2.mono hz)
    have hg := HO.lt
    clear hb2 hb hT'
    generalize w'.heap.size = g at *
    obtain ⟨e0, e1, e2⟩ := HO.at_ (i := a) ha
    have f0 := HO.frozen (a * 3)
    have f1 := HO.frozen (a * 3 + 1)
    have f2 := HO.frozen (a * 3 + 2)
    have HO2 := HO.set_ ha Sl.no
    go_wp2_with fail
    refine (next_any _ _ _ ha (by omega)).mono ?_
    rintro e w3 ⟨rfl, rfl⟩
    clear e0 e1 e2 f0 f1 f2
    have HB3 : Below w.heap.size w (((w2.setCell ⟨g, a * 3, none⟩ (.bool false)).setCell ⟨g, a * 3 + 1, none⟩ (.string ⟨#[]⟩)).setCell ⟨g, a * 3 + 2, none⟩ (.int .i64 0)) := ((HB2.setCell hz _).setCell hz _).setCell hz _
    go_wp2
    go_loopw [9, 10] (fun ev av wr => ∃ (d : Nat) (R : List Sl) (e : Nat), 1 ≤ d ∧ d ≤ L.length ∧ Hid (R.length = L.length) ∧ e < L.length ∧ Hid (∃ x, x < d ∧ e = ps L.length a x) ∧ ev = .int .i64 e ∧ av = .int .i64 (ps L.length a d : Nat) ∧ Own wr g R ∧ Below w.heap.size w wr ∧
        Hid (delL L.length a (L.length - d) d R e = dropL L a) ∧ Hid (∀ i, i < R.length → (sl R i).key.size ≤ 40)) (fun _ av _ => ds L.length (intOf av).toNat a)
    case atStart => exact ⟨1, L.set a Sl.no, a, by omega, by omega, Lib.hid (by simp), ha, Lib.hid ⟨0, by omega, (ps_zero ha).symm⟩, rfl, by rw [← ps_one ha], HO2, HB3, Lib.hid rfl, Lib.hid (keys_set HS.out (by decide))⟩
    case round =>
      obtain ⟨d, R, e, hd1, hd2, HRL, hel, HNE, rfl, rfl, HOR, HBR, HDL, HKR⟩ := hrel
      have hrl : R.length ≤ L.length := by rw [HRL.out]; exact Nat.le_refl _
      have hrl2 : L.length ≤ R.length := by rw [HRL.out]; exact Nat.le_refl _
      by_cases hD : d < L.length
      · have hlt := ps_lt ha (d := d) (by omega)
        have HNX := Lib.hid (nx_ps ha (d := d) hD)
        have hne1 : e ≠ ps L.length a d := by
          obtain ⟨x, hx, hy⟩ := HNE.out
          intro hz
          have := ps_inj ha (by omega) hD (hy.symm.trans hz)
          omega
        have hne2 : ps L.length a d ≠ a := fun x => ps_off ha hd1 hD x.symm
        have HNE2 : Hid (∃ x, x < d + 1 ∧ ps L.length a d = ps L.length a x) := Lib.hid ⟨d, by omega, rfl⟩
        have HNE3 : Hid (∃ x, x < d + 1 ∧ e = ps L.length a x) := Lib.hid (by obtain ⟨x, hx, hy⟩ := HNE.out; exact ⟨x, by omega, hy⟩)
        have q1 : ((ps L.length a d : Int) != (a : Int)) = true := bd_ne (by omega)
        have q2 : ((ps L.length a d : Int) == (a : Int)) = false := bd_eq (by omega)
        have HF2 : Hid (L.length - d = (L.length - (d + 1)) + 1) := Lib.hid (by omega)
        obtain ⟨c0, c1, c2⟩ := HOR.at_ (i := ps L.length a d) (by omega)
        have hks := HKR.out (ps L.length a d) (by omega)
        have hgr := HOR.lt
        have HMS := Lib.hid (ds_nx hlt ha hne2)
        by_cases hu : (sl R (ps L.length a d)).used = true
        · rw [hu] at c0
          have HU := Lib.hid hu
          clear hu
          go_wp2_with fail
          refine (passes_any _ _ _ L.length _ hks hel hlt (by omega)).mono ?_
          rintro r w4 ⟨rfl, rfl⟩
          by_cases hp : passB (sl R (ps L.length a d)).key L.length e (ps L.length a d) = true
          · have HP := Lib.hid hp
            unfold passB at hp
            rw [hp]
            clear hp
            have HSP : Hid ((⟨true, (sl R (ps L.length a d)).key, (sl R (ps L.length a d)).val⟩ : Sl) = sl R (ps L.length a d)) := Lib.hid (sl_eta HU.out)
            obtain ⟨e0, e1, e2⟩ := HOR.at_ (i := e) (by omega)
            have f0 := HOR.frozen (e * 3)
            have f1 := HOR.frozen (e * 3 + 1)
            have f2 := HOR.frozen (e * 3 + 2)
            have HO3 := HOR.set_ (i := e) (by omega) ⟨true, (sl R (ps L.length a d)).key, (sl R (ps L.length a d)).val⟩
            obtain ⟨g0, g1, g2⟩ := HO3.at_ (i := ps L.length a d) (by simp; omega)
            have k0 := HO3.frozen (ps L.length a d * 3)
            have k1 := HO3.frozen (ps L.length a d * 3 + 1)
            have k2 := HO3.frozen (ps L.length a d * 3 + 2)
            go_wp2_with fail
            refine (next_any _ _ _ hlt (by omega)).mono ?_
            rintro r w5 ⟨rfl, rfl⟩
            go_wp2
            go_roundw
            case rel => exact ⟨d + 1, (R.set e (sl R (ps L.length a d))).set (ps L.length a d) Sl.no, ps L.length a d, by omega, by omega, Lib.hid (by simp [HRL.out]), hlt, HNE2, rfl, by rw [HNX.out], by
              rw [← HSP.out]
              exact HO3.set_ (i := ps L.length a d) (by rw [List.length_set]; omega) Sl.no, (((((HBR.setCell hz _).setCell hz _).setCell hz _).setCell hz _).setCell hz _).setCell hz _, Lib.hid (by
                rw [← HDL.out, HF2.out, delL_move HU.out HP.out]), Lib.hid (keys_set (keys_set HKR.out hks) (by decide))⟩
            case measure => simp only [intOf, Int.toNat_natCast]; exact HMS.out
          · have hp : passB (sl R (ps L.length a d)).key L.length e (ps L.length a d) = false := by simpa using hp
            have HP := Lib.hid hp
            unfold passB at hp
            rw [hp]
            clear hp
            go_wp2_with fail
            refine (next_any _ _ _ hlt (by omega)).mono ?_
            rintro r w5 ⟨rfl, rfl⟩
            go_wp2
            go_roundw
            case rel => exact ⟨d + 1, R, e, by omega, by omega, HRL, hel, HNE3, rfl, by rw [HNX.out], HOR, HBR, Lib.hid (by
                rw [← HDL.out, HF2.out, delL_stay HU.out HP.out]), HKR⟩
            case measure => simp only [intOf, Int.toNat_natCast]; exact HMS.out
        · have hu : (sl R (ps L.length a d)).used = false := by simpa using hu
          rw [hu] at c0
          have HX : Hid (R = dropL L a) := Lib.hid (by rw [← HDL.out, HF2.out, delL_stop hu])
          clear hu
          go_wp2
          go_ret2
          exact tabR_own (by rw [HR.out, ← HX.out]) HRL.out HOR HBR
      · obtain rfl : d = L.length := by omega
        rw [ps_full ha]
        have HX : Hid (R = dropL L a) := Lib.hid (by rw [← HDL.out, Nat.sub_self]; rfl)
        go_wp2
        go_ret2
        exact tabR_own (by rw [HR.out, ← HX.out]) HRL.out HOR HBR
  · have HR : Hid (delM L key = ([], (findM L key).2)) := Lib.hid (by unfold delM; rw [if_neg hf])
    have hq := bd_ne hf
    clear hf
    go_enter Try.func9, Try.ntmps9
    go_wp2_with fail
    refine (find_any _ c L key _ ht).mono ?_
    rintro e w' ⟨rfl, hb⟩
    go_wp2
    go_ret2
    exact tabR_none HR.out hb

/-! ### Resize -/
set_option maxHeartbeats 1000000 in
theorem resize_any (A : Option Addr) (c : Nat) (L : List Sl) (n : Int) (w : World) (ht : Tab w A c L) :
    Calls Try.prog 10 #[.slice A L.length c, .int .i64 n] w (TabR (resizeM L n) w) := by
  by_cases hc : checkM L = 0
  · obtain ⟨h0, h1, _, _⟩ := checkM_inv hc
    obtain ⟨b, o, rfl, hT⟩ := ht.2 h0
    have HC := Lib.hid hc
    have HS := Lib.hid (keys_of hc)
    by_cases hn : 1 ≤ n ∧ n ≤ 64
    · obtain ⟨m, rfl⟩ : ∃ m : Nat, n = (m : Int) := ⟨n.toNat, by omega⟩
      have HR : Hid (resizeM L m = match resL L (List.replicate m Sl.no) with
        | some R => (R, 0)
        | none => ([], 8)) := Lib.hid (by unfold resizeM; rw [if_pos hc, if_pos hn]; rfl)
      obtain ⟨hn1, hn2⟩ := hn
      have hm1 : 1 ≤ m := by omega
      have hm2 : m ≤ 64 := by omega
      have q1 : decide ((m : Int) < 1) = false := by simp; omega
      have q2 : decide (64 < (m : Int)) = false := by simp; omega
      have hmk := run_make_slots m hm2
      clear hc
      go_enter Try.func10, Try.ntmps10
      go_wp2_with fail
      refine (check_any _ c L _ ht).mono ?_
      rintro e w' ⟨rfl, hb⟩
      rw [HC.out]
      have hT' := hT.below hb
      have hz := hb.size
      go_wp2
      clear hmk
      have HB0 : Below w.heap.size w (w'.alloc (.cells (encS (List.replicate m Sl.no)) 33)) := hb.alloc hz _
      have HO0 := Own.new w' (List.replicate m Sl.no)
      have hbw := hT.1
      clear hT' hb
      generalize w'.heap.size = g at *
      generalize w'.alloc (.cells (encS (List.replicate m Sl.no)) 33) = wa at *
      go_loopw [27] (fun i wr => ∃ (k : Nat) (R : List Sl), k ≤ L.length ∧ i = .int .i64 k ∧ Hid (R.length = m) ∧ Own wr g R ∧ Below w.heap.size w wr ∧ Hid (resL (L.drop k) R = resL L (List.replicate m Sl.no))) (fun i _ => L.length - (intOf i).toNat)
      case atStart => exact ⟨0, _, by omega, rfl, Lib.hid (by simp), HO0, HB0, Lib.hid rfl⟩
      case round =>
        clear HB0 HO0
        obtain ⟨k, R, hk, rfl, HRL, HO, HB, HE⟩ := hrel
        have hgw : g < wr.heap.size := HO.lt
        have hbw' : b < wr.heap.size := by have := HB.size; omega
        have hrl : R.length ≤ m := by rw [HRL.out]; exact Nat.le_refl _
        have hrl2 : m ≤ R.length := by rw [HRL.out]; exact Nat.le_refl _
        by_cases hlt : k < L.length
        · obtain ⟨c0, c1, c2⟩ := (hT.below HB).2 k hlt
          have HDR : Hid (L.drop k = sl L k :: L.drop (k + 1)) := Lib.hid (by rw [List.drop_eq_getElem_cons hlt, sl_get hlt])
          by_cases hu : (sl L k).used = true
          · rw [hu] at c0
            have HU := Lib.hid hu
            clear hu
            have hks := HS.out k hlt
            go_wp2_with fail
            have hpr := probe_any R (sl L k).key g 0 m (wr.alloc (Obj.cells #[Value.bool true, Value.string (sl L k).key, Value.int IntKind.i64 (sl L k).val] 33)) (by omega) (by omega) hks (HO.alloc _).tab
            rw [HRL.out] at hpr
            refine hpr.mono ?_
            clear hpr
            rintro e w3 ⟨hp, rfl⟩
            cases hq : probeM R (sl L k).key with
            | none =>
              have HX : Hid (resizeM L m = ([], 8)) := Lib.hid (by rw [HR.out, ← HE.out, HDR.out, resL, if_pos HU.out, hq])
              unfold ProbeR at hp
              rw [hq] at hp
              subst hp
              clear hq
              go_wp2
              go_ret2
              exact tabR_none HX.out (HB.alloc (by omega) _)
            | some a =>
              have ha := probeM_lt hq (by omega)
              have HX : Hid (resL (L.drop (k + 1)) (R.set a ⟨true, (sl L k).key, (sl L k).val⟩) = resL L (List.replicate m Sl.no)) := Lib.hid (by rw [← HE.out, HDR.out, resL, if_pos HU.out, hq])
              unfold ProbeR at hp
              rw [hq] at hp
              subst hp
              clear hq
              go_wp2_with fail
              refine (newSlot_any _ _ _ hks).mono ?_
              rintro e w4 ⟨rfl, hb4⟩
              have hz4 := hb4.size
              simp at hz4
              have HO2 : Own w4 g R := (HO.alloc _).below hb4 (by simp; omega)
              obtain ⟨e0, e1, e2⟩ := HO2.at_ (i := a) ha
              have f0 := HO2.frozen (a * 3)
              have f1 := HO2.frozen (a * 3 + 1)
              have f2 := HO2.frozen (a * 3 + 2)
              have HB2 : Below w.heap.size w w4 := HB.trans (fromAlloc' (hb4.mono (by simp; omega)) (by omega))
              clear hb4
              go_wp2
              go_round
              case rel => exact ⟨k + 1, R.set a ⟨true, (sl L k).key, (sl L k).val⟩, by omega, by go_num, Lib.hid (by simp [HRL.out]), HO2.set_ ha ⟨true, (sl L k).key, (sl L k).val⟩, ((HB2.setCell hz _).setCell hz _).setCell hz _, HX⟩
              case measure => simp [intOf]; omega
          · have hu : (sl L k).used = false := by simpa using hu
            have HX : Hid (resL (L.drop (k + 1)) R = resL L (List.replicate m Sl.no)) := Lib.hid (by rw [← HE.out, HDR.out, resL, if_neg (by simp [hu])])
            rw [hu] at c0
            clear hu
            go_wp2
            go_round
            case rel => exact ⟨k + 1, R, by omega, by go_num, HRL, HO.alloc _, HB.alloc (by omega) _, HX⟩
            case measure => simp [intOf]; omega
        · obtain rfl : k = L.length := by omega
          have HX : Hid (resizeM L m = (R, 0)) := Lib.hid (by rw [HR.out, ← HE.out, List.drop_length]; rfl)
          go_wp2
          go_ret2
          exact tabR_own HX.out HRL.out HO HB
    · have HR : Hid (resizeM L n = ([], 3)) := Lib.hid (by unfold resizeM; rw [if_pos hc, if_neg hn])
      clear hc
      by_cases h2 : n < 1
      · have q1 : decide (n < 1) = true := by simpa using h2
        clear hn
        go_enter Try.func10, Try.ntmps10
        go_wp2_with fail
        refine (check_any _ c L _ ht).mono ?_
        rintro e w' ⟨rfl, hb⟩
        rw [HC.out]
        go_wp2
        go_ret2
        exact tabR_none HR.out hb
      · have q1 : decide (n < 1) = false := by simpa using h2
        have q2 : decide (64 < n) = true := by simp; omega
        clear hn
        go_enter Try.func10, Try.ntmps10
        go_wp2_with fail
        refine (check_any _ c L _ ht).mono ?_
        rintro e w' ⟨rfl, hb⟩
        rw [HC.out]
        go_wp2
        go_ret2
        exact tabR_none HR.out hb
  · have HR : Hid (resizeM L n = ([], checkM L)) := Lib.hid (by unfold resizeM; rw [if_neg hc])
    have hq := bd_ne hc
    clear hc
    go_enter Try.func10, Try.ntmps10
    go_wp2_with fail
    refine (check_any _ c L _ ht).mono ?_
    rintro e w' ⟨rfl, hb⟩
    go_wp2
    go_ret2
    exact tabR_none HR.out hb

end Go.Proofs.Ytaioefimgggfkaa
