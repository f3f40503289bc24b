/-
  The walk of the law that compares package table with its reference.
-/
import Derived.Test.YtaioefimgggfkaaTableRef4
import Derived.Deep.DeepCutAuto
import Derived.Deep.RegionHeld3
namespace Go.Proofs.Ytaioefimgggfkaa
open Go.RowKit
set_option linter.unusedVariables false

theorem ds_int {n h i : Nat} (hh : h < n) (hi : i < n) : ((i : Int) - (h : Int)) % (n : Int) = (ds n h i : Nat) := by
  rw [← ds_mod hh hi]
  have e : (i : Int) - h = ((i + n - h : Nat) : Int) - n := by omega
  rw [e, Int.sub_emod_right]
  push_cast
  rfl

/-- What the reference's part of the law leaves. -/
def SpecCut (L : List Sl) (key : ByteArray) (v n : Int) (w : World) (s19 s20 s21 s22 s23 s24 s25 s26 : Value) (wx : World) : Prop :=
  ∃ A c B d C e, s19 = .int .i64 (getM L key).2.2 ∧ s20 = .int .i64 (putM L key v).2 ∧ s21 = .int .i64 (resizeM L n).2 ∧ s22 = .int .i64 (getM L key).1 ∧ s23 = .int .i64 (getM L key).2.1 ∧
    s24 = .slice A (putM L key v).1.length c ∧ s25 = .slice B (delM L key).1.length d ∧ s26 = .slice C (resizeM L n).1.length e ∧
    Tab wx A c (putM L key v).1 ∧ Tab wx B d (delM L key).1 ∧ Tab wx C e (resizeM L n).1 ∧ Below w.heap.size w wx
def SpecCutA (L : List Sl) (key : ByteArray) (w : World) (s19 s22 s23 s25 : Value) (wx : World) : Prop :=
  ∃ B d, s19 = .int .i64 (getM L key).2.2 ∧ s22 = .int .i64 (getM L key).1 ∧ s23 = .int .i64 (getM L key).2.1 ∧ s25 = .slice B (delM L key).1.length d ∧ Tab wx B d (delM L key).1 ∧ Below w.heap.size w wx
def SpecCutB (L : List Sl) (key : ByteArray) (v : Int) (w : World) (s20 s24 s28 : Value) (wx : World) : Prop :=
  ∃ A c, s20 = .int .i64 (putM L key v).2 ∧ s24 = .slice A (putM L key v).1.length c ∧ Tab wx A c (putM L key v).1 ∧ Below w.heap.size w wx

theorem put_le (L : List Sl) (key : ByteArray) (v : Int) : (putM L key v).1.length ≤ 64 := by
  by_cases h : (putM L key v).2 = 0
  · obtain ⟨g, _, _, a, _, _, e⟩ := put_ok h
    rw [e]; simpa using g.le
  · rw [put_err h]; simp
theorem resize_le (L : List Sl) (n : Int) : (resizeM L n).1.length ≤ 64 := by
  by_cases h : (resizeM L n).2 = 0
  · exact (resize_spec h).2.1.le
  · rw [resize_err h]; simp
theorem delL_len (n start : Nat) : ∀ (f d : Nat) (R : List Sl) (e : Nat), (delL n start f d R e).length = R.length := by
  intro f
  induction f with
  | zero => intro d R e; rfl
  | succ f ih =>
    intro d R e
    rw [delL]
    split
    · split
      · rw [ih]; simp
      · rw [ih]
    · rfl
theorem del_le (L : List Sl) (key : ByteArray) : (delM L key).1.length ≤ 64 := by
  unfold delM
  split
  · rename_i h
    obtain ⟨_, hc, _⟩ := findM_lt h
    have := (checkM_inv hc).2.1
    simp only [dropL, delL_len, List.length_set]
    exact this
  · simp
theorem del_get (L : List Sl) (key : ByteArray) : (delM L key).2 = (getM L key).2.2 := by
  unfold delM getM
  by_cases h : (findM L key).2 = 0
  · rw [if_pos h, if_pos h]
  · rw [if_neg h, if_neg h]

/-- How far the reference has come in resizing. -/
def SpecLoop (L : List Sl) (m : Nat) (w : World) (ov gv iv : Value) (wr : World) : Prop :=
  ∃ k : Nat, k ≤ L.length ∧ iv = .int .i64 k ∧ Below w.heap.size w wr ∧
    ((∃ R A c, ov = .int .i64 0 ∧ gv = .slice A m c ∧ R.length = m ∧ Tab wr A c R ∧ Good R ∧ resL (L.drop k) R = resL L (List.replicate m Sl.no)) ∨
     (ov = .int .i64 8 ∧ gv = .slice none 0 0 ∧ resL L (List.replicate m Sl.no) = none))

set_option maxHeartbeats 8000000 in
set_option maxRecDepth 100000 in
theorem tableSpec_walk (A : Option Addr) (c : Nat) (L : List Sl) (key : ByteArray) (v n : Int) (w : World) (ht : Tab w A c L) :
    Calls Try.prog 3 #[.slice A L.length c, .string key, .int .i64 v, .int .i64 n] w fun e w' => e = .returned (.bool true) ∧ Below w.heap.size w w' := by
  go_enter Try.func3, Try.ntmps3
  go_wp2_with fail
  refine (get_any _ c L key _ ht).mono ?_
  rintro e w1 ⟨rfl, hb1⟩
  have HB1 := hb1
  clear hb1
  go_wp2_with fail
  refine (put_any _ c L key v _ (ht.below HB1)).mono ?_
  rintro e w2 ⟨A2, c2, rfl, HT2, hb2⟩
  have HB2 := HB1.trans (hb2.mono HB1.size)
  clear hb2 HB1
  go_wp2_with fail
  refine (delete_any _ c L key _ (ht.below HB2)).mono ?_
  rintro e w3 ⟨A3, c3, rfl, HT3, hb3⟩
  have HB3 := HB2.trans (hb3.mono HB2.size)
  replace HT2 := HT2.below hb3
  clear hb3 HB2
  go_wp2_with fail
  refine (resize_any _ c L n _ (ht.below HB3)).mono ?_
  rintro e w4 ⟨A4, c4, rfl, HT4, hb4⟩
  have HB4 := HB3.trans (hb4.mono HB3.size)
  replace HT2 := HT2.below hb4
  replace HT3 := HT3.below hb4
  clear hb4 HB3
  go_wp2_with fail
  refine (refCheck_any _ c L _ (ht.below HB4)).mono ?_
  rintro e w5 ⟨rfl, hb5⟩
  have HB5 := HB4.trans (hb5.mono HB4.size)
  replace HT2 := HT2.below hb5
  replace HT3 := HT3.below hb5
  replace HT4 := HT4.below hb5
  clear hb5 HB4
  replace ht := ht.below HB5
  generalize HCK0 : checkM L = ck
  have HCK := Lib.hid HCK0
  clear HCK0
  go_upto_if 62 with fail
  go_cut [19, 20, 21, 22, 23, 24, 25, 26] (fun s19 s20 s21 s22 s23 s24 s25 s26 wx => SpecCut L key v n w5 s19 s20 s21 s22 s23 s24 s25 s26 wx)
  case first =>
    as_aux_lemma =>
      by_cases hc0 : ck = 0
      · subst hc0
        have HC := HCK
        have g := good_of HC.out
        have p1 := g.pos
        have p2 := g.le
        obtain ⟨b, o, rfl, hT⟩ := ht.2 p1
        have hcc := ht.1
        go_wp2_with fail
        refine (slotOf_any _ c L key _ ht p2).mono ?_
        rintro e w6 ⟨rfl, rfl⟩
        generalize HZ0 : slotI L key = z
        have HZ := Lib.hid HZ0
        clear HZ0
        go_upto_if 68 with fail
        go_cut [19, 22, 23, 25] (fun s19 s22 s23 s25 wx => SpecCutA L key w5 s19 s22 s23 s25 wx)
        case first =>
          as_aux_lemma =>
            by_cases hk : vkB key = true
            · have hk' := vkB_le.1 hk
              have qk : decide ((40 : Int) < (key.size : Int)) = false := by simp; omega
              by_cases hI : In L key
              · obtain ⟨i, hi, hu, rfl⟩ := hI
                obtain rfl : z = (i : Int) := HZ.out.symm.trans (slotI_in g hi hu)
                have hf := find_in g hi hu
                have HG : Hid (getM L (sl L i).key = ((sl L i).val, (ds L.length (homeN (sl L i).key L.length) i : Int) + 1, 0)) := Lib.hid (by unfold getM; rw [hf]; simp)
                have HD : Hid (delM L (sl L i).key = (dropL L i, 0)) := Lib.hid (by unfold delM; rw [hf]; simp)
                obtain ⟨_, _, c2⟩ := hT.2 i hi
                have HDR := Lib.hid (fun W (h : TabAt W b o L) => refDrop_any L i b o c W g hi hu h hcc)
                have HL := homeN_lt (sl L i).key L.length p1
                have hdi := ds_int HL hi
                have hdl := ds_lt HL hi
                clear hf hu hk g
                have q1 : decide ((i : Int) < 0) = false := by simp
                go_wp2_with fail
                refine (refHome_any _ _ _ hk' (by omega) (by omega)).mono ?_
                rintro e w7 ⟨rfl, rfl⟩
                go_wp2_with fail
                refine (HDR.out _ hT).mono ?_
                rintro e w7 ⟨B, d, rfl, HTB, hb7⟩
                go_wp2
                go_meet
                refine ⟨B, d, ?_, ?_, ?_, ?_, ?_, hb7⟩
                · rw [HG.out]
                · rw [HG.out]
                · rw [HG.out]
                · rw [HD.out]
                · rw [HD.out]; exact HTB
              · obtain rfl : z = -1 := HZ.out.symm.trans (slotI_not hI)
                have HG := Lib.hid (get_not g hk hI)
                have HD : Hid (delM L key = ([], 5)) := Lib.hid (by unfold delM; rw [find_not g hk hI]; simp)
                clear hk hI g
                go_wp2
                go_meet
                refine ⟨none, 0, ?_, ?_, ?_, ?_, ?_, Below.refl _ _⟩
                · rw [HG.out]
                · rw [HG.out]
                · rw [HG.out]
                · rw [HD.out]; rfl
                · rw [HD.out]; exact Tab.none_ _ _ _
            · have qk0 : 40 < key.size := by
                have : ¬ key.size ≤ 40 := fun z => hk (vkB_le.2 z)
                omega
              have qk1 : (40 : Int) < (key.size : Int) := by omega
              have HG := Lib.hid (get_long g hk)
              have HD : Hid (delM L key = ([], 3)) := Lib.hid (by unfold delM findM; rw [if_pos HC.out, if_neg hk]; simp)
              clear hk g
              go_wp2
              go_meet
              refine ⟨none, 0, ?_, ?_, ?_, ?_, ?_, Below.refl _ _⟩
              · rw [HG.out]
              · rw [HG.out]
              · rw [HG.out]
              · rw [HD.out]; rfl
              · rw [HD.out]; exact Tab.none_ _ _ _
        case rest =>
          as_aux_lemma =>
            obtain ⟨BA, dA, rfl, rfl, rfl, rfl, HTA, HBA⟩ := hcut
            replace hT := hT.below HBA
            replace ht := ht.below HBA
            go_upto_region 19 with fail
            go_cut [102] (fun s102 wx => s102 = .bool (!(vkB key && vvB v)) ∧ wc = wx)
            case first =>
              as_aux_lemma =>
                by_cases hk : key.size ≤ 40
                · have qk : decide ((40 : Int) < (key.size : Int)) = false := by simp; omega
                  have HK := Lib.hid (vkB_le.2 hk)
                  by_cases h1 : v < -1099511627776
                  · have q1 : decide (v < -1099511627776) = true := by simpa using h1
                    have HV : Hid (vvB v = false) := Lib.hid (by simp [vvB]; omega)
                    clear hk
                    go_wp2
                    go_meet
                    exact ⟨by rw [HK.out, HV.out]; rfl, rfl⟩
                  · have q1 : decide (v < -1099511627776) = false := by simpa using h1
                    by_cases h2 : 1099511627776 < v
                    · have q2 : decide (1099511627776 < v) = true := by simpa using h2
                      have HV : Hid (vvB v = false) := Lib.hid (by simp [vvB]; omega)
                      clear hk
                      go_wp2
                      go_meet
                      exact ⟨by rw [HK.out, HV.out]; rfl, rfl⟩
                    · have q2 : decide (1099511627776 < v) = false := by simpa using h2
                      have HV : Hid (vvB v = true) := Lib.hid (by simp [vvB]; omega)
                      clear hk
                      go_wp2
                      go_meet
                      exact ⟨by rw [HK.out, HV.out]; rfl, rfl⟩
                · have qk : decide ((40 : Int) < (key.size : Int)) = true := by simp; omega
                  have HK : Hid (vkB key = false) := Lib.hid (by simp [vkB]; omega)
                  clear hk
                  go_wp2
                  go_meet
                  exact ⟨by rw [HK.out]; rfl, rfl⟩
            case rest =>
              as_aux_lemma =>
                obtain ⟨rfl, rfl⟩ := hcut
                go_upto_if 102 with fail
                go_cut [20, 24, 28] (fun s20 s24 s28 wx => SpecCutB L key v wc s20 s24 s28 wx)
                case first =>
                  as_aux_lemma =>
                    by_cases hkv : (vkB key && vvB v) = true
                    · have HKV := Lib.hid hkv
                      have hk : vkB key = true := by simp only [Bool.and_eq_true] at hkv; exact hkv.1
                      have HPU : Hid (putM L key v = match probeM L key with
                        | some a => (L.set a ⟨true, key, v⟩, 0)
                        | none => ([], 8)) := Lib.hid (by unfold putM; rw [if_pos HC.out, if_pos hkv]; rfl)
                      have g := good_of HC.out
                      have HRP := Lib.hid (fun W (h : Tab W (some ⟨b, o, none⟩) c L) => refPut_any L key v _ c W g hk h)
                      rw [hkv]
                      clear hkv hk g
                      go_wp2_with fail
                      refine (HRP.out _ ht).mono ?_
                      rintro e w8 hr
                      cases hp : probeM L key with
                      | none =>
                        have HX : Hid (putM L key v = ([], 8)) := Lib.hid (by rw [HPU.out, hp])
                        rw [hp] at hr
                        obtain ⟨rfl, hb8⟩ := hr
                        clear hp HPU
                        go_wp2
                        go_meet
                        refine ⟨none, 0, ?_, ?_, ?_, hb8⟩
                        · rw [HX.out]
                        · rw [HX.out]; rfl
                        · rw [HX.out]; exact Tab.none_ _ _ _
                      | some a =>
                        have HX : Hid (putM L key v = (L.set a ⟨true, key, v⟩, 0)) := Lib.hid (by rw [HPU.out, hp])
                        rw [hp] at hr
                        obtain ⟨A8, c8, rfl, HT8, hb8⟩ := hr
                        clear hp HPU
                        go_wp2
                        go_meet
                        refine ⟨A8, c8, ?_, ?_, ?_, hb8⟩
                        · rw [HX.out]
                        · rw [HX.out]; simp
                        · rw [HX.out]; exact HT8
                    · have hkv : (vkB key && vvB v) = false := by simpa using hkv
                      have HX : Hid (putM L key v = ([], 3)) := Lib.hid (by unfold putM; rw [if_pos HC.out, if_neg (by rw [hkv]; simp)])
                      rw [hkv]
                      clear hkv
                      go_wp2
                      go_meet
                      refine ⟨none, 0, ?_, ?_, ?_, Below.refl _ _⟩
                      · rw [HX.out]
                      · rw [HX.out]; rfl
                      · rw [HX.out]; exact Tab.none_ _ _ _
                case rest =>
                  as_aux_lemma =>
                    obtain ⟨AB, cB, rfl, rfl, HTB, HBB⟩ := hcut
                    replace hT := hT.below HBB
                    replace ht := ht.below HBB
                    replace HTA := HTA.below HBB
                    have HBC := HBA.trans (HBB.mono HBA.size)
                    clear HBB HBA
                    by_cases hn : 1 ≤ n ∧ n ≤ 64
                    · obtain ⟨m, rfl⟩ : ∃ m : Nat, n = (m : Int) := ⟨n.toNat, by omega⟩
                      have HR : Hid (resizeM L m = match resL L (List.replicate m Sl.no) with
                        | some R => (R, 0)
                        | none => ([], 8)) := Lib.hid (by unfold resizeM; rw [if_pos HC.out, if_pos hn]; rfl)
                      obtain ⟨hn1, hn2⟩ := hn
                      have hm1 : 1 ≤ m := by omega
                      have hm2 : m ≤ 64 := by omega
                      have q1 : decide ((m : Int) < 1) = false := by simp; omega
                      have q2 : decide (64 < (m : Int)) = false := by simp; omega
                      have hmk := run_make_slots m hm2
                      have HOK := Lib.hid (good_of HC.out).ok
                      go_wp2
                      clear hmk
                      have HBD : Below w5.heap.size w5 (wc.alloc (.cells (encS (List.replicate m Sl.no)) 33)) := HBC.alloc HBC.size _
                      have HBE : Below wc.heap.size wc (wc.alloc (.cells (encS (List.replicate m Sl.no)) 33)) := (Below.refl _ _).alloc (Nat.le_refl _) _
                      have HO0 : Tab (wc.alloc (.cells (encS (List.replicate m Sl.no)) 33)) (some ⟨wc.heap.size, 0, none⟩) m (List.replicate m Sl.no) := ⟨by simp, fun _ => ⟨_, _, rfl, (Own.new wc (List.replicate m Sl.no)).tab⟩⟩
                      replace hT := hT.below HBE
                      replace HTA := HTA.below HBE
                      replace HTB := HTB.below HBE
                      clear HBE HBC ht
                      generalize wc.heap.size = gg at *
                      generalize wc.alloc (.cells (encS (List.replicate m Sl.no)) 33) = wa at *
                      go_loopw [21, 26, 28, 29] (fun ov gv kv iv wr => SpecLoop L m wa ov gv iv wr) (fun _ _ _ iv _ => L.length - (intOf iv).toNat)
                      case atStart => exact ⟨0, by omega, rfl, Below.refl _ _, .inl ⟨List.replicate m Sl.no, _, m, rfl, by simp, by simp, HO0, good_new hm1 hm2, rfl⟩⟩
                      case round =>
                        as_aux_lemma =>
                          obtain ⟨k, hk, rfl, HB, hlp⟩ := hrel
                          have hT2 := hT.below HB
                          have HTA2 := HTA.below HB
                          have HTB2 := HTB.below HB
                          have HBR := HBD.trans (HB.mono HBD.size)
                          rcases hlp with ⟨R, AR, cR, rfl, rfl, hRl, HTR, hRg, hRe⟩ | ⟨rfl, rfl, hnone⟩
                          · have HRL := Lib.hid hRl
                            have HRE := Lib.hid hRe
                            clear hRl hRe
                            by_cases hlt : k < L.length
                            · obtain ⟨c0, c1, c2⟩ := hT2.2 k hlt
                              have HDR : Hid (L.drop k = sl L k :: L.drop (k + 1)) := Lib.hid (by rw [List.drop_eq_getElem_cons hlt, sl_get hlt])
                              have l2 : (k : Int) < (L.length : Int) := by omega
                              by_cases hu : (sl L k).used = true
                              · rw [hu] at c0
                                have HU := Lib.hid hu
                                obtain ⟨hvk, hvv⟩ := HOK.out k hlt hu
                                have hbw := hT2.1
                                cases hp : probeM R (sl L k).key with
                                | none =>
                                  have HX : Hid (resL L (List.replicate m Sl.no) = none) := Lib.hid (by rw [← HRE.out, HDR.out, resL, if_pos hu, hp])
                                  have HRP : Hid (∀ W : World, Tab W AR cR R → Calls Try.prog 15 #[.slice AR m cR, .string (sl L k).key, .int .i64 (sl L k).val] W fun e w' => e = .returned (.tuple #[.slice none 0 0, .bool false]) ∧ Below W.heap.size W w') := Lib.hid (fun W h => by
                                    have := refPut_any R (sl L k).key (sl L k).val AR cR W hRg hvk h
                                    rw [hp, HRL.out] at this
                                    exact this)
                                  clear hu hvk hvv hRg hp
                                  go_wp2
                                  go_region_held3 (fun w' => w'.cell? ⟨b, o + k * 3 + 1, none⟩ = some (.string (sl L k).key) ∧ w'.cell? ⟨b, o + k * 3 + 2, none⟩ = some (.int .i64 (sl L k).val))
                                    (first | go_keep | exact ⟨(hb9.cell (p := ⟨b, _, none⟩) hbw).trans c1, (hb9.cell (p := ⟨b, _, none⟩) hbw).trans c2⟩)
                                    (first | (go_at_call 15; refine (HRP.out _ (by exact HTR)).mono ?_; rintro e w9 ⟨rfl, hb9⟩))
                                  have hb9' := below_undrew hb9
                                  clear hb9
                                  go_wp2
                                  go_roundw
                                  case rel => exact ⟨k + 1, by omega, by go_num, HB.trans (hb9'.mono HB.size), .inr ⟨rfl, rfl, HX.out⟩⟩
                                  case measure => simp [intOf]; omega
                                | some a =>
                                  have HX : Hid (resL (L.drop (k + 1)) (R.set a ⟨true, (sl L k).key, (sl L k).val⟩) = resL L (List.replicate m Sl.no)) := Lib.hid (by rw [← HRE.out, HDR.out, resL, if_pos hu, hp])
                                  have HRP : Hid (∀ W : World, Tab W AR cR R → Calls Try.prog 15 #[.slice AR m cR, .string (sl L k).key, .int .i64 (sl L k).val] W fun e w' => ∃ A9 c9, e = .returned (.tuple #[.slice A9 m c9, .bool true]) ∧ Tab w' A9 c9 (R.set a ⟨true, (sl L k).key, (sl L k).val⟩) ∧ Below W.heap.size W w') := Lib.hid (fun W h => by
                                    have := refPut_any R (sl L k).key (sl L k).val AR cR W hRg hvk h
                                    rw [hp, HRL.out] at this
                                    refine this.mono ?_
                                    rintro e w' ⟨A9, c9, he, h1, h2⟩
                                    rw [List.length_set, HRL.out] at he
                                    exact ⟨A9, c9, he, h1, h2⟩)
                                  have HGP := Lib.hid (hRg.put hvk hvv hp)
                                  clear hu hvk hvv hRg hp
                                  go_wp2
                                  go_region_held3 (fun w' => w'.cell? ⟨b, o + k * 3 + 1, none⟩ = some (.string (sl L k).key) ∧ w'.cell? ⟨b, o + k * 3 + 2, none⟩ = some (.int .i64 (sl L k).val))
                                    (first | go_keep | exact ⟨(hb9.cell (p := ⟨b, _, none⟩) hbw).trans c1, (hb9.cell (p := ⟨b, _, none⟩) hbw).trans c2⟩)
                                    (first | (go_at_call 15; refine (HRP.out _ (by exact HTR)).mono ?_; rintro e w9 ⟨A9, c9, rfl, HT9, hb9⟩))
                                  have hb9' := below_undrew hb9
                                  clear hb9
                                  go_wp2
                                  go_roundw
                                  case rel => exact ⟨k + 1, by omega, by go_num, HB.trans (hb9'.mono HB.size), .inl ⟨_, A9, c9, rfl, rfl, by simp [HRL.out], HT9, HGP.out, HX.out⟩⟩
                                  case measure => simp [intOf]; omega
                              · have hu : (sl L k).used = false := by simpa using hu
                                have HX : Hid (resL (L.drop (k + 1)) R = resL L (List.replicate m Sl.no)) := Lib.hid (by rw [← HRE.out, HDR.out, resL, if_neg (by simp [hu])])
                                rw [hu] at c0
                                clear hu
                                go_wp2
                                go_roundw
                                case rel => exact ⟨k + 1, by omega, by go_num, HB, .inl ⟨R, AR, cR, rfl, rfl, HRL.out, HTR, hRg, HX.out⟩⟩
                                case measure => simp [intOf]; omega
                            · obtain rfl : k = L.length := by omega
                              have HX : Hid (resizeM L m = (R, 0)) := Lib.hid (by rw [HR.out, ← HRE.out, List.drop_length]; rfl)
                              go_wp2
                              go_meet
                              refine ⟨AB, cB, BA, dA, AR, cR, rfl, rfl, ?_, rfl, rfl, rfl, rfl, ?_, HTB2, HTA2, ?_, HBR⟩
                              · rw [HX.out]
                              · rw [HX.out, HRL.out]
                              · rw [HX.out]; exact HTR
                          · have HX : Hid (resizeM L m = ([], 8)) := Lib.hid (by rw [HR.out, hnone])
                            clear hnone
                            by_cases hlt : k < L.length
                            · go_wp2
                              go_meet
                              refine ⟨AB, cB, BA, dA, none, 0, rfl, rfl, ?_, rfl, rfl, rfl, rfl, ?_, HTB2, HTA2, ?_, HBR⟩
                              · rw [HX.out]
                              · rw [HX.out]; rfl
                              · rw [HX.out]; exact Tab.none_ _ _ _
                            · go_wp2
                              go_meet
                              refine ⟨AB, cB, BA, dA, none, 0, rfl, rfl, ?_, rfl, rfl, rfl, rfl, ?_, HTB2, HTA2, ?_, HBR⟩
                              · rw [HX.out]
                              · rw [HX.out]; rfl
                              · rw [HX.out]; exact Tab.none_ _ _ _
                    · have HX : Hid (resizeM L n = ([], 3)) := Lib.hid (by unfold resizeM; rw [if_pos HC.out, if_neg hn])
                      by_cases h2 : n < 1
                      · have q1 : decide (n < 1) = true := by simpa using h2
                        clear hn
                        go_wp2
                        go_meet
                        refine ⟨AB, cB, BA, dA, none, 0, rfl, rfl, ?_, rfl, rfl, rfl, rfl, ?_, HTB, HTA, ?_, HBC⟩
                        · rw [HX.out]
                        · rw [HX.out]; rfl
                        · rw [HX.out]; exact Tab.none_ _ _ _
                      · have q1 : decide (n < 1) = false := by simpa using h2
                        have q2 : decide (64 < n) = true := by simp; omega
                        clear hn
                        go_wp2
                        go_meet
                        refine ⟨AB, cB, BA, dA, none, 0, rfl, rfl, ?_, rfl, rfl, rfl, rfl, ?_, HTB, HTA, ?_, HBC⟩
                        · rw [HX.out]
                        · rw [HX.out]; rfl
                        · rw [HX.out]; exact Tab.none_ _ _ _
      · have hc : ¬ checkM L = 0 := by rw [HCK.out]; exact hc0
        have HF : Hid (findM L key = (0, ck)) := Lib.hid (by unfold findM; rw [if_neg hc, HCK.out])
        have HG : Hid (getM L key = (0, 0, ck)) := Lib.hid (by unfold getM; rw [HF.out]; simp only; rw [if_neg hc0])
        have HP : Hid (putM L key v = ([], ck)) := Lib.hid (by unfold putM; rw [if_neg hc, HCK.out])
        have HD : Hid (delM L key = ([], ck)) := Lib.hid (by unfold delM; rw [HF.out]; simp only; rw [if_neg hc0])
        have HX : Hid (resizeM L n = ([], ck)) := Lib.hid (by unfold resizeM; rw [if_neg hc, HCK.out])
        have hq := bd_eq hc0
        clear hc hc0
        go_wp2
        go_meet
        refine ⟨none, 0, none, 0, none, 0, ?_, ?_, ?_, ?_, ?_, ?_, ?_, ?_, ?_, ?_, ?_, Below.refl _ _⟩
        · rw [HG.out]
        · rw [HP.out]
        · rw [HX.out]
        · rw [HG.out]
        · rw [HG.out]
        · rw [HP.out]; rfl
        · rw [HD.out]; rfl
        · rw [HX.out]; rfl
        · rw [HP.out]; exact Tab.none_ _ _ _
        · rw [HD.out]; exact Tab.none_ _ _ _
        · rw [HX.out]; exact Tab.none_ _ _ _
  case rest =>
    as_aux_lemma =>
      obtain ⟨B1, d1, B2, d2, B3, d3, rfl, rfl, rfl, rfl, rfl, rfl, rfl, rfl, HU1, HU2, HU3, HBW⟩ := hcut
      have l1 := put_le L key v
      have l2 := del_le L key
      have l3 := resize_le L n
      have hde : (delM L key).2 = (getM L key).2.2 := del_get L key
      rw [hde]
      clear hde
      replace ht := ht.below HBW
      replace HT2 := HT2.below HBW
      replace HT3 := HT3.below HBW
      replace HT4 := HT4.below HBW
      have HB6 := HB5.trans (HBW.mono HB5.size)
      clear HBW HB5
      generalize getM L key = gm at *
      generalize putM L key v = pm at *
      generalize (delM L key).1 = dm at *
      generalize resizeM L n = rm at *
      go_wp2_with fail
      refine (begun_any _).mono ?_
      rintro e w7 ⟨rfl, hb7⟩
      replace ht := ht.below hb7
      replace HT2 := HT2.below hb7
      replace HT3 := HT3.below hb7
      replace HT4 := HT4.below hb7
      replace HU1 := HU1.below hb7
      replace HU2 := HU2.below hb7
      replace HU3 := HU3.below hb7
      have HB7 := HB6.trans (hb7.mono HB6.size)
      clear hb7 HB6
      go_wp2_with fail
      refine (check_any _ c L _ ht).mono ?_
      rintro e w8 ⟨rfl, hb8⟩
      rw [HCK.out]
      replace HT2 := HT2.below hb8
      replace HT3 := HT3.below hb8
      replace HT4 := HT4.below hb8
      replace HU1 := HU1.below hb8
      replace HU2 := HU2.below hb8
      replace HU3 := HU3.below hb8
      have HB8 := HB7.trans (hb8.mono HB7.size)
      clear hb8 HB7
      go_wp2_with fail
      refine (same_any _ _ _ c2 d1 _ l1 HT2 HU1).mono ?_
      rintro e w9 ⟨rfl, hb9⟩
      replace HT3 := HT3.below hb9
      replace HT4 := HT4.below hb9
      replace HU2 := HU2.below hb9
      replace HU3 := HU3.below hb9
      have HB9 := HB8.trans (hb9.mono HB8.size)
      clear hb9 HB8
      go_wp2_with fail
      refine (same_any _ _ _ c3 d2 _ l2 HT3 HU2).mono ?_
      rintro e w10 ⟨rfl, hb10⟩
      replace HT4 := HT4.below hb10
      replace HU3 := HU3.below hb10
      have HB10 := HB9.trans (hb10.mono HB9.size)
      clear hb10 HB9
      go_wp2_with fail
      refine (same_any _ _ _ c4 d3 _ l3 HT4 HU3).mono ?_
      rintro e w11 ⟨rfl, hb11⟩
      go_wp2
      go_ret
      exact ⟨rfl, HB10.trans (hb11.mono HB10.size)⟩

end Go.Proofs.Ytaioefimgggfkaa
