/-
  What the reference's TableDrop returns, of a key that a table has.
-/
import Derived.Test.YtaioefimgggfkaaTableRef3
import Derived.Test.YtaioefimgggfkaaTableRef2
namespace Go.Proofs.Ytaioefimgggfkaa
open Go.RowKit
set_option linter.unusedVariables false

/-- A table comes back. -/
def DropRef (R : List Sl) (w : World) (e : Ending) (w' : World) : Prop := ∃ A c, e = .returned (.slice A R.length c) ∧ Tab w' A c R ∧ Below w.heap.size w w'
theorem dropRef_own {w w' : World} {g : Nat} {R : List Sl} {n c : Nat} (hn : R.length = n) (hc : n ≤ c) (ho : Own w' g R) (hb : Below w.heap.size w w') : DropRef R w (.returned (.slice (some ⟨g, 0, none⟩) n c)) w' := by
  subst hn; exact ⟨_, _, rfl, ⟨hc, fun _ => ⟨_, _, rfl, ho.tab⟩⟩, hb⟩

set_option maxHeartbeats 4000000 in
set_option maxRecDepth 100000 in
theorem refDrop_any (L : List Sl) (a : Nat) (b o c : Nat) (w : World) (g : Good L) (ha : a < L.length) (hu : (sl L a).used = true) (ht : TabAt w b o L) (hc : L.length ≤ c) :
    Calls Try.prog 14 #[.slice (some ⟨b, o, none⟩) L.length c, .string (sl L a).key] w (DropRef (dropL L a) w) := by
  have p1 := g.pos
  have p2 := g.le
  have HS := Lib.hid (slotI_in g ha hu)
  have HKS := Lib.hid (keys_of g.check)
  clear hu g
  have HOW := own_zero w
  have HCE := Lib.hid (tab_cells (ht.below ((Below.refl _ _).alloc (Nat.le_refl _) (.cells #[] 33))))
  obtain ⟨i0, hi0, hz0, hz1, hz2⟩ := info_parts slot_info
  have HI0 := Lib.hid hi0
  have HZ0 := Lib.hid hz0
  have HZ1 := Lib.hid hz1
  have HZ2 := Lib.hid hz2
  clear hi0 hz0 hz1 hz2
  generalize HKY : (sl L a).key = key at *
  clear HKY
  go_enter Try.func14, Try.ntmps14
  go_wp2_with (at_builtin; refine wpList_append_own _ rfl (.tmp 12) (.tmp 13) _ rfl w.heap.size 33 i0 _ 3 32 Try.underlying22 HI0.out HZ0.out HZ1.out HZ2.out rfl (by omega) (.slice (some ⟨w.heap.size, 0, none⟩) 0 0) 0 [] rfl HOW ⟨b, o, none⟩ L.length c (encL L) rfl (encL_len L) HCE.out (one_cells L) (by simp only [maxLen]; omega) (by omega) (by simp) ?_; intro v1 w1 hown1 hg1 hat1)
  simp only [Nat.zero_add, List.nil_append] at hown1
  obtain ⟨g, c1, rfl, hz, hc1, HO⟩ := own_of hown1 p1
  have HB1 : Below w.heap.size w w1 := below_grown hg1 (Nat.le_refl _)
  clear hown1 hg1 hat1 HOW HCE
  have hT1 : Tab w1 (some ⟨b, o, none⟩) c L := ⟨hc, fun _ => ⟨_, _, rfl, ht.below HB1⟩⟩
  go_wp2_with fail
  refine (slotOf_any _ c L key _ hT1 p2).mono ?_
  rintro e w2 ⟨rfl, rfl⟩
  rw [HS.out]
  obtain ⟨e0, e1, e2⟩ := HO.at_ (i := a) ha
  have f0 := HO.frozen (a * 3)
  have f1 := HO.frozen (a * 3 + 1)
  have f2 := HO.frozen (a * 3 + 2)
  have HO2 := HO.set_ ha Sl.no
  have HB3 : Below w.heap.size w (((w1.setCell ⟨g, a * 3, none⟩ (.bool false)).setCell ⟨g, a * 3 + 1, none⟩ (.string ⟨#[]⟩)).setCell ⟨g, a * 3 + 2, none⟩ (.int .i64 0)) := ((HB1.setCell hz _).setCell hz _).setCell hz _
  go_wp2
  clear e0 e1 e2 f0 f1 f2
  go_loopw [8, 9] (fun ev av wr => ∃ (d : Nat) (R : List Sl) (e : Nat), 1 ≤ d ∧ d ≤ L.length ∧ Hid (R.length = L.length) ∧ e < L.length ∧ Hid (∃ x, x < d ∧ e = ps L.length a x) ∧ ev = .int .i64 e ∧ av = .int .i64 (d : Nat) ∧ Own wr g R ∧ Below w.heap.size w wr ∧
      Hid (delL L.length a (L.length - d) d R e = dropL L a) ∧ Hid (∀ i, i < R.length → (sl R i).key.size ≤ 40)) (fun _ av _ => L.length - (intOf av).toNat)
  case atStart => exact ⟨1, L.set a Sl.no, a, by omega, by omega, Lib.hid (by simp), ha, Lib.hid ⟨0, by omega, (ps_zero ha).symm⟩, rfl, rfl, HO2, HB3, Lib.hid rfl, Lib.hid (keys_set HKS.out (by decide))⟩
  case round =>
    clear HO2 HB3
    obtain ⟨d, R, e, hd1, hd2, HRL, hel, HNE, rfl, rfl, HOR, HBR, HDL, HKR⟩ := hrel
    have hrl : R.length ≤ L.length := by rw [HRL.out]; exact Nat.le_refl _
    have hrl2 : L.length ≤ R.length := by rw [HRL.out]; exact Nat.le_refl _
    by_cases hD : d < L.length
    · have hlt := ps_lt ha (d := d) (by omega)
      have hmod := ps_int ha (d := d) (by omega)
      have hne1 : e ≠ ps L.length a d := by
        obtain ⟨x, hx, hy⟩ := HNE.out
        intro hz
        have := ps_inj ha (by omega) hD (hy.symm.trans hz)
        omega
      have HNE2 : Hid (∃ x, x < d + 1 ∧ ps L.length a d = ps L.length a x) := Lib.hid ⟨d, by omega, rfl⟩
      have HNE3 : Hid (∃ x, x < d + 1 ∧ e = ps L.length a x) := Lib.hid (by obtain ⟨x, hx, hy⟩ := HNE.out; exact ⟨x, by omega, hy⟩)
      have HF2 : Hid (L.length - d = (L.length - (d + 1)) + 1) := Lib.hid (by omega)
      obtain ⟨c0, c1, c2⟩ := HOR.at_ (i := ps L.length a d) (by omega)
      have hks := HKR.out (ps L.length a d) (by omega)
      have hgr := HOR.lt
      have HMV : Hid ((sl R (ps L.length a d)).used = true → passB (sl R (ps L.length a d)).key L.length e (ps L.length a d) = true → delL L.length a (L.length - (d + 1)) (d + 1) ((R.set e (sl R (ps L.length a d))).set (ps L.length a d) Sl.no) (ps L.length a d) = dropL L a) :=
        Lib.hid (fun h1 h2 => by rw [← HDL.out, HF2.out, delL_move h1 h2])
      have HST : Hid ((sl R (ps L.length a d)).used = true → passB (sl R (ps L.length a d)).key L.length e (ps L.length a d) = false → delL L.length a (L.length - (d + 1)) (d + 1) R e = dropL L a) :=
        Lib.hid (fun h1 h2 => by rw [← HDL.out, HF2.out, delL_stay h1 h2])
      have HSP : Hid ((sl R (ps L.length a d)).used = false → R = dropL L a) := Lib.hid (fun h1 => by rw [← HDL.out, HF2.out, delL_stop h1])
      generalize ps L.length a d = q at *
      by_cases hu : (sl R q).used = true
      · rw [hu] at c0
        have HU := Lib.hid hu
        have HETA : Hid ((⟨true, (sl R q).key, (sl R q).val⟩ : Sl) = sl R q) := Lib.hid (sl_eta hu)
        clear hu
        have HL := homeN_lt (sl R q).key L.length (by omega)
        have HP1 := Lib.hid (ps_ds HL hlt)
        have HP2 := Lib.hid (ps_ds HL hel)
        have l1 := ds_lt HL hlt
        have l2 := ds_lt HL hel
        have HPA : Hid (passB (sl R q).key L.length e q = decide (ds L.length (homeN (sl R q).key L.length) e ≤ ds L.length (homeN (sl R q).key L.length) q)) := Lib.hid rfl
        go_wp2_with fail
        refine (refHome_any _ _ _ hks (by omega) (by omega)).mono ?_
        rintro r w4 ⟨rfl, rfl⟩
        generalize homeN (sl R q).key L.length = h at *
        go_wp2
        go_loop [11] (fun kv => ∃ x : Nat, x ≤ ds L.length h q ∧ x ≤ ds L.length h e ∧ kv = .int .i64 (ps L.length h x : Nat)) (fun kv => ds L.length (intOf kv).toNat q)
        case atStart => exact ⟨0, by omega, by omega, by rw [ps_zero HL]⟩
        case round =>
          obtain ⟨x, hx1, hx2, rfl⟩ := hrel
          have hpl := ps_lt HL (d := x) (by omega)
          by_cases hxq : x = ds L.length h q
          · have hE : ps L.length h x = q := by rw [hxq, HP1.out]
            rw [hE]
            clear hE
            have hne2 : ¬ ds L.length h e ≤ ds L.length h q := by
              intro z
              have hz2 : ds L.length h e = ds L.length h q := by omega
              have := HP1.out
              rw [← hz2, HP2.out] at this
              exact hne1 this
            have HPF : Hid (passB (sl R q).key L.length e q = false) := Lib.hid (by rw [HPA.out]; simpa using hne2)
            have q1 : ((q : Int) == (e : Int)) = false := bd_eq (by omega)
            have q2 : ((q : Int) != (e : Int)) = true := bd_ne (by omega)
            clear hxq hne2
            go_wp2
            go_roundw
            case rel => exact ⟨d + 1, R, e, by omega, by omega, HRL, hel, HNE3, rfl, by go_num, HOR, HBR, Lib.hid (HST.out HU.out HPF.out), HKR⟩
            case measure => simp [intOf]; omega
          · have hneq : ps L.length h x ≠ q := fun z => hxq (ps_inj HL (by omega) l1 (z.trans HP1.out.symm))
            have q3 : ((ps L.length h x : Int) == (q : Int)) = false := bd_eq (by omega)
            have q4 : ((ps L.length h x : Int) != (q : Int)) = true := bd_ne (by omega)
            by_cases hxe : x = ds L.length h e
            · have hE : ps L.length h x = e := by rw [hxe, HP2.out]
              have HPT : Hid (passB (sl R q).key L.length e q = true) := Lib.hid (by rw [HPA.out, ← hxe]; simpa using hx1)
              rw [hE] at q3 q4 ⊢
              clear hE hxe hxq hneq
              obtain ⟨e0, e1, e2⟩ := HOR.at_ (i := e) (by omega)
              have f0 := HOR.frozen (e * 3)
              have f1 := HOR.frozen (e * 3 + 1)
              have f2 := HOR.frozen (e * 3 + 2)
              have HO3 := HOR.set_ (i := e) (by omega) ⟨true, (sl R q).key, (sl R q).val⟩
              obtain ⟨g0, g1, g2⟩ := HO3.at_ (i := q) (by simp; omega)
              have k0 := HO3.frozen (q * 3)
              have k1 := HO3.frozen (q * 3 + 1)
              have k2 := HO3.frozen (q * 3 + 2)
              go_wp2
              go_roundw
              case rel => exact ⟨d + 1, (R.set e (sl R q)).set q Sl.no, q, by omega, by omega, Lib.hid (by simp [HRL.out]), hlt, HNE2, rfl, by go_num, by
                rw [← HETA.out]
                exact HO3.set_ (i := q) (by rw [List.length_set]; omega) Sl.no, (((((HBR.setCell hz _).setCell hz _).setCell hz _).setCell hz _).setCell hz _).setCell hz _, Lib.hid (HMV.out HU.out HPT.out), Lib.hid (keys_set (keys_set HKR.out hks) (by decide))⟩
              case measure => simp [intOf]; omega
            · have hnee : ps L.length h x ≠ e := fun z => hxe (ps_inj HL (by omega) l2 (z.trans HP2.out.symm))
              have q5 : ((ps L.length h x : Int) == (e : Int)) = false := bd_eq (by omega)
              have q6 : ((ps L.length h x : Int) != (e : Int)) = true := bd_ne (by omega)
              have HN := Lib.hid (nx_ps HL (d := x) (by omega))
              have HNI := Lib.hid (nx_int hpl)
              have HMS := Lib.hid (ds_nx hpl hlt hneq)
              go_wp2
              go_round
              case rel => exact ⟨x + 1, by omega, by omega, by rw [HNI.out, HN.out]⟩
              case measure => rw [HNI.out]; simp only [intOf, Int.toNat_natCast]; exact HMS.out
      · have hu : (sl R q).used = false := by simpa using hu
        rw [hu] at c0
        have HX := Lib.hid (HSP.out hu)
        clear hu
        go_wp2
        go_ret
        rw [← HX.out]
        exact dropRef_own HRL.out hc1 HOR HBR
    · obtain rfl : d = L.length := by omega
      have HX : Hid (R = dropL L a) := Lib.hid (by rw [← HDL.out, Nat.sub_self]; rfl)
      go_wp2
      go_ret
      rw [← HX.out]
      exact dropRef_own HRL.out hc1 HOR HBR

end Go.Proofs.Ytaioefimgggfkaa
