/-
  The walk of the law that compares package sketch with its reference.
-/
import Derived.Test.YtmjoiakggckeoaaSketchSpecMem
import Derived.StillTailTactics
namespace Go.Proofs.Ytmjoiakggckeoaa.Skt
open Go.RowKit
set_option linter.unusedVariables false

/-- The box of the first sketch stands, and all that lay in w0. -/
abbrev S6 (n : Nat) (S : Sk) (A : Option Addr) (c : Nat) (w0 w' : World) : Prop :=
  w'.cell? ⟨n, 0, none⟩ = some (.int .i64 S.wide) ∧ w'.cell? ⟨n, 1, none⟩ = some (.slice A S.rows.length c) ∧ Below w0.heap.size w0 w'
theorem S6.bel {n : Nat} {S : Sk} {A : Option Addr} {c : Nat} {w0 w' : World} (h : S6 n S A c w0 w') : Below w0.heap.size w0 w' := h.2.2

theorem S6.next {n : Nat} {S : Sk} {A : Option Addr} {c : Nat} {w0 w' w'' : World} (h : S6 n S A c w0 w') (hn : n < w0.heap.size) (hb : Below w'.heap.size w' w'') : S6 n S A c w0 w'' :=
  ⟨(hb.cell (p := ⟨n, 0, none⟩) (Nat.lt_of_lt_of_le hn h.2.2.size)).trans h.1, (hb.cell (p := ⟨n, 1, none⟩) (Nat.lt_of_lt_of_le hn h.2.2.size)).trans h.2.1, h.2.2.trans (hb.mono h.2.2.size)⟩

/-- Behind the string's part. -/
def CutA (S : Sk) (s : ByteArray) (n : Int) (w8 : World) (s21 s27 : Value) (wx : World) : Prop :=
  ∃ G, s21 = .int .i64 (errA S s n) ∧ s27 = .int .i64 (estM S s) ∧ (errA S s n = 0 → G = addL S s n) ∧ VQ wx (w8.heap.size + 3) w8.heap.size G ∧ VQ wx (w8.heap.size + 3) (w8.heap.size + 1) Sk.no ∧ VQ wx (w8.heap.size + 3) (w8.heap.size + 2) Sk.no ∧ Below w8.heap.size w8 wx
/-- Behind the reference's part. -/
def CutB (S T : Sk) (G : Sk) (w8 : World) (s22 s23 s28 : Value) (wx : World) : Prop :=
  ∃ G2 G3, s22 = .int .i64 (errM S T) ∧ s23 = .int .i64 (errH S) ∧ s28 = .int .i64 (totM S) ∧ (errM S T = 0 → G2 = merL S T) ∧ (errH S = 0 → G3 = halL S) ∧ VQ wx (w8.heap.size + 3) w8.heap.size G ∧ VQ wx (w8.heap.size + 3) (w8.heap.size + 1) G2 ∧ VQ wx (w8.heap.size + 3) (w8.heap.size + 2) G3 ∧ Below w8.heap.size w8 wx

theorem vq_three (w : World) :
    VQ (((w.alloc z2).alloc z2).alloc z2) (w.heap.size + 3) w.heap.size Sk.no ∧ VQ (((w.alloc z2).alloc z2).alloc z2) (w.heap.size + 3) (w.heap.size + 1) Sk.no ∧ VQ (((w.alloc z2).alloc z2).alloc z2) (w.heap.size + 3) (w.heap.size + 2) Sk.no ∧ Below w.heap.size w (((w.alloc z2).alloc z2).alloc z2) := by
  have b1 : Below (w.alloc z2).heap.size (w.alloc z2) ((w.alloc z2).alloc z2) := (Below.refl _ _).alloc (Nat.le_refl _) _
  have b2 : Below ((w.alloc z2).alloc z2).heap.size ((w.alloc z2).alloc z2) (((w.alloc z2).alloc z2).alloc z2) := (Below.refl _ _).alloc (Nat.le_refl _) _
  have h1 := vq_new (w := w) (base := w.heap.size + 3) z2 rfl (by omega)
  have h2 := vq_new (w := w.alloc z2) (base := w.heap.size + 3) z2 rfl (by simp)
  have h3 := vq_new (w := (w.alloc z2).alloc z2) (base := w.heap.size + 3) z2 rfl (by simp)
  rw [show (w.alloc z2).heap.size = w.heap.size + 1 by simp] at h2
  rw [show ((w.alloc z2).alloc z2).heap.size = w.heap.size + 2 by simp] at h3
  exact ⟨(h1.below b1).below b2, h2.below b2, h3, (((Below.refl _ w).alloc (Nat.le_refl _) _).alloc (by simp) _).alloc (by simp; omega) _⟩

set_option maxHeartbeats 20000000 in
set_option maxRecDepth 100000 in
theorem sketchSpec_walk (S : Sk) (A : Option Addr) (c : Nat) (T : Sk) (B : Option Addr) (d : Nat) (s : ByteArray) (n : Int) (w : World) (hg : Grid 0 w A c S.rows) (hg' : Grid 0 w B d T.rows) (hs : s.size ≤ maxLen) :
    Calls Try.prog 3 #[sv S A c, sv T B d, .string s, .int .i64 n] w fun e w' => e = .returned (.bool true) ∧ Below w.heap.size w w' := by
  have X0 := (Bx.new (S := S) hg).alloc (so T B d)
  have Y0 : Bx ((w.alloc (so S A c)).alloc (so T B d)) (w.heap.size + 1) T B d := by
    have h := Bx.new (S := T) (hg'.alloc (so S A c))
    rwa [show (w.alloc (so S A c)).heap.size = w.heap.size + 1 by simp] at h
  have HB0 : Below w.heap.size w ((w.alloc (so S A c)).alloc (so T B d)) := ((Below.refl _ _).alloc (Nat.le_refl _) _).alloc (by simp) _
  have HX := Lib.hid X0
  have HY := Lib.hid Y0
  clear X0 Y0 hg hg'
  go_enter Try.func3, Try.ntmps3
  go_wp2_with fail
  refine (add_any 0 S A c s n _ HX.out.grid hs).mono ?_
  rintro e w1 ⟨A1, c1, rfl, hg1, hb1⟩
  have X1 := (HX.out.below hb1).alloc (so (addM S s n) A1 c1)
  have Y1 := (HY.out.below hb1).alloc (so (addM S s n) A1 c1)
  have U1 := Bx.new (hg1.mono (Nat.zero_le _))
  have HB1 := bel_al (HB0.trans (hb1.mono HB0.size)) (Nat.le_refl _) (so (addM S s n) A1 c1)
  clear hb1 HB0 hg1 HX HY
  have HX := Lib.hid X1
  have HY := Lib.hid Y1
  have HU := Lib.hid U1
  obtain ⟨-, x1, x2, -⟩ := X1
  obtain ⟨-, y1, y2, -⟩ := Y1
  obtain ⟨-, u1, u2, -⟩ := U1
  go_wp2_with fail
  refine (estimate_any 0 S A c s _ HX.out.grid hs).mono ?_
  rintro e w2 ⟨rfl, hb2⟩
  have X2 := (HX.out.below hb2)
  have Y2 := (HY.out.below hb2)
  have U2 := (HU.out.below hb2)
  have HB2 := HB1.trans (hb2.mono HB1.size)
  clear hb2 HB1 HX x1 x2 HY y1 y2 HU u1 u2
  have HX := Lib.hid X2
  have HY := Lib.hid Y2
  have HU := Lib.hid U2
  obtain ⟨-, x1, x2, -⟩ := X2
  obtain ⟨-, y1, y2, -⟩ := Y2
  obtain ⟨-, u1, u2, -⟩ := U2
  go_wp2_with fail
  refine (merge_any 0 0 S T A B c d _ HX.out.grid HY.out.grid).mono ?_
  rintro e w3 ⟨A3, c3, rfl, hg3, hb3⟩
  have X3 := (HX.out.below hb3).alloc (so (merM S T) A3 c3)
  have Y3 := (HY.out.below hb3).alloc (so (merM S T) A3 c3)
  have U3 := (HU.out.below hb3).alloc (so (merM S T) A3 c3)
  have M3 := Bx.new (hg3.mono (Nat.zero_le _))
  have HB3 := bel_al (HB2.trans (hb3.mono HB2.size)) (Nat.le_refl _) (so (merM S T) A3 c3)
  clear hb3 HB2 hg3 HX x1 x2 HY y1 y2 HU u1 u2
  have HX := Lib.hid X3
  have HY := Lib.hid Y3
  have HU := Lib.hid U3
  have HM := Lib.hid M3
  obtain ⟨-, x1, x2, -⟩ := X3
  obtain ⟨-, y1, y2, -⟩ := Y3
  obtain ⟨-, u1, u2, -⟩ := U3
  obtain ⟨-, m1, m2, -⟩ := M3
  go_wp2_with fail
  refine (halve_any 0 S A c _ HX.out.grid).mono ?_
  rintro e w4 ⟨A4, c4, rfl, hg4, hb4⟩
  have X4 := (HX.out.below hb4).alloc (so (halM S) A4 c4)
  have Y4 := (HY.out.below hb4).alloc (so (halM S) A4 c4)
  have U4 := (HU.out.below hb4).alloc (so (halM S) A4 c4)
  have M4 := (HM.out.below hb4).alloc (so (halM S) A4 c4)
  have V4 := Bx.new (hg4.mono (Nat.zero_le _))
  have HB4 := bel_al (HB3.trans (hb4.mono HB3.size)) (Nat.le_refl _) (so (halM S) A4 c4)
  clear hb4 HB3 hg4 HX x1 x2 HY y1 y2 HU u1 u2 HM m1 m2
  have HX := Lib.hid X4
  have HY := Lib.hid Y4
  have HU := Lib.hid U4
  have HM := Lib.hid M4
  have HV := Lib.hid V4
  obtain ⟨-, x1, x2, -⟩ := X4
  obtain ⟨-, y1, y2, -⟩ := Y4
  obtain ⟨-, u1, u2, -⟩ := U4
  obtain ⟨-, m1, m2, -⟩ := M4
  obtain ⟨-, v1, v2, -⟩ := V4
  go_wp2_with fail
  refine (total_any 0 S A c _ HX.out.grid).mono ?_
  rintro e w5 ⟨rfl, hb5⟩
  have X5 := (HX.out.below hb5)
  have Y5 := (HY.out.below hb5)
  have U5 := (HU.out.below hb5)
  have M5 := (HM.out.below hb5)
  have V5 := (HV.out.below hb5)
  have HB5 := HB4.trans (hb5.mono HB4.size)
  clear hb5 HB4 HX x1 x2 HY y1 y2 HU u1 u2 HM m1 m2 HV v1 v2
  have HX := Lib.hid X5
  have HY := Lib.hid Y5
  have HU := Lib.hid U5
  have HM := Lib.hid M5
  have HV := Lib.hid V5
  obtain ⟨-, x1, x2, -⟩ := X5
  obtain ⟨-, y1, y2, -⟩ := Y5
  obtain ⟨-, u1, u2, -⟩ := U5
  obtain ⟨-, m1, m2, -⟩ := M5
  obtain ⟨-, v1, v2, -⟩ := V5
  have hnX := HX.out.1
  have hnY := HY.out.1
  generalize w1.heap.size = g1 at *
  generalize w3.heap.size = g3 at *
  generalize w4.heap.size = g4 at *
  generalize hEA : errA S s n = ea at *
  generalize hES : estM S s = es at *
  generalize hEM : errM S T = em at *
  generalize hEH : errH S = eh at *
  generalize hTM : totM S = tm at *
  have HEA := Lib.hid hEA
  have HES := Lib.hid hES
  have HEM := Lib.hid hEM
  have HEH := Lib.hid hEH
  have HTM := Lib.hid hTM
  clear hEA hES hEM hEH hTM
  go_upto_region 6 with fail
  go_cut [19, 20] (fun s19 s20 wx => s19 = .int .i64 (checkS S) ∧ s20 = .int .i64 (errS S s) ∧ Below w5.heap.size w5 wx)
  case first =>
    as_aux_lemma =>
      go_region_held3 (fun w' => w'.cell? ⟨w.heap.size, 0, none⟩ = some (.int .i64 S.wide) ∧ w'.cell? ⟨w.heap.size, 1, none⟩ = some (.slice A S.rows.length c) ∧ Below w5.heap.size w5 w')
        (first | exact ⟨x1, x2, (Below.refl _ _).drew⟩ | exact S6.next ‹_› hnX hb7 | exact S6.next ‹_› hnX hb6)
        (first
          | (go_at_call 9; refine (refCheck_any 0 S A c _ (HX.out.below (S6.bel ‹_›)).grid).mono ?_; rintro e w6 ⟨rfl, hb6⟩)
          | (go_at_call 10; refine (refErr_any 0 S A c s _ (HX.out.below (S6.bel ‹_›)).grid hs).mono ?_; rintro e w7 ⟨rfl, hb7⟩))
      all_goals (rename_i hHH; have HHB := Lib.hid hHH.2.2; clear hHH; go_wp2; go_meet; exact ⟨rfl, rfl, HHB.out⟩)
  case rest =>
    as_aux_lemma =>
      obtain ⟨rfl, rfl, hbc⟩ := hcut
      rename World => w8
      have HX8 := Lib.hid (HX.out.below hbc)
      have HY8 := Lib.hid (HY.out.below hbc)
      have HU8 := Lib.hid (HU.out.below hbc)
      have HM8 := Lib.hid (HM.out.below hbc)
      have HV8 := Lib.hid (HV.out.below hbc)
      have HB8 := Lib.hid (HB5.trans (hbc.mono HB5.size))
      have hy8 : w.heap.size + 1 < w8.heap.size := HY8.out.1
      clear hbc HX HY HU HM HV HB5 x1 x2 y1 y2 u1 u2 m1 m2 v1 v2 hnX hnY
      generalize hCK : checkS S = ck at *
      generalize hER : errS S s = er at *
      have HCK := Lib.hid hCK
      have HER := Lib.hid hER
      clear hCK hER
      go_upto_if 73 with fail
      go_cut [21, 27] (fun s21 s27 wx => CutA S s n w8 s21 s27 wx)
      case first =>
        as_aux_lemma =>
          obtain ⟨h24, h25, h26, hb9⟩ := vq_three w8
          have hz9 : w8.heap.size + 3 = (((w8.alloc z2).alloc z2).alloc z2).heap.size := by simp
          clear HU8 HM8 HV8 HB8
          generalize ((w8.alloc z2).alloc z2).alloc z2 = w9 at *
          by_cases e0 : er = 0
          · subst e0
            obtain ⟨gg, hsz⟩ := errS_ok HER.out
            have HG := Lib.hid gg
            have l1 := gg.l1
            have l2 := gg.l2
            have wd1 := gg.w1
            have wd2 := gg.w2
            clear gg
            obtain ⟨_, x1, x2, _⟩ := HX8.out.below hb9
            go_wp2_with fail
            refine (refCopy_any 0 S A c _ (HX8.out.below hb9).grid HG.out.toFine).mono ?_
            rintro e w10 ⟨A', c', rfl, hm10, hb10⟩
            have h24' := h24.below hb10
            have hV := h24'.put hm10 (by omega)
            have hGb : w9.grownBy ((w10.setCell ⟨w8.heap.size, 0, none⟩ (.int .i64 S.wide)).setCell ⟨w8.heap.size, 1, none⟩ (.slice A' S.rows.length c')) (some w8.heap.size) := gb_set (gb_set (gb_next (gb_refl w9 _) (Nat.le_refl _) hb10) 0 _) 1 _
            have hM11 : MG ((w10.setCell ⟨w8.heap.size, 0, none⟩ (.int .i64 S.wide)).setCell ⟨w8.heap.size, 1, none⟩ (.slice A' S.rows.length c')) w9.heap.size (.slice A' S.rows.length c') S.rows := (hm10.setCell (p := ⟨w8.heap.size, 0, none⟩) (by show w8.heap.size < w9.heap.size; omega) _).setCell (p := ⟨w8.heap.size, 1, none⟩) (by show w8.heap.size < w9.heap.size; omega) _
            obtain ⟨_, _, z0, zf0, zf1, _, _, z1, _⟩ := h24'
            have HM11 := Lib.hid hM11
            have HGb := Lib.hid hGb
            have HV11 := Lib.hid hV
            clear hb10 hm10 x1 x2 hM11 hGb hV
            have z1' : ((w10.setCell ⟨w8.heap.size, 0, none⟩ (.int .i64 S.wide)).setCell ⟨w8.heap.size, 1, none⟩ (.slice A' S.rows.length c')).cell? ⟨w8.heap.size, 1, none⟩ = some (.slice A' S.rows.length c') := by simp [go_sem, z1]
            go_wp2
            generalize ((w10.setCell ⟨w8.heap.size, 0, none⟩ (.int .i64 S.wide)).setCell ⟨w8.heap.size, 1, none⟩ (.slice A' S.rows.length c')) = w11 at *
            have hz11 : w8.heap.size < w9.heap.size := by omega
            have hB9 := Lib.hid hb9
            have HB11 : Hid (Below w8.heap.size w8 w11) := Lib.hid (hb9.trans (gb_below HGb.out (Nat.le_refl _) (by omega)))
            have hs11 : w9.heap.size ≤ w11.heap.size := HGb.out.size
            clear hb9 z0 z1 zf0 zf1
            have z1 := z1'
            clear z1'
            obtain ⟨-, -, z0, zf0, zf1, -, -, -, -⟩ := id HV11.out
            generalize hh : S.rows.length = h at *
            have HH := Lib.hid hh
            clear hh
            go_loopw [27, 29] (fun u i wr => ∃ k : Nat, k ≤ h ∧ i = .int .i64 (k : Int) ∧ u = .int .i64 (est2 (cnt S s) k) ∧ MG wr w9.heap.size (.slice A' h c') (gk S s n k).rows ∧ Below w9.heap.size w11 wr) (fun _ i _ => h - (intOf i).toNat)
            case atStart => exact ⟨0, by omega, rfl, rfl, by rw [gk_zero]; exact HM11.out, Below.refl _ _⟩
            case round =>
              obtain ⟨k, hk, rfl, rfl, hMk, HBk⟩ := hrel
              have HBw : Hid (Below w8.heap.size w8 wr) := Lib.hid (HB11.out.trans (HBk.mono (by omega)))
              obtain ⟨-, x1, x2, xg⟩ := HX8.out.below HBw.out
              rw [HH.out] at x2
              have q1 := (HBk.cell (p := ⟨w8.heap.size, 1, none⟩) hz11).trans z1
              by_cases hlt : k < h
              · obtain ⟨b, o, rfl, hb, _, hr⟩ := xg.2.2.2 (by rw [HH.out]; omega)
                obtain ⟨A2, c2, e2, i2, _⟩ := hr k (by rw [HH.out]; exact hlt)
                have hp := plc_lt' HG.out.toFine s (r := k) (by rw [HH.out]; exact hlt)
                obtain ⟨b2, o2, rfl, t2⟩ := i2.2.2.2 (by omega)
                have e3 := t2.2 _ hp
                have hkn : (k : Int) < (h : Int) := by omega
                have hbd := HG.out.bd k (by rw [HH.out]; exact hlt) _ hp
                have hpn : ((plc S s k : Nat) : Int) < ((gl S.rows k).length : Int) := by omega
                have hl64 := (HG.out.toFine.summed k (by rw [HH.out]; exact hlt)).2
                have HPl : Hid (∀ W, Calls Try.prog 12 #[.string s, .int .i64 (k : Int), .int .i64 S.wide] W fun e w' => e = .returned (.int .i64 ((plc S s k : Nat) : Int)) ∧ W = w') := Lib.hid (fun W => refPlace_any S s k W hsz (by omega) wd1 wd2)
                have HMin : Hid (est2 (cnt S s) (k + 1) = min (est2 (cnt S s) k) (gi (gl S.rows k) (plc S s k))) := Lib.hid rfl
                clear hr t2 i2 xg
                by_cases hn : 1 ≤ n ∧ n ≤ 1099511627776
                · have p1 : decide (0 < n) = true := by simp; omega
                  have p2 : decide (n ≤ 1099511627776) = true := by simp; omega
                  rw [gk_in hn] at hMk
                  have hMk' : MG wr w9.heap.size (.slice A' (part (addF S s n) S.rows k 0).length c') (part (addF S s n) S.rows k 0) := by rw [part_len, HH.out]; exact hMk
                  obtain ⟨g, hbk, cp, rfl, hg0, hgn, hg1, m1, m2, m3, m4⟩ := hMk'.at (r := k) (j := plc S s k) (by rw [part_len, HH.out]; exact hlt) (by rw [len_part]; exact hp)
                  have m4' := m4 (gi (gl S.rows k) (plc S s k) + n)
                  rw [part_add (by rw [HH.out]; exact hlt) hp, part_len, HH.out, ← gk_in hn (k + 1)] at m4'
                  rw [len_part] at m1
                  rw [part_at hp (Nat.zero_le _)] at m2
                  have HM4 := Lib.hid m4'
                  have n1 := hn.1
                  have n2 := hn.2
                  clear hMk hMk' m4 m4' hn
                  generalize hgy : gi (gl S.rows k) (plc S s k) = y at *
                  clear hgy
                  generalize hgp : plc S s k = p at *
                  clear hgp
                  generalize (gl S.rows k).length = l at *
                  go_wp2_with fail
                  refine (HPl.out _).mono ?_
                  rintro e w12 ⟨rfl, rfl⟩
                  go_wp2
                  go_roundw
                  case rel => exact ⟨k + 1, by omega, by go_num, by rw [HMin.out, min_if], HM4.out, HBk.setCell (p := ⟨hbk, p, none⟩) hg1 _⟩
                  case measure => simp [intOf]; omega
                · have HM4 : Hid (MG wr w9.heap.size (.slice A' h c') (gk S s n (k + 1)).rows) := Lib.hid (by rw [gk_out hn] at hMk ⊢; exact hMk)
                  clear hMk
                  generalize hgy : gi (gl S.rows k) (plc S s k) = y at *
                  clear hgy
                  generalize hgp : plc S s k = p at *
                  clear hgp
                  generalize (gl S.rows k).length = l at *
                  by_cases hn1 : 0 < n
                  · have p1 : decide (0 < n) = true := by simpa using hn1
                    have p2 : decide (n ≤ 1099511627776) = false := by simp; omega
                    clear hn hn1
                    go_wp2_with fail
                    refine (HPl.out _).mono ?_
                    rintro e w12 ⟨rfl, rfl⟩
                    go_wp2
                    go_roundw
                    case rel => exact ⟨k + 1, by omega, by go_num, by rw [HMin.out, min_if], HM4.out, HBk⟩
                    case measure => simp [intOf]; omega
                  · have p1 : decide (0 < n) = false := by simpa using hn1
                    clear hn hn1
                    go_wp2_with fail
                    refine (HPl.out _).mono ?_
                    rintro e w12 ⟨rfl, rfl⟩
                    go_wp2
                    go_roundw
                    case rel => exact ⟨k + 1, by omega, by go_num, by rw [HMin.out, min_if], HM4.out, HBk⟩
                    case measure => simp [intOf]; omega
              · obtain rfl : k = h := by omega
                have HEst : Hid (est2 (cnt S s) k = estM S s) := Lib.hid (by
                  unfold estM estL
                  rw [if_pos HER.out, HH.out]
                  exact est2_eq (fun r hr => (HG.out.bd r (by rw [HH.out]; exact hr) _ (plc_lt' HG.out.toFine s (by rw [HH.out]; exact hr))).2) l1)
                have q0 := (HBk.cell (p := ⟨w8.heap.size, 0, none⟩) hz11).trans z0
                have qf0 := (HBk.frozen (p := ⟨w8.heap.size, 0, none⟩) hz11).trans zf0
                have qf1 := (HBk.frozen (p := ⟨w8.heap.size, 1, none⟩) hz11).trans zf1
                have hGb2 : w9.grownBy wr (some w8.heap.size) := gb_next HGb.out (Nat.le_refl _) HBk
                have H25 := Lib.hid (h25.gb hGb2 (by omega) (by omega))
                have H26 := Lib.hid (h26.gb hGb2 (by omega) (by omega))
                have HVA : Hid (VQ wr (w8.heap.size + 3) w8.heap.size (gk S s n k)) := Lib.hid ⟨Nat.lt_of_lt_of_le hz11 (Nat.le_trans hs11 HBk.size), by omega, by rw [gk_wide]; exact q0, qf0, qf1, A', c', by rw [gk_rows, HH.out]; exact q1, by rw [gk_rows, HH.out]; exact hMk.mono (by omega)⟩
                have HGA : Hid (Grid 0 wr A' c' (gk S s n k).rows) := Lib.hid (MG.grid0 (base := w9.heap.size) (by rw [gk_rows, HH.out]; exact hMk))
                clear hMk xg hGb2 qf0 qf1 h25 h26 h24
                rw [HEst.out]
                have HBk2 := Lib.hid HBk
                by_cases hn1 : n < 1
                · have p1 : decide (n < 1) = true := by simpa using hn1
                  have HE3 : Hid (errA S s n = 3) := Lib.hid (errA_range HER.out (.inl hn1)).1
                  clear hn1
                  go_wp2
                  go_meet
                  exact ⟨gk S s n k, by rw [HE3.out], rfl, fun h => by rw [HE3.out] at h; omega, HVA.out, H25.out, H26.out, HBw.out⟩
                · have p1 : decide (n < 1) = false := by simpa using hn1
                  by_cases hn2 : 1099511627776 < n
                  · have p2 : decide (1099511627776 < n) = true := by simpa using hn2
                    have HE3 : Hid (errA S s n = 3) := Lib.hid (errA_range HER.out (.inr hn2)).1
                    clear hn1 hn2
                    go_wp2
                    go_meet
                    exact ⟨gk S s n k, by rw [HE3.out], rfl, fun h => by rw [HE3.out] at h; omega, HVA.out, H25.out, H26.out, HBw.out⟩
                  · have p2 : decide (1099511627776 < n) = false := by simpa using hn2
                    have hAll : gk S s n k = addL S s n := by rw [← HH.out]; exact gk_all ⟨by omega, by omega⟩
                    have hCh : errA S s n = if fits (addL S s n).rows then 0 else 8 := by rw [(errA_chg HER.out (show 1 ≤ n by omega) (by omega)).1, chgE_add]
                    have HAll := Lib.hid hAll
                    have HFit : Hid (∀ W, Grid 0 W A' c' (gk S s n k).rows → Calls Try.prog 13 #[.agg #[.int .i64 S.wide, .slice A' k c']] W fun e w' => e = .returned (.bool (decide (fits (addL S s n).rows))) ∧ Below W.heap.size W w') := Lib.hid (fun W hW => by
                      have := refFits_any 0 (gk S s n k) A' c' W hW
                      rw [sv, gk_wide, gk_rows, HH.out, hAll] at this
                      exact this)
                    by_cases hf : fits (addL S s n).rows
                    · have p3 : decide (fits (addL S s n).rows) = true := by simpa using hf
                      have HE3 : Hid (errA S s n = 0) := Lib.hid (by rw [hCh, if_pos hf])
                      have HE4 := HER
                      clear hn1 hn2 hCh hAll hf
                      go_wp2_with fail
                      refine (HFit.out _ HGA.out).mono ?_
                      rintro e w13 ⟨rfl, hb13⟩
                      rw [p3]
                      go_wp2
                      go_meet
                      exact ⟨gk S s n k, by rw [HE3.out], rfl, fun _ => HAll.out, HVA.out.below hb13, H25.out.below hb13, H26.out.below hb13, HBw.out.trans (hb13.mono HBw.out.size)⟩
                    · have p3 : decide (fits (addL S s n).rows) = false := by simpa using hf
                      have HE3 : Hid (errA S s n = 8) := Lib.hid (by rw [hCh, if_neg hf])
                      clear hn1 hn2 hCh hAll hf
                      go_wp2_with fail
                      refine (HFit.out _ HGA.out).mono ?_
                      rintro e w13 ⟨rfl, hb13⟩
                      rw [p3]
                      go_wp2
                      go_meet
                      exact ⟨gk S s n k, by rw [HE3.out], rfl, fun h => by rw [HE3.out] at h; omega, HVA.out.below hb13, H25.out.below hb13, H26.out.below hb13, HBw.out.trans (hb13.mono HBw.out.size)⟩
          · have hq := bd_eq e0
            have HN0 : Hid (errA S s n = er ∧ estM S s = 0) := Lib.hid (by
              have h : errS S s ≠ 0 := by rw [HER.out]; exact e0
              exact ⟨by rw [(errA_err h).1, HER.out], by unfold estM; rw [if_neg h]⟩)
            have HN1 : Hid (errA S s n ≠ 0) := Lib.hid (by rw [HN0.out.1]; exact e0)
            clear e0
            go_wp2
            go_meet
            exact ⟨Sk.no, by rw [HN0.out.1], by rw [HN0.out.2], fun h => absurd h HN1.out, h24, h25, h26, hb9⟩
      case rest =>
        as_aux_lemma =>
          obtain ⟨G, rfl, rfl, hGA, h24, h25, h26, hbA⟩ := hcut
          rename World => wA
          have HGA := Lib.hid hGA
          clear hGA
          go_upto_if 125 with fail
          go_cut [22, 23, 28] (fun s22 s23 s28 wx => CutB S T G w8 s22 s23 s28 wx)
          case first =>
            as_aux_lemma =>
              clear HU8 HM8 HV8 HB8
              by_cases e0 : ck = 0
              · subst e0
                have gg := good_of HCK.out
                have HG := Lib.hid gg
                have l1 := gg.l1
                have l2 := gg.l2
                have wd1 := gg.w1
                have wd2 := gg.w2
                clear gg
                have hzA : w8.heap.size + 3 ≤ wA.heap.size := by have := h26.1; omega
                obtain ⟨-, x1, x2, xg⟩ := HX8.out.below hbA
                obtain ⟨b0, o0, eA, hb0, -, hr⟩ := xg.2.2.2 (by omega)
                obtain ⟨A0, c0, e0, i0, -⟩ := hr 0 (by omega)
                rw [Nat.add_zero] at e0
                rw [eA] at x2
                have hlr : (0 : Int) < (S.rows.length : Int) := by omega
                have HT0 : Hid (sm (gl S.rows 0) = totM S) := Lib.hid (tot_ok HG.out).symm
                have HS0 := Lib.hid (HG.out.toFine.summed 0 (by omega))
                clear hr xg
                go_wp2_with fail
                refine (sumOf_any A0 c0 _ _ i0 HS0.out.1 HS0.out.2).mono ?_
                rintro e w' ⟨rfl, rfl⟩
                rw [HT0.out]
                clear x1 x2 e0 i0 eA
                have hQ := h26
                obtain ⟨-, x1, x2, -⟩ := HX8.out.below hbA
                go_wp2_with fail
                refine (refCopy_any 0 S A c _ (HX8.out.below hbA).grid HG.out.toFine).mono ?_
                rintro e w10 ⟨A', c', rfl, hm10, hb10⟩
                have hq' := hQ.below hb10
                have hV := hq'.put hm10 hzA
                have hGb : wA.grownBy ((w10.setCell ⟨w8.heap.size + 2, 0, none⟩ (.int .i64 S.wide)).setCell ⟨w8.heap.size + 2, 1, none⟩ (.slice A' S.rows.length c')) (some (w8.heap.size + 2)) := gb_set (gb_set (gb_next (gb_refl wA _) (Nat.le_refl _) hb10) 0 _) 1 _
                have hM11 : MG ((w10.setCell ⟨w8.heap.size + 2, 0, none⟩ (.int .i64 S.wide)).setCell ⟨w8.heap.size + 2, 1, none⟩ (.slice A' S.rows.length c')) wA.heap.size (.slice A' S.rows.length c') S.rows := (hm10.setCell (p := ⟨w8.heap.size + 2, 0, none⟩) (by show w8.heap.size + 2 < wA.heap.size; omega) _).setCell (p := ⟨w8.heap.size + 2, 1, none⟩) (by show w8.heap.size + 2 < wA.heap.size; omega) _
                obtain ⟨-, -, z0, zf0, zf1, _, _, z1, -⟩ := hq'
                have z1' : ((w10.setCell ⟨w8.heap.size + 2, 0, none⟩ (.int .i64 S.wide)).setCell ⟨w8.heap.size + 2, 1, none⟩ (.slice A' S.rows.length c')).cell? ⟨w8.heap.size + 2, 1, none⟩ = some (.slice A' S.rows.length c') := by simp [go_sem, z1]
                have HM11 := Lib.hid hM11
                have HGb := Lib.hid hGb
                have HV11 := Lib.hid hV
                clear hb10 hm10 x1 x2 hM11 hGb hV
                go_wp2
                generalize ((w10.setCell ⟨w8.heap.size + 2, 0, none⟩ (.int .i64 S.wide)).setCell ⟨w8.heap.size + 2, 1, none⟩ (.slice A' S.rows.length c')) = w11 at *
                have hz11 : w8.heap.size + 2 < wA.heap.size := by omega
                have HB11 : Hid (Below w8.heap.size w8 w11) := Lib.hid (hbA.trans (gb_below HGb.out (by omega) (by omega)))
                have hs11 : wA.heap.size ≤ w11.heap.size := HGb.out.size
                clear z0 z1 zf0 zf1
                have z1 := z1'
                clear z1'
                obtain ⟨-, -, z0, zf0, zf1, _, _, -, -⟩ := id HV11.out
                obtain ⟨m, hm⟩ : ∃ m : Nat, S.wide = (m : Int) := ⟨S.wide.toNat, by omega⟩
                have HMw := Lib.hid hm
                have hm64 : m ≤ 64 := by omega
                have HLen : Hid (∀ r, r < S.rows.length → (gl S.rows r).length = m) := Lib.hid (fun r hr => by have := HG.out.len r hr; omega)
                clear hm
                generalize hh : S.rows.length = h at *
                have HH := Lib.hid hh
                clear hh
                go_loopw [31] (fun i wr => ∃ k : Nat, k ≤ h ∧ i = .int .i64 (k : Int) ∧ MG wr wA.heap.size (.slice A' h c') (part halF S.rows k 0) ∧ Below wA.heap.size w11 wr) (fun i _ => h - (intOf i).toNat)
                case atStart => exact ⟨0, by omega, rfl, by rw [part_zero]; exact HM11.out, Below.refl _ _⟩
                case round =>
                  obtain ⟨k, hk, rfl, hMk, HBk⟩ := hrel
                  have q1 := (HBk.cell (p := ⟨w8.heap.size + 2, 1, none⟩) hz11).trans z1
                  by_cases hlt : k < h
                  · have hkn : (k : Int) < (h : Int) := by omega
                    have HMk := Lib.hid hMk
                    have HBK := Lib.hid HBk
                    clear hMk
                    go_wp2
                    go_loopw [32] (fun i wr => ∃ j : Nat, j ≤ m ∧ i = .int .i64 (j : Int) ∧ MG wr wA.heap.size (.slice A' h c') (part halF S.rows k j) ∧ Below wA.heap.size w11 wr) (fun i _ => m - (intOf i).toNat)
                    case atStart => exact ⟨0, by omega, rfl, HMk.out, HBK.out⟩
                    case round =>
                      clear q1 HBk HBK HMk
                      obtain ⟨j, hj, rfl, hMj, HBj⟩ := hrel
                      have HBw : Hid (Below w8.heap.size w8 wr) := Lib.hid (HB11.out.trans (HBj.mono (by omega)))
                      obtain ⟨-, x1, x2, -⟩ := HX8.out.below HBw.out
                      have q1 := (HBj.cell (p := ⟨w8.heap.size + 2, 1, none⟩) hz11).trans z1
                      by_cases hjm : j < m
                      · have hjn : (j : Int) < S.wide := by rw [HMw.out]; omega
                        have hjm' : (j : Int) < (m : Int) := by omega
                        have hkr : k < S.rows.length := by rw [HH.out]; exact hlt
                        have hjl : j < (gl S.rows k).length := by rw [HLen.out k hlt]; exact hjm
                        have hbd := HG.out.bd k hkr j hjl
                        have hMj' : MG wr wA.heap.size (.slice A' (part halF S.rows k j).length c') (part halF S.rows k j) := by rw [part_len, HH.out]; exact hMj
                        obtain ⟨g, hbk, cp, rfl, hg0, hgn, hg1, m1, m2, m3, m4⟩ := hMj'.at (r := k) (j := j) (by rw [part_len]; exact hkr) (by rw [len_part]; exact hjl)
                        have m4' := m4 (halF k j (gi (gl S.rows k) j))
                        rw [part_step hkr hjl, part_len, HH.out] at m4'
                        rw [len_part, HLen.out k hlt] at m1
                        rw [part_at hjl (Nat.le_refl _)] at m2
                        have hFv : halF k j (gi (gl S.rows k) j) = gi (gl S.rows k) j / 2 := rfl
                        rw [hFv] at m4'
                        have HM4 := Lib.hid m4'
                        have HB6 := Lib.hid (HBj.setCell (p := ⟨hbk, j, none⟩) hg1 (.int .i64 (gi (gl S.rows k) j / 2)))
                        clear hMj hMj' m4 m4' hkr hjl hFv HBj HBw
                        generalize hgy : gi (gl S.rows k) j = y at *
                        clear hgy
                        go_wp2
                        go_still_tail 16, (by kernel_rfl)
                        change wpList _ _ _ _ _ wr.drew
                        go_wp2
                        go_roundw
                        case rel => exact ⟨j + 1, by omega, by go_num, by first | exact HM4.out | exact HM4.out.below (Below.refl _ _).drew, by first | exact HB6.out | exact HB6.out.drew⟩
                        case measure => simp [intOf]; omega
                      · obtain rfl : j = m := by omega
                        have hjn : ¬ ((j : Int) < S.wide) := by rw [HMw.out]; omega
                        have HMn : Hid (MG wr wA.heap.size (.slice A' h c') (part halF S.rows (k + 1) 0)) := Lib.hid (by
                          have hr := part_row (halF) S.rows k
                          rw [HLen.out k hlt] at hr
                          rw [← hr]; exact hMj)
                        clear hMj
                        go_wp2
                        go_roundw
                        case rel => exact ⟨k + 1, by omega, by go_num, HMn.out, HBj⟩
                        case measure => simp [intOf]; omega
                  · obtain rfl : k = h := by omega
                    have HAll : Hid (part halF S.rows k 0 = chg halF S.rows) := Lib.hid (by rw [← HH.out]; exact part_all _ _)
                    rw [HAll.out] at hMk
                    have hMk' : MG wr wA.heap.size (.slice A' (chg halF S.rows).length c') (chg halF S.rows) := by rw [chg_len, HH.out]; exact hMk
                    have HBw : Hid (Below w8.heap.size w8 wr) := Lib.hid (HB11.out.trans (HBk.mono (by omega)))
                    have q0 := (HBk.cell (p := ⟨w8.heap.size + 2, 0, none⟩) hz11).trans z0
                    have qf0 := (HBk.frozen (p := ⟨w8.heap.size + 2, 0, none⟩) hz11).trans zf0
                    have qf1 := (HBk.frozen (p := ⟨w8.heap.size + 2, 1, none⟩) hz11).trans zf1
                    have hGb2 : wA.grownBy wr (some (w8.heap.size + 2)) := gb_next HGb.out (Nat.le_refl _) HBk
                    have HVN : Hid (VQ wr (w8.heap.size + 3) (w8.heap.size + 2) ⟨S.wide, chg halF S.rows⟩) := Lib.hid ⟨Nat.lt_of_lt_of_le hz11 (Nat.le_trans hs11 HBk.size), by omega, q0, qf0, qf1, A', c', by rw [chg_len, HH.out]; exact q1, hMk'.mono hzA⟩
                    have HGN : Hid (Grid 0 wr A' c' (chg halF S.rows)) := Lib.hid hMk'.grid0
                    have HGb3 := Lib.hid hGb2
                    clear hMk hMk' qf0 qf1 hGb2
                    rename World => wr2
                    have H24 := Lib.hid (h24.gb HGb3.out (by omega) (by omega))
                    have H25 := Lib.hid (h25.gb HGb3.out (by omega) (by omega))
                    have H26 := HVN
                    have HEv : Hid (∀ W, Grid 0 W A' c' (chg halF S.rows) → Calls Try.prog 15 #[.slice A' k c'] W fun e w' => e = .returned (.bool (decide (evenS (halL S).rows))) ∧ Below W.heap.size W w') := Lib.hid (fun W hW => by
                      have := refEven_any 0 A' c' (chg halF S.rows) W hW (hal_summed HG.out.toFine) (by rw [chg_len, HH.out]; exact l1)
                      rw [chg_len, HH.out] at this
                      exact this)
                    clear h24 h25 h26 hQ HVN HM11 HGb HV11 HGb3 hz11 hs11 HB11 hbA
                    go_wp2_with fail
                    refine (HEv.out _ HGN.out).mono ?_
                    rintro e w14 ⟨rfl, hb14⟩
                    have H24' := Lib.hid (H24.out.below hb14)
                    have H25' := Lib.hid (H25.out.below hb14)
                    have H26' := Lib.hid (H26.out.below hb14)
                    have hbA : Below w8.heap.size w8 w14 := HBw.out.trans (hb14.mono HBw.out.size)
                    clear H24 H25 H26 hb14 HBw HGN HEv q0 q1 z0 z1 zf0 zf1 HBk
                    have H24 := H24'
                    have H25 := H25'
                    have H26 := H26'
                    clear H24' H25' H26'
                    go_upto_if 165 with fail
                    go_cut [23] (fun s23 wx => s23 = .int .i64 (errH S) ∧ w14 = wx)
                    case first =>
                      as_aux_lemma =>
                        by_cases he : evenS (halL S).rows
                        · have p3 : decide (evenS (halL S).rows) = true := by simpa using he
                          have HE3 : Hid (errH S = 0) := Lib.hid (errH_y HCK.out he).1
                          clear he
                          rw [p3]
                          go_wp2
                          go_meet
                          exact ⟨by rw [HE3.out], rfl⟩
                        · have p3 : decide (evenS (halL S).rows) = false := by simpa using he
                          have HE3 : Hid (errH S = 4) := Lib.hid (errH_n HCK.out he).1
                          clear he
                          rw [p3]
                          go_wp2
                          go_meet
                          exact ⟨by rw [HE3.out], rfl⟩
                    case rest =>
                      as_aux_lemma =>
                        obtain ⟨rfl, rfl⟩ := hcut
                        obtain ⟨-, y1, y2, -⟩ := HY8.out.below hbA
                        go_wp2_with fail
                        refine (refCheck_any 0 T B d _ (HY8.out.below hbA).grid).mono ?_
                        rintro e wB ⟨rfl, hb15⟩
                        have H24' := Lib.hid (H24.out.below hb15)
                        have H25' := Lib.hid (H25.out.below hb15)
                        have H26' := Lib.hid (H26.out.below hb15)
                        have hbB : Below w8.heap.size w8 wB := hbA.trans (hb15.mono hbA.size)
                        clear H24 H25 H26 hb15 y1 y2 hbA
                        have H24 := H24'
                        have H25 := H25'
                        have H26 := H26'
                        have hbA := hbB
                        clear H24' H25' H26' hbB
                        obtain ⟨-, x1, x2, -⟩ := HX8.out.below hbA
                        obtain ⟨-, y1, y2, -⟩ := HY8.out.below hbA
                        by_cases k0 : checkS T = 0
                        · have HKB := Lib.hid k0
                          have HGT := Lib.hid (good_of k0)
                          rw [k0]
                          by_cases k2 : S.wide = T.wide
                          · have p4 : (S.wide != T.wide) = false := by simp [k2]
                            have HK2 := Lib.hid k2
                            by_cases k1 : S.rows.length = T.rows.length
                            · have p5 : ((S.rows.length : Int) != (T.rows.length : Int)) = false := by simp [k1]
                              have HK1 := Lib.hid k1
                              clear k0 k1 k2 hzA hlt hk HLen HMw hm64
                              have hzA : w8.heap.size + 3 ≤ wB.heap.size := by have := H26.out.1; omega
                              have hQ := H25.out
                              have l1 := HG.out.l1
                              have l2 := HG.out.l2
                              go_upto_region 40 with fail
                              clear x1 x2 y1 y2 p4 p5
                              obtain ⟨-, x1, x2, -⟩ := HX8.out.below hbA
                              go_wp2_with fail
                              refine (refCopy_any 0 S A c _ (HX8.out.below hbA).grid HG.out.toFine).mono ?_
                              rintro e w10 ⟨A', c', rfl, hm10, hb10⟩
                              have hq' := hQ.below hb10
                              have hV := hq'.put hm10 hzA
                              have hGb : wB.grownBy ((w10.setCell ⟨w8.heap.size + 1, 0, none⟩ (.int .i64 S.wide)).setCell ⟨w8.heap.size + 1, 1, none⟩ (.slice A' S.rows.length c')) (some (w8.heap.size + 1)) := gb_set (gb_set (gb_next (gb_refl wB _) (Nat.le_refl _) hb10) 0 _) 1 _
                              have hM11 : MG ((w10.setCell ⟨w8.heap.size + 1, 0, none⟩ (.int .i64 S.wide)).setCell ⟨w8.heap.size + 1, 1, none⟩ (.slice A' S.rows.length c')) wB.heap.size (.slice A' S.rows.length c') S.rows := (hm10.setCell (p := ⟨w8.heap.size + 1, 0, none⟩) (by show w8.heap.size + 1 < wB.heap.size; omega) _).setCell (p := ⟨w8.heap.size + 1, 1, none⟩) (by show w8.heap.size + 1 < wB.heap.size; omega) _
                              obtain ⟨-, -, z0, zf0, zf1, _, _, z1, -⟩ := hq'
                              have z1' : ((w10.setCell ⟨w8.heap.size + 1, 0, none⟩ (.int .i64 S.wide)).setCell ⟨w8.heap.size + 1, 1, none⟩ (.slice A' S.rows.length c')).cell? ⟨w8.heap.size + 1, 1, none⟩ = some (.slice A' S.rows.length c') := by simp [go_sem, z1]
                              have HM11 := Lib.hid hM11
                              have HGb := Lib.hid hGb
                              have HV11 := Lib.hid hV
                              clear hb10 hm10 x1 x2 hM11 hGb hV
                              go_wp2
                              generalize ((w10.setCell ⟨w8.heap.size + 1, 0, none⟩ (.int .i64 S.wide)).setCell ⟨w8.heap.size + 1, 1, none⟩ (.slice A' S.rows.length c')) = w11 at *
                              have hz11 : w8.heap.size + 1 < wB.heap.size := by omega
                              have HB11 : Hid (Below w8.heap.size w8 w11) := Lib.hid (hbA.trans (gb_below HGb.out (by omega) (by omega)))
                              have hs11 : wB.heap.size ≤ w11.heap.size := HGb.out.size
                              clear z0 z1 zf0 zf1
                              have z1 := z1'
                              clear z1'
                              obtain ⟨-, -, z0, zf0, zf1, _, _, -, -⟩ := id HV11.out
                              obtain ⟨m, hm⟩ : ∃ m : Nat, S.wide = (m : Int) := ⟨S.wide.toNat, by omega⟩
                              have HMw := Lib.hid hm
                              have hm64 : m ≤ 64 := by omega
                              have HLen : Hid (∀ r, r < S.rows.length → (gl S.rows r).length = m) := Lib.hid (fun r hr => by have := HG.out.len r hr; omega)
                              clear hm
                              generalize hh : S.rows.length = h at *
                              have HH := Lib.hid hh
                              clear hh
                              have HTl : Hid (T.rows.length = h ∧ ∀ r, r < h → (gl T.rows r).length = m) := Lib.hid ⟨HK1.out.symm, fun r hr => by
                                have := HGT.out.len r (by rw [← HK1.out]; exact hr)
                                have := HK2.out
                                have := HMw.out
                                omega⟩
                              go_loopw [33] (fun i wr => ∃ k : Nat, k ≤ h ∧ i = .int .i64 (k : Int) ∧ MG wr wB.heap.size (.slice A' h c') (part (merF T) S.rows k 0) ∧ Below wB.heap.size w11 wr) (fun i _ => h - (intOf i).toNat)
                              case atStart => exact ⟨0, by omega, rfl, by rw [part_zero]; exact HM11.out, Below.refl _ _⟩
                              case round =>
                                obtain ⟨k, hk, rfl, hMk, HBk⟩ := hrel
                                have q1 := (HBk.cell (p := ⟨w8.heap.size + 1, 1, none⟩) hz11).trans z1
                                by_cases hlt : k < h
                                · have hkn : (k : Int) < (h : Int) := by omega
                                  have HMk := Lib.hid hMk
                                  have HBK := Lib.hid HBk
                                  clear hMk
                                  go_wp2
                                  go_loopw [34] (fun i wr => ∃ j : Nat, j ≤ m ∧ i = .int .i64 (j : Int) ∧ MG wr wB.heap.size (.slice A' h c') (part (merF T) S.rows k j) ∧ Below wB.heap.size w11 wr) (fun i _ => m - (intOf i).toNat)
                                  case atStart => exact ⟨0, by omega, rfl, HMk.out, HBK.out⟩
                                  case round =>
                                    clear q1 HBk HBK HMk
                                    obtain ⟨j, hj, rfl, hMj, HBj⟩ := hrel
                                    have HBw : Hid (Below w8.heap.size w8 wr) := Lib.hid (HB11.out.trans (HBj.mono (by omega)))
                                    obtain ⟨-, x1, x2, -⟩ := HX8.out.below HBw.out
                                    have q1 := (HBj.cell (p := ⟨w8.heap.size + 1, 1, none⟩) hz11).trans z1
                                    by_cases hjm : j < m
                                    · have hjn : (j : Int) < S.wide := by rw [HMw.out]; omega
                                      have hjm' : (j : Int) < (m : Int) := by omega
                                      have hkr : k < S.rows.length := by rw [HH.out]; exact hlt
                                      have hjl : j < (gl S.rows k).length := by rw [HLen.out k hlt]; exact hjm
                                      have hbd := HG.out.bd k hkr j hjl
                                      have hMj' : MG wr wB.heap.size (.slice A' (part (merF T) S.rows k j).length c') (part (merF T) S.rows k j) := by rw [part_len, HH.out]; exact hMj
                                      obtain ⟨g, hbk, cp, rfl, hg0, hgn, hg1, m1, m2, m3, m4⟩ := hMj'.at (r := k) (j := j) (by rw [part_len]; exact hkr) (by rw [len_part]; exact hjl)
                                      have m4' := m4 ((merF T) k j (gi (gl S.rows k) j))
                                      rw [part_step hkr hjl, part_len, HH.out] at m4'
                                      rw [len_part, HLen.out k hlt] at m1
                                      rw [part_at hjl (Nat.le_refl _)] at m2
                                      have hkt : k < T.rows.length := by rw [HTl.out.1]; exact hlt
                                      have hjt : j < (gl T.rows k).length := by rw [HTl.out.2 k hlt]; exact hjm
                                      have hbt := HGT.out.bd k hkt j hjt
                                      obtain ⟨-, y1, y2, -⟩ := HY8.out.below HBw.out
                                      obtain ⟨bt, ot, eB, hbt1, -, hrt⟩ := HY8.out.grid.2.2.2 (by omega)
                                      obtain ⟨A2, c2, e2w, i2, -⟩ := hrt k hkt
                                      obtain ⟨b2, o2, eA2, t2⟩ := i2.2.2.2 (by omega)
                                      have hb21 := t2.1
                                      have e3 := (HBw.out.cell (p := ⟨b2, o2 + j, none⟩) hb21).trans (t2.2 j hjt)
                                      have e2 := (HBw.out.cell (p := ⟨bt, ot + k, none⟩) hbt1).trans e2w
                                      rw [eB, HTl.out.1] at y2
                                      rw [eA2, HTl.out.2 k hlt] at e2
                                      clear hrt i2 t2 hkt hjt e2w eB eA2
                                      have hFv : (merF T) k j (gi (gl S.rows k) j) = gi (gl S.rows k) j + gi (gl T.rows k) j := rfl
                                      rw [hFv] at m4'
                                      have HM4 := Lib.hid m4'
                                      have HB6 := Lib.hid (HBj.setCell (p := ⟨hbk, j, none⟩) hg1 (.int .i64 (gi (gl S.rows k) j + gi (gl T.rows k) j)))
                                      clear hMj hMj' m4 m4' hkr hjl hFv HBj HBw
                                      generalize hgy : gi (gl S.rows k) j = y at *
                                      clear hgy
                                      generalize hgz : gi (gl T.rows k) j = yt at *
                                      clear hgz
                                      go_wp2
                                      go_still_tail 18, (by kernel_rfl)
                                      change wpList _ _ _ _ _ wr.drew
                                      go_wp2
                                      go_roundw
                                      case rel => exact ⟨j + 1, by omega, by go_num, by first | exact HM4.out | exact HM4.out.below (Below.refl _ _).drew, by first | exact HB6.out | exact HB6.out.drew⟩
                                      case measure => simp [intOf]; omega
                                    · obtain rfl : j = m := by omega
                                      have hjn : ¬ ((j : Int) < S.wide) := by rw [HMw.out]; omega
                                      have HMn : Hid (MG wr wB.heap.size (.slice A' h c') (part (merF T) S.rows (k + 1) 0)) := Lib.hid (by
                                        have hr := part_row ((merF T)) S.rows k
                                        rw [HLen.out k hlt] at hr
                                        rw [← hr]; exact hMj)
                                      clear hMj
                                      go_wp2
                                      go_roundw
                                      case rel => exact ⟨k + 1, by omega, by go_num, HMn.out, HBj⟩
                                      case measure => simp [intOf]; omega
                                · obtain rfl : k = h := by omega
                                  have HAll : Hid (part (merF T) S.rows k 0 = chg (merF T) S.rows) := Lib.hid (by rw [← HH.out]; exact part_all _ _)
                                  rw [HAll.out] at hMk
                                  have hMk' : MG wr wB.heap.size (.slice A' (chg (merF T) S.rows).length c') (chg (merF T) S.rows) := by rw [chg_len, HH.out]; exact hMk
                                  have HBw : Hid (Below w8.heap.size w8 wr) := Lib.hid (HB11.out.trans (HBk.mono (by omega)))
                                  have q0 := (HBk.cell (p := ⟨w8.heap.size + 1, 0, none⟩) hz11).trans z0
                                  have qf0 := (HBk.frozen (p := ⟨w8.heap.size + 1, 0, none⟩) hz11).trans zf0
                                  have qf1 := (HBk.frozen (p := ⟨w8.heap.size + 1, 1, none⟩) hz11).trans zf1
                                  have hGb2 : wB.grownBy wr (some (w8.heap.size + 1)) := gb_next HGb.out (Nat.le_refl _) HBk
                                  have HVN : Hid (VQ wr (w8.heap.size + 3) (w8.heap.size + 1) ⟨S.wide, chg (merF T) S.rows⟩) := Lib.hid ⟨Nat.lt_of_lt_of_le hz11 (Nat.le_trans hs11 HBk.size), by omega, q0, qf0, qf1, A', c', by rw [chg_len, HH.out]; exact q1, hMk'.mono hzA⟩
                                  have HGN : Hid (Grid 0 wr A' c' (chg (merF T) S.rows)) := Lib.hid hMk'.grid0
                                  have HGb3 := Lib.hid hGb2
                                  clear hMk hMk' qf0 qf1 hGb2
                                  rename World => wr3
                                  have H24n := Lib.hid (H24.out.gb HGb3.out (by omega) (by omega))
                                  have H26n := Lib.hid (H26.out.gb HGb3.out (by omega) (by omega))
                                  have HFit : Hid (∀ W, Grid 0 W A' c' (chg (merF T) S.rows) → Calls Try.prog 13 #[.agg #[.int .i64 S.wide, .slice A' k c']] W fun e w' => e = .returned (.bool (decide (fits (merL S T).rows))) ∧ Below W.heap.size W w') := Lib.hid (fun W hW => by
                                    have := refFits_any 0 (merL S T) A' c' W hW
                                    rw [sv, rows_mer, HH.out] at this
                                    exact this)
                                  have hCh : errM S T = if fits (merL S T).rows then 0 else 8 := by rw [(errM_chg HCK.out HKB.out (HH.out.trans HK1.out) HK2.out).1, chgE_mer]
                                  by_cases hf : fits (merL S T).rows
                                  · have p3 : decide (fits (merL S T).rows) = true := by simpa using hf
                                    have HE3 : Hid (errM S T = 0) := Lib.hid (by rw [hCh, if_pos hf])
                                    clear hCh hf
                                    go_wp2_with fail
                                    refine (HFit.out _ HGN.out).mono ?_
                                    rintro e w13 ⟨rfl, hb13⟩
                                    rw [p3]
                                    go_wp2
                                    go_meet
                                    exact ⟨merL S T, halL S, by rw [HE3.out], rfl, rfl, fun _ => rfl, fun _ => rfl, H24n.out.below hb13, HVN.out.below hb13, H26n.out.below hb13, HBw.out.trans (hb13.mono HBw.out.size)⟩
                                  · have p3 : decide (fits (merL S T).rows) = false := by simpa using hf
                                    have HE3 : Hid (errM S T = 8) := Lib.hid (by rw [hCh, if_neg hf])
                                    clear hCh hf
                                    go_wp2_with fail
                                    refine (HFit.out _ HGN.out).mono ?_
                                    rintro e w13 ⟨rfl, hb13⟩
                                    rw [p3]
                                    go_wp2
                                    go_meet
                                    exact ⟨merL S T, halL S, by rw [HE3.out], rfl, rfl, fun _ => rfl, fun _ => rfl, H24n.out.below hb13, HVN.out.below hb13, H26n.out.below hb13, HBw.out.trans (hb13.mono HBw.out.size)⟩
                            · have p5 : ((S.rows.length : Int) != (T.rows.length : Int)) = true := bd_ne (by omega)
                              have HE3 : Hid (errM S T = 7) := Lib.hid (errM_k HCK.out HKB.out (.inl k1)).1
                              have HE4 : Hid (errM S T ≠ 0) := Lib.hid (by rw [HE3.out]; decide)
                              clear k0 k1 k2
                              go_wp2
                              go_meet
                              exact ⟨Sk.no, halL S, by rw [HE3.out], rfl, rfl, fun h => absurd h HE4.out, fun _ => rfl, H24.out, H25.out, H26.out, hbA⟩
                          · have p4 : (S.wide != T.wide) = true := by simp [k2]
                            have HE3 : Hid (errM S T = 7) := Lib.hid (errM_k HCK.out HKB.out (.inr k2)).1
                            have HE4 : Hid (errM S T ≠ 0) := Lib.hid (by rw [HE3.out]; decide)
                            clear k0 k2
                            go_wp2
                            go_meet
                            exact ⟨Sk.no, halL S, by rw [HE3.out], rfl, rfl, fun h => absurd h HE4.out, fun _ => rfl, H24.out, H25.out, H26.out, hbA⟩
                        · have hq := bd_eq k0
                          have HE3 : Hid (errM S T = checkS T) := Lib.hid (errM_b HCK.out k0).1
                          have HE4 : Hid (errM S T ≠ 0) := Lib.hid (by rw [HE3.out]; exact k0)
                          clear k0
                          go_wp2
                          go_meet
                          exact ⟨Sk.no, halL S, by rw [HE3.out], rfl, rfl, fun h => absurd h HE4.out, fun _ => rfl, H24.out, H25.out, H26.out, hbA⟩
              · have hq := bd_eq e0
                have HE3 : Hid (errM S T = ck ∧ errH S = ck ∧ totM S = 0) := Lib.hid (by
                  have h : checkS S ≠ 0 := by rw [HCK.out]; exact e0
                  exact ⟨by rw [(errM_a h).1, HCK.out], by rw [(errH_c h).1, HCK.out], by unfold totM; rw [if_neg h]⟩)
                have HE4 := Lib.hid e0
                clear e0
                go_wp2
                go_meet
                exact ⟨Sk.no, Sk.no, by rw [HE3.out.1], by rw [HE3.out.2.1], by rw [HE3.out.2.2], fun h => absurd h (by rw [HE3.out.1]; exact HE4.out), fun h => absurd h (by rw [HE3.out.2.1]; exact HE4.out), h24, h25, h26, hbA⟩

          case rest =>
            as_aux_lemma =>
              obtain ⟨G2, G3, rfl, rfl, rfl, hM2, hH3, h24, h25, h26, hbD⟩ := hcut
              rename World => wD
              have HM2 := Lib.hid hM2
              have HH3 := Lib.hid hH3
              have HQ0 := Lib.hid h24
              have H25 := Lib.hid h25
              have H26 := Lib.hid h26
              clear hM2 hH3 h24 h25 h26 hbA
              go_upto_if 225 with fail
              go_cut [225] (fun _ wx => VQ wx (w8.heap.size + 3) (w8.heap.size) (addM S s n) ∧ VQ wx (w8.heap.size + 3) (w8.heap.size + 1) (G2) ∧ VQ wx (w8.heap.size + 3) (w8.heap.size + 2) (G3) ∧ Below w8.heap.size w8 wx)
              case first =>
                as_aux_lemma =>
                  by_cases he : errA S s n = 0
                  · have HG1 := Lib.hid (HGA.out he)
                    have HM1 : Hid (addM S s n = addL S s n) := Lib.hid (by unfold addM; rw [if_pos he])
                    have hq : (errA S s n != 0) = false := by simp [he]
                    clear he
                    go_wp2
                    go_meet
                    exact ⟨by rw [HM1.out, ← HG1.out]; exact HQ0.out, H25.out, H26.out, hbD⟩
                  · have hq := bd_ne he
                    have HM1 : Hid (addM S s n = Sk.no) := Lib.hid (by unfold addM; rw [if_neg he])
                    clear he
                    obtain ⟨-, -, z0, zf0, zf1, _, _, z1, -⟩ := id HQ0.out
                    have hV := HQ0.out.put (mg_no _ _) (Nat.le_refl _)
                    have hGb := gb_set (gb_set (gb_refl wD (some (w8.heap.size))) 0 (.int .i64 Sk.no.wide)) 1 (.slice none Sk.no.rows.length 0)
                    have HV1 := Lib.hid hV
                    have HGb := Lib.hid hGb
                    clear hV hGb
                    go_wp2
                    go_meet
                    exact ⟨by rw [HM1.out]; exact HV1.out, H25.out.gb HGb.out (by omega) (by omega), H26.out.gb HGb.out (by omega) (by omega), hbD.trans (gb_below HGb.out (by omega) hbD.size)⟩
              case rest =>
                as_aux_lemma =>
                  obtain ⟨h24, h25, h26, hbD⟩ := hcut
                  rename World => wD
                  have HQ0 := Lib.hid h25
                  have H24 := Lib.hid h24
                  have H26 := Lib.hid h26
                  clear h24 h25 h26
                  go_upto_if 228 with fail
                  go_cut [228] (fun _ wx => VQ wx (w8.heap.size + 3) (w8.heap.size + 1) (merM S T) ∧ VQ wx (w8.heap.size + 3) (w8.heap.size) (addM S s n) ∧ VQ wx (w8.heap.size + 3) (w8.heap.size + 2) (G3) ∧ Below w8.heap.size w8 wx)
                  case first =>
                    as_aux_lemma =>
                      by_cases he : errM S T = 0
                      · have HG1 := Lib.hid (HM2.out he)
                        have HM1 : Hid (merM S T = merL S T) := Lib.hid (by unfold merM; rw [if_pos he])
                        have hq : (errM S T != 0) = false := by simp [he]
                        clear he
                        go_wp2
                        go_meet
                        exact ⟨by rw [HM1.out, ← HG1.out]; exact HQ0.out, H24.out, H26.out, hbD⟩
                      · have hq := bd_ne he
                        have HM1 : Hid (merM S T = Sk.no) := Lib.hid (by unfold merM; rw [if_neg he])
                        clear he
                        obtain ⟨-, -, z0, zf0, zf1, _, _, z1, -⟩ := id HQ0.out
                        have hV := HQ0.out.put (mg_no _ _) (Nat.le_refl _)
                        have hGb := gb_set (gb_set (gb_refl wD (some (w8.heap.size + 1))) 0 (.int .i64 Sk.no.wide)) 1 (.slice none Sk.no.rows.length 0)
                        have HV1 := Lib.hid hV
                        have HGb := Lib.hid hGb
                        clear hV hGb
                        go_wp2
                        go_meet
                        exact ⟨by rw [HM1.out]; exact HV1.out, H24.out.gb HGb.out (by omega) (by omega), H26.out.gb HGb.out (by omega) (by omega), hbD.trans (gb_below HGb.out (by omega) hbD.size)⟩
                  case rest =>
                    as_aux_lemma =>
                      obtain ⟨h25, h24, h26, hbD⟩ := hcut
                      rename World => wD
                      have HQ0 := Lib.hid h26
                      have H24 := Lib.hid h24
                      have H25 := Lib.hid h25
                      clear h24 h25 h26
                      go_upto_if 231 with fail
                      go_cut [231] (fun _ wx => VQ wx (w8.heap.size + 3) (w8.heap.size + 2) (halM S) ∧ VQ wx (w8.heap.size + 3) (w8.heap.size) (addM S s n) ∧ VQ wx (w8.heap.size + 3) (w8.heap.size + 1) (merM S T) ∧ Below w8.heap.size w8 wx)
                      case first =>
                        as_aux_lemma =>
                          by_cases he : errH S = 0
                          · have HG1 := Lib.hid (HH3.out he)
                            have HM1 : Hid (halM S = halL S) := Lib.hid (by unfold halM; rw [if_pos he])
                            have hq : (errH S != 0) = false := by simp [he]
                            clear he
                            go_wp2
                            go_meet
                            exact ⟨by rw [HM1.out, ← HG1.out]; exact HQ0.out, H24.out, H25.out, hbD⟩
                          · have hq := bd_ne he
                            have HM1 : Hid (halM S = Sk.no) := Lib.hid (by unfold halM; rw [if_neg he])
                            clear he
                            obtain ⟨-, -, z0, zf0, zf1, _, _, z1, -⟩ := id HQ0.out
                            have hV := HQ0.out.put (mg_no _ _) (Nat.le_refl _)
                            have hGb := gb_set (gb_set (gb_refl wD (some (w8.heap.size + 2))) 0 (.int .i64 Sk.no.wide)) 1 (.slice none Sk.no.rows.length 0)
                            have HV1 := Lib.hid hV
                            have HGb := Lib.hid hGb
                            clear hV hGb
                            go_wp2
                            go_meet
                            exact ⟨by rw [HM1.out]; exact HV1.out, H24.out.gb HGb.out (by omega) (by omega), H25.out.gb HGb.out (by omega) (by omega), hbD.trans (gb_below HGb.out (by omega) hbD.size)⟩
                      case rest =>
                        as_aux_lemma =>
                          obtain ⟨h24, h25, h26, hbD⟩ := hcut
                          obtain ⟨AP, cP, hP⟩ := h25.bx
                          obtain ⟨AQ, cQ, hQ⟩ := h26.bx
                          obtain ⟨AR, cR, hR⟩ := h24.bx
                          rename World => wD
                          have HP := Lib.hid hP
                          have HK := Lib.hid hQ
                          have HR := Lib.hid hR
                          have HX := Lib.hid (HX8.out.below hbD)
                          have HU := Lib.hid (HU8.out.below hbD)
                          have HM := Lib.hid (HM8.out.below hbD)
                          have HV := Lib.hid (HV8.out.below hbD)
                          have HBD : Below w.heap.size w wD := HB8.out.trans (hbD.mono HB8.out.size)
                          clear h24 h25 h26 hP hQ hR hbD
                          go_wp2_with fail
                          refine (begun_any _).mono ?_
                          rintro e w21 ⟨rfl, hb21⟩
                          have X21 := (HX.out.below hb21)
                          have U21 := (HU.out.below hb21)
                          have M21 := (HM.out.below hb21)
                          have V21 := (HV.out.below hb21)
                          have P21 := (HP.out.below hb21)
                          have K21 := (HK.out.below hb21)
                          have R21 := (HR.out.below hb21)
                          have HB21 := HBD.trans (hb21.mono HBD.size)
                          clear hb21 HBD HX HU HM HV HP HK HR
                          have HX := Lib.hid X21
                          have HU := Lib.hid U21
                          have HM := Lib.hid M21
                          have HV := Lib.hid V21
                          have HP := Lib.hid P21
                          have HK := Lib.hid K21
                          have HR := Lib.hid R21
                          obtain ⟨-, x1, x2, -⟩ := X21
                          obtain ⟨-, u1, u2, -⟩ := U21
                          obtain ⟨-, m1, m2, -⟩ := M21
                          obtain ⟨-, v1, v2, -⟩ := V21
                          obtain ⟨-, p1, p2, -⟩ := P21
                          obtain ⟨-, k1, k2, -⟩ := K21
                          obtain ⟨-, r1, r2, -⟩ := R21
                          have qc : (ck == ck) = true := by simp
                          have qe : (er == er) = true := by simp
                          have qa : (ea == errA S s n) = true := by rw [HEA.out]; simp
                          have qs : (es == estM S s) = true := by rw [HES.out]; simp
                          have qm : (em == errM S T) = true := by rw [HEM.out]; simp
                          have qh : (eh == errH S) = true := by rw [HEH.out]; simp
                          have qt : (tm == totM S) = true := by rw [HTM.out]; simp
                          go_wp2_with fail
                          refine (check_any 0 S A c _ HX.out.grid).mono ?_
                          rintro e w22 ⟨rfl, hb22⟩
                          rw [HCK.out]
                          have X22 := (HX.out.below hb22)
                          have U22 := (HU.out.below hb22)
                          have M22 := (HM.out.below hb22)
                          have V22 := (HV.out.below hb22)
                          have P22 := (HP.out.below hb22)
                          have K22 := (HK.out.below hb22)
                          have R22 := (HR.out.below hb22)
                          have HB22 := HB21.trans (hb22.mono HB21.size)
                          clear hb22 HB21 HX x1 x2 HU u1 u2 HM m1 m2 HV v1 v2 HP p1 p2 HK k1 k2 HR r1 r2
                          clear X22
                          have HU := Lib.hid U22
                          have HM := Lib.hid M22
                          have HV := Lib.hid V22
                          have HP := Lib.hid P22
                          have HK := Lib.hid K22
                          have HR := Lib.hid R22
                          obtain ⟨-, u1, u2, -⟩ := U22
                          obtain ⟨-, m1, m2, -⟩ := M22
                          obtain ⟨-, v1, v2, -⟩ := V22
                          obtain ⟨-, p1, p2, -⟩ := P22
                          obtain ⟨-, k1, k2, -⟩ := K22
                          obtain ⟨-, r1, r2, -⟩ := R22
                          go_wp2_with fail
                          refine (sameS_any 0 0 (addM S s n) (addM S s n) A1 AP c1 cP _ HU.out.grid HP.out.grid).mono ?_
                          rintro e w23 ⟨rfl, hb23⟩
                          rw [sameS_refl]
                          have U23 := (HU.out.below hb23)
                          have M23 := (HM.out.below hb23)
                          have V23 := (HV.out.below hb23)
                          have P23 := (HP.out.below hb23)
                          have K23 := (HK.out.below hb23)
                          have R23 := (HR.out.below hb23)
                          have HB23 := HB22.trans (hb23.mono HB22.size)
                          clear hb23 HB22 HU u1 u2 HM m1 m2 HV v1 v2 HP p1 p2 HK k1 k2 HR r1 r2
                          clear U23
                          clear P23
                          have HM := Lib.hid M23
                          have HV := Lib.hid V23
                          have HK := Lib.hid K23
                          have HR := Lib.hid R23
                          obtain ⟨-, m1, m2, -⟩ := M23
                          obtain ⟨-, v1, v2, -⟩ := V23
                          obtain ⟨-, k1, k2, -⟩ := K23
                          obtain ⟨-, r1, r2, -⟩ := R23
                          go_wp2_with fail
                          refine (sameS_any 0 0 (merM S T) (merM S T) A3 AQ c3 cQ _ HM.out.grid HK.out.grid).mono ?_
                          rintro e w24 ⟨rfl, hb24⟩
                          rw [sameS_refl]
                          have M24 := (HM.out.below hb24)
                          have V24 := (HV.out.below hb24)
                          have K24 := (HK.out.below hb24)
                          have R24 := (HR.out.below hb24)
                          have HB24 := HB23.trans (hb24.mono HB23.size)
                          clear hb24 HB23 HM m1 m2 HV v1 v2 HK k1 k2 HR r1 r2
                          clear M24
                          clear K24
                          have HV := Lib.hid V24
                          have HR := Lib.hid R24
                          obtain ⟨-, v1, v2, -⟩ := V24
                          obtain ⟨-, r1, r2, -⟩ := R24
                          go_wp2_with fail
                          refine (sameS_any 0 0 (halM S) (halM S) A4 AR c4 cR _ HV.out.grid HR.out.grid).mono ?_
                          rintro e w25 ⟨rfl, hb25⟩
                          rw [sameS_refl]
                          have V25 := (HV.out.below hb25)
                          have R25 := (HR.out.below hb25)
                          have HB25 := HB24.trans (hb25.mono HB24.size)
                          clear hb25 HB24 HV v1 v2 HR r1 r2
                          clear V25
                          clear R25
                          go_wp2
                          go_ret
                          exact ⟨rfl, HB25⟩


end Go.Proofs.Ytmjoiakggckeoaa.Skt
