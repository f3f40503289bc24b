/-
  The reference of package wheel: TimersSorted.
-/
import Derived.Test.YteldnohdijcbpaaWheelRef4
namespace Go.Proofs.Yteldnohdijcbpaa.Whl
open Go.RowKit Go.Maps
set_option linter.unusedVariables false

def slen : Value → Nat
  | .slice _ n _ => n
  | _ => 0

theorem tms_of_own2 {w : World} {base : Nat} {v : Value} {L : List Tm} (h : OwnT w base v L) : ∃ A c, v = .slice A L.length c ∧ Tms w A c L ∧ ∀ a, A = some a → base ≤ a.block ∧ a.spot = none := by
  obtain ⟨A, c, e, h1, h2⟩ := tms_of_own h
  refine ⟨A, c, e, h1, fun a ha => ⟨h2 a ha, ?_⟩⟩
  subst ha
  rcases h.2 with ⟨h3, -⟩ | ⟨g, cap, cur, h3, -⟩
  · rw [e] at h3; cases h3
  · rw [e] at h3; cases h3; rfl

set_option maxHeartbeats 8000000 in
theorem tsorted_any (A : Option Addr) (c : Nat) (L S : List Tm) (w : World) (hT : Tms w A c L) (hS : Sorted S) (hP : L.Perm S) (hl : L.length ≤ 1000) :
    Calls Try.prog 12 #[.slice A L.length c] w fun e w' => ∃ v, e = .returned v ∧ OwnT w' w.heap.size v S ∧ Below w.heap.size w w' := by
  have HT := Lib.hid hT
  have HS := Lib.hid hS
  have HP := Lib.hid hP
  have HLS : Hid (S.length = L.length) := Lib.hid hP.length_eq.symm
  have HL := Lib.hid hl
  have HO0 := Lib.hid (own_empty w)
  have HB0 : Hid (Below w.heap.size w (w.alloc (.cells #[] 26))) := Lib.hid (bel_al (Below.refl _ _) (Nat.le_refl _) _)
  clear hT hS hP hl
  obtain ⟨ln, hln⟩ : ∃ ln, L.length = ln := ⟨_, rfl⟩
  have HLN := Lib.hid hln
  rw [hln]
  clear hln
  go_enter Try.func12, Try.ntmps12
  go_wp2_with (at_builtin; refine wpList_append_wide (by rfl) _ _ (by rfl) w.heap.size _ [] (by rfl) HO0.out A c _ L HLN.out.symm (by rfl) (HT.out.alloc _) (by have := HL.out; have := HLN.out; simp; omega) HB0.out.size ?_; intro v1 w1 hown1 hg1)
  have HB1 : Hid (Below w.heap.size w w1) := Lib.hid (HB0.out.grown hg1 HB0.out.size (fun q hq => (HO0.out.lt q hq).1))
  obtain ⟨A1, c1, rfl, hT1, -⟩ := tms_of_own hown1
  have HSp1 : Hid (∀ a, A1 = some a → a.spot = none) := Lib.hid (fun a ha => by
    subst ha
    rcases hown1.2 with ⟨h, -⟩ | ⟨g, cap, cur, h, -⟩
    · cases h
    · cases h; rfl)
  have HT1 : Hid (Tms w1 A1 c1 L) := Lib.hid hT1
  have HI : Hid (TS S w.heap.size w 0 L (.slice none 0 0) (.slice A1 L.length c1) w1) := Lib.hid ⟨HP.out, World.ownsRow_nil _ _ _ _, ⟨A1, c1, rfl, HT1.out, HSp1.out, fun a ha e => (by cases e)⟩, HB1.out⟩
  clear hown1 hg1 hT1
  simp only [List.nil_append] at *
  rw [HLN.out] at HI ⊢
  go_wp2
  generalize hn : w.heap.size = n at *
  have HN := Lib.hid hn
  clear hn
  go_loopw [3, 4] (fun vl v wr => ∃ (k : Nat) (left : List Tm), k ≤ ln ∧ TS S n w k left v vl wr) (fun vl _ _ => slen vl)
  case atStart => exact ⟨0, L, by omega, HI.out⟩
  case round =>
    obtain ⟨k, left, hk, hperm, hown, ⟨Al, cl, rfl, hTl, hsp, hne⟩, hb⟩ := hrel
    generalize u4 = v at *
    generalize wr = wz at *
    have HPm := Lib.hid hperm
    have HO := Lib.hid hown
    have HTl := Lib.hid hTl
    have HSp := Lib.hid hsp
    have HNe := Lib.hid hne
    have HB := Lib.hid hb
    have hll : left.length = ln - k := by have := hperm.length_eq; rw [List.length_drop, HLS.out, HLN.out] at this; exact this
    clear hperm hown hTl hsp hne hb
    obtain ⟨m, hm⟩ : ∃ m, left.length = m := ⟨_, rfl⟩
    have HM := Lib.hid hm
    have hml : m = ln - k := hm ▸ hll
    have HML := Lib.hid hml
    have hm1 : m ≤ 1000 := by have := HL.out; have := HLN.out; omega
    rw [hm]
    clear hm hll hml
    by_cases h0 : m = 0
    · subst h0
      have hk2 : k = ln := by have := HML.out; omega
      have HE : Hid (OwnT wz n v S) := Lib.hid (by have := HO.out; rwa [hk2, List.take_of_length_le (by rw [HLS.out, HLN.out]; exact Nat.le_refl _)] at this)
      go_wp2
      go_ret
      exact ⟨_, rfl, by rw [HN.out]; exact HE.out, by rw [HN.out]; exact HB.out⟩
    · have hmp : (0 : Int) < (m : Int) := by omega
      have qm : decide (0 < m) = true := by simp; omega
      have qm2 : decide ((0 : Int) < (m : Int)) = true := by simp; omega
      have hkS : k < S.length := by rw [HLS.out, HLN.out]; have := HML.out; omega
      have HkS := Lib.hid hkS
      clear hkS
      obtain ⟨bl, ol, rfl, ht0⟩ := HTl.out.2.2.2 (by rw [HM.out]; omega)
      have HT0 := Lib.hid ht0
      clear ht0
      go_wp2
      go_loopw [5, 6] (fun y x wi => ∃ b i : Nat, b < m ∧ i ≤ m ∧ y = .int .i64 (b : Int) ∧ x = .int .i64 (i : Int) ∧ (∀ j, j < i → ¬ ltT (gt left j) (gt left b)) ∧ Below wz.heap.size wz wi) (fun _ x _ => m - (intOf x).toNat)
      case atStart => exact ⟨0, 0, by omega, by omega, rfl, rfl, fun j h => absurd h (by omega), Below.refl _ _⟩
      case round =>
        obtain ⟨b, i, hbm, him, rfl, rfl, hmin, hbi⟩ := hrel
        have HMin := Lib.hid hmin
        have HBi := Lib.hid hbi
        clear hmin hbi
        have hbz : (b : Int) < (m : Int) := by omega
        by_cases hlt : i < m
        · have hin : (i : Int) < (m : Int) := by omega
          have hiB : (0 : Int) ≤ (i : Int) := by omega
          obtain ⟨e1, e2⟩ := (HT0.out.below HT0.out.1 HBi.out).2 i (by rw [HM.out]; exact hlt)
          obtain ⟨e3, e4⟩ := (HT0.out.below HT0.out.1 HBi.out).2 b (by rw [HM.out]; exact hbm)
          have HMin2 : Hid (∀ j, j < i + 1 → ¬ ltT (gt left j) (if ltT (gt left i) (gt left b) then gt left i else gt left b)) := Lib.hid (fun j hj => by
            rcases Nat.lt_or_eq_of_le (Nat.le_of_lt_succ hj) with h | h
            · by_cases hh : ltT (gt left i) (gt left b)
              · rw [if_pos hh]; exact fun h2 => HMin.out j h (ltT_trans h2 hh)
              · rw [if_neg hh]; exact HMin.out j h
            · subst h
              by_cases hh : ltT (gt left j) (gt left b)
              · rw [if_pos hh]; exact ltT_irr _
              · rw [if_neg hh]; exact hh)
          have hblt : bl < wr.heap.size := Nat.lt_of_lt_of_le HT0.out.1 HBi.out.size
          have HBl := Lib.hid hblt
          clear hblt
          generalize hti : gt left i = ti at *
          generalize htb : gt left b = tb at *
          have HTI := Lib.hid hti
          have HTB := Lib.hid htb
          clear hti htb
          have HS4 : Hid (S5 bl (o1 := ol + i * 2) (o2 := ol + b * 2) ti tb wr wr) := Lib.hid ⟨e1, e2, e3, e4, Below.refl _ _⟩
          have HC := Lib.hid (ahead_any ti tb wr.drew)
          obtain ⟨xi, xa⟩ := ti
          obtain ⟨yi, ya⟩ := tb
          simp only at e1 e2 e3 e4
          go_wp2
          clear e1 e2 e3 e4
          go_region_held3 (fun w' => w'.cell? ⟨bl, ol + i * 2, none⟩ = some (.int .i64 xi) ∧ w'.cell? ⟨bl, ol + i * 2 + 1, none⟩ = some (.int .i64 xa) ∧ w'.cell? ⟨bl, ol + b * 2, none⟩ = some (.int .i64 yi) ∧ w'.cell? ⟨bl, ol + b * 2 + 1, none⟩ = some (.int .i64 ya) ∧ Below wr.heap.size wr w')
            (first | exact S5.next (S5.drew HS4.out) HBl.out hb9 | exact S5.drew HS4.out)
            (first | (go_at_call 31; refine HC.out.mono ?_; rintro e w9 ⟨rfl, hb9⟩))
          rename_i hHH
          have HB9 : Hid (Below wz.heap.size wz w9) := Lib.hid (HBi.out.trans (hHH.2.2.2.2.mono HBi.out.size))
          clear hHH hb9
          by_cases hh : ltT ⟨xi, xa⟩ ⟨yi, ya⟩
          · have q : decide (ltT ⟨xi, xa⟩ ⟨yi, ya⟩) = true := by simpa using hh
            have HMin3 : Hid (∀ j, j < i + 1 → ¬ ltT (gt left j) (gt left i)) := Lib.hid (by have := HMin2.out; rw [if_pos hh, ← HTI.out] at this; exact this)
            clear hh
            generalize decide (ltT ⟨xi, xa⟩ ⟨yi, ya⟩) = dd at *
            subst q
            go_wp2
            go_roundw
            case rel => exact ⟨i, i + 1, hlt, by omega, rfl, by go_num, HMin3.out, HB9.out⟩
            case measure => simp [intOf]; omega
          · have q : decide (ltT ⟨xi, xa⟩ ⟨yi, ya⟩) = false := by simpa using hh
            have HMin3 : Hid (∀ j, j < i + 1 → ¬ ltT (gt left j) (gt left b)) := Lib.hid (by have := HMin2.out; rw [if_neg hh, ← HTB.out] at this; exact this)
            clear hh
            generalize decide (ltT ⟨xi, xa⟩ ⟨yi, ya⟩) = dd at *
            subst q
            go_wp2
            go_roundw
            case rel => exact ⟨b, i + 1, hbm, by omega, rfl, by go_num, HMin3.out, HB9.out⟩
            case measure => simp [intOf]; omega
        · obtain rfl : i = m := by omega
          clear hlt
          have HMn : Hid (∀ j, j < left.length → ¬ ltT (gt left j) (gt left b)) := Lib.hid (by rw [HM.out]; exact HMin.out)
          have HEq : Hid (gt left b = gt S k) := Lib.hid (least_is HS.out HPm.out HkS.out (by rw [HM.out]; exact hbm) HMn.out)
          have HPn := Lib.hid (perm_next HPm.out HkS.out (by rw [HM.out]; exact hbm) HEq.out)
          have HTr : Hid (Tms wr (some ⟨bl, ol, none⟩) cl left) := Lib.hid (HTl.out.below HBi.out)
          have HOr : Hid (OwnT wr n v (S.take k)) := Lib.hid (own_below HO.out HBi.out)
          have HBr : Hid (Below n w wr) := Lib.hid (HB.out.trans (HBi.out.mono (Nat.le_trans (by rw [← HN.out]; exact Nat.le_refl _) (HN.out ▸ HB.out.size))))
          obtain ⟨e1, e2⟩ := (HT0.out.below HT0.out.1 HBi.out).2 b (by rw [HM.out]; exact hbm)
          have HTk : Hid (S.take (k + 1) = S.take k ++ [gt left b]) := Lib.hid (by rw [HEq.out]; exact take_snoc HkS.out)
          have HSl1 := Lib.hid (slice_from HTr.out (k := b + 1) (by rw [HM.out]; omega))
          have HSl2 := Lib.hid (slice_upto HTr.out (k := b) (by rw [HM.out]; omega) HSp.out)
          have HZ : Hid (n ≤ wr.heap.size) := Lib.hid (by have := HBr.out.size; rw [HN.out] at this; exact this)
          clear HMin
          generalize gt left b = t at *
          obtain ⟨xi, xa⟩ := t
          simp only at e1 e2
          have HO1 : Hid (OwnT (wr.alloc (tbo ⟨xi, xa⟩)) n v (S.take k)) := Lib.hid (own_below HOr.out (bel_al (Below.refl _ _) (Nat.le_refl _) _))
          have HBa : Hid (Below n w (wr.alloc (tbo ⟨xi, xa⟩))) := Lib.hid (bel_al HBr.out HZ.out _)
          have HTa : Hid (Tms (wr.alloc (tbo ⟨xi, xa⟩)) (some ⟨bl, ol, none⟩) cl left) := Lib.hid (HTr.out.alloc _)
          have HZa : Hid (n ≤ (wr.alloc (tbo ⟨xi, xa⟩)).heap.size) := Lib.hid (Nat.le_trans HZ.out (by simp))
          have HLk : Hid ((S.take k).length + 1 ≤ 16777216) := Lib.hid (by rw [List.length_take, HLS.out]; have := HL.out; omega)
          have hb6 : (b : Int) < (i : Int) := by omega
          go_wp2_with (at_builtin; refine wpList_append_wide (by rfl) _ _ (by rfl) n _ (S.take k) (by rfl) HO1.out (some ⟨wr.heap.size, 0, none⟩) 1 _ [⟨xi, xa⟩] rfl (by rfl) (tms_one wr ⟨xi, xa⟩) HLk.out HZa.out ?_; intro v3 w3 hown3 hg3)
          have HO3 : Hid (OwnT w3 n v3 (S.take (k + 1))) := Lib.hid (by rw [HTk.out]; exact hown3)
          have HT3 : Hid (Tms w3 (some ⟨bl, ol, none⟩) cl left) := Lib.hid (HTa.out.grown hg3 HNe.out)
          have HB3 : Hid (Below n w w3) := Lib.hid (HBa.out.grown hg3 HZa.out (fun q hq => (HO1.out.lt q hq).1))
          clear hown3 hg3 e1 e2
          obtain ⟨AL, cL, hsl1, -, -⟩ := HSl1.out
          obtain ⟨AL', cL', hsl1', hTL, -⟩ := slice_from HT3.out (k := b + 1) (by rw [HM.out]; omega)
          obtain ⟨hsl2, hTG⟩ := slice_upto HT3.out (k := b) (by rw [HM.out]; omega) HSp.out
          rw [HM.out] at hsl1' hsl2
          obtain ⟨b1, hb1⟩ : ∃ b1, b1 = b + 1 := ⟨_, rfl⟩
          rw [← hb1] at hsl1' hTL HPn
          have hw : IntKind.i64.wrap ((b : Int) + 1) = (b1 : Int) := by rw [IntKind.wrap_i64]; omega
          have HB1 := Lib.hid hb1
          have HTL := Lib.hid hTL
          have HTG := Lib.hid hTG
          obtain ⟨lt, hlt⟩ : ∃ lt, lt = (left.take b).length := ⟨_, rfl⟩
          obtain ⟨ld, hld⟩ : ∃ ld, ld = (left.drop b1).length := ⟨_, rfl⟩
          rw [← hlt] at hsl2
          rw [← hld] at hsl1'
          have HLt := Lib.hid hlt
          have HLd := Lib.hid hld
          have HZ3 : Hid (n ≤ w3.heap.size) := Lib.hid (by have := HB3.out.size; rw [HN.out] at this; exact this)
          have HOe := Lib.hid (own_empty w3)
          have HBe : Hid (Below w3.heap.size w3 (w3.alloc (.cells #[] 26)).drew) := Lib.hid ((bel_al (Below.refl _ _) (Nat.le_refl _) _).drew)
          have HOe' : Hid (OwnT (w3.alloc (.cells #[] 26)).drew w3.heap.size (.slice (some ⟨w3.heap.size, 0, none⟩) 0 0) []) := Lib.hid (own_below HOe.out (Below.refl _ _).drew)
          have HTG' : Hid (Tms (w3.alloc (.cells #[] 26)).drew (some ⟨bl, ol, none⟩) cl (left.take b)) := Lib.hid (HTG.out.below HBe.out)
          have HL1 : Hid (([] : List Tm).length + lt ≤ 16777216) := Lib.hid (by rw [HLt.out, List.length_take, HM.out]; simp; omega)
          have HL2 : Hid ((left.take b).length + ld ≤ 16777216) := Lib.hid (by rw [HLd.out, List.length_take, List.length_drop, HM.out]; omega)
          clear hsl1 HSl1 HSl2 hb1 hlt hld hTL hTG
          go_region_law (first
            | (refine step_append_tms (by rfl) _ _ (by rfl) w3.heap.size _ [] (by rfl) HOe'.out (some ⟨bl, ol, none⟩) cl lt (left.take b) HLt.out (by rfl) HTG'.out HL1.out HBe.out.size ?_; intro v4 w4 hown4 hg4)
            | (refine step_append_tms (by rfl) _ _ (by rfl) w3.heap.size _ (left.take b) (by rfl) hown4 AL' cL' ld (left.drop b1) HLd.out (by rfl) (HTL.out.below (HBe.out.grown hg4 HBe.out.size (fun q hq => (HOe'.out.lt q hq).1))) HL2.out (HBe.out.grown hg4 HBe.out.size (fun q hq => (HOe'.out.lt q hq).1)).size ?_; intro v5 w5 hown5 hg5))
          have hB4 := HBe.out.grown hg4 HBe.out.size (fun q hq => (HOe'.out.lt q hq).1)
          have hB5 := hB4.grown hg5 hB4.size (fun q hq => (hown4.lt q hq).1)
          have HO5 : Hid (OwnT w5 n v3 (S.take (k + 1))) := Lib.hid (own_below HO3.out hB5)
          have HB5 : Hid (Below n w w5) := Lib.hid (HB3.out.trans (hB5.mono HZ3.out))
          obtain ⟨A5, c5, rfl, hT5, hA5⟩ := tms_of_own2 hown5
          have HTS : Hid (TS S n w (k + 1) (left.take b ++ left.drop b1) v3 (.slice A5 (left.take b ++ left.drop b1).length c5) w5) := Lib.hid ⟨HPn.out, HO5.out, ⟨A5, c5, rfl, hT5, fun a ha => (hA5 a ha).2, fun a ha e => by
            have h1 := (hA5 a ha).1
            have h2 := (HO3.out.lt _ e).2
            omega⟩, HB5.out⟩
          have HLe : Hid ((left.take b ++ left.drop b1).length < i) := Lib.hid (by rw [List.length_append, List.length_take, List.length_drop, HM.out, HB1.out]; omega)
          clear hB4 hB5 hown5 hown4 hg4 hg5 hT5 hA5 hw hsl1' hsl2
          generalize left.take b ++ left.drop b1 = left2 at *
          go_simp
          go_wp2
          go_roundw
          case rel => exact ⟨k + 1, left2, by have := HML.out; omega, HTS.out⟩
          case measure => exact HLe.out

end Go.Proofs.Yteldnohdijcbpaa.Whl
