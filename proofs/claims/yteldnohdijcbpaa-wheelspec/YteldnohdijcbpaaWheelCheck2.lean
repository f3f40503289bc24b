/-
  What Check of package wheel returns.
-/
import Derived.Test.YteldnohdijcbpaaWheelCheck
namespace Go.Proofs.Yteldnohdijcbpaa.Whl
open Go.RowKit Go.Maps
set_option linter.unusedVariables false

theorem chkAll_drop {now : Int} {LL : List (List Tm)} {k : Nat} {ids : List Int} (h : k < LL.length) :
    chkAll now k (LL.drop k) ids = if (chk now k (gr LL k) none ids).1 ≠ 0 then ((chk now k (gr LL k) none ids).1, ids) else chkAll now (k + 1) (LL.drop (k + 1)) (chk now k (gr LL k) none ids).2 := by
  rw [List.drop_eq_getElem_cons h, gr_get h]; rfl

theorem run_makeMap (w : World) : (Instr.makeMap 58 none).run Try.prog w = .ok (.map (some w.heap.size)) (w.alloc (.map #[] 0)) := by kernel_rfl

set_option maxHeartbeats 8000000 in
theorem check_any (W : Whl) (A : Option Addr) (c : Nat) (w : World) (hG : Grid 0 w A c W.slots) :
    Calls Try.prog 16 #[wv W A c] w fun e w' => e = .returned (.int .i64 (checkW W)) ∧ Below w.heap.size w w' := by
  have X := Bx.new (W := W) hG
  have hB0 : Below w.heap.size w (w.alloc (wo W A c)) := (Below.refl _ _).alloc (Nat.le_refl _) _
  have HX := Lib.hid X
  have HB0 := Lib.hid hB0
  obtain ⟨-, x1, x2, -⟩ := X
  have hlen := hG.len
  clear hB0 hG
  by_cases h1 : isT W.now
  · have p1 : decide (isT W.now) = true := by simpa using h1
    by_cases h2 : W.slots.length = 48
    · have HE : Hid (checkW W = if (chkAll W.now 0 W.slots []).1 ≠ 0 then (chkAll W.now 0 W.slots []).1 else if 60 < (chkAll W.now 0 W.slots []).2.length then 2 else 0) := Lib.hid (by unfold checkW; rw [if_pos h1, if_pos h2])
      obtain ⟨bg, og, rfl, hbg, -, hr⟩ := HX.out.grid.2.2.2 (by omega)
      have HR := Lib.hid hr
      have H2 := Lib.hid h2
      obtain ⟨now, SL⟩ := W
      simp only at *
      obtain ⟨N, rfl⟩ : ∃ N : Nat, now = (N : Int) := ⟨now.toNat, by have := h1.1; omega⟩
      have hN : N < 262144 := by have := h1.2; omega
      have HS0 := Lib.hid (Seen.new (w.alloc (wo ⟨(N : Int), SL⟩ (some ⟨bg, og, none⟩) c)))
      have HBm : Hid (Below (w.alloc (wo ⟨(N : Int), SL⟩ (some ⟨bg, og, none⟩) c)).heap.size (w.alloc (wo ⟨(N : Int), SL⟩ (some ⟨bg, og, none⟩) c)) ((w.alloc (wo ⟨(N : Int), SL⟩ (some ⟨bg, og, none⟩) c)).alloc (.map #[] 0))) := Lib.hid ((Below.refl _ _).alloc (Nat.le_refl _) _)
      have hpz : w.heap.size < (w.alloc (wo ⟨(N : Int), SL⟩ (some ⟨bg, og, none⟩) c)).heap.size := by simp
      have HPZ := Lib.hid hpz
      have p2 : ((SL.length : Int) != 48) = false := by simp; omega
      have hC0 := x1
      have hC1 := x2
      clear hr h2 hpz x1 x2 HB0
      have HB0 : Hid (Below w.heap.size w (w.alloc (wo ⟨(N : Int), SL⟩ (some ⟨bg, og, none⟩) c))) := Lib.hid ((Below.refl _ _).alloc (Nat.le_refl _) _)
      have y1 := (HBm.out.cell (p := ⟨w.heap.size, 0, none⟩) HPZ.out).trans hC0
      have y2 := (HBm.out.cell (p := ⟨w.heap.size, 1, none⟩) HPZ.out).trans hC1
      have HY := Lib.hid (And.intro y1 y2)
      clear y1 y2
      go_enter Try.func16, Try.ntmps16
      go_wp2_with fail
      refine (isTime_any _ _).mono ?_
      rintro e w' ⟨rfl, rfl⟩
      rw [p1]
      obtain ⟨y1, y2⟩ := HY.out
      have hmm := run_makeMap (w.alloc (wo ⟨(N : Int), SL⟩ (some ⟨bg, og, none⟩) c))
      go_wp2
      clear hC0 hC1 hmm y1 y2 p1 p2
      have hbe : (w.alloc (wo ⟨(N : Int), SL⟩ (some ⟨bg, og, none⟩) c)).heap.size = w.heap.size + 1 := by simp
      rw [hbe] at HPZ hbg HS0 HBm
      have HWb := Lib.hid hbe
      clear hbe
      generalize w.alloc (wo ⟨(N : Int), SL⟩ (some ⟨bg, og, none⟩) c) = w1 at *
      generalize hb : w.heap.size + 1 = b at *
      generalize hp : w.heap.size = p at *
      have HP := Lib.hid hp
      clear hb h1 hp
      go_loopw [19] (fun x wr => ∃ (k : Nat) (is : List Int), k ≤ SL.length ∧ x = .int .i64 (k : Int) ∧ chkAll (N : Int) 0 SL [] = chkAll (N : Int) k (SL.drop k) is ∧ Seen wr b is ∧ Ids is ∧ Below b w1 wr) (fun x _ => SL.length - (intOf x).toNat)
      case atStart => exact ⟨0, [], by omega, rfl, rfl, HS0.out, ⟨List.nodup_nil, fun x hx => by simp at hx⟩, HBm.out⟩
      case round =>
        obtain ⟨k, is, hk, rfl, hchk, hSr, hIr, hB⟩ := hrel
        have HC := Lib.hid hchk
        have HSr := Lib.hid hSr
        have HIr := Lib.hid hIr
        have HB := Lib.hid hB
        have x1 : wr.cell? ⟨p, 0, none⟩ = some (.int .i64 (N : Int)) := (hB.cell (p := ⟨p, 0, none⟩) HPZ.out).trans HX.out.2.1
        clear hchk hSr hIr hB
        by_cases hlt : k < SL.length
        · have hkn : (k : Int) < (SL.length : Int) := by omega
          obtain ⟨Ar, cr, e1, hTr, -⟩ := HR.out k hlt
          have e2 := (HB.out.cell (p := ⟨bg, _, none⟩) hbg).trans e1
          have hTb := hTr.below (w' := wr) (by rw [HWb.out]; exact HB.out)
          have HCS := Lib.hid (checkSlot_any N k Ar cr (gr SL k) b is wr hN (by have := H2.out; omega) hTb (fun h0 a ha => by
            obtain ⟨bb, oo, e, ht⟩ := hTr.2.2.2 h0
            rw [e] at ha
            cases ha
            have := ht.1
            rw [HWb.out] at this
            exact this) HSr.out HIr.out)
          have HD := Lib.hid (HC.out.trans (chkAll_drop (now := (N : Int)) (ids := is) hlt))
          clear e1 hTr hTb HC
          generalize chk (N : Int) k (gr SL k) none is = cc at *
          obtain ⟨ce, ci⟩ := cc
          simp only at HCS HD
          generalize gr SL k = Lk at *
          generalize hsl : SL.length = n at *
          have HSL := Lib.hid hsl
          clear hsl
          clear hN hbg
          go_wp2_with fail
          refine HCS.out.mono ?_
          rintro e w2 ⟨rfl, hs2, hb2⟩
          have HB2 := Lib.hid hb2
          have HS2 := Lib.hid hs2
          clear hb2 hs2
          by_cases hce : ce = 0
          · subst hce
            have HD2 := Lib.hid (HD.out.trans (if_neg (by simp)))
            obtain ⟨hs3, hi3⟩ := HS2.out rfl
            have HS3 := Lib.hid hs3
            have HI3 := Lib.hid hi3
            have HB3 := Lib.hid (HB.out.trans HB2.out)
            clear hs3 hi3
            go_wp2
            go_roundw
            case rel => exact ⟨k + 1, ci, by omega, by go_num, HD2.out, HS3.out, HI3.out, HB3.out⟩
            case measure => simp [intOf]; omega
          · have q : (ce != 0) = true := by simpa using hce
            have HD2 : Hid (ce = checkW ⟨(N : Int), SL⟩) := Lib.hid (by rw [HE.out, HD.out, if_pos hce, if_pos (by simpa using hce)])
            have HB3 : Hid (Below p w w2) := Lib.hid (HB0.out.trans ((HB.out.trans HB2.out).mono (Nat.le_of_lt HPZ.out)))
            go_wp2
            go_ret
            exact ⟨ret_int HD2.out, by rw [HP.out]; exact HB3.out⟩
        · obtain rfl : k = SL.length := by omega
          have HD : Hid (chkAll (N : Int) 0 SL [] = (0, is)) := Lib.hid (by rw [HC.out, List.drop_length]; rfl)
          have hl := HSr.out.len 3
          have HB3 : Hid (Below p w wr) := Lib.hid (HB0.out.trans (HB.out.mono (Nat.le_of_lt HPZ.out)))
          by_cases h60 : 60 < is.length
          · have q : decide (60 < is.length) = true := by simpa using h60
            have HE2 : Hid ((2 : Int) = checkW ⟨(N : Int), SL⟩) := Lib.hid (by rw [HE.out, HD.out]; simp [h60])
            go_wp2
            go_ret
            exact ⟨ret_int HE2.out, by rw [HP.out]; exact HB3.out⟩
          · have q : decide (60 < is.length) = false := by simpa using h60
            have HE2 : Hid ((0 : Int) = checkW ⟨(N : Int), SL⟩) := Lib.hid (by rw [HE.out, HD.out]; simp [h60])
            go_wp2
            go_ret
            exact ⟨ret_int HE2.out, by rw [HP.out]; exact HB3.out⟩
    · have p2 : ((W.slots.length : Int) != 48) = true := by simp; omega
      have HE : Hid ((1 : Int) = checkW W) := Lib.hid (by unfold checkW; rw [if_pos h1, if_neg h2])
      clear h1 h2
      go_enter Try.func16, Try.ntmps16
      go_wp2_with fail
      refine (isTime_any _ _).mono ?_
      rintro e w' ⟨rfl, rfl⟩
      rw [p1]
      go_wp2
      go_ret
      exact ⟨ret_int HE.out, HB0.out⟩
  · have p1 : decide (isT W.now) = false := by simpa using h1
    have HE : Hid ((3 : Int) = checkW W) := Lib.hid (by unfold checkW; rw [if_neg h1])
    clear h1
    go_enter Try.func16, Try.ntmps16
    go_wp2_with fail
    refine (isTime_any _ _).mono ?_
    rintro e w' ⟨rfl, rfl⟩
    rw [p1]
    go_wp2
    go_ret
    exact ⟨ret_int HE.out, HB0.out⟩

end Go.Proofs.Yteldnohdijcbpaa.Whl
