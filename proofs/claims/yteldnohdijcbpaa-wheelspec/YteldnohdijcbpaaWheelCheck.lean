/-
  What checkSlot and Check of package wheel return.
-/
import Derived.Test.YteldnohdijcbpaaWheelSeen
namespace Go.Proofs.Yteldnohdijcbpaa.Whl
open Go.RowKit Go.Maps
set_option linter.unusedVariables false

/-- The ids seen so far. -/
def Ids (ids : List Int) : Prop := ids.Nodup ∧ ∀ x ∈ ids, 0 ≤ x ∧ x ≤ 1048576
theorem Ids.len {ids : List Int} (h : Ids ids) : ids.length ≤ 1048577 := nodup_le 1048577 ids h.1 (fun x hx => by have := h.2 x hx; omega)
theorem Ids.snoc {ids : List Int} {x : Int} (h : Ids ids) (hx : x ∉ ids) (h1 : 0 ≤ x) (h2 : x ≤ 1048576) : Ids (ids ++ [x]) := by
  refine ⟨List.nodup_append.2 ⟨h.1, by simp, fun a ha b hb e => ?_⟩, fun y hy => ?_⟩
  · simp only [List.mem_singleton] at hb; subst hb; subst e; exact hx ha
  · rcases List.mem_append.1 hy with m | m
    · exact h.2 y m
    · simp only [List.mem_singleton] at m; subst m; exact ⟨h1, h2⟩
def prev (L : List Tm) (k : Nat) : Option Tm := if k = 0 then none else some (gt L (k - 1))
theorem drop_cons {L : List Tm} {k : Nat} (h : k < L.length) : L.drop k = gt L k :: L.drop (k + 1) := by rw [gt_get h]; exact List.drop_eq_getElem_cons h
theorem chk_drop {now : Int} {i : Nat} {L : List Tm} {k : Nat} {ids : List Int} (h : k < L.length) :
    chk now i (L.drop k) (prev L k) ids = if okT now (gt L k) then (if slot now (gt L k) = i ∧ ahead (prev L k) (gt L k) then (if (gt L k).id ∈ ids then (6, ids) else chk now i (L.drop (k + 1)) (prev L (k + 1)) (ids ++ [(gt L k).id])) else (4, ids)) else (3, ids) := by
  rw [drop_cons h]; rfl

set_option maxHeartbeats 8000000 in
theorem checkSlot_any (N : Nat) (i : Nat) (A : Option Addr) (c : Nat) (L : List Tm) (b : Nat) (ids : List Int) (w : World) (hN : N < 262144) (hi : i < 48) (hT : Tms w A c L) (hA : 0 < L.length → ∀ a, A = some a → a.block < b) (hS : Seen w b ids) (hI : Ids ids) :
    Calls Try.prog 32 #[.int .i64 (N : Int), .int .i64 (i : Int), .slice A L.length c, .map (some b)] w fun e w' =>
      e = .returned (.int .i64 (chk (N : Int) i L none ids).1) ∧ ((chk (N : Int) i L none ids).1 = 0 → Seen w' b (chk (N : Int) i L none ids).2 ∧ Ids (chk (N : Int) i L none ids).2) ∧ Below b w w' := by
  have hlen := hT.len
  have HT := Lib.hid hT
  have HA := Lib.hid hA
  have HS := Lib.hid (And.intro hS hI)
  have hbw := hS.lt
  clear hT hA hS hI
  go_enter Try.func32, Try.ntmps32
  go_wp2
  go_loopw [13] (fun x wr => ∃ (k : Nat) (is : List Int), k ≤ L.length ∧ x = .int .i64 (k : Int) ∧ chk (N : Int) i L none ids = chk (N : Int) i (L.drop k) (prev L k) is ∧ Seen wr b is ∧ Ids is ∧ Below b w wr) (fun x _ => L.length - (intOf x).toNat)
  case atStart => exact ⟨0, ids, by omega, rfl, rfl, HS.out.1, HS.out.2, Below.refl _ _⟩
  case round =>
    obtain ⟨k, is, hk, rfl, hchk, hSr, hIr, hB⟩ := hrel
    have HC := Lib.hid hchk
    have HSr := Lib.hid hSr
    have HIr := Lib.hid hIr
    have HB := Lib.hid hB
    clear hchk hSr hIr hB
    by_cases hlt : k < L.length
    · have hkn : (k : Int) < (L.length : Int) := by omega
      obtain ⟨bl, o, rfl, hbl, hr⟩ := HT.out.2.2.2 (by omega)
      have hblb : bl < b := HA.out (by omega) _ rfl
      obtain ⟨g1, g2⟩ := hr k hlt
      have e1 := (HB.out.cell (p := ⟨bl, _, none⟩) hblb).trans g1
      have e2 := (HB.out.cell (p := ⟨bl, _, none⟩) hblb).trans g2
      have HD := Lib.hid (HC.out.trans (chk_drop (now := (N : Int)) (i := i) (ids := is) hlt))
      have hbr := HSr.out.lt
      have hw1 : Below wr.heap.size wr (wr.alloc (tbo (gt L k))) := (Below.refl _ _).alloc (Nat.le_refl _) _
      have HW1 := Lib.hid hw1
      have HTm : Hid (∀ W, Calls Try.prog 21 #[.int .i64 (N : Int), tv (gt L k)] W fun e w' => e = .returned (.bool (decide (okT (N : Int) (gt L k)))) ∧ Below W.heap.size W w') := Lib.hid (isTimer_any _ _)
      clear g1 g2 hw1
      by_cases hok : okT (N : Int) (gt L k)
      · have p1 : decide (okT (N : Int) (gt L k)) = true := by simpa using hok
        have HD1 := Lib.hid (HD.out.trans (if_pos hok))
        clear HD
        obtain ⟨hti1, hti2, hta, htn⟩ := id hok
        have hpr : ahead (prev L k) (gt L k) ↔ k = 0 ∨ ltT (gt L (k - 1)) (gt L k) := by
          unfold prev ahead
          by_cases e : k = 0 <;> simp [e]
        have hq : 0 < k → wr.cell? ⟨bl, o + (k - 1) * 2, none⟩ = some (.int .i64 (gt L (k - 1)).id) ∧ wr.cell? ⟨bl, o + (k - 1) * 2 + 1, none⟩ = some (.int .i64 (gt L (k - 1)).tm) := fun h => by
          obtain ⟨g1, g2⟩ := hr (k - 1) (by omega)
          exact ⟨(HB.out.cell (p := ⟨bl, _, none⟩) hblb).trans g1, (HB.out.cell (p := ⟨bl, _, none⟩) hblb).trans g2⟩
        clear hok hr
        generalize gt L (k - 1) = qq at *
        generalize gt L k = t at *
        obtain ⟨ti, ta⟩ := t
        obtain ⟨a, rfl⟩ : ∃ a : Nat, ta = (a : Int) := ⟨ta.toNat, by have := hta.1; simp only at this; omega⟩
        have ha : a < 262144 := by have := hta.2; simp only at this; omega
        have hNa : N < a := by simp only at htn; omega
        simp only at hti1 hti2
        have HP := Lib.hid (place_any N a · hN ha hNa)
        have HSl : Hid (slot (N : Int) ⟨ti, (a : Int)⟩ = slotN N a) := Lib.hid (by unfold slot; simp)
        clear hta htn
        dsimp only at e1 e2
        generalize slotN N a = s at *
        have HO : Hid (∀ W, Calls Try.prog 25 #[tv qq, tv ⟨ti, (a : Int)⟩] W fun e w' => e = .returned (.int .i64 (cmpT qq ⟨ti, (a : Int)⟩)) ∧ Below W.heap.size W w') := Lib.hid (order_any _ _)
        have hcg := @cmpT_ge qq ⟨ti, (a : Int)⟩
        by_cases hsl : s = i
        · subst hsl
          by_cases hk0 : k = 0
          · have HE := Lib.hid (HD1.out.trans (if_pos ⟨HSl.out, hpr.2 (.inl hk0)⟩))
            have hk4 : decide (0 < k) = false := by simp; omega
            have HK0 := Lib.hid hk0
            clear HD1 hpr hq hcg hk0
            go_wp2_with fail
            refine (HTm.out _).mono ?_
            rintro e w2 ⟨rfl, hb2⟩
            rw [p1]
            have X2 := Lib.hid (And.intro ((hb2.cell (p := ⟨wr.heap.size, 0, none⟩) (by simp)).trans (show (wr.alloc (tbo ⟨ti, (a : Int)⟩)).cell? ⟨wr.heap.size, 0, none⟩ = some (.int .i64 ti) by simp [go_sem])) ((hb2.cell (p := ⟨wr.heap.size, 1, none⟩) (by simp)).trans (show (wr.alloc (tbo ⟨ti, (a : Int)⟩)).cell? ⟨wr.heap.size, 1, none⟩ = some (.int .i64 (a : Int)) by simp [go_sem])))
            have hb12 : Below wr.heap.size wr w2 := HW1.out.trans (hb2.mono (by simp))
            have HB12 := Lib.hid hb12
            have hz2 : wr.heap.size < w2.heap.size := by have := hb2.size; simp at this; omega
            clear hb2 hb12
            generalize hp0 : wr.heap.size = p at *
            have HP0 := Lib.hid hp0
            clear hp0
            go_wp2
            obtain ⟨x0, x1⟩ := X2.out
            go_quiet (first | (go_at_call 33; exact Calls.quiet_of_same ((HP.out _).mono (fun e w8 h => ⟨h.1, h.2.symm⟩))))
            have HW23 : Hid (Below wr.heap.size wr (w2.drewN nq)) := Lib.hid (by rw [HP0.out]; exact HB12.out.trans (below_drewN _ _ _))
            have x0' : (w2.drewN nq).cell? ⟨p, 0, none⟩ = some (.int .i64 ti) := ((below_drewN (p + 1) w2 nq).cell (p := ⟨p, 0, none⟩) (Nat.lt_succ_self _)).trans x0
            clear x0 x1
            generalize w2.drewN nq = w3 at *
            have HS3 := Lib.hid (HSr.out.below HW23.out)
            have HB3 : Hid (Below b w w3) := Lib.hid (HB.out.trans (HW23.out.mono (by rw [HP0.out]; omega)))
            have hwf : (Lit.int .i64 ti).wf = true := by simp [Lit.wf, IntKind.min, IntKind.max, IntKind.bits, IntKind.signed]; omega
            have HWF := Lib.hid hwf
            clear hwf HW23
            by_cases hin : ti ∈ is
            · have HE2 := Lib.hid (HE.out.trans (if_pos hin))
              have hlk := HS3.out.look HWF.out
              rw [show decide (ti ∈ is) = true by simpa using hin] at hlk
              clear HE
              go_wp2
              go_ret
              exact ⟨ret_int (by rw [HE2.out]), fun h => by rw [HE2.out] at h; simp at h, HB3.out⟩
            · have HE2 := Lib.hid (HE.out.trans (if_neg hin))
              have hlk := HS3.out.look HWF.out
              rw [show decide (ti ∈ is) = false by simpa using hin] at hlk
              obtain ⟨w4, hrun, hS4, hg4⟩ := HS3.out.put HWF.out hin HIr.out.len
              have HS4' := Lib.hid hS4
              have HI4 := Lib.hid (HIr.out.snoc hin hti1 hti2)
              have HB4 : Hid (Below b w w4) := Lib.hid (HB3.out.trans ⟨hg4.os, hg4.tape, hg4.output, hg4.size, fun j hj => hg4.block j (by have := HS3.out.lt; omega) (fun e => by have := Option.some.inj e; omega)⟩)
              clear HE hS4 hg4
              go_wp2
              go_roundw
              case rel => exact ⟨k + 1, is ++ [ti], by omega, by go_num, HE2.out, HS4'.out, HI4.out, HB4.out⟩
              case measure => simp [intOf]; omega
          · by_cases hlq : ltT qq ⟨ti, (a : Int)⟩
            · have HE := Lib.hid (HD1.out.trans (if_pos ⟨HSl.out, hpr.2 (.inr hlq)⟩))
              have p2 : decide (0 ≤ cmpT qq ⟨ti, (a : Int)⟩) = false := by rw [decide_eq_false_iff_not, hcg]; exact fun h => h hlq
              obtain ⟨h1c, h2c⟩ := hq (by omega)
              clear HD1 hpr hq hcg hlq
              generalize cmpT qq ⟨ti, (a : Int)⟩ = z at *
              obtain ⟨qi, qa⟩ := qq
              obtain ⟨m, hm⟩ : ∃ m, m = k - 1 := ⟨_, rfl⟩
              rw [← hm] at h1c h2c
              have hk1 : decide ((0 : Int) < (k : Int)) = true := by simp; omega
              have hk2 : decide (0 < k) = true := by simp; omega
              have hk3 : (m : Int) < (L.length : Int) := by omega
              have hk6 : m < L.length := by omega
              have hk8 : (0 : Int) ≤ (m : Int) := by omega
              have hk9 : IntKind.i64.wrap ((k : Int) - 1) = (m : Int) := by rw [IntKind.wrap_i64]; omega
              have HM := Lib.hid hm
              have HK0 := Lib.hid hk0
              clear hm hk0
              go_wp2_with fail
              refine (HTm.out _).mono ?_
              rintro e w2 ⟨rfl, hb2⟩
              rw [p1]
              have X2 := Lib.hid (And.intro ((hb2.cell (p := ⟨wr.heap.size, 0, none⟩) (by simp)).trans (show (wr.alloc (tbo ⟨ti, (a : Int)⟩)).cell? ⟨wr.heap.size, 0, none⟩ = some (.int .i64 ti) by simp [go_sem])) ((hb2.cell (p := ⟨wr.heap.size, 1, none⟩) (by simp)).trans (show (wr.alloc (tbo ⟨ti, (a : Int)⟩)).cell? ⟨wr.heap.size, 1, none⟩ = some (.int .i64 (a : Int)) by simp [go_sem])))
              have hb12 : Below wr.heap.size wr w2 := HW1.out.trans (hb2.mono (by simp))
              have HB12 := Lib.hid hb12
              have hz2 : wr.heap.size < w2.heap.size := by have := hb2.size; simp at this; omega
              clear hb2 hb12
              generalize hp0 : wr.heap.size = p at *
              have HP0 := Lib.hid hp0
              clear hp0
              have x4 : w2.cell? ⟨bl, o + m * 2, none⟩ = some (.int .i64 qi) := (HB12.out.cell (p := ⟨bl, _, none⟩) (by show bl < p; omega)).trans h1c
              have x5 : w2.cell? ⟨bl, o + m * 2 + 1, none⟩ = some (.int .i64 qa) := (HB12.out.cell (p := ⟨bl, _, none⟩) (by show bl < p; omega)).trans h2c
              have HS4 : Hid (S4 p ⟨ti, (a : Int)⟩ bl (o + m * 2) ⟨qi, qa⟩ w2 w2) := Lib.hid ⟨X2.out.1, X2.out.2, x4, x5, Below.refl _ _⟩
              clear x4 x5 h1c h2c
              go_wp2
              go_region_held3 (fun w' => w'.cell? ⟨p, 0, none⟩ = some (.int .i64 ti) ∧ w'.cell? ⟨p, 1, none⟩ = some (.int .i64 (a : Int)) ∧ w'.cell? ⟨bl, o + m * 2, none⟩ = some (.int .i64 qi) ∧ w'.cell? ⟨bl, o + m * 2 + 1, none⟩ = some (.int .i64 qa) ∧ Below w2.heap.size w2 w')
                (first | exact S4.drew HS4.out | exact S4.next (t := ⟨ti, (a : Int)⟩) (u := ⟨qi, qa⟩) ‹_› hz2 (by omega) hb9 | assumption)
                (first | (go_at_call 33; refine (HP.out _).mono ?_; rintro e w8 ⟨rfl, rfl⟩) | (go_at_call 25; refine (HO.out _).mono ?_; rintro e w9 ⟨rfl, hb9⟩))
              rename_i hHH
              have HW3 := Lib.hid hHH.2.2.2.2
              have X3 := Lib.hid (And.intro hHH.1 hHH.2.1)
              clear hHH
              have HW23 : Hid (Below wr.heap.size wr w9) := Lib.hid (by rw [HP0.out]; exact HB12.out.trans (HW3.out.mono (Nat.le_of_lt hz2)))
              obtain ⟨x0', x1'⟩ := X3.out
              generalize w9 = w3 at *
              have HS3 := Lib.hid (HSr.out.below HW23.out)
              have HB3 : Hid (Below b w w3) := Lib.hid (HB.out.trans (HW23.out.mono (by rw [HP0.out]; omega)))
              have hwf : (Lit.int .i64 ti).wf = true := by simp [Lit.wf, IntKind.min, IntKind.max, IntKind.bits, IntKind.signed]; omega
              have HWF := Lib.hid hwf
              clear hwf HW23
              by_cases hin : ti ∈ is
              · have HE2 := Lib.hid (HE.out.trans (if_pos hin))
                have hlk := HS3.out.look HWF.out
                rw [show decide (ti ∈ is) = true by simpa using hin] at hlk
                clear HE
                go_wp2
                go_ret
                exact ⟨ret_int (by rw [HE2.out]), fun h => by rw [HE2.out] at h; simp at h, HB3.out⟩
              · have HE2 := Lib.hid (HE.out.trans (if_neg hin))
                have hlk := HS3.out.look HWF.out
                rw [show decide (ti ∈ is) = false by simpa using hin] at hlk
                obtain ⟨w4, hrun, hS4, hg4⟩ := HS3.out.put HWF.out hin HIr.out.len
                have HS4' := Lib.hid hS4
                have HI4 := Lib.hid (HIr.out.snoc hin hti1 hti2)
                have HB4 : Hid (Below b w w4) := Lib.hid (HB3.out.trans ⟨hg4.os, hg4.tape, hg4.output, hg4.size, fun j hj => hg4.block j (by have := HS3.out.lt; omega) (fun e => by have := Option.some.inj e; omega)⟩)
                clear HE hS4 hg4
                go_wp2
                go_roundw
                case rel => exact ⟨k + 1, is ++ [ti], by omega, by go_num, HE2.out, HS4'.out, HI4.out, HB4.out⟩
                case measure => simp [intOf]; omega
            · have HE := Lib.hid (HD1.out.trans (if_neg (fun h => (hpr.1 h.2).elim hk0 hlq)))
              have p2 : decide (0 ≤ cmpT qq ⟨ti, (a : Int)⟩) = true := by rw [decide_eq_true_iff, hcg]; exact hlq
              obtain ⟨h1c, h2c⟩ := hq (by omega)
              clear HD1 hpr hq hcg hlq
              generalize cmpT qq ⟨ti, (a : Int)⟩ = z at *
              obtain ⟨qi, qa⟩ := qq
              obtain ⟨m, hm⟩ : ∃ m, m = k - 1 := ⟨_, rfl⟩
              rw [← hm] at h1c h2c
              have hk1 : decide ((0 : Int) < (k : Int)) = true := by simp; omega
              have hk2 : decide (0 < k) = true := by simp; omega
              have hk3 : (m : Int) < (L.length : Int) := by omega
              have hk6 : m < L.length := by omega
              have hk8 : (0 : Int) ≤ (m : Int) := by omega
              have hk9 : IntKind.i64.wrap ((k : Int) - 1) = (m : Int) := by rw [IntKind.wrap_i64]; omega
              have HM := Lib.hid hm
              have HK0 := Lib.hid hk0
              clear hm hk0
              go_wp2_with fail
              refine (HTm.out _).mono ?_
              rintro e w2 ⟨rfl, hb2⟩
              rw [p1]
              have X2 := Lib.hid (And.intro ((hb2.cell (p := ⟨wr.heap.size, 0, none⟩) (by simp)).trans (show (wr.alloc (tbo ⟨ti, (a : Int)⟩)).cell? ⟨wr.heap.size, 0, none⟩ = some (.int .i64 ti) by simp [go_sem])) ((hb2.cell (p := ⟨wr.heap.size, 1, none⟩) (by simp)).trans (show (wr.alloc (tbo ⟨ti, (a : Int)⟩)).cell? ⟨wr.heap.size, 1, none⟩ = some (.int .i64 (a : Int)) by simp [go_sem])))
              have hb12 : Below wr.heap.size wr w2 := HW1.out.trans (hb2.mono (by simp))
              have HB12 := Lib.hid hb12
              have hz2 : wr.heap.size < w2.heap.size := by have := hb2.size; simp at this; omega
              clear hb2 hb12
              generalize hp0 : wr.heap.size = p at *
              have HP0 := Lib.hid hp0
              clear hp0
              have x4 : w2.cell? ⟨bl, o + m * 2, none⟩ = some (.int .i64 qi) := (HB12.out.cell (p := ⟨bl, _, none⟩) (by show bl < p; omega)).trans h1c
              have x5 : w2.cell? ⟨bl, o + m * 2 + 1, none⟩ = some (.int .i64 qa) := (HB12.out.cell (p := ⟨bl, _, none⟩) (by show bl < p; omega)).trans h2c
              have HS4 : Hid (S4 p ⟨ti, (a : Int)⟩ bl (o + m * 2) ⟨qi, qa⟩ w2 w2) := Lib.hid ⟨X2.out.1, X2.out.2, x4, x5, Below.refl _ _⟩
              clear x4 x5 h1c h2c
              go_wp2
              go_region_held3 (fun w' => w'.cell? ⟨p, 0, none⟩ = some (.int .i64 ti) ∧ w'.cell? ⟨p, 1, none⟩ = some (.int .i64 (a : Int)) ∧ w'.cell? ⟨bl, o + m * 2, none⟩ = some (.int .i64 qi) ∧ w'.cell? ⟨bl, o + m * 2 + 1, none⟩ = some (.int .i64 qa) ∧ Below w2.heap.size w2 w')
                (first | exact S4.drew HS4.out | exact S4.next (t := ⟨ti, (a : Int)⟩) (u := ⟨qi, qa⟩) ‹_› hz2 (by omega) hb9 | assumption)
                (first | (go_at_call 33; refine (HP.out _).mono ?_; rintro e w8 ⟨rfl, rfl⟩) | (go_at_call 25; refine (HO.out _).mono ?_; rintro e w9 ⟨rfl, hb9⟩))
              rename_i hHH
              have HW3 := Lib.hid hHH.2.2.2.2
              have X3 := Lib.hid (And.intro hHH.1 hHH.2.1)
              clear hHH
              go_wp2
              go_ret
              exact ⟨ret_int (by rw [HE.out]), fun h => by rw [HE.out] at h; simp at h, HB.out.trans ((HB12.out.trans (HW3.out.mono (Nat.le_of_lt hz2))).mono (by omega))⟩
        · have HE := Lib.hid (HD1.out.trans (if_neg (fun h => hsl (HSl.out.symm.trans h.1))))
          have p2 : ((s : Int) != (i : Int)) = true := by simp; omega
          clear HD1 hpr hq hcg
          go_wp2_with fail
          refine (HTm.out _).mono ?_
          rintro e w2 ⟨rfl, hb2⟩
          rw [p1]
          have X2 := Lib.hid (And.intro ((hb2.cell (p := ⟨wr.heap.size, 0, none⟩) (by simp)).trans (show (wr.alloc (tbo ⟨ti, (a : Int)⟩)).cell? ⟨wr.heap.size, 0, none⟩ = some (.int .i64 ti) by simp [go_sem])) ((hb2.cell (p := ⟨wr.heap.size, 1, none⟩) (by simp)).trans (show (wr.alloc (tbo ⟨ti, (a : Int)⟩)).cell? ⟨wr.heap.size, 1, none⟩ = some (.int .i64 (a : Int)) by simp [go_sem])))
          have hb12 : Below wr.heap.size wr w2 := HW1.out.trans (hb2.mono (by simp))
          have HB12 := Lib.hid hb12
          have hz2 : wr.heap.size < w2.heap.size := by have := hb2.size; simp at this; omega
          clear hb2 hb12
          generalize hp0 : wr.heap.size = p at *
          have HP0 := Lib.hid hp0
          clear hp0
          go_wp2
          obtain ⟨x0, x1⟩ := X2.out
          go_quiet (first | (go_at_call 33; exact Calls.quiet_of_same ((HP.out _).mono (fun e w8 h => ⟨h.1, h.2.symm⟩))))
          have HW23 : Hid (Below b w (w2.drewN nq)) := Lib.hid (HB.out.trans ((HB12.out.trans (below_drewN _ _ _)).mono (by omega)))
          generalize w2.drewN nq = w3 at *
          go_wp2
          go_ret
          exact ⟨ret_int (by rw [HE.out]), fun h => by rw [HE.out] at h; simp at h, HW23.out⟩
      · have p1 : decide (okT (N : Int) (gt L k)) = false := by simpa using hok
        have HE : Hid (chk (N : Int) i L none ids = (3, is)) := Lib.hid (HD.out.trans (if_neg hok))
        clear HD
        generalize gt L k = t at *
        obtain ⟨ti, ta⟩ := t
        go_wp2_with fail
        refine (HTm.out _).mono ?_
        rintro e w2 ⟨rfl, hb2⟩
        rw [p1]
        have HB2 : Hid (Below b w w2) := Lib.hid (HB.out.trans ((HW1.out.trans (hb2.mono (by simp))).mono (by omega)))
        clear hb2
        go_wp2
        go_ret
        exact ⟨ret_int (by rw [HE.out]), fun h => by rw [HE.out] at h; simp at h, HB2.out⟩
    · obtain rfl : k = L.length := by omega
      have HE : Hid (chk (N : Int) i L none ids = (0, is)) := Lib.hid (by rw [HC.out, List.drop_length]; rfl)
      go_wp2
      go_ret
      exact ⟨ret_int (by rw [HE.out]), fun _ => by rw [HE.out]; exact ⟨HSr.out, HIr.out⟩, HB.out⟩

end Go.Proofs.Yteldnohdijcbpaa.Whl
