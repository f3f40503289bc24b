/-
  Package lfu: toFront, victim, access.
-/
import Derived.Test.YtmhhiddnkdcflaaLfuDelete
namespace Go.Proofs.Ytmhhiddnkdcflaa.Lfu
open Go.RowKit
open Lru (isRm isK keysE keysE_zero traceE trace_zero)
set_option linter.unusedVariables false
set_option maxRecDepth 100000

theorem toFront_any (base : Nat) (v : Value) (L : List Us) (x c : Int) (w : World) (hown : OwnU w base v L) (hB : base ≤ w.heap.size) (hl : L.length ≤ 1000) :
    Calls Try.prog 52 #[v, .int .i64 x, .int .i64 c] w fun e w' => ∃ v', e = .returned v' ∧ OwnU w' base v' (⟨x, c⟩ :: L) ∧ Below base w w' := by
  have HN : Hid (Calls Try.prog 63 #[v, .int .i64 0, .slice (some ⟨w.heap.size, 0, none⟩) 1 1] (w.alloc (.cells #[.int .i64 x, .int .i64 c] 75)) fun e w' => ∃ v', e = .returned v' ∧ OwnU w' base v' (⟨x, c⟩ :: L) ∧ Below base w w') := Lib.hid (by
    refine (insert_any base v L 0 w.heap.size ⟨x, c⟩ (w.alloc (.cells #[.int .i64 x, .int .i64 c] 75)) (hown.alloc _) (Nat.zero_le _) hl (Nat.le_trans hB (by simp)) Array.getElem?_push_size (fun e => by have := (World.ownsRow.lt hown _ e).2; omega)).mono ?_
    rintro e w' ⟨v', rfl, h1, h2⟩
    exact ⟨v', rfl, h1, (bel_al (Below.refl _ _) hB _).trans h2⟩)
  clear hown hB hl
  go_enter Try.func52, Try.ntmps52
  go_wp2_with fail
  refine HN.out.mono ?_
  rintro e w1 ⟨v1, rfl, ho1, hb1⟩
  have HO1 := Lib.hid ho1
  have HB1 := Lib.hid hb1
  clear ho1 hb1
  go_wp2
  go_ret
  exact ⟨v1, rfl, HO1.out, HB1.out⟩

set_option maxHeartbeats 2000000 in
theorem victim_any (A : Option Addr) (c : Nat) (L : List Us) (w : World) (hF : Uss w A c L) (h0 : 0 < L.length) (h40 : L.length ≤ 1048576) :
    Calls Try.prog 54 #[.slice A L.length c] w fun e w' => e = .returned (.int .i64 (vicN L : Int)) ∧ Below w.heap.size w w' := by
  have HF := Lib.hid hF
  obtain ⟨b, o, rfl, -⟩ := hF.2.2.2 h0
  clear hF
  obtain ⟨n, hn⟩ : ∃ n, L.length = n := ⟨_, rfl⟩
  have HN := Lib.hid hn
  rw [hn] at h0 h40 ⊢
  clear hn
  go_enter Try.func54, Try.ntmps54
  go_wp2
  go_loopw [3, 8] (fun s3 s8 wr => ∃ k : Nat, k ≤ n ∧ s8 = .int .i64 (k : Int) ∧ s3 = .int .i64 (vic L k : Int) ∧ Hid (Below w.heap.size w wr)) (fun _ s8 _ => n - (intOf s8).toNat)
  case atStart => exact ⟨0, by omega, rfl, rfl, Lib.hid (Below.refl _ _)⟩
  case round =>
    obtain ⟨k, hk, rfl, rfl, HBr⟩ := hrel
    by_cases hlt : k < n
    · have hv : vic L k < n := by
        rcases Nat.eq_zero_or_pos k with e | e
        · subst e; exact h0
        · have := vic_lt L k e; omega
      have hin : (k : Int) < (n : Int) := by omega
      have hiB : (0 : Int) ≤ (k : Int) := by omega
      have HV : Hid (vic L (k + 1) = if (gu L k).cnt ≤ (gu L (vic L k)).cnt then k else vic L k) := Lib.hid rfl
      generalize vic L k = v at *
      have hvn : (v : Int) < (n : Int) := by omega
      have hvB : (0 : Int) ≤ (v : Int) := by omega
      have HFr := Lib.hid (HF.out.below HBr.out)
      obtain ⟨b1, o1, e, e1, e2⟩ := HFr.out.us (k := k) (by rw [HN.out]; exact hlt)
      cases e
      have HFa := Lib.hid (HFr.out.alloc (fo (gu L k)))
      obtain ⟨b2, o2, e, -, v2⟩ := HFa.out.us (k := v) (by rw [HN.out]; exact hv)
      cases e
      have HBa : Hid (Below w.heap.size w (wr.alloc (fo (gu L k)))) := Lib.hid (bel_al HBr.out HBr.out.size _)
      have n1 : (wr.alloc (fo (gu L k))).cell? ⟨wr.heap.size, 1, none⟩ = some (.int .i64 (gu L k).cnt) := by simp [go_sem]
      generalize gu L k = f at *
      obtain ⟨x, u⟩ := f
      generalize gu L v = g at *
      obtain ⟨y, z⟩ := g
      dsimp only at e1 e2 v2 n1 HV
      by_cases q1 : u ≤ z
      · have d1 : decide (u ≤ z) = true := by simpa using q1
        rw [if_pos q1] at HV
        clear q1
        go_wp2_with fail
        go_quiet (fail)
        have HB1 := Lib.hid (bel_drewN HBa.out nq)
        generalize ((wr.alloc (fo ⟨x, u⟩)).drewN nq) = w1 at *
        clear e1 e2 v2 n1
        go_wp2
        go_roundw
        case rel => exact ⟨k + 1, by omega, by go_num, by rw [HV.out], HB1⟩
        case measure => simp [intOf]; omega
      · have d1 : decide (u ≤ z) = false := by simpa using q1
        rw [if_neg q1] at HV
        clear q1
        go_wp2_with fail
        go_quiet (fail)
        have HB1 := Lib.hid (bel_drewN HBa.out nq)
        generalize ((wr.alloc (fo ⟨x, u⟩)).drewN nq) = w1 at *
        clear e1 e2 v2 n1
        go_wp2
        go_roundw
        case rel => exact ⟨k + 1, by omega, by go_num, by rw [HV.out], HB1⟩
        case measure => simp [intOf]; omega
    · obtain rfl : k = n := by omega
      have HE : Hid (vicN L = vic L k) := Lib.hid (by unfold vicN; rw [HN.out])
      go_wp2
      go_ret
      exact ⟨ret_int (by rw [HE.out]), HBr.out⟩

/-- What access gives. -/
def UR (r : Int) (L : List Us) (x : Int) (base : Nat) (w : World) (e : Ending) (w' : World) : Prop :=
  ∃ v', e = .returned (.tuple #[v', .bool (decide (x ∈ keys L)), .int .i64 (gone r L x)]) ∧ OwnU w' base v' (tch r L x) ∧ Below base w w'

set_option maxHeartbeats 2000000 in
theorem acc_any (base : Nat) (v : Value) (L : List Us) (r x : Int) (w : World) (hown : OwnU w base v L) (hB : base ≤ w.heap.size) (hg : Good r L) :
    Calls Try.prog 37 #[v, .int .i64 r, .int .i64 x] w (UR r L x base w) := by
  obtain ⟨A, c, rfl, hF, hA⟩ := uss_of_own hown
  have h40 := hg.len40
  have HO := Lib.hid hown
  have HF := Lib.hid hF
  have HB := Lib.hid hB
  have HX := Lib.hid (find_any A c L x w hF)
  have HG := Lib.hid hg
  clear hown hF hA hB hg
  rw [fnd_eq] at HX
  by_cases hx : x ∈ keys L
  · obtain ⟨hk, hky⟩ := idx_key hx
    rw [if_pos hx] at HX
    have HT : Hid (tch r L x = ⟨x, inc (gu L ((keys L).idxOf x)).cnt⟩ :: rem L ((keys L).idxOf x)) := Lib.hid (tch_hit hx)
    have HGo : Hid (gone r L x = -1) := Lib.hid (by unfold gone; rw [if_pos hx])
    have HD : Hid (decide (x ∈ keys L) = true) := Lib.hid (by simpa using hx)
    have hc := HG.out.cnts _ (gu_mem hk)
    unfold okC at hc
    generalize (keys L).idxOf x = k at *
    have q1 : decide ((0 : Int) ≤ (k : Int)) = true := by simp
    have i1 : (k : Int) < (L.length : Int) := by omega
    have i2 : (0 : Int) ≤ (k : Int) := by omega
    have hk9 : IntKind.i64.wrap ((k : Int) + 1) = (k : Int) + 1 := by rw [IntKind.wrap_i64]; omega
    have hc9 : IntKind.i64.wrap ((gu L k).cnt + 1) = (gu L k).cnt + 1 := by rw [IntKind.wrap_i64]; omega
    have hm9 : min ((gu L k).cnt + 1) 1099511627776 = inc (gu L k).cnt := rfl
    have HDl := Lib.hid (fun (W : World) (hW : OwnU W base (.slice A L.length c) L) => delete_any base (.slice A L.length c) L k W hW hk)
    have HRl : Hid ((rem L k).length ≤ 1000) := Lib.hid (by rw [rem_len hk]; omega)
    go_enter Try.func37, Try.ntmps37
    go_wp2_with fail
    refine HX.out.mono ?_
    rintro e w1 ⟨rfl, hb1⟩
    have HF1 := Lib.hid (HF.out.below hb1)
    have HO1 := Lib.hid (HO.out.below hb1)
    have HB1 : Hid (Below base w w1) := Lib.hid (hb1.mono HB.out)
    clear hb1
    obtain ⟨b, o, rfl, -, e2⟩ := HF1.out.us hk
    generalize (gu L k).cnt = cn at *
    generalize inc cn = ic at *
    clear hky hx hc h40
    generalize rem L k = M at *
    generalize L.length = n at *
    go_wp2_with fail
    refine (HDl.out _ HO1.out).mono ?_
    rintro e w2 ⟨v2, rfl, ho2, hb2⟩
    have HN := Lib.hid (toFront_any base v2 M x ic w2 ho2 (Nat.le_trans HB.out (Nat.le_trans HB1.out.size hb2.size)) HRl.out)
    have HB2 : Hid (Below base w w2) := Lib.hid (HB1.out.trans hb2)
    clear ho2 hb2 e2
    go_wp2_with fail
    refine HN.out.mono ?_
    rintro e w3 ⟨v3, rfl, ho3, hb3⟩
    have HO3 := Lib.hid ho3
    have HB3 : Hid (Below base w w3) := Lib.hid (HB2.out.trans hb3)
    clear ho3 hb3
    go_wp2
    refine bodyPost_ret (v := .tuple #[v3, .bool true, .int .i64 (-1)]) (by simp [results, Try.results37, go_sem]) rfl ?_
    exact ⟨v3, by rw [HGo.out, HD.out], by rw [HT.out]; exact HO3.out, HB3.out⟩
  · have HD : Hid (decide (x ∈ keys L) = false) := Lib.hid (by simpa using hx)
    rw [if_neg hx] at HX
    have q1 : decide ((0 : Int) ≤ -1) = false := by decide
    by_cases hf : (L.length : Int) = r
    · have hr1 := HG.out.room.1
      have h0 : 0 < L.length := by omega
      have hk := vicN_lt h0
      have HT : Hid (tch r L x = ⟨x, 1⟩ :: rem L (vicN L)) := Lib.hid (tch_full hx hf)
      have HGo : Hid (gone r L x = (gu L (vicN L)).key) := Lib.hid (by unfold gone; rw [if_neg hx, if_pos hf])
      have HVi := Lib.hid (fun (W : World) (hW : Uss W A c L) => victim_any A c L W hW h0 (by omega))
      generalize vicN L = k at *
      have q2 : ((L.length : Int) == r) = true := by simpa using hf
      have i1 : (k : Int) < (L.length : Int) := by omega
      have i2 : (0 : Int) ≤ (k : Int) := by omega
      have hk9 : IntKind.i64.wrap ((k : Int) + 1) = (k : Int) + 1 := by rw [IntKind.wrap_i64]; omega
      have HDl := Lib.hid (fun (W : World) (hW : OwnU W base (.slice A L.length c) L) => delete_any base (.slice A L.length c) L k W hW hk)
      have HRl : Hid ((rem L k).length ≤ 1000) := Lib.hid (by rw [rem_len hk]; omega)
      have HKl := Lib.hid hk
      clear hx hf hr1 h0 h40
      obtain ⟨n, hn⟩ : ∃ n, L.length = n := ⟨_, rfl⟩
      have HNn := Lib.hid hn
      rw [hn] at q2 i1 hk HX HO
      simp only [hn] at HDl HVi
      rw [hn]
      clear hn
      go_enter Try.func37, Try.ntmps37
      go_wp2_with fail
      refine HX.out.mono ?_
      rintro e w1 ⟨rfl, hb1⟩
      have HF1 := Lib.hid (HF.out.below hb1)
      have HO1 := Lib.hid (HO.out.below hb1)
      have HB1 : Hid (Below base w w1) := Lib.hid (hb1.mono HB.out)
      clear hb1
      go_wp2_with fail
      refine (HVi.out _ HF1.out).mono ?_
      rintro e w2 ⟨rfl, hb2⟩
      have HF2 := Lib.hid (HF1.out.below hb2)
      have HO2 := Lib.hid (HO1.out.below hb2)
      have HB2 : Hid (Below base w w2) := Lib.hid (HB1.out.trans (hb2.mono (Nat.le_trans HB.out HB1.out.size)))
      clear hb2
      obtain ⟨b, o, rfl, e1, -⟩ := HF2.out.us HKl.out
      generalize (gu L k).key = ky at *
      generalize rem L k = M at *
      go_wp2_with fail
      refine (HDl.out _ HO2.out).mono ?_
      rintro e w3 ⟨v3, rfl, ho3, hb3⟩
      have HN := Lib.hid (toFront_any base v3 M x 1 w3 ho3 (Nat.le_trans HB.out (Nat.le_trans HB2.out.size hb3.size)) HRl.out)
      have HB3 : Hid (Below base w w3) := Lib.hid (HB2.out.trans hb3)
      clear ho3 hb3 e1
      go_wp2_with fail
      refine HN.out.mono ?_
      rintro e w4 ⟨v4, rfl, ho4, hb4⟩
      have HO4 := Lib.hid ho4
      have HB4 : Hid (Below base w w4) := Lib.hid (HB3.out.trans hb4)
      clear ho4 hb4
      go_wp2
      refine bodyPost_ret (v := .tuple #[v4, .bool false, .int .i64 ky]) (by simp [results, Try.results37, go_sem]) rfl ?_
      exact ⟨v4, by rw [HGo.out, HD.out], by rw [HT.out]; exact HO4.out, HB4.out⟩
    · have HT : Hid (tch r L x = ⟨x, 1⟩ :: L) := Lib.hid (tch_room hx hf)
      have HGo : Hid (gone r L x = -1) := Lib.hid (by unfold gone; rw [if_neg hx, if_neg hf])
      have q2 : ((L.length : Int) == r) = false := by simpa using hf
      have HNf := Lib.hid (fun (W : World) (hW : OwnU W base (.slice A L.length c) L) (hb : base ≤ W.heap.size) => toFront_any base (.slice A L.length c) L x 1 W hW hb (by omega))
      clear hx hf h40
      generalize L.length = n at *
      go_enter Try.func37, Try.ntmps37
      go_wp2_with fail
      refine HX.out.mono ?_
      rintro e w1 ⟨rfl, hb1⟩
      have HO1 := Lib.hid (HO.out.below hb1)
      have HB1 : Hid (Below base w w1) := Lib.hid (hb1.mono HB.out)
      clear hb1
      have HN := Lib.hid (HNf.out w1 HO1.out (Nat.le_trans HB.out HB1.out.size))
      go_wp2_with fail
      refine HN.out.mono ?_
      rintro e w4 ⟨v4, rfl, ho4, hb4⟩
      have HO4 := Lib.hid ho4
      have HB4 : Hid (Below base w w4) := Lib.hid (HB1.out.trans hb4)
      clear ho4 hb4
      go_wp2
      refine bodyPost_ret (v := .tuple #[v4, .bool false, .int .i64 (-1)]) (by simp [results, Try.results37, go_sem]) rfl ?_
      exact ⟨v4, by rw [HGo.out, HD.out], by rw [HT.out]; exact HO4.out, HB4.out⟩

end Go.Proofs.Ytmhhiddnkdcflaa.Lfu
