/-
  The reference of package wheel: WheelOf.
-/
import Derived.Test.YteldnohdijcbpaaWheelRef5
import Derived.Test.YteldnohdijcbpaaWheelAdv
namespace Go.Proofs.Yteldnohdijcbpaa.Whl
open Go.RowKit Go.Maps
set_option linter.unusedVariables false

theorem late_snoc_y {L : List Tm} {t : Tm} {a : Int} (h : a < t.tm) : lateT (L ++ [t]) a = lateT L a ++ [t] := by unfold lateT; rw [List.filter_append]; simp [h]
theorem late_snoc_n {L : List Tm} {t : Tm} {a : Int} (h : ¬ a < t.tm) : lateT (L ++ [t]) a = lateT L a := by unfold lateT; rw [List.filter_append]; simp [h]
theorem rows_nil (w : World) (now : Int) (base q : Nat) (hq : w.heap[q]? = some (.cells nils 32 (0, 0))) (hqb : q < base) : Rows w base q (fun _ => .slice none 0 0) (spread now []) := by
  have hl : (spread now []).length = 48 := spread_len _ _
  refine ⟨?_, hqb, by omega, fun i hi => ?_, fun i j _ _ _ b hb => by cases hb⟩
  · rw [hl]
    have e : (List.range 48).map (fun _ => Value.slice none 0 0) = List.replicate 48 (Value.slice none 0 0) := by rw [List.eq_replicate_iff]; simp
    rw [e]
    exact hq
  · rw [hl] at hi
    rw [gr_spread hi]
    exact World.ownsRow_nil _ _ _ _

set_option maxHeartbeats 8000000 in
theorem refOf_any (N : Nat) (A : Option Addr) (c : Nat) (L S : List Tm) (w : World) (hN : N < 262144) (hT : Tms w A c L) (hS : Sorted S) (hP : L.Perm S) (hl : L.length ≤ 1000) (hok : ∀ t ∈ S, isT t.tm) :
    Calls Try.prog 10 #[.int .i64 (N : Int), .slice A L.length c] w fun e w' => ∃ A' c', e = .returned (wv (wheelOf (N : Int) (lateT S (N : Int))) A' c') ∧ Grid w.heap.size w' A' c' (spread (N : Int) (lateT S (N : Int))) ∧ Below w.heap.size w w' := by
  have hmk := run_make_slots
  have HOK := Lib.hid hok
  have HLS : Hid (S.length = L.length) := Lib.hid hP.length_eq.symm
  have HL := Lib.hid hl
  have hz1 : (w.alloc zo).heap.size = w.heap.size + 1 := by simp
  have hz2 : ((w.alloc zo).alloc (.cells nils 32)).heap.size = w.heap.size + 1 + 1 := by simp
  have hz3 : (((w.alloc zo).alloc (.cells nils 32)).alloc (.cells #[.int .i64 (N : Int), .slice (some ⟨w.heap.size + 1, 0, none⟩) 48 48] 24)).heap.size = w.heap.size + 1 + 1 + 1 := by simp
  have hB1 : Below (w.heap.size + 1) (w.alloc zo) ((w.alloc zo).alloc (.cells nils 32)) := (Below.refl _ _).alloc (by rw [hz1]; exact Nat.le_refl _) _
  have hB2 : Below (w.heap.size + 1 + 1) ((w.alloc zo).alloc (.cells nils 32)) (((w.alloc zo).alloc (.cells nils 32)).alloc (.cells #[.int .i64 (N : Int), .slice (some ⟨w.heap.size + 1, 0, none⟩) 48 48] 24)) := (Below.refl _ _).alloc (by rw [hz2]; exact Nat.le_refl _) _
  have HR0 := Lib.hid (RS.next (RS.next (RS.new w rfl) (Nat.lt_succ_self _) hB1) (B := w.heap.size + 1 + 1) (by omega) hB2)
  have HQ0 : Hid ((((w.alloc zo).alloc (.cells nils 32)).alloc (.cells #[.int .i64 (N : Int), .slice (some ⟨w.heap.size + 1, 0, none⟩) 48 48] 24)).heap[w.heap.size + 1]? = some (.cells nils 32 (0, 0))) := Lib.hid ((hB2.block _ (Nat.lt_succ_self _)).trans (by rw [← hz1]; exact heap_alloc_new _ _))
  have HC0 : Hid ((((w.alloc zo).alloc (.cells nils 32)).alloc (.cells #[.int .i64 (N : Int), .slice (some ⟨w.heap.size + 1, 0, none⟩) 48 48] 24)).cell? ⟨w.heap.size + 1 + 1, 0, none⟩ = some (.int .i64 (N : Int)) ∧
      (((w.alloc zo).alloc (.cells nils 32)).alloc (.cells #[.int .i64 (N : Int), .slice (some ⟨w.heap.size + 1, 0, none⟩) 48 48] 24)).cell? ⟨w.heap.size + 1 + 1, 1, none⟩ = some (.slice (some ⟨w.heap.size + 1, 0, none⟩) 48 48)) := Lib.hid (by rw [← hz2]; exact ⟨by simp [go_sem], by simp [go_sem]⟩)
  have HB0 : Hid (Below w.heap.size w (((w.alloc zo).alloc (.cells nils 32)).alloc (.cells #[.int .i64 (N : Int), .slice (some ⟨w.heap.size + 1, 0, none⟩) 48 48] 24))) := Lib.hid HR0.out.2.2.2.2.2
  have HTS := Lib.hid (fun W (h : Tms W A c L) => tsorted_any A c L S W h hS hP hl)
  have HT := Lib.hid hT
  have HZ3 := Lib.hid hz3
  clear hT hS hP hl hok hB1 hB2 hz1 hz2 hz3
  obtain ⟨ln, hln⟩ : ∃ ln, L.length = ln := ⟨_, rfl⟩
  have HLN := Lib.hid hln
  rw [hln] at HTS ⊢
  clear hln
  go_enter Try.func10, Try.ntmps10
  go_wp2_with fail
  refine (HTS.out _ (HT.out.below HB0.out)).mono ?_
  rintro e w1 ⟨v, rfl, hown, hb1⟩
  generalize (((w.alloc zo).alloc (.cells nils 32)).alloc (.cells #[.int .i64 (N : Int), .slice (some ⟨w.heap.size + 1, 0, none⟩) 48 48] 24)) = w0 at *
  generalize hn : w.heap.size = n at *
  have HN := Lib.hid hn
  clear hn hmk
  rw [HZ3.out] at hown hb1
  obtain ⟨A1, c1, rfl, hT1, hA1⟩ := tms_of_own hown
  have HT1 := Lib.hid hT1
  have HA1 : Hid (∀ a, A1 = some a → a.block ≠ n + 1) := Lib.hid (fun a ha => by have := hA1 a ha; omega)
  have HR1 : Hid (RS n w w1) := Lib.hid (RS.next HR0.out (by omega) hb1)
  have HZ1 : Hid (n + 1 + 1 + 1 ≤ w1.heap.size) := Lib.hid (by have := hb1.size; rw [HZ3.out] at this; exact this)
  have HI1 : Hid (Rows w1 w1.heap.size (n + 1) (fun _ => .slice none 0 0) (spread (N : Int) [])) := Lib.hid (rows_nil w1 (N : Int) w1.heap.size (n + 1) ((hb1.block _ (by omega)).trans HQ0.out) (by have := HZ1.out; omega))
  have HC1 : Hid (w1.cell? ⟨n + 1 + 1, 0, none⟩ = some (.int .i64 (N : Int)) ∧ w1.cell? ⟨n + 1 + 1, 1, none⟩ = some (.slice (some ⟨n + 1, 0, none⟩) 48 48)) := Lib.hid ⟨(hb1.cell (p := ⟨n + 1 + 1, 0, none⟩) (Nat.lt_succ_self _)).trans HC0.out.1, (hb1.cell (p := ⟨n + 1 + 1, 1, none⟩) (Nat.lt_succ_self _)).trans HC0.out.2⟩
  have hlS : S.length = ln := HLS.out.trans HLN.out
  rw [hlS]
  have HLS2 := Lib.hid hlS
  have hl3 : ln ≤ 1000 := by have := HL.out; rw [HLN.out] at this; exact this
  clear hown hb1 hT1 hA1 HTS HT HB0 HC0 HQ0 hlS HR0
  go_wp2
  go_loopw [6] (fun x wr => ∃ k : Nat, k ≤ ln ∧ x = .int .i64 (k : Int) ∧ (∃ vs, Rows wr w1.heap.size (n + 1) vs (spread (N : Int) (lateT (S.take k) (N : Int)))) ∧ Kp (n + 1) w1 wr ∧ Below (n + 1) w1 wr) (fun x _ => ln - (intOf x).toNat)
  case atStart => exact ⟨0, by omega, rfl, ⟨_, HI1.out⟩, Kp.of (Below.refl _ _), Below.refl _ _⟩
  case round =>
    obtain ⟨k, hk, rfl, ⟨vs, hR⟩, hK, hB⟩ := hrel
    have HR := Lib.hid hR
    have HK := Lib.hid hK
    have HB := Lib.hid hB
    clear hR hK hB
    have HCr : Hid (wr.cell? ⟨n + 1 + 1, 0, none⟩ = some (.int .i64 (N : Int)) ∧ wr.cell? ⟨n + 1 + 1, 1, none⟩ = some (.slice (some ⟨n + 1, 0, none⟩) 48 48)) := Lib.hid (by
      have hb : ∀ j, wr.cell? ⟨n + 1 + 1, j, none⟩ = w1.cell? ⟨n + 1 + 1, j, none⟩ := fun j => World.cell?_of_block (w := w1) (a := ⟨n + 1 + 1, j, none⟩) (HK.out.2 (n + 1 + 1) (by have := HZ1.out; omega) (by omega))
      exact ⟨(hb 0).trans HC1.out.1, (hb 1).trans HC1.out.2⟩)
    by_cases hlt : k < ln
    · have hkn : (k : Int) < (ln : Int) := by omega
      have hTr := HT1.out.kp HK.out HA1.out
      obtain ⟨b, o, rfl, hb, hr⟩ := hTr.2.2.2 (by rw [HLS2.out]; omega)
      obtain ⟨e1, e2⟩ := hr k (by rw [HLS2.out]; exact hlt)
      have hti := HOK.out _ (gt_mem (L := S) (i := k) (by rw [HLS2.out]; exact hlt))
      have HTk := Lib.hid (take_snoc (L := S) (k := k) (by rw [HLS2.out]; exact hlt))
      have HBb := Lib.hid hb
      clear hTr hr hb
      generalize gt S k = t at *
      obtain ⟨ti, ta⟩ := t
      obtain ⟨a, rfl⟩ : ∃ a : Nat, ta = (a : Int) := ⟨ta.toNat, by have := hti.1; simp only at this; omega⟩
      have ha : a < 262144 := by have := hti.2; simp only at this; omega
      simp only at e1 e2
      clear hti
      by_cases hNa : N < a
      · have q : decide (N < a) = true := by simpa using hNa
        have q2 : decide ((N : Int) < (a : Int)) = true := by simp; omega
        have HP := Lib.hid (wplace_any a N wr ha hN hNa)
        have hs48 : slotN N a < 48 := slotN_lt (by omega) hN ha
        have HSl : Hid (slot (N : Int) ⟨ti, (a : Int)⟩ = slotN N a) := Lib.hid (by unfold slot; simp)
        have HSp : Hid (spread (N : Int) (lateT (S.take (k + 1)) (N : Int)) = (spread (N : Int) (lateT (S.take k) (N : Int))).set (slotN N a) (gr (spread (N : Int) (lateT (S.take k) (N : Int))) (slotN N a) ++ [⟨ti, (a : Int)⟩])) := Lib.hid (by
          rw [HTk.out, late_snoc_y (show (N : Int) < (a : Int) by omega), spread_snoc (by rw [HSl.out]; exact hs48), HSl.out])
        generalize slotN N a = s at *
        have hlen48 : (spread (N : Int) (lateT (S.take k) (N : Int))).length = 48 := spread_len _ _
        have hgl : (gr (spread (N : Int) (lateT (S.take k) (N : Int))) s).length ≤ 1000 := by
          rw [gr_spread hs48]
          have h1 := List.length_filter_le (fun t => slot (N : Int) t == s) (lateT (S.take k) (N : Int))
          have h2 : (lateT (S.take k) (N : Int)).length ≤ (S.take k).length := List.length_filter_le _ _
          have h3 : (S.take k).length ≤ S.length := by rw [List.length_take]; exact Nat.min_le_right _ _
          have := HLS2.out
          omega
        obtain ⟨n1, hn1⟩ : ∃ n1, n1 = (gr (spread (N : Int) (lateT (S.take k) (N : Int))) s ++ [(⟨ti, (a : Int)⟩ : Tm)]).length := ⟨_, rfl⟩
        generalize spread (N : Int) (lateT (S.take k) (N : Int)) = LL at *
        have HG := Lib.hid hgl
        have HN1 := Lib.hid hn1
        have HsL : Hid (s < LL.length) := Lib.hid (by omega)
        clear hgl hn1 hlen48
        go_wp2_with fail
        refine HP.out.mono ?_
        rintro e w2 ⟨rfl, hb2⟩
        have HR2 := Lib.hid (HR.out.below hb2)
        have HK2 := Lib.hid (HK.out.next hb2)
        have HB2 : Hid (Below (n + 1) w1 w2) := Lib.hid (HB.out.trans (hb2.mono (by have := HK.out.1; have := HZ1.out; omega)))
        have e1' := (hb2.cell (p := ⟨b, _, none⟩) HBb.out).trans e1
        have e2' := (hb2.cell (p := ⟨b, _, none⟩) HBb.out).trans e2
        have hz2 : n + 1 + 1 < wr.heap.size := by have := HK.out.1; have := HZ1.out; omega
        have c1 := (hb2.cell (p := ⟨n + 1 + 1, 1, none⟩) hz2).trans HCr.out.2
        have hv := HR2.out.cell (i := s) HsL.out
        have hvf := HR2.out.frozen s
        have HZw : Hid (w1.heap.size ≤ w2.heap.size) := Lib.hid HK2.out.1
        have hzz : n + 1 + 1 < w2.heap.size := Nat.lt_of_lt_of_le hz2 hb2.size
        have HZz := Lib.hid hzz
        have HBb2 : Hid (b < w2.heap.size) := Lib.hid (Nat.lt_of_lt_of_le HBb.out hb2.size)
        clear e1 e2 hb2 hz2 hzz
        have hal : Below w2.heap.size w2 (w2.alloc (tbo ⟨ti, (a : Int)⟩)).drew := ((Below.refl _ w2).alloc (Nat.le_refl _) _).drew
        have y1 : (w2.alloc (tbo ⟨ti, (a : Int)⟩)).cell? ⟨n + 1, s, none⟩ = some (vs s) := (hal.cell (p := ⟨n + 1, s, none⟩) (by show n + 1 < _; have := HZz.out; omega)).trans hv
        have y2 : (w2.alloc (tbo ⟨ti, (a : Int)⟩)).cell? ⟨n + 1 + 1, 1, none⟩ = some (.slice (some ⟨n + 1, 0, none⟩) 48 48) := (hal.cell (p := ⟨n + 1 + 1, 1, none⟩) HZz.out).trans c1
        have y3 : (w2.alloc (tbo ⟨ti, (a : Int)⟩)).cell? ⟨b, o + k * 2, none⟩ = some (.int .i64 ti) := (hal.cell (p := ⟨b, _, none⟩) HBb2.out).trans e1'
        have y4 : (w2.alloc (tbo ⟨ti, (a : Int)⟩)).cell? ⟨b, o + k * 2 + 1, none⟩ = some (.int .i64 (a : Int)) := (hal.cell (p := ⟨b, _, none⟩) HBb2.out).trans e2'
        have x0 : (w2.alloc (tbo ⟨ti, (a : Int)⟩)).drew.cell? ⟨w2.heap.size, 0, none⟩ = some (.int .i64 ti) := by simp [go_sem]
        have x1 : (w2.alloc (tbo ⟨ti, (a : Int)⟩)).drew.cell? ⟨w2.heap.size, 1, none⟩ = some (.int .i64 (a : Int)) := by simp [go_sem]
        have HAl := Lib.hid hal
        have HX := Lib.hid (And.intro x0 x1)
        have HKf : Hid (∀ g cap w3, (∀ u, u = Value.slice (some ⟨g, 0, none⟩) n1 cap → Rows (w3.setCell ⟨n + 1, s, none⟩ u) w1.heap.size (n + 1) (fun j => if j = s then u else vs j) (LL.set s (gr LL s ++ [⟨ti, (a : Int)⟩]))) → Below w1.heap.size (w2.alloc (tbo ⟨ti, (a : Int)⟩)).drew w3 →
            (∃ vs, Rows (w3.setCell ⟨n + 1, s, none⟩ (.slice (some ⟨g, 0, none⟩) n1 cap)) w1.heap.size (n + 1) vs (spread (N : Int) (lateT (S.take (k + 1)) (N : Int)))) ∧ Kp (n + 1) w1 (w3.setCell ⟨n + 1, s, none⟩ (.slice (some ⟨g, 0, none⟩) n1 cap)) ∧ Below (n + 1) w1 (w3.setCell ⟨n + 1, s, none⟩ (.slice (some ⟨g, 0, none⟩) n1 cap))) := Lib.hid (fun g cap w3 hR3 hb3 => by
          have hbb : Below w1.heap.size w2 w3 := (HAl.out.mono HZw.out).trans hb3
          have hset : Below (n + 1) w3 (w3.setCell ⟨n + 1, s, none⟩ (.slice (some ⟨g, 0, none⟩) n1 cap)) := (Below.refl _ _).setCell (p := ⟨n + 1, s, none⟩) (Nat.le_refl _) _
          have hK3 : Kp (n + 1) w1 w3 := ⟨Nat.le_trans HK2.out.1 hbb.size, fun j hj hm => (hbb.block j hj).trans (HK2.out.2 j hj hm)⟩
          exact ⟨⟨_, by rw [HSp.out]; exact hR3 _ rfl⟩, hK3.set s _, (HB2.out.trans (hbb.mono (by have := HZ1.out; omega))).trans hset⟩)
        clear hal x0 x1
        have hs48' : (s : Int) < 48 := by omega
        go_wp2
        go_region_law ((refine step_append_tm (wr := w2) (by rfl) _ _ (by rfl) w1.heap.size (n + 1) vs LL s HsL.out (by rfl) HR2.out HAl.out ⟨ti, (a : Int)⟩ w2.heap.size (by rfl) HX.out.1 HX.out.2 HG.out HZw.out n1 HN1.out ?_; intro g cap w3 hR3 hb3; have z1 := (hb3.cell (p := ⟨n + 1, s, none⟩) (by show n + 1 < w1.heap.size; have := HZ1.out; omega)).trans ((HAl.out.cell (p := ⟨n + 1, s, none⟩) (by show n + 1 < w2.heap.size; have := HZz.out; omega)).trans hv); have z2 := (hb3.frozen (p := ⟨n + 1, s, none⟩) (by show n + 1 < w1.heap.size; have := HZ1.out; omega)).trans ((HAl.out.frozen (p := ⟨n + 1, s, none⟩) (by show n + 1 < w2.heap.size; have := HZz.out; omega)).trans hvf); have z3 := (hb3.cell (p := ⟨n + 1 + 1, 1, none⟩) (by show n + 1 + 1 < w1.heap.size; have := HZ1.out; omega)).trans ((HAl.out.cell (p := ⟨n + 1 + 1, 1, none⟩) HZz.out).trans c1)))
        all_goals (have HK4 := HKf.out g cap w3 hR3 hb3; clear hR3 hb3 z1 z2 z3 y1 y2 y3 y4; generalize (w3.setCell ⟨n + 1, s, none⟩ (.slice (some ⟨g, 0, none⟩) n1 cap)) = w4 at *; go_wp2; go_roundw)
        all_goals first | exact ⟨k + 1, by omega, by go_num, HK4.1, HK4.2.1, HK4.2.2⟩ | (simp [intOf]; omega)
      · have q : decide (N < a) = false := by simpa using hNa
        have q2 : decide ((N : Int) < (a : Int)) = false := by simp; omega
        have HSp : Hid (lateT (S.take (k + 1)) (N : Int) = lateT (S.take k) (N : Int)) := Lib.hid (by rw [HTk.out, late_snoc_n (show ¬ (N : Int) < (a : Int) by omega)])
        clear hNa
        go_wp2
        go_roundw
        case rel => exact ⟨k + 1, by omega, by go_num, ⟨vs, by rw [HSp.out]; exact HR.out⟩, HK.out, HB.out⟩
        case measure => simp [intOf]; omega
    · obtain rfl : k = ln := by omega
      have hG := HR.out.grid (c := 48) (by rw [spread_len]; omega) (by omega)
      rw [← HLS2.out, List.take_length] at hG
      have HG := Lib.hid hG
      have HRe : Hid (RS n w wr) := Lib.hid (RS.next HR1.out (Nat.lt_succ_self _) HB.out)
      obtain ⟨c0, c1⟩ := HCr.out
      obtain ⟨r0, r1, f0, f1, -, -⟩ := HRe.out
      clear hG
      go_wp2
      refine bodyPost_ret (v := .agg #[.int .i64 (N : Int), .slice (some ⟨n + 1, 0, none⟩) 48 48]) (by simp [results, Try.results10, go_sem, r0, r1]) rfl ?_
      refine ⟨some ⟨n + 1, 0, none⟩, 48, by simp [wv, wheelOf, spread_len], ?_, ?_⟩
      · exact Grid.mono (B := n + 1) ((HG.out.setCell (p := ⟨n, 0, none⟩) (Nat.lt_succ_self _) _).setCell (p := ⟨n, 1, none⟩) (Nat.lt_succ_self _) _) (by rw [HN.out]; omega)
      · rw [HN.out]; exact below_set2 HRe.out.2.2.2.2.2 _ _

end Go.Proofs.Yteldnohdijcbpaa.Whl
