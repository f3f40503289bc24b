/-
  What build of package wheel returns.
-/
import Derived.Test.YteldnohdijcbpaaWheelOwn
namespace Go.Proofs.Yteldnohdijcbpaa.Whl
open Go.RowKit
set_option linter.unusedVariables false

theorem spread_nil (now : Int) : spread now [] = List.replicate 48 [] := by
  unfold spread
  rw [List.eq_replicate_iff]
  simp
theorem gr_spread {now : Int} {L : List Tm} {i : Nat} (h : i < 48) : gr (spread now L) i = L.filter (fun t => slot now t == i) := by
  unfold gr
  rw [List.getD_eq_getElem?_getD, spread_get h]; rfl
theorem spread_snoc {now : Int} {L : List Tm} {t : Tm} (h : slot now t < 48) : spread now (L ++ [t]) = (spread now L).set (slot now t) (gr (spread now L) (slot now t) ++ [t]) := by
  apply List.ext_getElem?
  intro i
  rw [List.getElem?_set, spread_len]
  by_cases hi : i < 48
  · rw [spread_get hi, List.filter_append]
    by_cases e : slot now t = i
    · subst e
      rw [if_pos rfl, if_pos h, gr_spread h]
      simp
    · rw [if_neg e, spread_get hi]
      have : ([t].filter fun u => slot now u == i) = [] := by simp [e]
      rw [this, List.append_nil]
  · have e : slot now t ≠ i := by omega
    rw [if_neg e, List.getElem?_eq_none (by rw [spread_len]; omega), List.getElem?_eq_none (by rw [spread_len]; omega)]
theorem take_snoc {L : List Tm} {k : Nat} (h : k < L.length) : L.take (k + 1) = L.take k ++ [gt L k] := by rw [List.take_succ_eq_append_getElem h, gt_get h]

theorem rows_new (w : World) (now : Int) (n : Nat) (hn : w.heap.size = n + 1) : Rows (w.alloc (.cells nils 32)) (n + 2) (n + 1) (fun _ => .slice none 0 0) (spread now []) := by
  have hl : (spread now []).length = 48 := spread_len _ _
  refine ⟨?_, by omega, by omega, fun i hi => ?_, fun i j _ _ _ b hb => by cases hb⟩
  · rw [hl, ← hn]
    have e : (List.range 48).map (fun _ => Value.slice none 0 0) = List.replicate 48 (Value.slice none 0 0) := by rw [List.eq_replicate_iff]; simp
    rw [e]
    exact heap_alloc_new w _
  · rw [hl] at hi
    rw [gr_spread hi]
    exact World.ownsRow_nil _ _ _ _

set_option maxHeartbeats 8000000 in
theorem build_any (N : Nat) (A : Option Addr) (c : Nat) (L : List Tm) (w : World) (hN : N < 262144) (hok : ∀ t ∈ L, isT t.tm ∧ (N : Int) < t.tm) (hT : Tms w A c L) (hl : L.length ≤ 60) :
    Calls Try.prog 20 #[.int .i64 (N : Int), .slice A L.length c] w fun e w' => ∃ A' c', e = .returned (wv (wheelOf (N : Int) L) A' c') ∧ Grid w.heap.size w' A' c' (spread (N : Int) L) ∧ Below w.heap.size w w' := by
  have hmk := run_make_slots
  have hR0 := rows_new (w.alloc (.cells #[.int .i64 0, .slice none 0 0] 24)) (N : Int) w.heap.size (by simp)
  have hB0 : Below w.heap.size w ((w.alloc (.cells #[.int .i64 0, .slice none 0 0] 24)).alloc (.cells nils 32)) := ((Below.refl _ w).alloc (Nat.le_refl _) _).alloc (by simp) _
  have c0 : ((w.alloc (.cells #[.int .i64 0, .slice none 0 0] 24)).alloc (.cells nils 32)).cell? ⟨w.heap.size, 0, none⟩ = some (.int .i64 0) :=
    (((Below.refl (w.heap.size + 1) (w.alloc (.cells #[.int .i64 0, .slice none 0 0] 24))).alloc (by simp) _).cell (p := ⟨w.heap.size, 0, none⟩) (Nat.lt_succ_self _)).trans (by simp [go_sem])
  have c1 : ((w.alloc (.cells #[.int .i64 0, .slice none 0 0] 24)).alloc (.cells nils 32)).cell? ⟨w.heap.size, 1, none⟩ = some (.slice none 0 0) :=
    (((Below.refl (w.heap.size + 1) (w.alloc (.cells #[.int .i64 0, .slice none 0 0] 24))).alloc (by simp) _).cell (p := ⟨w.heap.size, 1, none⟩) (Nat.lt_succ_self _)).trans (by simp [go_sem])
  have cf : ∀ j, ((w.alloc (.cells #[.int .i64 0, .slice none 0 0] 24)).alloc (.cells nils 32)).frozen? ⟨w.heap.size, j, none⟩ = false := fun j =>
    (((Below.refl (w.heap.size + 1) (w.alloc (.cells #[.int .i64 0, .slice none 0 0] 24))).alloc (by simp) _).frozen (p := ⟨w.heap.size, j, none⟩) (Nat.lt_succ_self _)).trans (by simp [go_sem])
  have hz0 : ((w.alloc (.cells #[.int .i64 0, .slice none 0 0] 24)).alloc (.cells nils 32)).heap.size = w.heap.size + 2 := by simp
  have HR0 := Lib.hid hR0
  have HB0 := Lib.hid hB0
  have HT := Lib.hid hT
  have HOK := Lib.hid hok
  have HC := Lib.hid (And.intro c0 (And.intro c1 cf))
  have hlen := hT.len
  clear hR0 hB0 hT hok c0 c1 cf
  go_enter Try.func20, Try.ntmps20
  go_wp2
  generalize ((w.alloc (.cells #[.int .i64 0, .slice none 0 0] 24)).alloc (.cells nils 32)) = w0 at *
  generalize hn : w.heap.size = n at *
  have HN := Lib.hid hn
  clear hn
  go_loopw [12] (fun i wr => ∃ k : Nat, k ≤ L.length ∧ i = .int .i64 (k : Int) ∧ (∃ vs, Rows wr (n + 2) (n + 1) vs (spread (N : Int) (L.take k))) ∧ Below (n + 1) w0 wr ∧ n + 2 ≤ wr.heap.size) (fun i _ => L.length - (intOf i).toNat)
  case atStart => exact ⟨0, by omega, rfl, ⟨_, HR0.out⟩, Below.refl _ _, by omega⟩
  case round =>
    obtain ⟨k, hk, rfl, ⟨vs, hR⟩, hB, hz⟩ := hrel
    have HR := Lib.hid hR
    have HB := Lib.hid hB
    clear hR hB
    by_cases hlt : k < L.length
    · have hkn : (k : Int) < (L.length : Int) := by omega
      have hBw : Below n w wr := HB0.out.trans (HB.out.mono (by omega))
      obtain ⟨b, o, rfl, hb, hr⟩ := HT.out.2.2.2 (by omega)
      rw [HN.out] at hb
      obtain ⟨g1, g2⟩ := hr k hlt
      have e1 := (hBw.cell (p := ⟨b, _, none⟩) hb).trans g1
      have e2 := (hBw.cell (p := ⟨b, _, none⟩) hb).trans g2
      obtain ⟨hok1, hok2⟩ := HOK.out _ (gt_mem hlt)
      have HTk := Lib.hid (take_snoc hlt)
      clear hr g1 g2 hBw
      generalize gt L k = t at *
      obtain ⟨ti, ta⟩ := t
      obtain ⟨a, rfl⟩ : ∃ a : Nat, ta = (a : Int) := ⟨ta.toNat, by have := hok1.1; simp only at this; omega⟩
      have ha : a < 262144 := by have := hok1.2; simp only at this; omega
      have hNa : N < a := by simp only at hok2; omega
      have HP := Lib.hid (place_any N a · hN ha hNa)
      have hs48 : slotN N a < 48 := slotN_lt (by omega) hN ha
      have HSl : Hid (slot (N : Int) ⟨ti, (a : Int)⟩ = slotN N a) := Lib.hid (by unfold slot; simp)
      clear hok1 hok2
      generalize slotN N a = s at *
      have hlen48 : (spread (N : Int) (L.take k)).length = 48 := spread_len _ _
      have hgl : (gr (spread (N : Int) (L.take k)) s).length ≤ 1000 := by
        rw [gr_spread hs48]
        have h1 := List.length_filter_le (fun t => slot (N : Int) t == s) (L.take k)
        have h2 : (L.take k).length ≤ L.length := by rw [List.length_take]; exact Nat.min_le_right _ _
        omega
      have HSp : Hid (spread (N : Int) (L.take (k + 1)) = (spread (N : Int) (L.take k)).set s (gr (spread (N : Int) (L.take k)) s ++ [⟨ti, (a : Int)⟩])) := Lib.hid (by
        rw [HTk.out, spread_snoc (by rw [HSl.out]; exact hs48), HSl.out])
      obtain ⟨n1, hn1⟩ : ∃ n1, n1 = (gr (spread (N : Int) (L.take k)) s ++ [(⟨ti, (a : Int)⟩ : Tm)]).length := ⟨_, rfl⟩
      generalize spread (N : Int) (L.take k) = LL at *
      have hv := HR.out.cell (i := s) (by omega)
      have hvf := HR.out.frozen s
      have hal : Below wr.heap.size wr ((wr.alloc (tbo ⟨ti, (a : Int)⟩)).alloc (tbo ⟨ti, (a : Int)⟩)).drew := (((Below.refl _ wr).alloc (Nat.le_refl _) _).alloc (by simp) _).drew
      have y1 : (wr.alloc (tbo ⟨ti, (a : Int)⟩)).cell? ⟨n + 1, s, none⟩ = some (vs s) := (((Below.refl wr.heap.size wr).alloc (Nat.le_refl _) _).cell (p := ⟨n + 1, s, none⟩) (by show n + 1 < _; omega)).trans hv
      have y2 : ((wr.alloc (tbo ⟨ti, (a : Int)⟩)).alloc (tbo ⟨ti, (a : Int)⟩)).cell? ⟨n + 1, s, none⟩ = some (vs s) := (hal.cell (p := ⟨n + 1, s, none⟩) (by show n + 1 < _; omega)).trans hv
      have x0 : ((wr.alloc (tbo ⟨ti, (a : Int)⟩)).alloc (tbo ⟨ti, (a : Int)⟩)).drew.cell? ⟨wr.heap.size + 1, 0, none⟩ = some (.int .i64 ti) := by simp [go_sem]
      have x1 : ((wr.alloc (tbo ⟨ti, (a : Int)⟩)).alloc (tbo ⟨ti, (a : Int)⟩)).drew.cell? ⟨wr.heap.size + 1, 1, none⟩ = some (.int .i64 (a : Int)) := by simp [go_sem]
      have HAl := Lib.hid hal
      have HX := Lib.hid (And.intro x0 x1)
      have HG := Lib.hid hgl
      have HN1 := Lib.hid hn1
      have hsL : s < LL.length := by omega
      have HsL := Lib.hid hsL
      have HK : Hid (∀ g cap w1, (∀ u, u = Value.slice (some ⟨g, 0, none⟩) n1 cap → Rows (w1.setCell ⟨n + 1, s, none⟩ u) (n + 2) (n + 1) (fun j => if j = s then u else vs j) (LL.set s (gr LL s ++ [⟨ti, (a : Int)⟩]))) → Below (n + 2) ((wr.alloc (tbo ⟨ti, (a : Int)⟩)).alloc (tbo ⟨ti, (a : Int)⟩)).drew w1 →
          (∃ vs, Rows (w1.setCell ⟨n + 1, s, none⟩ (.slice (some ⟨g, 0, none⟩) n1 cap)) (n + 2) (n + 1) vs (spread (N : Int) (L.take (k + 1)))) ∧ Below (n + 1) w0 (w1.setCell ⟨n + 1, s, none⟩ (.slice (some ⟨g, 0, none⟩) n1 cap)) ∧ n + 2 ≤ (w1.setCell ⟨n + 1, s, none⟩ (.slice (some ⟨g, 0, none⟩) n1 cap)).heap.size) := Lib.hid (fun g cap w1 hR1 hb1 => by
        have hbb : Below (n + 2) wr w1 := (HAl.out.mono hz).trans hb1
        have hset : Below (n + 1) w1 (w1.setCell ⟨n + 1, s, none⟩ (.slice (some ⟨g, 0, none⟩) n1 cap)) := (Below.refl _ _).setCell (p := ⟨n + 1, s, none⟩) (Nat.le_refl _) _
        exact ⟨⟨_, by rw [HSp.out]; exact hR1 _ rfl⟩, (HB.out.trans (hbb.mono (by omega))).trans hset, Nat.le_trans (Nat.le_trans hz hbb.size) hset.size⟩)
      clear hal x0 x1 hgl hn1 hlen48 hsL
      have hs48' : (s : Int) < 48 := by omega
      go_wp2_with fail
      refine (HP.out _).mono ?_
      rintro e w1 ⟨rfl, rfl⟩
      go_wp2
      go_region_law ((refine step_append_tm (wr := wr) (by rfl) _ _ (by rfl) (n + 2) (n + 1) vs LL s HsL.out (by rfl) HR.out HAl.out ⟨ti, (a : Int)⟩ (wr.heap.size + 1) (by rfl) HX.out.1 HX.out.2 HG.out hz n1 HN1.out ?_; intro g cap w1 hR1 hb1; have z1 := (hb1.cell (p := ⟨n + 1, s, none⟩) (by show n + 1 < n + 2; omega)).trans ((HAl.out.cell (p := ⟨n + 1, s, none⟩) (by show n + 1 < wr.heap.size; omega)).trans hv); have z2 := (hb1.frozen (p := ⟨n + 1, s, none⟩) (by show n + 1 < n + 2; omega)).trans ((HAl.out.frozen (p := ⟨n + 1, s, none⟩) (by show n + 1 < wr.heap.size; omega)).trans hvf)))
      all_goals (have HK4 := HK.out g cap w1 hR1 hb1; clear hR1 hb1 z1 z2 y1 y2; generalize (w1.setCell ⟨n + 1, s, none⟩ (.slice (some ⟨g, 0, none⟩) n1 cap)) = w4 at *; go_wp2; go_roundw)
      all_goals first | exact ⟨k + 1, by omega, by go_num, HK4.1, HK4.2.1, HK4.2.2⟩ | (simp [intOf]; omega)
    · obtain rfl : k = L.length := by omega
      have hG := HR.out.grid (c := 48) (by rw [spread_len]; omega) (by omega)
      rw [List.take_length] at hG
      have q0 := (HB.out.cell (p := ⟨n, 0, none⟩) (Nat.lt_succ_self _)).trans HC.out.1
      have q1 := (HB.out.cell (p := ⟨n, 1, none⟩) (Nat.lt_succ_self _)).trans HC.out.2.1
      have f0 := (HB.out.frozen (p := ⟨n, 0, none⟩) (Nat.lt_succ_self _)).trans (HC.out.2.2 0)
      have f1 := (HB.out.frozen (p := ⟨n, 1, none⟩) (Nat.lt_succ_self _)).trans (HC.out.2.2 1)
      have HG := Lib.hid hG
      have HBw : Hid (Below n w wr) := Lib.hid (HB0.out.trans (HB.out.mono (by omega)))
      clear hG
      go_wp2
      refine bodyPost_ret (v := .agg #[.int .i64 (N : Int), .slice (some ⟨n + 1, 0, none⟩) 48 48]) (by simp [results, Try.results20, go_sem, q0, q1]) rfl ?_
      refine ⟨some ⟨n + 1, 0, none⟩, 48, by simp [wv, wheelOf, spread_len], ?_, ?_⟩
      · exact Grid.mono (B := n + 1) ((HG.out.setCell (p := ⟨n, 0, none⟩) (Nat.lt_succ_self _) _).setCell (p := ⟨n, 1, none⟩) (Nat.lt_succ_self _) _) (by rw [HN.out]; omega)
      · rw [HN.out]; exact (HBw.out.setCell (p := ⟨n, 0, none⟩) (Nat.le_refl _) _).setCell (p := ⟨n, 1, none⟩) (Nat.le_refl _) _

end Go.Proofs.Yteldnohdijcbpaa.Whl
