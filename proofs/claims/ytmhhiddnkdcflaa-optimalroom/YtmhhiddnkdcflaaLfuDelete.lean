/-
  slices.Delete at keys with counts, of one of them.
-/
import Derived.Test.YtmhhiddnkdcflaaLfuInsert
import Derived.Deep.RegionLaw
namespace Go.Proofs.Ytmhhiddnkdcflaa.Lfu
open Go.RowKit
set_option linter.unusedVariables false

theorem run_clear2 (w : World) (ty : TypeId) (b o c : Nat) (hc : ∀ j, j < 2 → (w.cell? ⟨b, o + j, none⟩).isSome = true) (hf : ∀ j, j < 2 → w.frozen? ⟨b, o + j, none⟩ = false) :
    (Builtin.clear_ #[45] ty #[.slice (some ⟨b, o, none⟩) 1 c]).run Try.prog w = .ok (.tuple #[]) (w.setCells b o (encU ⟨0, 0⟩)) := by
  have hst := run_storeCells_cells (P := Try.prog) b o (encU ⟨0, 0⟩) 0 w (by simpa [encU] using hc) (by simpa [encU] using hf) (fun v hv => by simp only [encU, List.mem_cons, List.not_mem_nil, or_false] at hv; rcases hv with rfl | rfl <;> rfl)
  have hz : (Builtin.zeroCells (Value.agg #[.int .i64 0, .int .i64 0]).cells 1).toList = encU ⟨0, 0⟩ := by simp [Builtin.zeroCells, Value.cells, encU]; rfl
  have hv : ∀ w, (zeroValue 75).run Try.prog w = .ok (Value.agg #[.int .i64 0, .int .i64 0]) w := Try.zeroValue75
  simp [Builtin.clear_, run_underlying Try.underlying45, hv, hz, hst]

set_option maxHeartbeats 4000000 in
theorem delete_row (g cap k n : Nat) (L : List Us) (cur : Array Value) (w : World) (hn : L.length = n) (hk : k < n) (hnc : n ≤ cap) (hcap : cap ≤ 9223372036854775807)
    (hg : w.heap[g]? = some (.cells cur 75 (0, 0))) (hsz : cur.size = cap * 2) (htk : cur.toList.take (n * 2) = encUs L) :
    Calls Try.prog 53 #[.slice (some ⟨g, 0, none⟩) n cap, .int .i64 (k : Int), .int .i64 ((k : Int) + 1)] w fun e w' =>
      e = .returned (.slice (some ⟨g, 0, none⟩) (n - 1) cap) ∧ w' = (w.drew.setCells g (k * 2) (encUs (L.drop (k + 1)))).setCells g ((n - 1) * 2) (encU ⟨0, 0⟩) := by
  obtain ⟨i0, hi0, hz0, hz1, hz2⟩ := info_parts use_info
  have hwc : ∀ j, w.cell? ⟨g, j, none⟩ = cur[j]? := fun j => cell_of_row w g j _ _ (0, 0) hg
  have hcs : ∀ j v, (encUs L)[j]? = some v → w.cell? ⟨g, j, none⟩ = some v := fun j v hv => by
    rw [hwc]
    rw [← htk, List.getElem?_take] at hv
    split at hv
    · simpa using hv
    · cases hv
  have hsp : ∀ j, j < cap * 2 → (w.cell? ⟨g, j, none⟩).isSome = true := fun j hj => by rw [hwc, Array.getElem?_eq_getElem (by omega)]; rfl
  have hfz : ∀ j, w.frozen? ⟨g, j, none⟩ = false := fun j => by simp [World.frozen?, hg]
  obtain ⟨news, hnews⟩ : ∃ news, news = encUs (L.drop (k + 1)) := ⟨_, rfl⟩
  have hdl : news.length = (n - (k + 1)) * 2 := by rw [hnews, encUs_len, List.length_drop, hn]
  have hdrop : ∀ j, news[j]? = (encUs L)[(k + 1) * 2 + j]? := fun j => by
    have e : encUs L = encUs (L.take (k + 1)) ++ encUs (L.drop (k + 1)) := by rw [← encUs_app, List.take_append_drop]
    have el : (encUs (L.take (k + 1))).length = (k + 1) * 2 := by rw [encUs_len, List.length_take, hn, Nat.min_eq_left (by omega)]
    rw [hnews, e, List.getElem?_append_right (by omega), el, Nat.add_sub_cancel_left]
  obtain ⟨A, hA, hsrc⟩ : ∃ A : Addr, (if cap = k + 1 then some (⟨g, 0, none⟩ : Addr) else some ⟨g, (k + 1) * 2, none⟩) = some A ∧ Hid (∀ t u, news[t]? = some u → w.drew.cell? (A.add t) = some u) := by
    by_cases h : cap = k + 1
    · refine ⟨⟨g, 0, none⟩, by simp [h], Lib.hid (fun t u hu => ?_)⟩
      have h0 : news.length = 0 := by rw [hdl]; omega
      rw [List.length_eq_zero_iff.1 h0] at hu
      simp at hu
    · refine ⟨⟨g, (k + 1) * 2, none⟩, by simp [h], Lib.hid (fun t u hu => ?_)⟩
      rw [Addr.add_lit]
      exact hcs _ u (by rw [← hdrop]; exact hu)
  have s2 : Hid (∀ u ∈ news, u.oneCell' = true) := Lib.hid (by rw [hnews]; exact encUs_one _)
  have s1 : Hid (news.length = (n - (k + 1)) * 2) := Lib.hid hdl
  have s3 : Hid (∀ t, t < news.length → (w.drew.cell? ⟨g, 0 + k * 2 + t, none⟩).isSome = true ∧ w.drew.frozen? ⟨g, 0 + k * 2 + t, none⟩ = false) := Lib.hid (fun t ht => ⟨hsp _ (by omega), hfz _⟩)
  obtain ⟨W1, hW1⟩ : ∃ W1, W1 = w.drew.setCells g (0 + k * 2) news := ⟨_, rfl⟩
  have hcl : ∀ ty cc, (Builtin.clear_ #[45] ty #[.slice (some ⟨g, (n - 1) * 2, none⟩) 1 cc]).run Try.prog W1 = .ok (.tuple #[]) (W1.setCells g ((n - 1) * 2) (encU ⟨0, 0⟩)) := fun ty cc =>
    run_clear2 W1 ty g ((n - 1) * 2) cc (fun j hj => by
      rw [hW1]
      exact isSome_setCells g news (0 + k * 2) w.drew (fun j' hj' => hsp _ (by omega)) _ (hsp _ (by omega)))
      (fun j hj => by rw [hW1, World.frozen?_setCells]; exact hfz _)
  have HW1 := Lib.hid hW1
  have HE : Hid (W1.setCells g ((n - 1) * 2) (encU ⟨0, 0⟩) = (w.drew.setCells g (k * 2) (encUs (L.drop (k + 1)))).setCells g ((n - 1) * 2) (encU ⟨0, 0⟩)) := Lib.hid (by rw [hW1, hnews, Nat.zero_add])
  obtain ⟨m, hm⟩ : ∃ m, n = m + 1 := ⟨n - 1, by omega⟩
  subst hm
  rw [show m + 1 - 1 = m by omega] at hcl HE ⊢
  have hHi0 := Lib.hid (And.intro hi0 hz1)
  clear hi0 hz0 hz1 hz2 hwc hcs hsp hfz hdl hdrop hW1 hg hsz htk hn hnews
  have hic : k ≤ cap := by omega
  have hjc : k + 1 ≤ cap := by omega
  have hkm : k + (m + 1 - (k + 1)) = m := by omega
  have hcm : ¬ (cap = m) := by omega
  have hb1 : (0 : Int) ≤ (k : Int) + 1 := by omega
  have htn : ((k : Int) + 1).toNat = k + 1 := by omega
  have hkm2 : k ≤ m := by omega
  have hle : (k : Int) + 1 ≤ (m : Int) + 1 := by omega
  have hle2 : (k : Int) ≤ (m : Int) := by omega
  go_enter Try.func53, Try.ntmps53
  go_wp2_with fail
  go_region_law (refine step_append_room rfl (.tmp 22) (.tmp 25) 45 rfl 75 i0 2 Try.underlying45 hHi0.out.1 hHi0.out.2 g 0 k cap (by simp [Act.eval, Act.put]) A (m + 1 - (k + 1)) (cap - (k + 1)) news (by simp [Act.eval, Act.put]) s1.out hsrc.out s2.out (by omega) s3.out ?_; rw [← HW1.out])
  go_wp2
  go_ret
  exact ⟨rfl, HE.out⟩

theorem uss_delete {w w' : World} {g cap k n : Nat} {L : List Us} {cur : Array Value} (hn : L.length = n) (hk : k < n) (hnc : n ≤ cap) (hcap : cap ≤ maxLen)
    (hg : w.heap[g]? = some (.cells cur 75 (0, 0))) (hsz : cur.size = cap * 2) (htk : cur.toList.take (n * 2) = encUs L)
    (hw : w' = (w.drew.setCells g (k * 2) (encUs (L.drop (k + 1)))).setCells g ((n - 1) * 2) (encU ⟨0, 0⟩)) :
    Uss w' (some ⟨g, 0, none⟩) cap (L.take k ++ L.drop (k + 1)) ∧ ∀ B, B ≤ g → Below B w w' := by
  have hwc : ∀ j, w.cell? ⟨g, j, none⟩ = cur[j]? := fun j => cell_of_row w g j _ _ (0, 0) hg
  have hsp : ∀ j, j < cap * 2 → (w.cell? ⟨g, j, none⟩).isSome = true := fun j hj => by rw [hwc, Array.getElem?_eq_getElem (by omega)]; rfl
  have hdl : (encUs (L.drop (k + 1))).length = (n - (k + 1)) * 2 := by rw [encUs_len, List.length_drop, hn]
  have el : (encUs (L.take k)).length = k * 2 := by rw [encUs_len, List.length_take, hn, Nat.min_eq_left (by omega)]
  have hlen : (L.take k ++ L.drop (k + 1)).length = n - 1 := by simp [hn]; omega
  have hcell : ∀ j v, (encUs (L.take k ++ L.drop (k + 1)))[j]? = some v → w'.cell? ⟨g, j, none⟩ = some v := fun j v hv => by
    have hjl : j < (n - 1) * 2 := by
      have := (List.getElem?_eq_some_iff.1 hv).1
      rwa [encUs_len, hlen] at this
    rw [encUs_app] at hv
    rw [hw, World.cell?_setCells_out g _ _ _ ⟨g, j, none⟩ (fun _ _ => .inl hjl)]
    by_cases h1 : j < k * 2
    · rw [List.getElem?_append_left (by omega)] at hv
      rw [World.cell?_setCells_out g _ _ _ ⟨g, j, none⟩ (fun _ _ => .inl h1)]
      show w.cell? ⟨g, j, none⟩ = some v
      have e2 : encUs L = encUs (L.take k) ++ encUs (L.drop k) := by rw [← encUs_app, List.take_append_drop]
      have : (encUs L)[j]? = some v := by rw [e2, List.getElem?_append_left (by omega)]; exact hv
      rw [← htk, List.getElem?_take, if_pos (by omega)] at this
      rw [hwc]; simpa using this
    · rw [List.getElem?_append_right (by omega), el] at hv
      have hjl2 : j - k * 2 < (encUs (L.drop (k + 1))).length := (List.getElem?_eq_some_iff.1 hv).1
      have hk2 := World.cell?_setCells_in g (encUs (L.drop (k + 1))) (k * 2) w.drew (fun j' hj' => hsp _ (by omega)) (j - k * 2) hjl2
      rw [show k * 2 + (j - k * 2) = j by omega] at hk2
      rw [hk2, ← hv, List.getElem?_eq_getElem hjl2]
  have hbw : ∀ B, B ≤ g → Below B w w' := fun B hB => by
    rw [hw]
    exact below_setCells (below_setCells ((Below.refl _ _).drew) hB _ _) hB _ _
  refine ⟨⟨by omega, hcap, fun e => (by cases e), fun h0 => ⟨g, 0, rfl, ?_, fun i hi => ?_⟩⟩, hbw⟩
  · exact Nat.lt_of_lt_of_le (Array.getElem?_eq_some_iff.1 hg).1 (hbw g (Nat.le_refl _)).size
  · obtain ⟨e1, e2⟩ := encUs_get _ i hi
    rw [Nat.zero_add]
    exact ⟨hcell _ _ e1, hcell _ _ e2⟩

theorem delete_any (base : Nat) (v : Value) (L : List Us) (k : Nat) (w : World) (hown : OwnU w base v L) (hk : k < L.length) :
    Calls Try.prog 53 #[v, .int .i64 (k : Int), .int .i64 ((k : Int) + 1)] w fun e w' =>
      ∃ v', e = .returned v' ∧ OwnU w' base v' (rem L k) ∧ Below base w w' := by
  rcases hown.2 with ⟨rfl, h0⟩ | ⟨g, cap, cur, rfl, hb, hg, hn, hm, hs, ht⟩
  · omega
  · refine (delete_row g cap k L.length L cur w rfl hk hn (by unfold maxLen at hm; omega) hg hs ht).mono ?_
    rintro e w' ⟨rfl, hw⟩
    obtain ⟨h1, h2⟩ := uss_delete rfl hk hn hm hg hs ht hw
    have hlen : (L.take k ++ L.drop (k + 1)).length = L.length - 1 := by simp; omega
    obtain ⟨c1, k1, k2⟩ := Lru.blk_setCells (encUs (L.drop (k + 1))) (k * 2) w.drew cur hg
    obtain ⟨c2, k3, k4⟩ := Lru.blk_setCells (encU ⟨0, 0⟩) ((L.length - 1) * 2) _ c1 k1
    rw [← hw] at k3
    have h9 := own_of_uss k3 (by omega) hb h1
    rw [hlen] at h9
    exact ⟨_, rfl, h9, h2 base hb⟩

end Go.Proofs.Ytmhhiddnkdcflaa.Lfu
