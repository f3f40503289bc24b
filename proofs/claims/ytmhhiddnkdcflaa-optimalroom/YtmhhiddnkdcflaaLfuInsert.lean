/-
  slices.Insert at keys with counts, of one of them.
-/
import Derived.Test.YtmhhiddnkdcflaaLfuWalks
import Derived.Test.YtmhhiddnkdcflaaLruLib
import Derived.Shelf.Spec.SlicesInsertGrow
namespace Go.Proofs.Ytmhhiddnkdcflaa.Lfu
open Go.RowKit
set_option linter.unusedVariables false

/-- copy at rows of keys with counts: all is read before anything is written. -/
theorem run_copy2 (w : World) (ty : TypeId) (b o dLen dCap : Nat) (a : Addr) (sLen sCap : Nat) (cs : List Value) (hn : cs.length = Nat.min sLen dLen * 2)
    (hsrc : ∀ j v, cs[j]? = some v → w.cell? (a.add j) = some v) (hc : ∀ j, j < cs.length → (w.cell? ⟨b, o + j, none⟩).isSome = true) (hf : ∀ j, j < cs.length → w.frozen? ⟨b, o + j, none⟩ = false) (h1 : ∀ v ∈ cs, v.oneCell' = true) :
    (Builtin.copy_ #[45, 45] ty #[.slice (some ⟨b, o, none⟩) dLen dCap, .slice (some a) sLen sCap]).run Try.prog w = .ok (goInt (Nat.min sLen dLen)) (w.setCells b o cs) := by
  have hl := run_loadCells_list (P := Try.prog) w a cs hsrc
  have hst := run_storeCells_cells (P := Try.prog) b o cs 0 w (by simpa using hc) (by simpa using hf) h1
  obtain ⟨i0, hi0, hz0, hz1, hz2⟩ := info_parts use_info
  rw [hn] at hl
  simp [Builtin.copy_, run_underlying Try.underlying45, Builtin.lenOf, Builtin.firstCells, sizeOf, typeInfo, hi0, hz1, hl, hst]

theorem overlaps_no (w : World) (g q : Nat) (cur cur2 : Array Value) (o lb cb : Nat) (hg : w.heap[g]? = some (.cells cur 75 (0, 0))) (hq : w.heap[q]? = some (.cells cur2 75 (0, 0))) (hne : q ≠ g) (h0 : cur.size ≠ 0) :
    (callFunc 65 #[.slice (some ⟨q, 0, none⟩) 1 1, .slice (some ⟨g, o, none⟩) lb cb]).run Try.prog w = .ok (.value (.bool false)) w := by
  rw [run_callFunc_extern Try.func65 (by kernel_rfl) (by kernel_rfl) (by kernel_rfl) (e := Extern.SlicesOverlaps.overlaps #[45, 45] #[4]) (by kernel_rfl),
    Lib.run_overlaps_apart w 45 4 75 Try.underlying45 2 Try.sizeOf75 ⟨q, 0, none⟩ ⟨g, o, none⟩ 1 1 lb cb hne 75 75 cur2.size cur.size
      (by simp [World.shape?, hq]) (by simp [World.shape?, hg]) h0 (by simp [World.frozen?, hq]) (by simp [World.frozen?, hq])]
  rfl

theorem below_setCells {B g : Nat} {w0 w : World} (hb : Below B w0 w) (hg : B ≤ g) (o : Nat) (vs : List Value) : Below B w0 (w.setCells g o vs) := by
  induction vs generalizing w o with
  | nil => exact hb
  | cons v vs ih => exact ih (hb.setCell (p := ⟨g, o, none⟩) hg v) (o + 1)

set_option maxHeartbeats 4000000 in
theorem insert_shift (g cap i q n : Nat) (L : List Us) (t : Us) (cur : Array Value) (w : World) (hn : L.length = n) (hi : i < n) (hroom : n + 1 ≤ cap) (hcap : cap ≤ 9223372036854775807)
    (hg : w.heap[g]? = some (.cells cur 75 (0, 0))) (hsz : cur.size = cap * 2) (htk : cur.toList.take (n * 2) = encUs L) (hq : w.heap[q]? = some (.cells (encU t).toArray 75 (0, 0))) (hne : q ≠ g) :
    Calls Try.prog 63 #[.slice (some ⟨g, 0, none⟩) n cap, .int .i64 (i : Int), .slice (some ⟨q, 0, none⟩) 1 1] w fun e w' =>
      e = .returned (.slice (some ⟨g, 0, none⟩) (n + 1) cap) ∧ w' = (w.drew.setCells g ((i + 1) * 2) (encUs (L.drop i))).setCells g (i * 2) (encU t) := by
  have hov := fun o lb cb => overlaps_no w g q cur _ o lb cb hg hq hne (by omega)
  have hwc : ∀ j, w.cell? ⟨g, j, none⟩ = cur[j]? := fun j => cell_of_row w g j _ _ (0, 0) hg
  have hcs : ∀ j v, (encUs L)[j]? = some v → w.cell? ⟨g, j, none⟩ = some v := fun j v hv => by
    rw [hwc]
    rw [← htk, List.getElem?_take] at hv
    split at hv
    · simpa using hv
    · cases hv
  have hsp : ∀ j, j < cap * 2 → (w.cell? ⟨g, j, none⟩).isSome = true := fun j hj => by rw [hwc, Array.getElem?_eq_getElem (by omega)]; rfl
  have hfz : ∀ j, w.frozen? ⟨g, j, none⟩ = false := fun j => by simp [World.frozen?, hg]
  have hdl : (encUs (L.drop i)).length = (n - i) * 2 := by rw [encUs_len, List.length_drop, hn]
  have hdrop : ∀ j, (encUs (L.drop i))[j]? = (encUs L)[i * 2 + j]? := fun j => by
    have e : encUs L = encUs (L.take i) ++ encUs (L.drop i) := by rw [← encUs_app, List.take_append_drop]
    have el : (encUs (L.take i)).length = i * 2 := by rw [encUs_len, List.length_take, hn, Nat.min_eq_left (by omega)]
    rw [e, List.getElem?_append_right (by omega), el, Nat.add_sub_cancel_left]
  have hcp1 : ∀ ty dc sc, (Builtin.copy_ #[45, 45] ty #[.slice (some ⟨g, (i + 1) * 2, none⟩) (n + 1 - (i + 1)) dc, .slice (some ⟨g, i * 2, none⟩) (n + 1 - i) sc]).run Try.prog w.drew = .ok (goInt ((n - i : Nat) : Int)) (w.drew.setCells g ((i + 1) * 2) (encUs (L.drop i))) := fun ty dc sc => by
    have hmin : Nat.min (n + 1 - i) (n + 1 - (i + 1)) = n - i := by simp only [Nat.min_def]; split <;> omega
    have h := run_copy2 w.drew ty g ((i + 1) * 2) (n + 1 - (i + 1)) dc ⟨g, i * 2, none⟩ (n + 1 - i) sc (encUs (L.drop i)) (by rw [hdl, hmin])
      (fun j v hj => by rw [Addr.add_lit]; exact hcs _ v (by rw [← hdrop]; exact hj)) (fun j hj => hsp _ (by omega)) (fun j hj => hfz _) (encUs_one _)
    rwa [hmin] at h
  obtain ⟨W1, hW1⟩ : ∃ W1, W1 = w.drew.setCells g ((i + 1) * 2) (encUs (L.drop i)) := ⟨_, rfl⟩
  have hqc : ∀ j v, (encU t)[j]? = some v → W1.cell? ⟨q, j, none⟩ = some v := fun j v hv => by
    rw [hW1, World.cell?_setCells_out g _ _ _ ⟨q, j, none⟩ (fun h _ => absurd h hne)]
    show w.cell? ⟨q, j, none⟩ = some v
    rw [cell_of_row w q j _ _ (0, 0) hq]; simpa using hv
  have hcp2 : ∀ (W : World), (∀ x, W.cell? x = W1.cell? x) → (∀ x, W.frozen? x = W1.frozen? x) → ∀ ty dc, (Builtin.copy_ #[45, 45] ty #[.slice (some ⟨g, i * 2, none⟩) (n + 1 - i) dc, .slice (some ⟨q, 0, none⟩) 1 1]).run Try.prog W = .ok (goInt 1) (W.setCells g (i * 2) (encU t)) := fun W hc hf ty dc => by
    have hmin : Nat.min 1 (n + 1 - i) = 1 := by simp only [Nat.min_def]; split <;> omega
    have h := run_copy2 W ty g (i * 2) (n + 1 - i) dc ⟨q, 0, none⟩ 1 1 (encU t) (by rw [hmin]; rfl)
      (fun j v hj => by rw [Addr.add_lit, hc, Nat.zero_add]; exact hqc j v hj)
      (fun j hj => by
        rw [hc, hW1]
        exact isSome_setCells g (encUs (L.drop i)) ((i + 1) * 2) w.drew (fun j' hj' => hsp ((i + 1) * 2 + j') (by omega)) (i * 2 + j) (hsp (i * 2 + j) (by have : (encU t).length = 2 := rfl; omega)))
      (fun j hj => by rw [hf, hW1, World.frozen?_setCells]; exact hfz _) (fun v hv => by simp only [encU, List.mem_cons, List.not_mem_nil, or_false] at hv; rcases hv with rfl | rfl <;> rfl)
    rwa [hmin] at h
  rw [← hW1] at hcp1
  have HW1 := Lib.hid hW1
  have HC1 := Lib.hid hcp1
  have HC2 := Lib.hid hcp2
  have HOV := Lib.hid hov
  clear hcp1 hcp2 hqc hsp hfz hdrop hcs hwc hdl hg hq htk hsz hov hW1 hn
  have hz2 : ¬ ((i : Int) = (n : Int)) := by omega
  have hb4 : ¬ (cap = i) := by omega
  have hb2 : ¬ (cap = i + 1) := by omega
  have hw1 : IntKind.i64.wrap ((i : Int) + 1) = (i : Int) + 1 := by rw [IntKind.wrap_i64]; omega
  have hb1 : (0 : Int) ≤ (i : Int) + 1 := by omega
  have hin : i ≤ n := by omega
  have htn : ((i : Int) + 1).toNat = i + 1 := by omega
  have hb3 : (i : Int) ≤ (n : Int) + 1 := by omega
  go_enter Try.func63, Try.ntmps63
  have hov := HOV.out
  go_wp2_with (simp only [hov])
  go_region_law (refine step_copy_runI rfl _ _ 45 45 rfl _ _ (by simp [Act.eval, Act.put]; first | rfl | done) (by simp [Act.eval, Act.put]; first | rfl | done) (HC1.out _ _ _) ?_)
  have hc2 := HC2.out W1 (fun _ => rfl) (fun _ => rfl)
  go_wp2
  go_ret
  first | exact ⟨rfl, by rw [HW1.out]⟩ | exact ⟨rfl, HW1.out ▸ rfl⟩

/-- What the walks' cells say of a row in whose middle a timer was laid. -/
theorem uss_shift {w w' : World} {g cap i n : Nat} {L : List Us} {t : Us} {cur : Array Value} (hn : L.length = n) (hi : i < n) (hroom : n + 1 ≤ cap) (hcap : cap ≤ maxLen)
    (hg : w.heap[g]? = some (.cells cur 75 (0, 0))) (hsz : cur.size = cap * 2) (htk : cur.toList.take (n * 2) = encUs L) (hw : w' = (w.drew.setCells g ((i + 1) * 2) (encUs (L.drop i))).setCells g (i * 2) (encU t)) :
    Uss w' (some ⟨g, 0, none⟩) cap (L.take i ++ t :: L.drop i) ∧ ∀ B, B ≤ g → Below B w w' := by
  have hwc : ∀ j, w.cell? ⟨g, j, none⟩ = cur[j]? := fun j => cell_of_row w g j _ _ (0, 0) hg
  have hsp : ∀ j, j < cap * 2 → (w.cell? ⟨g, j, none⟩).isSome = true := fun j hj => by rw [hwc, Array.getElem?_eq_getElem (by omega)]; rfl
  have hdl : (encUs (L.drop i)).length = (n - i) * 2 := by rw [encUs_len, List.length_drop, hn]
  have htl : (encU t).length = 2 := rfl
  have hlen : (L.take i ++ t :: L.drop i).length = n + 1 := by simp [hn]; omega
  have hsp1 : ∀ j, j < cap * 2 → ((w.drew.setCells g ((i + 1) * 2) (encUs (L.drop i))).cell? ⟨g, j, none⟩).isSome = true := fun j hj =>
    isSome_setCells g (encUs (L.drop i)) ((i + 1) * 2) w.drew (fun j' hj' => hsp ((i + 1) * 2 + j') (by omega)) j (hsp j hj)
  -- each cell
  have hcell : ∀ j v, (encUs (L.take i ++ t :: L.drop i))[j]? = some v → w'.cell? ⟨g, j, none⟩ = some v := fun j v hv => by
    have e : encUs (L.take i ++ t :: L.drop i) = encUs (L.take i) ++ (encU t ++ encUs (L.drop i)) := by rw [encUs_app]; rfl
    have el : (encUs (L.take i)).length = i * 2 := by rw [encUs_len, List.length_take, hn, Nat.min_eq_left (by omega)]
    rw [e] at hv
    rw [hw]
    by_cases h1 : j < i * 2
    · rw [List.getElem?_append_left (by omega)] at hv
      rw [World.cell?_setCells_out g _ _ _ ⟨g, j, none⟩ (fun _ _ => .inl h1), World.cell?_setCells_out g _ _ _ ⟨g, j, none⟩ (fun _ _ => .inl (by show j < (i + 1) * 2; omega))]
      show w.cell? ⟨g, j, none⟩ = some v
      have e2 : encUs L = encUs (L.take i) ++ encUs (L.drop i) := by rw [← encUs_app, List.take_append_drop]
      have : (encUs L)[j]? = some v := by rw [e2, List.getElem?_append_left (by omega)]; exact hv
      rw [← htk, List.getElem?_take, if_pos (by omega)] at this
      rw [hwc]; simpa using this
    · rw [List.getElem?_append_right (by omega), el] at hv
      by_cases h2 : j < i * 2 + 2
      · rw [List.getElem?_append_left (by omega)] at hv
        have hk := World.cell?_setCells_in g (encU t) (i * 2) (w.drew.setCells g ((i + 1) * 2) (encUs (L.drop i))) (fun j' hj' => hsp1 _ (by omega)) (j - i * 2) (by omega)
        rw [show i * 2 + (j - i * 2) = j by omega] at hk
        rw [hk, ← hv, List.getElem?_eq_getElem]
      · rw [List.getElem?_append_right (by omega), htl] at hv
        rw [World.cell?_setCells_out g _ _ _ ⟨g, j, none⟩ (fun _ _ => .inr (by show i * 2 + (encU t).length ≤ j; omega))]
        have hjl : j - i * 2 - 2 < (encUs (L.drop i)).length := (List.getElem?_eq_some_iff.1 hv).1
        have hk := World.cell?_setCells_in g (encUs (L.drop i)) ((i + 1) * 2) w.drew (fun j' hj' => hsp _ (by omega)) (j - i * 2 - 2) hjl
        rw [show (i + 1) * 2 + (j - i * 2 - 2) = j by omega] at hk
        rw [hk, ← hv, List.getElem?_eq_getElem hjl]
  have hbw : ∀ B, B ≤ g → Below B w w' := fun B hB => by
    rw [hw]
    exact below_setCells (below_setCells ((Below.refl _ _).drew) hB _ _) hB _ _
  refine ⟨⟨by omega, hcap, fun e => (by cases e), fun h0 => ⟨g, 0, rfl, ?_, fun k hk => ?_⟩⟩, hbw⟩
  · exact Nat.lt_of_lt_of_le (Array.getElem?_eq_some_iff.1 hg).1 (hbw g (Nat.le_refl _)).size
  · obtain ⟨e1, e2⟩ := encUs_get _ k hk
    rw [Nat.zero_add]
    exact ⟨hcell _ _ e1, hcell _ _ e2⟩

set_option maxHeartbeats 4000000 in
theorem insert_grow (g cap i q n : Nat) (L : List Us) (t : Us) (cur : Array Value) (w : World) (hn : L.length = n) (hi : i < n) (hnc : n ≤ cap) (hroom : cap < n + 1) (hl : n ≤ 1048576)
    (hg : w.heap[g]? = some (.cells cur 75 (0, 0))) (hsz : cur.size = cap * 2) (htk : cur.toList.take (n * 2) = encUs L) (hq : w.heap[q]? = some (.cells (encU t).toArray 75 (0, 0))) :
    Calls Try.prog 63 #[.slice (some ⟨g, 0, none⟩) n cap, .int .i64 (i : Int), .slice (some ⟨q, 0, none⟩) 1 1] w fun e w' =>
      ∃ G ROW, e = .returned (.slice (some ⟨w.heap.size, 0, none⟩) (n + 1) G) ∧ n + 1 ≤ G ∧ G ≤ maxLen ∧ ROW.size = G * 2 ∧ ROW.toList.take (i * 2) = encUs (L.take i) ∧
        w' = (((w.drew.alloc (.cells ROW 75)).setCells w.heap.size (i * 2) (encU t)).drew).setCells w.heap.size ((i + 1) * 2) (encUs (L.drop i)) := by
  obtain ⟨i0, hi0, hz0, hz1, hz2⟩ := info_parts use_info
  have hgl := (Array.getElem?_eq_some_iff.1 hg).1
  have hql := (Array.getElem?_eq_some_iff.1 hq).1
  have hwc : ∀ j, w.cell? ⟨g, j, none⟩ = cur[j]? := fun j => cell_of_row w g j _ _ (0, 0) hg
  have hcs : ∀ j v, (encUs L)[j]? = some v → w.cell? ⟨g, j, none⟩ = some v := fun j v hv => by
    rw [hwc]
    rw [← htk, List.getElem?_take] at hv
    split at hv
    · simpa using hv
    · cases hv
  have e2 : encUs L = encUs (L.take i) ++ encUs (L.drop i) := by rw [← encUs_app, List.take_append_drop]
  have el : (encUs (L.take i)).length = i * 2 := by rw [encUs_len, List.length_take, hn, Nat.min_eq_left (by omega)]
  have hdl : (encUs (L.drop i)).length = (n - i) * 2 := by rw [encUs_len, List.length_drop, hn]
  have hold : (Builtin.firstCells i0.size i (.slice (some ⟨g, 0, none⟩) i cap)).run Try.prog w.drew = .ok (encUs (L.take i)).toArray w.drew := by
    rw [hz1]
    exact run_firstCells_some w.drew 2 i ⟨g, 0, none⟩ i cap (encUs (L.take i)) el (fun j v hj => by
      rw [Addr.add_lit, Nat.zero_add]
      refine hcs j v ?_
      rw [e2, List.getElem?_append_left (List.getElem?_eq_some_iff.1 hj).1]; exact hj)
  have hik : i + (n + 1 - i) = n + 1 := by omega
  have hrz : ∀ ty, (Builtin.append_ #[45, 3] ty #[.slice (some ⟨g, 0, none⟩) i cap, .int .i64 ((n : Int) + 1 - (i : Int))]).run Try.prog w =
      .ok (.slice (some ⟨w.heap.size, 0, none⟩) (n + 1) (grownCap w (n + 1) cap 75)) (w.drew.alloc (.cells ((encUs (L.take i)).toArray ++ Builtin.zeroCells (Value.agg #[.int .i64 0, .int .i64 0]).cells (n + 1 - i) ++ Builtin.zeroCells (Value.agg #[.int .i64 0, .int .i64 0]).cells (grownCap w (n + 1) cap 75 - (n + 1))) 75)) := fun ty => by
    have h := Lib.run_append_grow_zeros w 45 3 ty 75 i0 _ .i64 .i64 Try.underlying45 Try.underlying3 hi0 hz0 (some ⟨g, 0, none⟩) i cap (encUs (L.take i)) hold (n + 1 - i) (by omega) (by omega) (by omega) (by omega) (by rw [hz2]; omega) (by rw [hz2, hik]; exact growslice_fits hroom (by omega))
    rw [hik] at h
    rw [show (n : Int) + 1 - (i : Int) = ((n + 1 - i : Nat) : Int) by omega]
    exact h
  have hG1 := grownCap_ge w (n + 1) cap 75
  have hG2 := grownCap_le_maxLen w (n + 1) cap 75 (by unfold maxLen; omega)
  obtain ⟨G, hG⟩ : ∃ G, G = grownCap w (n + 1) cap 75 := ⟨_, rfl⟩
  rw [← hG] at hrz hG1 hG2
  obtain ⟨ROW, hROW⟩ : ∃ ROW : Array Value, ROW = (encUs (L.take i)).toArray ++ Builtin.zeroCells (Value.agg #[.int .i64 0, .int .i64 0]).cells (n + 1 - i) ++ Builtin.zeroCells (Value.agg #[.int .i64 0, .int .i64 0]).cells (G - (n + 1)) := ⟨_, rfl⟩
  rw [← hROW] at hrz
  have hRs : ROW.size = G * 2 := by
    rw [hROW]
    simp only [Array.size_append, size_zeroCells, List.size_toArray, Value.cells, el]
    show i * 2 + (n + 1 - i) * 2 + (G - (n + 1)) * 2 = G * 2
    omega
  have hRt : ROW.toList.take (i * 2) = encUs (L.take i) := by
    rw [hROW]
    simp only [Array.toList_append, List.append_assoc]
    rw [List.take_append_of_le_length (by simp [el]), List.take_of_length_le (by simp [el])]
  obtain ⟨W1, hW1⟩ : ∃ W1, W1 = w.drew.alloc (.cells ROW 75) := ⟨_, rfl⟩
  rw [← hW1] at hrz
  have hB1 : Below w.heap.size w W1 := by rw [hW1]; exact ((Below.refl _ w).drew).alloc (Nat.le_refl _) _
  have hN : ∀ j, j < G * 2 → (W1.cell? ⟨w.heap.size, j, none⟩).isSome = true := fun j hj => by
    rw [hW1, World.cell?_alloc_at (w := w.drew) ROW _ w.heap.size j rfl, Array.getElem?_eq_getElem (by omega)]; rfl
  have hNf : ∀ j, W1.frozen? ⟨w.heap.size, j, none⟩ = false := fun j => by rw [hW1]; exact World.frozen?_alloc_at (w := w.drew) ROW _ w.heap.size j rfl
  have htl : (encU t).length = 2 := rfl
  have hcpA : ∀ ty dc, (Builtin.copy_ #[45, 45] ty #[.slice (some ⟨w.heap.size, i * 2, none⟩) (n + 1 - i) dc, .slice (some ⟨q, 0, none⟩) 1 1]).run Try.prog W1 = .ok (goInt 1) (W1.setCells w.heap.size (i * 2) (encU t)) := fun ty dc => by
    have hmin : Nat.min 1 (n + 1 - i) = 1 := by simp only [Nat.min_def]; split <;> omega
    have h := run_copy2 W1 ty w.heap.size (i * 2) (n + 1 - i) dc ⟨q, 0, none⟩ 1 1 (encU t) (by rw [hmin]; rfl)
      (fun j v hj => by
        rw [Addr.add_lit, Nat.zero_add, hB1.cell (p := ⟨q, j, none⟩) hql, cell_of_row w q j _ _ (0, 0) hq]
        simpa using hj)
      (fun j hj => hN _ (by omega)) (fun j hj => hNf _) (fun v hv => by simp only [encU, List.mem_cons, List.not_mem_nil, or_false] at hv; rcases hv with rfl | rfl <;> rfl)
    rwa [hmin] at h
  obtain ⟨W2, hW2⟩ : ∃ W2, W2 = W1.setCells w.heap.size (i * 2) (encU t) := ⟨_, rfl⟩
  rw [← hW2] at hcpA
  have hB2 : Below w.heap.size w W2 := by rw [hW2]; exact below_setCells hB1 (Nat.le_refl _) _ _
  have hcpB : ∀ ty dc sc, (Builtin.copy_ #[45, 45] ty #[.slice (some ⟨w.heap.size, (i + 1) * 2, none⟩) (n + 1 - (i + 1)) dc, .slice (some ⟨g, i * 2, none⟩) (n - i) sc]).run Try.prog W2.drew = .ok (goInt ((n - i : Nat) : Int)) (W2.drew.setCells w.heap.size ((i + 1) * 2) (encUs (L.drop i))) := fun ty dc sc => by
    have hmin : Nat.min (n - i) (n + 1 - (i + 1)) = n - i := by simp only [Nat.min_def]; split <;> omega
    have h := run_copy2 W2.drew ty w.heap.size ((i + 1) * 2) (n + 1 - (i + 1)) dc ⟨g, i * 2, none⟩ (n - i) sc (encUs (L.drop i)) (by rw [hmin, hdl])
      (fun j v hj => by
        rw [Addr.add_lit]
        show W2.cell? ⟨g, i * 2 + j, none⟩ = some v
        rw [hB2.cell (p := ⟨g, i * 2 + j, none⟩) hgl]
        refine hcs _ v ?_
        rw [e2, List.getElem?_append_right (by omega), el, Nat.add_sub_cancel_left]; exact hj)
      (fun j hj => by
        show (W2.cell? ⟨w.heap.size, (i + 1) * 2 + j, none⟩).isSome = true
        rw [hW2]
        exact isSome_setCells w.heap.size (encU t) (i * 2) W1 (fun j' hj' => hN _ (by omega)) _ (hN _ (by omega)))
      (fun j hj => by
        show W2.frozen? ⟨w.heap.size, (i + 1) * 2 + j, none⟩ = false
        rw [hW2, World.frozen?_setCells]; exact hNf _) (encUs_one _)
    rwa [hmin] at h
  have HE : Hid (W2.drew.setCells w.heap.size ((i + 1) * 2) (encUs (L.drop i)) = (((w.drew.alloc (.cells ROW 75)).setCells w.heap.size (i * 2) (encU t)).drew).setCells w.heap.size ((i + 1) * 2) (encUs (L.drop i))) := Lib.hid (by rw [hW2, hW1])
  have HRZ := Lib.hid hrz
  have HCB := Lib.hid hcpB
  have HR := Lib.hid (And.intro hRs hRt)
  have hG63 : G ≤ 9223372036854775807 := by unfold maxLen at hG2; omega
  have HG2 := Lib.hid hG2
  clear hrz hcpB hW1 hW2 hB1 hB2 hN hNf hRs hRt hROW hG hold hcs hwc e2 el hdl hg hq htk hsz hi0 hz0 hz1 hz2 hik hgl hql htl hn hG2
  have hz2 : ¬ ((i : Int) = (n : Int)) := by omega
  have hb4 : ¬ (cap = i) := by omega
  have hb5 : ¬ (G = i) := by omega
  have hb2 : ¬ (G = i + 1) := by omega
  have hw1 : IntKind.i64.wrap ((i : Int) + 1) = (i : Int) + 1 := by rw [IntKind.wrap_i64]; omega
  have hw2 : IntKind.i64.wrap ((n : Int) + 1 - (i : Int)) = (n : Int) + 1 - (i : Int) := by rw [IntKind.wrap_i64]; omega
  have hb1 : (0 : Int) ≤ (i : Int) + 1 := by omega
  have hin : i ≤ n := by omega
  have htn : ((i : Int) + 1).toNat = i + 1 := by omega
  have hb3 : (i : Int) ≤ (n : Int) + 1 := by omega
  go_enter Try.func63, Try.ntmps63
  go_wp2_with (at_builtin; refine Lib.wpList_append_run _ rfl _ _ _ _ rfl _ _ rfl rfl _ _ (HRZ.out _) ?_)
  go_region_law (refine step_copy_runI rfl _ _ 45 45 rfl _ _ (by simp [Act.eval, Act.put]; first | rfl | done) (by simp [Act.eval, Act.put]; first | rfl | done) (HCB.out _ _ _) ?_)
  go_wp2
  go_ret
  exact ⟨G, ROW, rfl, hG1, HG2.out, HR.out.1, HR.out.2, HE.out⟩

theorem uss_grow {w w' : World} {G i n : Nat} {L : List Us} {t : Us} {ROW : Array Value} (hn : L.length = n) (hi : i < n) (hG : n + 1 ≤ G) (hG2 : G ≤ maxLen) (hsz : ROW.size = G * 2) (htk : ROW.toList.take (i * 2) = encUs (L.take i))
    (hw : w' = (((w.drew.alloc (.cells ROW 75)).setCells w.heap.size (i * 2) (encU t)).drew).setCells w.heap.size ((i + 1) * 2) (encUs (L.drop i))) :
    Uss w' (some ⟨w.heap.size, 0, none⟩) G (L.take i ++ t :: L.drop i) ∧ ∀ B, B ≤ w.heap.size → Below B w w' := by
  obtain ⟨W1, hW1⟩ : ∃ W1, W1 = w.drew.alloc (.cells ROW 75) := ⟨_, rfl⟩
  rw [← hW1] at hw
  have hwc : ∀ j, W1.cell? ⟨w.heap.size, j, none⟩ = ROW[j]? := fun j => by rw [hW1]; exact World.cell?_alloc_at (w := w.drew) ROW _ w.heap.size j rfl
  have hsp : ∀ j, j < G * 2 → (W1.cell? ⟨w.heap.size, j, none⟩).isSome = true := fun j hj => by rw [hwc, Array.getElem?_eq_getElem (by omega)]; rfl
  have hdl : (encUs (L.drop i)).length = (n - i) * 2 := by rw [encUs_len, List.length_drop, hn]
  have htl : (encU t).length = 2 := rfl
  have el : (encUs (L.take i)).length = i * 2 := by rw [encUs_len, List.length_take, hn, Nat.min_eq_left (by omega)]
  have hlen : (L.take i ++ t :: L.drop i).length = n + 1 := by simp [hn]; omega
  have hcell : ∀ j v, (encUs (L.take i ++ t :: L.drop i))[j]? = some v → w'.cell? ⟨w.heap.size, j, none⟩ = some v := fun j v hv => by
    have e : encUs (L.take i ++ t :: L.drop i) = encUs (L.take i) ++ (encU t ++ encUs (L.drop i)) := by rw [encUs_app]; rfl
    rw [e] at hv
    rw [hw]
    by_cases h1 : j < i * 2
    · rw [List.getElem?_append_left (by omega)] at hv
      rw [World.cell?_setCells_out _ _ _ _ ⟨w.heap.size, j, none⟩ (fun _ _ => .inl (by show j < (i + 1) * 2; omega))]
      show (W1.setCells w.heap.size (i * 2) (encU t)).cell? ⟨w.heap.size, j, none⟩ = some v
      rw [World.cell?_setCells_out _ _ _ _ ⟨w.heap.size, j, none⟩ (fun _ _ => .inl h1), hwc]
      rw [← htk, List.getElem?_take, if_pos h1] at hv
      simpa using hv
    · rw [List.getElem?_append_right (by omega), el] at hv
      by_cases h2 : j < i * 2 + 2
      · rw [List.getElem?_append_left (by omega)] at hv
        rw [World.cell?_setCells_out _ _ _ _ ⟨w.heap.size, j, none⟩ (fun _ _ => .inl (by show j < (i + 1) * 2; omega))]
        have hk := World.cell?_setCells_in w.heap.size (encU t) (i * 2) W1 (fun j' hj' => hsp _ (by omega)) (j - i * 2) (by omega)
        rw [show i * 2 + (j - i * 2) = j by omega] at hk
        show (W1.setCells w.heap.size (i * 2) (encU t)).cell? ⟨w.heap.size, j, none⟩ = some v
        rw [hk, ← hv, List.getElem?_eq_getElem]
      · rw [List.getElem?_append_right (by omega), htl] at hv
        have hjl : j - i * 2 - 2 < (encUs (L.drop i)).length := (List.getElem?_eq_some_iff.1 hv).1
        have hk := World.cell?_setCells_in w.heap.size (encUs (L.drop i)) ((i + 1) * 2) (W1.setCells w.heap.size (i * 2) (encU t)).drew (fun j' hj' => isSome_setCells w.heap.size (encU t) (i * 2) W1 (fun j' hj' => hsp _ (by omega)) _ (hsp _ (by omega))) (j - i * 2 - 2) hjl
        rw [show (i + 1) * 2 + (j - i * 2 - 2) = j by omega] at hk
        rw [hk, ← hv, List.getElem?_eq_getElem hjl]
  have hbw : ∀ B, B ≤ w.heap.size → Below B w w' := fun B hB => by
    rw [hw, hW1]
    exact below_setCells (below_setCells (((Below.refl _ w).drew).alloc hB _) hB _ _).drew hB _ _
  refine ⟨⟨by omega, hG2, fun e => (by cases e), fun h0 => ⟨w.heap.size, 0, rfl, ?_, fun k hk => ?_⟩⟩, hbw⟩
  · have h1 : w.heap.size < W1.heap.size := by rw [hW1]; simp
    have h2 : Below (w.heap.size + 1) W1 W1 := Below.refl _ _
    have h3 : W1.heap.size ≤ w'.heap.size := by
      rw [hw]
      exact (below_setCells (B := 0) (below_setCells (Below.refl 0 W1) (Nat.zero_le _) _ _).drew (Nat.zero_le _) _ _).size
    omega
  · obtain ⟨e1, e2⟩ := encUs_get _ k hk
    rw [Nat.zero_add]
    exact ⟨hcell _ _ e1, hcell _ _ e2⟩

/-- A block of the call's own whose cells read as L. -/
theorem own_of_uss {w : World} {base g cap : Nat} {cur : Array Value} {L : List Us} (hg : w.heap[g]? = some (.cells cur 75 (0, 0))) (hs : cur.size = cap * 2) (hb : base ≤ g) (h : Uss w (some ⟨g, 0, none⟩) cap L) :
    OwnU w base (.slice (some ⟨g, 0, none⟩) L.length cap) L := by
  refine ⟨encUs_len L, .inr ⟨g, cap, cur, rfl, hb, hg, h.1, h.2.1, hs, ?_⟩⟩
  have h1 := h.1
  apply List.ext_getElem?
  intro j
  by_cases hj : j < L.length * 2
  · rw [List.getElem?_take_of_lt (by omega)]
    obtain ⟨b, o, e, ht⟩ := h.2.2.2 (by omega)
    cases e
    have hjl : j < (encUs L).length := by rw [encUs_len]; exact hj
    have := uss_cells ht j _ (List.getElem?_eq_getElem hjl)
    rw [Nat.zero_add, cell_of_row w g j _ _ (0, 0) hg] at this
    rw [List.getElem?_eq_getElem hjl, ← this]
    simp
  · rw [List.getElem?_eq_none (by simp; omega), List.getElem?_eq_none (by rw [encUs_len]; omega)]

/-- 'slices.Insert(list, i, t)', list of the call's own: what is handed back reads as the list with t laid in. -/
theorem insert_any (base : Nat) (v : Value) (L : List Us) (i q : Nat) (t : Us) (w : World) (hown : OwnU w base v L) (hi : i ≤ L.length) (hl : L.length ≤ 1000) (hbase : base ≤ w.heap.size)
    (hq : w.heap[q]? = some (.cells (encU t).toArray 75 (0, 0))) (hne : v.ownBlock ≠ some q) :
    Calls Try.prog 63 #[v, .int .i64 (i : Int), .slice (some ⟨q, 0, none⟩) 1 1] w fun e w' =>
      ∃ v', e = .returned v' ∧ OwnU w' base v' (L.take i ++ t :: L.drop i) ∧ Below base w w' := by
  have hlen : (L.take i ++ t :: L.drop i).length = L.length + 1 := by simp; omega
  by_cases hin : i < L.length
  · rcases hown.2 with ⟨rfl, h0⟩ | ⟨g, cap, cur, rfl, hb, hg, hn, hm, hs, ht⟩
    · omega
    · by_cases hr : L.length + 1 ≤ cap
      · refine (insert_shift g cap i q L.length L t cur w rfl hin hr (by unfold maxLen at hm; omega) hg hs ht hq (fun e => hne (by rw [e]; rfl))).mono ?_
        rintro e w' ⟨rfl, hw⟩
        obtain ⟨h1, h2⟩ := uss_shift rfl hin hr hm hg hs ht hw
        obtain ⟨c1, k1, k2⟩ := Lru.blk_setCells (encUs (L.drop i)) ((i + 1) * 2) w.drew cur hg
        obtain ⟨c2, k3, k4⟩ := Lru.blk_setCells (encU t) (i * 2) _ c1 k1
        rw [← hw] at k3
        exact ⟨_, by rw [← hlen], own_of_uss k3 (by omega) hb h1, h2 base hb⟩
      · refine (insert_grow g cap i q L.length L t cur w rfl hin hn (by omega) (by omega) hg hs ht hq).mono ?_
        rintro e w' ⟨G, ROW, rfl, hG, hG2, hR1, hR2, hw⟩
        obtain ⟨h1, h2⟩ := uss_grow rfl hin hG hG2 hR1 hR2 hw
        obtain ⟨c1, k1, k2⟩ := Lru.blk_setCells (g := w.heap.size) (encU t) (i * 2) (w.drew.alloc (.cells ROW 75)) ROW Array.getElem?_push_size
        obtain ⟨c2, k3, k4⟩ := Lru.blk_setCells (encUs (L.drop i)) ((i + 1) * 2) ((w.drew.alloc (.cells ROW 75)).setCells w.heap.size (i * 2) (encU t)).drew c1 k1
        rw [← hw] at k3
        exact ⟨_, by rw [← hlen], own_of_uss k3 (by omega) hbase h1, h2 base hbase⟩
  · obtain rfl : i = L.length := by omega
    rw [List.take_length, List.drop_length]
    have hM : Uss w (some ⟨q, 0, none⟩) 1 [t] := ⟨Nat.le_refl _, by unfold maxLen; omega, fun e => (by cases e), fun _ => ⟨q, 0, rfl, (Array.getElem?_eq_some_iff.1 hq).1, fun k hk => by
      obtain rfl : k = 0 := by simpa using hk
      rw [cell_of_row w q _ _ _ (0, 0) hq, cell_of_row w q _ _ _ (0, 0) hq]
      exact ⟨rfl, rfl⟩⟩⟩
    have hv : ∃ A c, v = .slice A L.length c ∧ ∀ a, A = some a → a.spot = none := by
      rcases hown.2 with ⟨rfl, h0⟩ | ⟨g, cap, cur, rfl, hb, hg, hn, hm, hs, ht⟩
      · exact ⟨none, 0, by rw [h0], fun a e => by cases e⟩
      · exact ⟨_, _, rfl, fun a e => by cases e; rfl⟩
    have hcap : ∀ A c, v = .slice A L.length c → L.length ≤ c ∧ c ≤ maxLen ∧ (A = none → c = 0 ∧ L.length = 0) := fun A c e => by
      rcases hown.2 with ⟨e2, h0⟩ | ⟨g, cap, cur, e2, hb, hg, hn, hm, hs, ht⟩
      · rw [e2] at e
        simp only [Value.slice.injEq] at e
        obtain ⟨rfl, h3, rfl⟩ := e
        exact ⟨by omega, Nat.zero_le _, fun _ => ⟨rfl, h0⟩⟩
      · rw [e2] at e
        simp only [Value.slice.injEq] at e
        obtain ⟨rfl, h3, rfl⟩ := e
        exact ⟨hn, hm, fun e => by cases e⟩
    obtain ⟨A, c, rfl, hA⟩ := hv
    obtain ⟨hc1, hc2, hc3⟩ := hcap A c rfl
    have hc4 : c ≤ 9223372036854775807 := by unfold maxLen at hc2; omega
    obtain ⟨n, hn⟩ : ∃ n, L.length = n := ⟨_, rfl⟩
    have HO : Hid (OwnU w base (.slice A n c) L) := Lib.hid (by rw [← hn]; exact hown)
    have HM := Lib.hid hM
    have HL : Hid (L.length + [t].length ≤ 1048576) := Lib.hid (by simp; omega)
    have HB := Lib.hid hbase
    have hlt := hown.lt
    have HLt := Lib.hid hlt
    have hlt : ∀ k, Value.ownBlock (.slice A n c) = some k → base ≤ k := fun k hk => (HO.out.lt k hk).1
    have HLt := Lib.hid hlt
    have hne : L ++ [t] = L ++ [t] := rfl
    clear hown hM hq hne hlt hbase hi hin hcap hc2
    rw [hn] at hc1 hc3 hl
    rw [hn]
    have HF : Hid (∀ v3 w3, OwnU w3 base v3 (L ++ [t]) → w.grownBy w3 (Value.ownBlock (.slice A n c)) → ∃ v', Ending.returned v3 = .returned v' ∧ OwnU w3 base v' (L ++ [t]) ∧ Below base w w3) := Lib.hid (fun v3 w3 h1 h2 => by
      refine ⟨v3, rfl, h1, (Below.refl base w).grown h2 HB.out (fun k hk => HLt.out k hk)⟩)
    cases A with
    | none =>
      obtain ⟨rfl, rfl⟩ := hc3 rfl
      clear hc3 hA hc1 hc4 hn hlen HLt
      go_enter Try.func63, Try.ntmps63
      go_wp2_with (at_builtin; refine wpList_append_uss (by rfl) _ _ (by rfl) base _ L (by rfl) HO.out (some ⟨q, 0, none⟩) 1 1 [t] (by rfl) (by rfl) HM.out (Nat.le_trans HL.out (by decide)) HB.out ?_; intro v3 w3 hown3 hg3)
      have HR := Lib.hid (HF.out v3 w3 hown3 hg3)
      clear hown3 hg3
      go_wp2
      go_ret
      exact HR.out
    | some a =>
      obtain ⟨b, o, sp⟩ := a
      obtain rfl : sp = none := hA _ rfl
      clear hc3 hA hn hlen HLt
      go_enter Try.func63, Try.ntmps63
      go_wp2_with (at_builtin; refine wpList_append_uss (by rfl) _ _ (by rfl) base _ L (by rfl) HO.out (some ⟨q, 0, none⟩) 1 1 [t] (by rfl) (by rfl) HM.out (Nat.le_trans HL.out (by decide)) HB.out ?_; intro v3 w3 hown3 hg3)
      all_goals (have HR := Lib.hid (HF.out v3 w3 hown3 hg3); clear hown3 hg3; (try go_wp2); go_ret; exact HR.out)

end Go.Proofs.Ytmhhiddnkdcflaa.Lfu
