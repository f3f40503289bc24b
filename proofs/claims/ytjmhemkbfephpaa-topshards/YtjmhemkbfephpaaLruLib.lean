/-
  What slices.Index, Contains, Clone, Delete, Insert, Reverse do to slices of ints of the call's own.
-/
import Derived.Test.YtjmhemkbfephpaaIntsLib
import Derived.Test.YtjmhemkbfephpaaLruMath
namespace Go.Proofs.Ytjmhemkbfephpaa.Lru
open Go.RowKit Go.Shelf
set_option linter.unusedVariables false

/-! ### Index, Contains -/
theorem index_any (A : Option Addr) (c : Nat) (L : List Int) (x : Int) (w : World) (h : Ints w A c L) :
    Calls Try.prog 50 #[.slice A L.length c, .int .i64 x] w fun e w' => e = .returned (.int .i64 (Lib.idxOf L x)) ∧ w' = w := by
  by_cases h0 : 0 < L.length
  · obtain ⟨b, o, rfl, ht⟩ := h.2.2.2 h0
    have := Any.slices_Index_int Try.lays108 b o L.length c L x w (Nat.le_refl _) h.len (fun j hj => ht.2 j hj)
    rwa [List.take_length] at this
  · have e : L = [] := List.length_eq_zero_iff.1 (by omega)
    subst e
    exact Any.slices_Index_int_empty Try.lays108 A c x w

theorem contains_any (A : Option Addr) (c : Nat) (L : List Int) (x : Int) (w : World) (h : Ints w A c L) :
    Calls Try.prog 49 #[.slice A L.length c, .int .i64 x] w fun e w' => e = .returned (.bool (decide (x ∈ L))) ∧ w' = w := by
  by_cases h0 : 0 < L.length
  · obtain ⟨b, o, rfl, ht⟩ := h.2.2.2 h0
    have := Any.slices_Contains_int Try.lays107 b o L.length c L x w (Nat.le_refl _) h.len (fun j hj => ht.2 j hj)
    rwa [List.take_length, show L.contains x = decide (x ∈ L) from Bool.eq_iff_iff.2 (by simp)] at this
  · have e : L = [] := List.length_eq_zero_iff.1 (by omega)
    subst e
    rw [show decide (x ∈ ([] : List Int)) = false by simp]
    exact Any.slices_Contains_int_empty Try.lays107 A c x w

theorem idx_in {L : List Int} {x : Int} (h : x ∈ L) : ∃ k : Nat, k < L.length ∧ Lib.idxOf L x = (k : Int) ∧ L.take k ++ L.drop (k + 1) = L.erase x := by
  refine ⟨L.idxOf x, List.idxOf_lt_length_of_mem h, ?_, ?_⟩
  · unfold Lib.idxOf
    have hk := List.idxOf_lt_length_of_mem h
    rw [Lib.idxFrom_hit x L (L.idxOf x) 0 hk (by rw [List.getD_eq_getElem?_getD, List.getElem?_eq_getElem hk]; simp) (fun j hj e => by
      have hjl : j < L.length := by omega
      rw [List.getD_eq_getElem?_getD, List.getElem?_eq_getElem hjl] at e
      have e2 : L[j] = x := by simpa using e
      have := List.not_of_lt_findIdx (p := (· == x)) (xs := L) (i := j) hj
      simp [e2] at this)]
    simp
  · rw [List.erase_eq_eraseIdx_of_idxOf (l := L) (a := x) rfl, List.eraseIdx_eq_take_drop_succ]
theorem idx_out {L : List Int} {x : Int} (h : x ∉ L) : Lib.idxOf L x < 0 := by
  by_cases hh : 0 ≤ Lib.idxOf L x
  · rw [Lib.idxOf_nonneg_iff] at hh
    exact absurd (by simpa using hh) h
  · omega

/-! ### Clone -/
theorem clone_any (A : Option Addr) (c : Nat) (L : List Int) (w : World) (h : Ints w A c L) (hl : L.length ≤ 1048576) :
    Calls Try.prog 40 #[.slice A L.length c] w fun e w' => ∃ v, e = .returned v ∧ OwnI w' w.heap.size v L ∧ Below w.heap.size w w' := by
  cases A with
  | none =>
    have hc := h.2.2.1 rfl
    have e : L = [] := List.length_eq_zero_iff.1 (by have := h.1; omega)
    subst e
    refine (Any.slices_Clone_int_nil Try.lays2n15 0 c w).mono ?_
    rintro e w' ⟨rfl, rfl⟩
    exact ⟨_, rfl, World.ownsRow_nil _ _ _ _, Below.refl _ _⟩
  | some a =>
    by_cases h0 : 0 < L.length
    · obtain ⟨b, o, e, ht⟩ := h.2.2.2 h0
      cases e
      refine (Any.slices_Clone_int Try.lays2n15 b o L.length c L w (Nat.le_refl _) (by omega) (fun j hj => ht.2 j hj)).mono ?_
      rintro e w' ⟨v, rfl, h1, -, h2⟩
      rw [List.take_length] at h1
      exact ⟨v, rfl, h1, h2⟩
    · have e : L = [] := List.length_eq_zero_iff.1 (by omega)
      subst e
      refine (Any.slices_Clone_int_zero Try.lays2n15 a c w).mono ?_
      rintro e w' ⟨v, rfl, h1, -, h2⟩
      exact ⟨v, rfl, h1, h2⟩

/-! ### Rows of the call's own, cell by cell -/
theorem own_of_cells {w : World} {base g cap : Nat} {cur : Array Value} {L : List Int} (hg : w.heap[g]? = some (.cells cur 3 (0, 0))) (hs : cur.size = cap) (hb : base ≤ g) (hl : L.length ≤ cap) (hm : cap ≤ maxLen)
    (hc : ∀ j, j < L.length → w.cell? ⟨g, j, none⟩ = some (encI (gi L j))) : OwnI w base (.slice (some ⟨g, 0, none⟩) L.length cap) L := by
  refine ⟨by simp, .inr ⟨g, cap, cur, rfl, hb, hg, hl, hm, by omega, ?_⟩⟩
  apply List.ext_getElem?
  intro j
  by_cases hj : j < L.length
  · rw [List.getElem?_take_of_lt (by omega), List.getElem?_map, List.getElem?_eq_getElem hj, ← gi_get hj]
    have := hc j hj
    rw [cell_of_row w g j _ _ (0, 0) hg] at this
    simpa using this
  · rw [List.getElem?_eq_none (by simp; omega), List.getElem?_eq_none (by simp; omega)]
theorem blk_setCells {g : Nat} {T : TypeId} : ∀ (vs : List Value) (o : Nat) (w : World) (cur : Array Value), w.heap[g]? = some (.cells cur T (0, 0)) → ∃ cur', (w.setCells g o vs).heap[g]? = some (.cells cur' T (0, 0)) ∧ cur'.size = cur.size
  | [], _, _, cur, h => ⟨cur, h, rfl⟩
  | v :: vs, o, w, cur, h => by
    obtain ⟨cur', h1, h2⟩ := blk_setCells (g := g) (T := T) vs (o + 1) (w.setCell ⟨g, o, none⟩ v) (cur.setIfInBounds o v) (by simp [World.setCell, Array.getElem?_modify, h])
    exact ⟨cur', h1, by rw [h2]; simp⟩
theorem below_setC {B g : Nat} {w0 w : World} (hb : Below B w0 w) (hg : B ≤ g) (o : Nat) (vs : List Value) : Below B w0 (w.setCells g o vs) := by
  induction vs generalizing w o with
  | nil => exact hb
  | cons v vs ih => exact ih (hb.setCell (p := ⟨g, o, none⟩) hg v) (o + 1)

/-! ### Delete -/
theorem delete_own (base : Nat) (v : Value) (L : List Int) (k : Nat) (w : World) (hown : OwnI w base v L) (hk : k < L.length) (hB : base ≤ w.heap.size) :
    Calls Try.prog 52 #[v, .int .i64 (k : Int), .int .i64 ((k : Int) + 1)] w fun e w' =>
      ∃ v', e = .returned v' ∧ OwnI w' base v' (L.take k ++ L.drop (k + 1)) ∧ Below base w w' := by
  rcases hown.2 with ⟨rfl, h0⟩ | ⟨g, cap, cur, rfl, hb, hg, hn, hm, hs, ht⟩
  · omega
  · have hH := holds_of_blockI (ss := L) hg (by simpa using ht)
    have hd := Any.slices_Delete_int Try.lays2n23 g 0 cap k (k + 1) L w hH hn (by unfold maxLen at hm; omega) (by omega) (by omega)
    refine hd.mono ?_
    rintro e w' ⟨rfl, q, hw⟩
    obtain ⟨M, hM⟩ : ∃ M, M = L.take k ++ L.drop (k + 1) := ⟨_, rfl⟩
    have hlen : M.length = L.length - 1 := by rw [hM]; simp; omega
    rw [show k + 1 - k = 1 by omega, ← hM] at hw
    rw [← hM, show L.length - (k + 1 - k) = M.length by omega]
    have hw' : w' = Sort.grow (Sort.putRow (Value.int .i64) (Sort.ahead w q) g 0 (M ++ List.replicate 1 0).toArray) #[] := by rw [grow_nil]; exact hw
    have hg' := heap_sortedI (n := q) (os := #[]) (M ++ List.replicate 1 0).toArray hg
    rw [← hw'] at hg'
    refine ⟨_, rfl, ⟨by simp, .inr ⟨g, cap, _, rfl, hb, hg', by omega, hm, by simp [Sort.putCells, hs], ?_⟩⟩, ?_⟩
    · have h1 := take_putCellsI cur (M ++ List.replicate 1 0) (by simp; omega)
      have h2 : ((Sort.putCells (Value.int .i64) 0 (M ++ List.replicate 1 0).toArray cur).toList.take (M ++ List.replicate 1 0).length).take M.length = ((M ++ List.replicate 1 0).map (Value.int .i64)).take M.length := by rw [h1]
      rw [List.take_take, Nat.min_eq_left (by rw [List.length_append]; omega), List.map_append, List.take_left' (by simp)] at h2
      rw [Nat.mul_one]
      exact h2
    · rw [hw']
      exact below_putRow _ hb hB

/-! ### Reverse -/
theorem reverse_own (base : Nat) (v : Value) (L : List Int) (w : World) (hown : OwnI w base v L) (hB : base ≤ w.heap.size) :
    Calls Try.prog 77 #[v] w fun e w' => e = .returned (.tuple #[]) ∧ OwnI w' base v L.reverse ∧ Below base w w' := by
  by_cases h0 : 0 < L.length
  · rcases hown.2 with ⟨rfl, h1⟩ | ⟨g, cap, cur, rfl, hb, hg, hn, hm, hs, ht⟩
    · omega
    · have hH := holds_of_blockI (ss := L) hg (by simpa using ht)
      refine (Any.slices_Reverse_int Try.lays112 g 0 cap L w hH (by unfold maxLen at hm; omega)).mono ?_
      rintro e w' ⟨rfl, q, hw⟩
      have hw' : w' = Sort.grow (Sort.putRow (Value.int .i64) (Sort.ahead w q) g 0 L.reverse.toArray) #[] := by rw [grow_nil]; exact hw
      refine ⟨rfl, ?_, ?_⟩
      · have := ownsRow_sortedI (w := w) (n := q) (os := #[]) (ss := L) (ts := L.reverse) (by simp) hb hg hn hm hs
        rw [← hw'] at this
        unfold OwnI
        rw [List.length_reverse]
        exact this
      · rw [hw']
        exact below_putRow _ hb hB
  · have e : L = [] := List.length_eq_zero_iff.1 (by omega)
    subst e
    obtain ⟨A, c, rfl, -⟩ := ints_of_own hown
    refine (Any.slices_Reverse_int_empty Try.lays112 A c w).mono ?_
    rintro e w' ⟨rfl, rfl⟩
    exact ⟨rfl, hown, Below.refl _ _⟩

/-! ### Insert of one key in front -/
theorem insert_own (base : Nat) (v : Value) (L : List Int) (x : Int) (q : Nat) (w : World) (hown : OwnI w base v L) (hq : w.heap[q]? = some (.cells #[encI x] 3 (0, 0))) (hne : v.ownBlock ≠ some q) (hB : base ≤ w.heap.size) (hl : L.length ≤ 4096) :
    Calls Try.prog 51 #[v, .int .i64 0, .slice (some ⟨q, 0, none⟩) 1 1] w fun e w' => ∃ v', e = .returned v' ∧ OwnI w' base v' (x :: L) ∧ Below base w w' := by
  have hvs : ∀ j u, [encI x][j]? = some u → w.cell? ⟨q, 0 + j, none⟩ = some u := fun j u hu => by
    rw [Nat.zero_add, cell_of_row w q j _ _ (0, 0) hq]
    simpa using hu
  have h1v : ∀ u ∈ [encI x], u.oneCell' = true := fun u hu => by simp only [List.mem_singleton] at hu; subst hu; rfl
  have h1c : ∀ u ∈ L.map encI, u.oneCell' = true := fun u hu => by obtain ⟨n, _, rfl⟩ := List.mem_map.1 hu; rfl
  by_cases h0 : 0 < L.length
  · rcases hown.2 with ⟨rfl, h1⟩ | ⟨g, cap, cur, rfl, hb, hg, hn, hm, hs, ht⟩
    · omega
    · have hwc : ∀ j, w.cell? ⟨g, j, none⟩ = cur[j]? := fun j => cell_of_row w g j _ _ (0, 0) hg
      have hcs : ∀ j u, (L.map encI)[j]? = some u → w.cell? ⟨g, 0 + j, none⟩ = some u := fun j u hu => by
        rw [Nat.zero_add, hwc]
        rw [← ht, List.getElem?_take] at hu
        split at hu
        · simpa using hu
        · cases hu
      have hgl : g < w.heap.size := (Array.getElem?_eq_some_iff.1 hg).1
      have hqg : q ≠ g := fun e => hne (by rw [e]; rfl)
      by_cases hr : L.length + 1 ≤ cap
      · refine (Any2.slices_Insert_int_shift Try.lays2n21 g 0 L.length cap 0 q 0 1 1 (L.map encI) [encI x] w h0 (by omega) hr (by unfold maxLen at hm; omega) hqg (by simp) rfl hcs (fun j hj => by rw [Nat.zero_add, hwc, Array.getElem?_eq_getElem (by omega)]; rfl) (fun j hj => by simp [World.frozen?, hg]) hvs h1c h1v 3 3 1 cur.size (by simp [World.shape?, hq]) (by simp [World.shape?, hg]) (by omega) (by simp [World.frozen?, hq]) (by simp [World.frozen?, hq])).mono ?_
        rintro e w' ⟨rfl, hw⟩
        simp only [Nat.zero_add, List.drop_zero] at hw
        have hsp : ∀ j, j < cap → (w.drew.cell? ⟨g, j, none⟩).isSome = true := fun j hj => by show (w.cell? _).isSome = true; rw [hwc, Array.getElem?_eq_getElem (by omega)]; rfl
        obtain ⟨c1, k1, k2⟩ := blk_setCells (L.map encI) 1 w.drew cur hg
        obtain ⟨c2, k3, k4⟩ := blk_setCells [encI x] 0 _ c1 k1
        rw [← hw] at k3
        refine ⟨_, rfl, own_of_cells (L := x :: L) k3 (by omega) hb (by simpa using hr) hm (fun j hj => ?_), by rw [hw]; exact below_setC (below_setC ((Below.refl _ _).drew) hb _ _) hb _ _⟩
        rw [hw]
        cases j with
        | zero =>
          have := World.cell?_setCells_in g [encI x] 0 (w.drew.setCells g 1 (L.map encI)) (fun j' hj' => by
            simp only [List.length_singleton] at hj'
            obtain rfl : j' = 0 := by omega
            rw [World.cell?_setCells_out g _ _ _ ⟨g, _, none⟩ (fun _ _ => .inl (by simp))]
            exact hsp _ (by omega)) 0 (by simp)
          simpa [gi] using this
        | succ j =>
          simp only [List.length_cons] at hj
          rw [World.cell?_setCells_out g _ _ _ ⟨g, j + 1, none⟩ (fun _ _ => .inr (by simp))]
          have := World.cell?_setCells_in g (L.map encI) 1 w.drew (fun j' hj' => hsp _ (by simp at hj'; omega)) j (by simp; omega)
          rw [show 1 + j = j + 1 by omega] at this
          rw [this, List.getElem_map, ← gi_get (by omega)]
          rfl
      · refine (Any2.slices_Insert_int_grow Try.lays2n21 g 0 L.length cap 0 q 0 1 1 (L.map encI) [encI x] w h0 (by omega) hn (by omega) (by omega) (by simp) rfl hcs hvs h1c h1v).mono ?_
        rintro e w' ⟨rfl, hw⟩
        simp only [Nat.zero_add, List.drop_zero] at hw
        have hG := grownCap_le_maxLen w (L.length + 1) cap (Try.lays2n21_ren.t 3) (by unfold maxLen; omega)
        have hG2 := grownCap_ge w (L.length + 1) cap (Try.lays2n21_ren.t 3)
        generalize grownCap w (L.length + 1) cap (Try.lays2n21_ren.t 3) = G at *
        generalize hR : ((L.map encI).take 0).toArray ++ Builtin.zeroCells (Value.int .i64 0).cells (L.length + 1 - 0) ++ Builtin.zeroCells (Value.int .i64 0).cells (G - (L.length + 1)) = R at *
        have hRs : R.size = G := by
          rw [← hR]
          simp only [Array.size_append, size_zeroCells, List.size_toArray, List.take_zero, List.length_nil, Value.cells]
          show 0 + (L.length + 1 - 0) * 1 + (G - (L.length + 1)) * 1 = G
          omega
        obtain ⟨w1, hw1⟩ : ∃ w1 : World, w1 = (w.alloc (.cells R 3)).drew := ⟨_, rfl⟩
        have hg1 : w1.heap[w.heap.size]? = some (.cells R 3 (0, 0)) := by rw [hw1]; exact Array.getElem?_push_size
        have hb1 : Below w.heap.size w w1 := by rw [hw1]; exact ((Below.refl _ _).alloc (Nat.le_refl _) _).drew
        have hsp : ∀ j, j < G → (w1.cell? ⟨w.heap.size, j, none⟩).isSome = true := fun j hj => by rw [cell_of_row w1 _ j _ _ (0, 0) hg1, Array.getElem?_eq_getElem (by omega)]; rfl
        replace hw : w' = ((w1.setCells w.heap.size 0 [encI x]).drew).setCells w.heap.size 1 (L.map encI) := by rw [hw, hw1]; rfl
        obtain ⟨c1, k1, k2⟩ := blk_setCells [encI x] 0 w1 R hg1
        obtain ⟨c2, k3, k4⟩ := blk_setCells (L.map encI) 1 (w1.setCells w.heap.size 0 [encI x]).drew c1 k1
        rw [← hw] at k3
        refine ⟨_, rfl, own_of_cells (L := x :: L) k3 (by omega) hB (by simpa using hG2) hG (fun j hj => ?_), by rw [hw]; exact below_setC ((below_setC (hb1.mono hB) hB _ _).drew) hB _ _⟩
        rw [hw]
        cases j with
        | zero =>
          rw [World.cell?_setCells_out _ _ _ _ ⟨w.heap.size, 0, none⟩ (fun _ _ => .inl (by simp))]
          show (w1.setCells w.heap.size 0 [encI x]).cell? _ = _
          have := World.cell?_setCells_in w.heap.size [encI x] 0 w1 (fun j' hj' => hsp _ (by simp at hj'; omega)) 0 (by simp)
          simpa [gi] using this
        | succ j =>
          simp only [List.length_cons] at hj
          have := World.cell?_setCells_in w.heap.size (L.map encI) 1 (w1.setCells w.heap.size 0 [encI x]).drew (fun j' hj' => by
            show ((w1.setCells w.heap.size 0 [encI x]).cell? _).isSome = true
            rw [World.cell?_setCells_out _ _ _ _ ⟨w.heap.size, _, none⟩ (fun _ _ => .inr (by simp))]
            exact hsp _ (by simp at hj'; omega)) j (by simp; omega)
          rw [show 1 + j = j + 1 by omega] at this
          rw [this, List.getElem_map, ← gi_get (by omega)]
          rfl
  · have e : L = [] := List.length_eq_zero_iff.1 (by omega)
    subst e
    obtain ⟨A, c, rfl, hI⟩ := ints_of_own hown
    by_cases hr : 1 ≤ c
    · rcases hown.2 with ⟨e, -⟩ | ⟨g, cap, cur, e, hb, hg, hn, hm, hs, ht⟩
      · cases e; omega
      · cases e
        have hwc : ∀ j, w.cell? ⟨g, j, none⟩ = cur[j]? := fun j => cell_of_row w g j _ _ (0, 0) hg
        refine (Any2.slices_Insert_int_end_room Try.lays2n21 g 0 0 c q 0 1 1 [encI x] w (by omega) (by omega) (by unfold maxLen at hm; omega) rfl (fun j hj => by rw [hwc, Array.getElem?_eq_getElem (by omega)]; rfl) (fun j hj => by simp [World.frozen?, hg]) hvs h1v).mono ?_
        rintro e w' ⟨rfl, hw⟩
        simp only [Nat.zero_add] at hw
        obtain ⟨c1, k1, k2⟩ := blk_setCells [encI x] 0 w cur hg
        rw [← hw] at k1
        refine ⟨_, rfl, own_of_cells (L := [x]) k1 (by omega) hb (by simpa using hr) hm (fun j hj => ?_), by rw [hw]; exact below_setC (Below.refl _ _) hb _ _⟩
        rw [hw]
        simp only [List.length_singleton] at hj
        obtain rfl : j = 0 := by omega
        have := World.cell?_setCells_in g [encI x] 0 w (fun j' hj' => by
          simp only [List.length_singleton] at hj'
          rw [hwc, Array.getElem?_eq_getElem (by omega)]; rfl) 0 (by simp)
        simpa [gi] using this
    · refine (Any2.slices_Insert_int_end_grow Try.lays2n21 A 0 c q 0 1 1 [] [encI x] w (by omega) (by omega) (by omega) (by omega) rfl rfl (fun _ => rfl) (fun a _ j u hu => by simp at hu) hvs h1v).mono ?_
      rintro e w' ⟨rfl, hw⟩
      have hG := grownCap_le_maxLen w (0 + 1) c (Try.lays2n21_ren.t 3) (by unfold maxLen; omega)
      have hG2 := grownCap_ge w (0 + 1) c (Try.lays2n21_ren.t 3)
      generalize grownCap w (0 + 1) c (Try.lays2n21_ren.t 3) = G at *
      generalize hR : (([] : List Value) ++ [encI x]).toArray ++ Builtin.zeroCells (Value.int .i64 0).cells (G - (0 + 1)) = R at *
      have hRs : R.size = G := by
        rw [← hR]
        simp only [Array.size_append, size_zeroCells, List.size_toArray, List.nil_append, List.length_singleton, Value.cells]
        show 1 + (G - (0 + 1)) * 1 = G
        omega
      have hg1 : w'.heap[w.heap.size]? = some (.cells R 3 (0, 0)) := by rw [hw]; exact Array.getElem?_push_size
      refine ⟨_, rfl, own_of_cells (L := [x]) hg1 (by omega) hB (by simpa using hG2) hG (fun j hj => ?_), by rw [hw]; exact ((Below.refl _ w).drew).alloc hB _⟩
      simp only [List.length_singleton] at hj
      obtain rfl : j = 0 := by omega
      rw [cell_of_row w' _ 0 _ _ (0, 0) hg1, ← hR, Array.getElem?_append_left (by simp)]
      simp [gi]

end Go.Proofs.Ytjmhemkbfephpaa.Lru
