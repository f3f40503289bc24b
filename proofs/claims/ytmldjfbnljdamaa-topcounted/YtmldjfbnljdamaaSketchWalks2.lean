/-
  Rows of the call's own; what places and Estimate of package sketch return.
-/
import Derived.Test.YtmldjfbnljdamaaSketchWalks
namespace Go.Proofs.Ytmldjfbnljdamaa.Skt
open Go.RowKit
set_option linter.unusedVariables false

theorem info_parts {P : Program} {t : TypeId} {z : Option Value} {s b : Nat} (h : (P.info? t).map (fun i => (i.zero, i.size, i.bytes)) = some (z, s, b)) :
    ∃ i, P.info? t = some i ∧ i.zero = z ∧ i.size = s ∧ i.bytes = b := by
  cases hi : P.info? t with
  | none => rw [hi] at h; cases h
  | some i => rw [hi] at h; simp only [Option.map_some, Option.some.injEq, Prod.mk.injEq] at h; exact ⟨i, rfl, h.1, h.2.1, h.2.2⟩
theorem int_info : (Try.prog.info? 3).map (fun i => (i.zero, i.size, i.bytes)) = some (some (.int .i64 0), 1, 8) := by kernel_rfl
theorem ints_info : (Try.prog.info? 22).map (fun i => (i.zero, i.size, i.bytes)) = some (some (.slice none 0 0), 1, 24) := by kernel_rfl

/-! ### A row of the call's own -/
theorem map_set_enc (L : List Int) (j : Nat) (x : Int) : (L.map encI).set j (encI x) = (L.set j x).map encI := by rw [List.map_set]
theorem run_make_ints (n : Nat) (hn : n ≤ 1048576) (w : World) :
    (Instr.makeSlice 22 (.int .i64 (n : Int)) (.int .i64 (n : Int))).run Try.prog w = .ok (.slice (some ⟨w.heap.size, 0, none⟩) n n) (w.alloc (.cells (List.replicate n (encI 0)).toArray 3)) := by
  obtain ⟨i0, hi0, hz0, hz1, hz2⟩ := info_parts int_info
  have hr := run_make (P := Try.prog) w 22 3 i0 _ Try.underlying22 hi0 hz0 .i64 .i64 (n : Int) (n : Int) (by omega) (by omega) (by rw [hz2]; omega) (by omega)
  rw [Int.toNat_natCast, hz1, Nat.mul_one] at hr
  rw [hr]
  congr 3
  apply Array.ext'
  exact toList_madeCells_one _ _
theorem run_make_rows (n : Nat) (hn : n ≤ 1048576) (w : World) :
    (Instr.makeSlice 24 (.int .i64 (n : Int)) (.int .i64 (n : Int))).run Try.prog w = .ok (.slice (some ⟨w.heap.size, 0, none⟩) n n) (w.alloc (.cells (List.replicate n (.slice none 0 0)).toArray 22)) := by
  obtain ⟨i0, hi0, hz0, hz1, hz2⟩ := info_parts ints_info
  have hr := run_make (P := Try.prog) w 24 22 i0 _ Try.underlying24 hi0 hz0 .i64 .i64 (n : Int) (n : Int) (by omega) (by omega) (by rw [hz2]; omega) (by omega)
  rw [Int.toNat_natCast, hz1, Nat.mul_one] at hr
  rw [hr]
  congr 3
  apply Array.ext'
  exact toList_madeCells_one _ _
/-- Block g is a row of n ints of the call's own. -/
def RowI (w : World) (g : Nat) (L : List Int) : Prop := w.heap[g]? = some (.cells (L.map encI).toArray 3 (0, 0))
section
variable {w w' : World} {g : Nat} {L : List Int}
theorem RowI.lt (h : RowI w g L) : g < w.heap.size := (Array.getElem?_eq_some_iff.1 h).1
theorem RowI.new (w : World) (n : Nat) : RowI (w.alloc (.cells (List.replicate n (encI 0)).toArray 3)) w.heap.size (List.replicate n 0) := by
  unfold RowI
  rw [List.map_replicate]
  exact heap_alloc_new w _
theorem RowI.new' (w : World) (n : Nat) : RowI (w.alloc (.cells (Array.replicate n (encI 0)) 3)) w.heap.size (List.replicate n 0) := by
  rw [← List.toArray_replicate]; exact RowI.new w n
theorem RowI.below {B : Nat} (h : RowI w g L) (hb : Below B w w') (hg : g < B) : RowI w' g L := (hb.block g hg).trans h
theorem RowI.set (h : RowI w g L) (j : Nat) (x : Int) : RowI (w.setCell ⟨g, j, none⟩ (.int .i64 x)) g (L.set j x) := by
  unfold RowI at *
  rw [heap_setCell_same w g j _ _ _ h, List.setIfInBounds_toArray, ← map_set_enc]
theorem RowI.cell (h : RowI w g L) {j : Nat} (hj : j < L.length) : w.cell? ⟨g, j, none⟩ = some (.int .i64 (gi L j)) := by
  rw [cell_of_row w g j _ _ (0, 0) h, List.getElem?_toArray, List.getElem?_map, List.getElem?_eq_getElem hj, gi_get hj]
  rfl
theorem RowI.frozen (h : RowI w g L) (j : Nat) : w.frozen? ⟨g, j, none⟩ = false := by
  unfold RowI at h; simp [World.frozen?, h]
theorem RowI.ints (h : RowI w g L) (hl : L.length ≤ 1048576) : Ints w (some ⟨g, 0, none⟩) L.length L :=
  ⟨Nat.le_refl _, by unfold maxLen; omega, fun e => (by cases e), fun _ => ⟨g, 0, rfl, h.lt, fun i hi => by rw [Nat.zero_add]; exact h.cell hi⟩⟩
end

/-- The first k of L, then zeros. -/
def fill (L : List Int) (k : Nat) : List Int := L.take k ++ List.replicate (L.length - k) 0
theorem fill_len (L : List Int) {k : Nat} (h : k ≤ L.length) : (fill L k).length = L.length := by simp [fill]; omega
theorem fill_zero (L : List Int) : fill L 0 = List.replicate L.length 0 := by simp [fill]
theorem fill_all (L : List Int) : fill L L.length = L := by simp [fill]
theorem fill_set (L : List Int) {k : Nat} (h : k < L.length) : (fill L k).set k (gi L k) = fill L (k + 1) := by
  unfold fill
  rw [List.take_succ_eq_append_getElem h, gi_get h, List.set_append_right _ _ (by simp; omega), show L.length - k = (L.length - (k + 1)) + 1 by omega, List.replicate_succ]
  simp only [List.length_take, Nat.min_eq_left (Nat.le_of_lt h), Nat.sub_self, List.set_cons_zero, List.append_assoc, List.singleton_append]

/-! ### places -/
/-- A list of ints and an error come back. -/
def IntsR (L : List Int) (n : Int) (w : World) (e : Ending) (w' : World) : Prop :=
  ∃ A c, e = .returned (.tuple #[.slice A L.length c, .int .i64 n]) ∧ Ints w' A c L ∧ Below w.heap.size w w'
theorem intsR_none {L : List Int} {n : Int} {w w' : World} (hl : L = []) (hb : Below w.heap.size w w') : IntsR L n w (.returned (.tuple #[.slice none 0 0, .int .i64 n])) w' := by
  subst hl; exact ⟨none, 0, rfl, Ints.none_ _, hb⟩

set_option maxHeartbeats 2000000 in
theorem places_any (B : Nat) (S : Sk) (A : Option Addr) (c : Nat) (s : ByteArray) (w : World) (ha : Grid B w A c S.rows) (hs : s.size ≤ maxLen) :
    Calls Try.prog 12 #[sv S A c, .string s] w (IntsR (plM S s) (errS S s) w) := by
  have HW : Below w.heap.size w (w.alloc (so S A c)) := (Below.refl _ _).alloc (Nat.le_refl _) _
  by_cases hc : checkS S = 0
  · have g := good_of hc
    have l1 := g.l1
    have l2 := g.l2
    have s1 := g.w1
    have s2 := g.w2
    have HC := Lib.hid hc
    obtain ⟨h, hh⟩ : ∃ h : Nat, S.rows.length = h := ⟨_, rfl⟩
    have HH := Lib.hid hh
    have hmk : ∀ W : World, (Instr.makeSlice 22 (.int .i64 (h : Int)) (.int .i64 (h : Int))).run Try.prog W = .ok (.slice (some ⟨W.heap.size, 0, none⟩) h h) (W.alloc (.cells (List.replicate h (encI 0)).toArray 3)) := fun W => run_make_ints h (by omega) W
    have HHL : Hid ((plL S s).length = h) := Lib.hid (by rw [plL_len, hh])
    have HG := Lib.hid ha
    rw [hh] at l1 l2
    clear hc g ha hh
    by_cases hlong : 40 < s.size
    · have HE : Hid (errS S s = 2 ∧ plM S s = []) := Lib.hid (by
        have e : errS S s = 2 := by unfold errS; rw [if_pos HC.out, if_pos hlong]
        exact ⟨e, by unfold plM; rw [e]; rfl⟩)
      go_enter Try.func12, Try.ntmps12
      go_wp2_with fail
      refine (check_any B S A c _ (HG.out.below HW)).mono ?_
      rintro e w1 ⟨rfl, hb1⟩
      rw [HC.out]
      have HB1 := HW.trans (hb1.mono HW.size)
      have c0 : w1.cell? ⟨w.heap.size, 0, none⟩ = some (.int .i64 S.wide) := (hb1.cell (by simp)).trans (by simp [go_sem])
      have c1 : w1.cell? ⟨w.heap.size, 1, none⟩ = some (.slice A h c) := (hb1.cell (by simp)).trans (by rw [← HH.out]; simp [go_sem])
      clear hb1
      go_wp2
      go_loopw [22] (fun i wr => i = .int .i64 0 ∧ Below w.heap.size w wr) (fun i _ => 0)
      case atStart => exact ⟨rfl, HB1.alloc HB1.size _⟩
      case round =>
        obtain ⟨rfl, HB⟩ := hrel
        have H0 : Hid (∀ W : World, Calls Try.prog 24 #[.string s, .int .u64 0] W fun e w' => e = .returned (.tuple #[.int .u64 0, .int .i64 2]) ∧ W = w') := Lib.hid (fun W => by
          have := salted_long s 0#64 W hs hlong
          rwa [show nv 0#64 = 0 from rfl] at this)
        go_wp2_with fail
        refine (H0.out _).mono ?_
        rintro e w2 ⟨rfl, rfl⟩
        go_wp2
        go_ret2
        exact HE.out.1 ▸ intsR_none HE.out.2 HB
    · have HE : Hid (errS S s = 0 ∧ plM S s = plL S s) := Lib.hid (by
        have e : errS S s = 0 := by unfold errS; rw [if_pos HC.out, if_neg hlong]
        exact ⟨e, by unfold plM; rw [if_pos e]⟩)
      go_enter Try.func12, Try.ntmps12
      go_wp2_with fail
      refine (check_any B S A c _ (HG.out.below HW)).mono ?_
      rintro e w1 ⟨rfl, hb1⟩
      rw [HC.out]
      have HB1 := HW.trans (hb1.mono HW.size)
      have hz1 : w.heap.size < w1.heap.size := by have := hb1.size; simp at this; omega
      have c0 : w1.cell? ⟨w.heap.size, 0, none⟩ = some (.int .i64 S.wide) := (hb1.cell (by simp)).trans (by simp [go_sem])
      have c1 : w1.cell? ⟨w.heap.size, 1, none⟩ = some (.slice A h c) := (hb1.cell (by simp)).trans (by rw [← HH.out]; simp [go_sem])
      clear hb1
      go_wp2
      go_loopw [22] (fun i wr => ∃ k : Nat, k ≤ h ∧ i = .int .i64 (k : Int) ∧ RowI wr w1.heap.size (fill (plL S s) k) ∧ Below w1.heap.size w1 wr) (fun i _ => h - (intOf i).toNat)
      case atStart => exact ⟨0, by omega, rfl, by rw [fill_zero, HHL.out]; exact RowI.new w1 h, (Below.refl _ _).alloc (Nat.le_refl _) _⟩
      case round =>
        obtain ⟨k, hk, rfl, HR, HB⟩ := hrel
        have d0 := (HB.cell (p := ⟨w.heap.size, 0, none⟩) hz1).trans c0
        by_cases hlt : k < h
        · have HX : Hid (∀ W : World, Calls Try.prog 24 #[.string s, .int .u64 (k : Int)] W fun e w' => e = .returned (.tuple #[.int .u64 (nv (mixB (fnv s.data.toList ^^^ BitVec.ofNat 64 k))), .int .i64 0]) ∧ W = w') := Lib.hid (fun W => by
            have := salted_any s (BitVec.ofNat 64 k) W (by omega)
            rwa [nv_lit k (by omega)] at this)
          have hlf : k < (fill (plL S s) k).length := by rw [fill_len _ (by rw [HHL.out]; omega), HHL.out]; exact hlt
          have e0 := HR.cell hlf
          have f0 := HR.frozen k
          clear hlf
          have HF : Hid ((fill (plL S s) k).set k (redI (mixB (fnv s.data.toList ^^^ BitVec.ofNat 64 k)) S.wide) = fill (plL S s) (k + 1)) := Lib.hid (by
            rw [← plN_eq, ← plc_int s1, ← gi_plL (by rw [HH.out]; exact hlt), fill_set _ (by rw [HHL.out]; exact hlt)])
          go_wp2_with fail
          refine (HX.out _).mono ?_
          rintro e w2 ⟨rfl, rfl⟩
          go_wp2_with fail
          refine (reduce_any _ S.wide _ s1 (by omega)).mono ?_
          rintro e w2 ⟨rfl, rfl⟩
          go_wp2
          go_roundw
          case rel => exact ⟨k + 1, by omega, by go_num, by rw [← HF.out]; exact HR.set k _, HB.setCell (Nat.le_refl _) _⟩
          case measure => simp [intOf]; omega
        · obtain rfl : k = h := by omega
          have HO : Hid (Ints wr (some ⟨w1.heap.size, 0, none⟩) k (plL S s)) := Lib.hid (by
            have e : fill (plL S s) k = plL S s := by have := fill_all (plL S s); rwa [HHL.out] at this
            rw [e] at HR
            have := HR.ints (by rw [HHL.out]; omega)
            rwa [HHL.out] at this)
          clear HR
          go_wp2
          go_ret2
          rw [HE.out.1, HE.out.2]
          exact ⟨_, k, by rw [HHL.out]; rfl, HO.out, HB1.trans (HB.mono (by omega))⟩
  · have HE : Hid (errS S s = checkS S ∧ plM S s = []) := Lib.hid (by
      have e : errS S s = checkS S := by unfold errS; rw [if_neg hc]
      exact ⟨e, by unfold plM; rw [e, if_neg hc]⟩)
    have hq := bd_ne hc
    clear hc
    go_enter Try.func12, Try.ntmps12
    go_wp2_with fail
    refine (check_any B S A c _ (ha.below HW)).mono ?_
    rintro e w1 ⟨rfl, hb1⟩
    have HB1 := HW.trans (hb1.mono HW.size)
    clear hb1
    go_wp2
    go_ret2
    rw [HE.out.1]
    exact intsR_none HE.out.2 HB1

/-! ### Estimate -/
theorem min_if (x y : Int) : (if y < x then y else x) = min x y := by split <;> omega
set_option maxHeartbeats 2000000 in
theorem estimate_any (B : Nat) (S : Sk) (A : Option Addr) (c : Nat) (s : ByteArray) (w : World) (ha : Grid B w A c S.rows) (hs : s.size ≤ maxLen) :
    Calls Try.prog 8 #[sv S A c, .string s] w fun e w' => e = .returned (.tuple #[.int .i64 (estM S s), .int .i64 (errS S s)]) ∧ Below w.heap.size w w' := by
  have HW : Below w.heap.size w (w.alloc (so S A c)) := (Below.refl _ _).alloc (Nat.le_refl _) _
  by_cases he : errS S s = 0
  · have g := (errS_ok he).1
    have HE := Lib.hid he
    have HM : Hid (plM S s = plL S s ∧ estM S s = estL S s) := Lib.hid ⟨by unfold plM; rw [if_pos he], by unfold estM; rw [if_pos he]⟩
    have HG := Lib.hid g
    have l2 := g.l2
    clear he g
    go_enter Try.func8, Try.ntmps8
    go_wp2_with fail
    refine (places_any B S A c s _ (ha.below HW) hs).mono ?_
    rintro e w1 ⟨A1, c1, rfl, hi1, hb1⟩
    rw [HE.out]
    rw [HM.out.1] at hi1 ⊢
    have HB1 := HW.trans (hb1.mono HW.size)
    have b1 : w1.cell? ⟨w.heap.size, 1, none⟩ = some (.slice A S.rows.length c) := (hb1.cell (by simp)).trans (by simp [go_sem])
    have ha1 := ha.below HB1
    clear hb1 ha
    rw [plL_len]
    generalize hh : S.rows.length = h at *
    have HH := Lib.hid hh
    clear hh
    go_wp2
    go_loop [8, 22] (fun m i => ∃ k : Nat, k ≤ h ∧ i = .int .i64 (k : Int) ∧ m = .int .i64 (est (cnt S s) k)) (fun _ i => h - (intOf i).toNat)
    case atStart => exact ⟨0, by omega, rfl, rfl⟩
    case round =>
      obtain ⟨k, hk, rfl, rfl⟩ := hrel
      by_cases hlt : k < h
      · obtain ⟨b, o, rfl, ht⟩ := hi1.2.2.2 (by rw [plL_len, HH.out]; omega)
        have e1 := ht.2 k (by rw [plL_len, HH.out]; omega)
        rw [gi_plL (by rw [HH.out]; exact hlt)] at e1
        obtain ⟨b', o', rfl, hb', _, hr⟩ := ha1.2.2.2 (by rw [HH.out]; omega)
        obtain ⟨A2, c2, e2, i2, _⟩ := hr k (by rw [HH.out]; exact hlt)
        have hp := plc_lt' HG.out.toFine s (r := k) (by rw [HH.out]; exact hlt)
        obtain ⟨b2, o2, rfl, t2⟩ := i2.2.2.2 (by omega)
        have e3 := t2.2 _ hp
        have HR : Hid (est (cnt S s) (k + 1) = min (est (cnt S s) k) (gi (gl S.rows k) (plc S s k))) := Lib.hid rfl
        have hk3 : ((plc S s k : Nat) : Int) < ((gl S.rows k).length : Int) := by omega
        clear hr
        generalize hg : gi (gl S.rows k) (plc S s k) = y at *
        generalize plc S s k = p at *
        generalize (gl S.rows k).length = l at *
        go_wp2
        go_round
        case rel => exact ⟨k + 1, by omega, by go_num, by rw [HR.out, min_if]⟩
        case measure => simp [intOf]; omega
      · obtain rfl : k = h := by omega
        go_wp2
        go_ret2
        rw [HM.out.2, HE.out]
        unfold estL
        rw [HH.out]
        exact ⟨rfl, HB1⟩
  · have HM : Hid (plM S s = [] ∧ estM S s = 0) := Lib.hid ⟨by unfold plM; rw [if_neg he], by unfold estM; rw [if_neg he]⟩
    have hq := bd_ne he
    clear he
    go_enter Try.func8, Try.ntmps8
    go_wp2_with fail
    refine (places_any B S A c s _ (ha.below HW) hs).mono ?_
    rintro e w1 ⟨A1, c1, rfl, hi1, hb1⟩
    have HB1 := HW.trans (hb1.mono HW.size)
    clear hb1
    go_wp2
    go_ret2
    rw [HM.out.2]
    exact ⟨rfl, HB1⟩

end Go.Proofs.Ytmldjfbnljdamaa.Skt
