/-
  What Bits, Add and MayContain of package bloom return.
-/
import Derived.Test.YtgckghedfhnamaaBloomWalks2
namespace Go.Proofs.Ytgckghedfhnamaa
open Go.RowKit Go.Shelf
set_option linter.unusedVariables false

/-! ### A row of the call's own -/
theorem map_set_enc (L : List Int) (j : Nat) (x : Int) : (L.map encI).set j (encI x) = (L.set j x).map encI := by rw [List.map_set]
theorem run_make_ints (n : Nat) (hn : n ≤ 1048576) (w : World) :
    (Instr.makeSlice 24 (.int .i64 (n : Int)) (.int .i64 (n : Int))).run Try.prog w = .ok (.slice (some ⟨w.heap.size, 0, none⟩) n n) (w.alloc (.cells (List.replicate n (encI 0)).toArray 3)) := by
  obtain ⟨i0, hi0, hz0, hz1, hz2⟩ := info_parts int_info
  have hr := run_make (P := Try.prog) w 24 3 i0 _ Try.underlying24 hi0 hz0 .i64 .i64 (n : Int) (n : Int) (by omega) (by omega) (by rw [hz2]; omega) (by omega)
  rw [Int.toNat_natCast, hz1, Nat.mul_one] at hr
  rw [hr]
  congr 3
  apply Array.ext'
  exact toList_madeCells_one _ _
/-- Block g is a row of n ints of the call's own. -/
def RowI (w : World) (g : Nat) (L : List Int) : Prop := w.heap[g]? = some (.cells (L.map encI).toArray 3 (0, 0))
section
variable {w w' : World} {g : Nat} {L : List Int}
theorem RowI.lt (h : RowI w g L) : g < w.heap.size := (Array.getElem?_eq_some_iff.1 h).1
theorem RowI.new (w : World) (n : Nat) : RowI (w.alloc (.cells (List.replicate n (encI 0)).toArray 3)) w.heap.size (List.replicate n 0) := by
  unfold RowI
  rw [List.map_replicate]
  exact heap_alloc_new w _
theorem RowI.below {B : Nat} (h : RowI w g L) (hb : Below B w w') (hg : g < B) : RowI w' g L := (hb.block g hg).trans h
theorem RowI.set (h : RowI w g L) (j : Nat) (x : Int) : RowI (w.setCell ⟨g, j, none⟩ (.int .i64 x)) g (L.set j x) := by
  unfold RowI at *
  rw [heap_setCell_same w g j _ _ _ h, List.setIfInBounds_toArray, ← map_set_enc]
theorem RowI.cell (h : RowI w g L) {j : Nat} (hj : j < L.length) : w.cell? ⟨g, j, none⟩ = some (.int .i64 (gi L j)) := by
  rw [cell_of_row w g j _ _ (0, 0) h, List.getElem?_toArray, List.getElem?_map, List.getElem?_eq_getElem hj, gi_get hj]
  rfl
theorem RowI.frozen (h : RowI w g L) (j : Nat) : w.frozen? ⟨g, j, none⟩ = false := by
  unfold RowI at h; simp [World.frozen?, h]
theorem RowI.own (h : RowI w g L) (base : Nat) (hb : base ≤ g) (hl : L.length ≤ 1048576) : OwnI w base (.slice (some ⟨g, 0, none⟩) L.length L.length) L :=
  ⟨by simp, .inr ⟨g, L.length, _, rfl, hb, h, Nat.le_refl _, by unfold maxLen; omega, by simp, by rw [Nat.mul_one, List.take_of_length_le (by simp)]⟩⟩
end

/-- The first k of L, then zeros. -/
def fill (L : List Int) (k : Nat) : List Int := L.take k ++ List.replicate (L.length - k) 0
theorem fill_len (L : List Int) {k : Nat} (h : k ≤ L.length) : (fill L k).length = L.length := by simp [fill]; omega
theorem fill_zero (L : List Int) : fill L 0 = List.replicate L.length 0 := by simp [fill]
theorem fill_all (L : List Int) : fill L L.length = L := by simp [fill]
theorem fill_set (L : List Int) {k : Nat} (h : k < L.length) : (fill L k).set k (gi L k) = fill L (k + 1) := by
  unfold fill
  rw [List.take_succ_eq_append_getElem h, gi_get h, List.set_append_right _ _ (by simp; omega), show L.length - k = (L.length - (k + 1)) + 1 by omega, List.replicate_succ]
  simp only [List.length_take, Nat.min_eq_left (Nat.le_of_lt h), Nat.sub_self, List.set_cons_zero, List.append_assoc, List.singleton_append]

/-! ### Bits -/
theorem gi_hl {F : Fl} {s : ByteArray} {k : Nat} (h : k < F.hashes.toNat) : gi (hl F s) k = plN s k F.size := by
  rw [gi_get (by rw [hl_len]; exact h)]; simp [hl]
/-- A list of ints and an error come back. -/
def IntsR (L : List Int) (n : Int) (w : World) (e : Ending) (w' : World) : Prop :=
  ∃ A c, e = .returned (.tuple #[.slice A L.length c, .int .i64 n]) ∧ Ints w' A c L ∧ Below w.heap.size w w'
theorem intsR_none {L : List Int} {n : Int} {w w' : World} (hl : L = []) (hb : Below w.heap.size w w') : IntsR L n w (.returned (.tuple #[.slice none 0 0, .int .i64 n])) w' := by
  subst hl; exact ⟨none, 0, rfl, Ints.none_ _, hb⟩

theorem wrap_nat (k : Nat) (h : k < 1048576) : IntKind.u64.wrap (k : Int) = nv (BitVec.ofNat 64 k) := by
  rw [nv_lit _ (by omega), IntKind.wrap_u64]; omega

set_option maxHeartbeats 2000000 in
theorem bits_any (F : Fl) (A : Option Addr) (c : Nat) (s : ByteArray) (w : World) (ha : Ints w A c F.set) (hs : s.size ≤ maxLen) :
    Calls Try.prog 9 #[fv F A c, .string s] w (IntsR (bitsM F s) (errS F s) w) := by
  have HW : Below w.heap.size w (w.alloc (fo F A c)) := (Below.refl _ _).alloc (Nat.le_refl _) _
  by_cases hc : checkF F = 0
  · have g := good_of hc
    have h1 := g.h1
    have h2 := g.h2
    have s1 := g.s1
    have s2 := g.s2
    have HC := Lib.hid hc
    obtain ⟨h, hh⟩ : ∃ h : Nat, F.hashes = (h : Int) := ⟨F.hashes.toNat, by omega⟩
    have HH := Lib.hid hh
    have hl1 : 1 ≤ h := by omega
    have hl2 : h ≤ 8 := by omega
    have hmk : ∀ W : World, (Instr.makeSlice 24 (.int .i64 F.hashes) (.int .i64 F.hashes)).run Try.prog W = .ok (.slice (some ⟨W.heap.size, 0, none⟩) h h) (W.alloc (.cells (List.replicate h (encI 0)).toArray 3)) := fun W => by
      rw [hh]; exact run_make_ints h (by omega) W
    have HHL : Hid ((hl F s).length = h) := Lib.hid (by rw [hl_len, hh]; rfl)
    clear hc g hh
    by_cases hlong : 40 < s.size
    · have HE : Hid (errS F s = 2 ∧ bitsM F s = []) := Lib.hid (by
        have e : errS F s = 2 := by unfold errS; rw [if_pos HC.out, if_pos hlong]
        exact ⟨e, by unfold bitsM; rw [e]; rfl⟩)
      go_enter Try.func9, Try.ntmps9
      go_wp2_with fail
      refine (check_any F A c _ (ha.below HW)).mono ?_
      rintro e w1 ⟨rfl, hb1⟩
      rw [HC.out]
      have HB1 := HW.trans (hb1.mono HW.size)
      have c0 : w1.cell? ⟨w.heap.size, 0, none⟩ = some (.int .i64 F.size) := (hb1.cell (by simp)).trans (by simp [go_sem])
      have c1 : w1.cell? ⟨w.heap.size, 1, none⟩ = some (.int .i64 F.hashes) := (hb1.cell (by simp)).trans (by simp [go_sem])
      clear hb1
      go_wp2
      go_loopw [21] (fun i wr => i = .int .i64 0 ∧ Below w.heap.size w wr) (fun i _ => 0)
      case atStart => exact ⟨rfl, HB1.alloc HB1.size _⟩
      case round =>
        obtain ⟨rfl, HB⟩ := hrel
        have H0 : Hid (∀ W : World, Calls Try.prog 17 #[.string s, .int .u64 0] W fun e w' => e = .returned (.tuple #[.int .u64 0, .int .i64 2]) ∧ W = w') := Lib.hid (fun W => by
          have := salted_long s 0#64 W hs hlong
          rwa [show nv 0#64 = 0 from rfl] at this)
        go_wp2_with fail
        refine (H0.out _).mono ?_
        rintro e w2 ⟨rfl, rfl⟩
        go_wp2
        go_ret2
        exact HE.out.1 ▸ intsR_none HE.out.2 HB
    · have HE : Hid (errS F s = 0 ∧ bitsM F s = ord (hl F s)) := Lib.hid (by
        have e : errS F s = 0 := by unfold errS; rw [if_pos HC.out, if_neg hlong]
        exact ⟨e, by unfold bitsM; rw [if_pos e]; rfl⟩)
      go_enter Try.func9, Try.ntmps9
      go_wp2_with fail
      refine (check_any F A c _ (ha.below HW)).mono ?_
      rintro e w1 ⟨rfl, hb1⟩
      rw [HC.out]
      have HB1 := HW.trans (hb1.mono HW.size)
      have hz1 : w.heap.size < w1.heap.size := by have := hb1.size; simp at this; omega
      have c0 : w1.cell? ⟨w.heap.size, 0, none⟩ = some (.int .i64 F.size) := (hb1.cell (by simp)).trans (by simp [go_sem])
      have c1 : w1.cell? ⟨w.heap.size, 1, none⟩ = some (.int .i64 F.hashes) := (hb1.cell (by simp)).trans (by simp [go_sem])
      clear hb1
      go_wp2
      go_loopw [21] (fun i wr => ∃ k : Nat, k ≤ h ∧ i = .int .i64 (k : Int) ∧ RowI wr w1.heap.size (fill (hl F s) k) ∧ Below w1.heap.size w1 wr) (fun i _ => h - (intOf i).toNat)
      case atStart => exact ⟨0, by omega, rfl, by rw [fill_zero, HHL.out]; exact RowI.new w1 h, (Below.refl _ _).alloc (Nat.le_refl _) _⟩
      case round =>
        obtain ⟨k, hk, rfl, HR, HB⟩ := hrel
        have d0 := (HB.cell (p := ⟨w.heap.size, 0, none⟩) hz1).trans c0
        by_cases hlt : k < h
        · have HX : Hid (∀ W : World, Calls Try.prog 17 #[.string s, .int .u64 (k : Int)] W fun e w' => e = .returned (.tuple #[.int .u64 (nv (mixB (fnv s.data.toList ^^^ BitVec.ofNat 64 k))), .int .i64 0]) ∧ W = w') := Lib.hid (fun W => by
            have := salted_any s (BitVec.ofNat 64 k) W (by omega)
            rwa [nv_lit k (by omega)] at this)
          have hlf : k < (fill (hl F s) k).length := by rw [fill_len _ (by rw [HHL.out]; omega), HHL.out]; exact hlt
          have e0 := HR.cell hlf
          have f0 := HR.frozen k
          clear hlf
          have HF : Hid ((fill (hl F s) k).set k (redI (mixB (fnv s.data.toList ^^^ BitVec.ofNat 64 k)) F.size) = fill (hl F s) (k + 1)) := Lib.hid (by
            rw [← plN_eq, ← gi_hl (by rw [HH.out]; exact hlt), fill_set _ (by rw [HHL.out]; exact hlt)])
          go_wp2_with fail
          refine (HX.out _).mono ?_
          rintro e w2 ⟨rfl, rfl⟩
          go_wp2_with fail
          refine (reduce_any _ F.size _ s1 (by omega)).mono ?_
          rintro e w2 ⟨rfl, rfl⟩
          go_wp2
          go_roundw
          case rel => exact ⟨k + 1, by omega, by go_num, by rw [← HF.out]; exact HR.set k _, HB.setCell (Nat.le_refl _) _⟩
          case measure => simp [intOf]; omega
        · obtain rfl : k = h := by omega
          have HO : Hid (OwnI wr w1.heap.size (.slice (some ⟨w1.heap.size, 0, none⟩) k k) (hl F s)) := Lib.hid (by
            have e : fill (hl F s) k = hl F s := by have := fill_all (hl F s); rwa [HHL.out] at this
            rw [e] at HR
            have := HR.own w1.heap.size (Nat.le_refl _) (by rw [HHL.out]; omega)
            rwa [HHL.out] at this)
          have hz := HB.size
          clear HR
          go_wp2_with fail
          refine (ordered_any _ _ _ _ HO.out hz (by rw [HHL.out]; omega)).mono ?_
          rintro e w3 ⟨A3, c3, rfl, hi3, hg3, hb3⟩
          go_wp2
          go_ret2
          rw [HE.out.1, HE.out.2]
          exact ⟨A3, c3, rfl, hi3, (HB1.trans (HB.mono (by omega))).trans (hb3.mono (by omega))⟩
  · have HE : Hid (errS F s = checkF F ∧ bitsM F s = []) := Lib.hid (by
      have e : errS F s = checkF F := by unfold errS; rw [if_neg hc]
      exact ⟨e, by unfold bitsM; rw [e, if_neg hc]⟩)
    have hq := bd_ne hc
    clear hc
    go_enter Try.func9, Try.ntmps9
    go_wp2_with fail
    refine (check_any F A c _ (ha.below HW)).mono ?_
    rintro e w1 ⟨rfl, hb1⟩
    have HB1 := HW.trans (hb1.mono HW.size)
    clear hb1
    go_wp2
    go_ret2
    rw [HE.out.1]
    exact intsR_none HE.out.2 HB1

end Go.Proofs.Ytgckghedfhnamaa
