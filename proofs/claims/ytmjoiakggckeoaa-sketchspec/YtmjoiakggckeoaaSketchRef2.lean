/-
  What the reference of package sketch returns: SketchErr, SketchPlace, SketchFits, SketchCopy.
-/
import Derived.Test.YtmjoiakggckeoaaSketchRef
namespace Go.Proofs.Ytmjoiakggckeoaa.Skt
open Go.RowKit
set_option linter.unusedVariables false

set_option maxHeartbeats 1000000 in
theorem refErr_any (B : Nat) (S : Sk) (A : Option Addr) (c : Nat) (s : ByteArray) (w : World) (ha : Grid B w A c S.rows) (hs : s.size ≤ maxLen) :
    Calls Try.prog 10 #[sv S A c, .string s] w fun e w' => e = .returned (.int .i64 (errS S s)) ∧ Below w.heap.size w w' := by
  have HW : Below w.heap.size w (w.alloc (so S A c)) := (Below.refl _ _).alloc (Nat.le_refl _) _
  have hml : s.size ≤ 9223372036854775807 := by unfold maxLen at hs; omega
  by_cases hc : checkS S = 0
  · have HC := Lib.hid hc
    by_cases hl : 40 < s.size
    · have ql : decide ((40 : Int) < (s.size : Int)) = true := by simp; omega
      have HE : Hid (errS S s = 2) := Lib.hid (by unfold errS; rw [if_pos hc, if_pos hl])
      clear hc hl
      go_enter Try.func10, Try.ntmps10
      go_wp2_with fail
      refine (refCheck_any B S A c _ (ha.below HW)).mono ?_
      rintro e w1 ⟨rfl, hb1⟩
      rw [HC.out]
      go_wp2
      go_ret
      exact ⟨ret_int HE.out.symm, HW.trans (hb1.mono HW.size)⟩
    · have ql : decide ((40 : Int) < (s.size : Int)) = false := by simp; omega
      have HE : Hid (errS S s = 0) := Lib.hid (by unfold errS; rw [if_pos hc, if_neg hl])
      clear hc hl
      go_enter Try.func10, Try.ntmps10
      go_wp2_with fail
      refine (refCheck_any B S A c _ (ha.below HW)).mono ?_
      rintro e w1 ⟨rfl, hb1⟩
      rw [HC.out]
      go_wp2
      go_ret
      exact ⟨ret_int HE.out.symm, HW.trans (hb1.mono HW.size)⟩
  · have hq := bd_eq hc
    have HE : Hid (errS S s = checkS S) := Lib.hid (by unfold errS; rw [if_neg hc])
    clear hc
    go_enter Try.func10, Try.ntmps10
    go_wp2_with fail
    refine (refCheck_any B S A c _ (ha.below HW)).mono ?_
    rintro e w1 ⟨rfl, hb1⟩
    go_wp2
    go_ret
    exact ⟨ret_int HE.out.symm, HW.trans (hb1.mono HW.size)⟩

theorem refFold_int (x : BitVec 64) (m : Int) (h1 : 1 ≤ m) (h2 : m ≤ 1048576) (w : World) :
    Calls Try.prog 27 #[.int .u64 (nv x), .int .i64 m] w fun e w' => e = .returned (.int .i64 (redI x m)) ∧ w = w' := by
  obtain ⟨n, rfl⟩ : ∃ n : Nat, m = (n : Int) := ⟨m.toNat, by omega⟩
  exact refFold_any x n (by omega) (by omega) w

set_option maxHeartbeats 1000000 in
theorem refPlace_any (S : Sk) (s : ByteArray) (r : Nat) (w : World) (hs : s.size ≤ 40) (hr : r ≤ 64) (w1 : 1 ≤ S.wide) (w2 : S.wide ≤ 64) :
    Calls Try.prog 12 #[.string s, .int .i64 (r : Int), .int .i64 S.wide] w fun e w' => e = .returned (.int .i64 (plc S s r : Int)) ∧ w = w' := by
  have HXR : Hid (bits .xor .u64 (nv (fnv s.data.toList)) (r : Int) = nv (fnv s.data.toList ^^^ BitVec.ofNat 64 r)) := Lib.hid (by rw [← nv_xor, nv_lit r (by omega)])
  have HPL : Hid (redI (mixB (fnv s.data.toList ^^^ BitVec.ofNat 64 r)) S.wide = (plc S s r : Int)) := Lib.hid (by rw [plc_int w1, plN_eq])
  go_enter Try.func12, Try.ntmps12
  go_wp2_with fail
  refine (refSum_any s _ hs).mono ?_
  rintro e w' ⟨rfl, rfl⟩
  go_wp2_with fail
  rw [HXR.out]
  refine (refOf_any _ _).mono ?_
  rintro e w' ⟨rfl, rfl⟩
  go_wp2_with fail
  refine (refFold_int _ S.wide w1 (by omega) _).mono ?_
  rintro e w' ⟨rfl, rfl⟩
  go_wp2
  go_ret
  exact ⟨ret_int HPL.out, rfl⟩

set_option maxHeartbeats 2000000 in
theorem refFits_any (B : Nat) (S : Sk) (A : Option Addr) (c : Nat) (w : World) (ha : Grid B w A c S.rows) :
    Calls Try.prog 13 #[sv S A c] w fun e w' => e = .returned (.bool (decide (fits S.rows))) ∧ Below w.heap.size w w' := by
  have HW : Below w.heap.size w (w.alloc (so S A c)) := (Below.refl _ _).alloc (Nat.le_refl _) _
  have hlL := ha.len
  have HA1 := ha.below HW
  have x1 : (w.alloc (so S A c)).cell? ⟨w.heap.size, 1, none⟩ = some (.slice A S.rows.length c) := by simp [go_sem]
  go_enter Try.func13, Try.ntmps13
  go_wp2
  generalize w.alloc (so S A c) = w1 at *
  go_loop [3] (fun i => ∃ k : Nat, k ≤ S.rows.length ∧ i = .int .i64 (k : Int) ∧ Hid (∀ r, r < k → ∀ j, j < (gl S.rows r).length → gi (gl S.rows r) j ≤ 1099511627776)) (fun i => S.rows.length - (intOf i).toNat)
  case atStart => exact ⟨0, by omega, rfl, Lib.hid (fun r hr => by omega)⟩
  case round =>
    obtain ⟨k, hk, rfl, HA⟩ := hrel
    by_cases hlt : k < S.rows.length
    · obtain ⟨b, o, rfl, hb, _, hr⟩ := HA1.2.2.2 (by omega)
      obtain ⟨A1, c1, e1, i1, _⟩ := hr k hlt
      have l1 : (k : Int) < (S.rows.length : Int) := by omega
      have hl1 := i1.len
      clear hr
      generalize hg1 : gl S.rows k = R1 at *
      have HG1 := Lib.hid hg1
      clear hg1
      go_wp2
      go_loop [4] (fun i => ∃ j : Nat, j ≤ R1.length ∧ i = .int .i64 (j : Int) ∧ Hid (∀ r, r < j → gi R1 r ≤ 1099511627776)) (fun i => R1.length - (intOf i).toNat)
      case atStart => exact ⟨0, by omega, rfl, Lib.hid (fun r hr => by omega)⟩
      case round =>
        obtain ⟨j, hj, rfl, HJ⟩ := hrel
        by_cases hjm : j < R1.length
        · obtain ⟨b1, o1, rfl, t1⟩ := i1.2.2.2 (by omega)
          have e2 := t1.2 j hjm
          have l3 : (j : Int) < (R1.length : Int) := by omega
          by_cases hx : 1099511627776 < gi R1 j
          · have p1 : decide (1099511627776 < gi R1 j) = true := by simpa using hx
            have HE : Hid (decide (fits S.rows) = false) := Lib.hid (by
              simp only [decide_eq_false_iff_not]
              intro h
              have := h k hlt j (by rw [HG1.out]; exact hjm)
              rw [HG1.out] at this
              omega)
            clear hx
            go_wp2
            go_ret
            exact ⟨ret_bool HE.out.symm, HW⟩
          · have p1 : decide (1099511627776 < gi R1 j) = false := by simpa using hx
            have HX : Hid (gi R1 j ≤ 1099511627776) := Lib.hid (by omega)
            clear hx
            go_wp2
            go_round
            case rel => exact ⟨j + 1, by omega, by go_num, Lib.hid (fun r hr => by
              by_cases x : r = j
              · subst x; exact HX.out
              · exact HJ.out r (by omega))⟩
            case measure => simp [intOf]; omega
        · obtain rfl : j = R1.length := by omega
          go_wp2
          go_round
          case rel => exact ⟨k + 1, by omega, by go_num, Lib.hid (fun r hr => by
            by_cases x : r = k
            · subst x; rw [HG1.out]; exact HJ.out
            · exact HA.out r (by omega))⟩
          case measure => simp [intOf]; omega
    · obtain rfl : k = S.rows.length := by omega
      have HE : Hid (decide (fits S.rows) = true) := Lib.hid (by simp only [decide_eq_true_eq]; exact HA.out)
      go_wp2
      go_ret
      exact ⟨ret_bool HE.out.symm, HW⟩

/-! ### SketchCopy -/
theorem gl_take {LL : List (List Int)} {k i : Nat} (h : i < k) : gl (LL.take k) i = gl LL i := by
  unfold gl
  rw [List.getD_eq_getElem?_getD, List.getD_eq_getElem?_getD, List.getElem?_take, if_pos h]
theorem take_snoc' {LL : List (List Int)} {k : Nat} (h : k < LL.length) : LL.take (k + 1) = LL.take k ++ [gl LL k] := by
  rw [List.take_succ_eq_append_getElem h, gl_get h]

theorem MG.mono {w : World} {B C : Nat} {v : Value} {LL : List (List Int)} (h : MG w B v LL) (hC : C ≤ B) : MG w C v LL := by
  obtain ⟨xs, ⟨h0, h1⟩, hs, cs, h3, h4⟩ := h
  refine ⟨xs, ⟨h0, ?_⟩, hs, cs, fun i hi => ?_, h4⟩
  · rcases h1 with h1 | ⟨g, cap, cur, e, hb, r⟩
    · exact .inl h1
    · exact .inr ⟨g, cap, cur, e, by omega, r⟩
  · obtain ⟨a1, a2, a3, a4⟩ := h3 i hi
    exact ⟨a1, a2, by omega, a4⟩

/-- 'append([]int{}, row...)' at a step of a region that draws. -/
theorem step_append_copy {W : World} {ops : Array Oper} {o : Oper} {a : Act} {K : Act → World → Prop} {Q : Exit → Act → World → Prop} {E : Prop} (hgd : o.guard = none) (s x : Operand)
    (ho : o.op = .call { callee := .builtin .append, args := #[s, x], argTypes := #[37, 37] })
    (p0 : Nat) (hs : a.eval s = .slice (some ⟨p0, 0, none⟩) 0 0) (h0 : W.heap[p0]? = some (.cells #[] 3 (0, 0))) (A1 : Option Addr) (c1 : Nat) (R : List Int) (hx : a.eval x = .slice A1 R.length c1) (hi : Ints W A1 c1 R) (hR : 0 < R.length) (hl : R.length ≤ 1000)
    (h : ∀ g cap w1, RowC w1 g cap R → p0 ≤ g → Below p0 W w1 → K (a.put o.dst (.slice (some ⟨g, 0, none⟩) R.length cap)) w1) :
    if Region.wanted o (yielded ops a.tmps) = true then Oper.wp Try.prog o a W K Q else E := by
  obtain ⟨i0, hi0, hz0, hz1, hz2⟩ := info_parts int_info
  have hp0 : p0 < W.heap.size := (Array.getElem?_eq_some_iff.1 h0).1
  obtain ⟨b, o', rfl, ht⟩ := hi.2.2.2 hR
  have hown : W.ownsRow p0 3 1 (.slice (some ⟨p0, 0, none⟩) 0 0) 0 [] := ⟨rfl, .inr ⟨p0, 0, #[], rfl, Nat.le_refl _, h0, Nat.le_refl _, Nat.zero_le _, rfl, rfl⟩⟩
  refine step_append_lies W hgd s x 37 ho p0 3 i0 (.int .i64 0) 1 8 Try.underlying37 hi0 hz0 hz1 hz2 (by rfl) (by omega) (.slice (some ⟨p0, 0, none⟩) 0 0) 0 [] hs hown ⟨b, o', none⟩ R.length c1 (R.map encI) hx (by simp) ?_ ?_ hR (by unfold maxLen; omega) (by omega) (Nat.le_of_lt hp0) W.heap.size rfl ?_
  · intro j u hj
    rw [List.getElem?_map] at hj
    by_cases hlt : j < R.length
    · rw [List.getElem?_eq_getElem hlt] at hj
      simp only [Option.map_some, Option.some.injEq] at hj
      rw [add_none, ht.2 j hlt, gi_get hlt, ← hj]
    · rw [List.getElem?_eq_none (by omega)] at hj; cases hj
  · intro u hu
    obtain ⟨n, _, rfl⟩ := List.mem_map.1 hu
    rfl
  · intro g cap w1 hown1 hgr hat _
    rw [Nat.zero_add] at hown1
    have hlow := (hown1.lt g rfl).1
    rw [show (0 + R.length) = R.length from Nat.zero_add _]
    refine h g cap w1 ?_ hlow ⟨hgr.os, hgr.tape, hgr.output, hgr.size, fun k hk => hgr.block k (by omega) (fun e => by cases e; exact Nat.lt_irrefl _ hk)⟩
    rcases hown1.2 with ⟨e, _⟩ | ⟨g', cap', cur, e, _, hg, hn, hm, hsz, ht'⟩
    · cases e
    · cases e
      refine ⟨cur, hg, by omega, hn, hm, fun j hj => ?_⟩
      have h5 : ([] ++ R.map encI)[j]? = some (encI (gi R j)) := by rw [List.nil_append, List.getElem?_map, List.getElem?_eq_getElem hj, gi_get hj]; rfl
      rw [← ht', List.getElem?_take, if_pos (by omega)] at h5
      simpa using h5

set_option maxHeartbeats 8000000 in
theorem refCopy_any (B : Nat) (S : Sk) (A : Option Addr) (c : Nat) (w : World) (ha : Grid B w A c S.rows) (hf : Fine S) :
    Calls Try.prog 11 #[sv S A c] w fun e w' => ∃ A' c', e = .returned (sv S A' c') ∧ MG w' w.heap.size (.slice A' S.rows.length c') S.rows ∧ Below w.heap.size w w' := by
  have l2 := hf.l2
  have HF := Lib.hid hf
  have HGr := Lib.hid ha
  have W2 : Hid (∀ r, r < S.rows.length → 0 < (gl S.rows r).length ∧ (gl S.rows r).length ≤ 64) := Lib.hid (fun r hr => by
    have := hf.len r hr; have := hf.w1; have := hf.w2; omega)
  clear ha hf
  go_enter Try.func11, Try.ntmps11
  go_wp2
  have HV0 : Hid (VS (((w.alloc (so S A c)).alloc (.cells #[.int .i64 0, .slice none 0 0] 24)).alloc (.cells #[.int .i64 S.wide, .slice none 0 0] 24)) (w.heap.size + 1 + 1) S.wide (.slice none 0 0)) := Lib.hid ⟨by simp [go_sem], by simp [go_sem], by simp [go_sem], by simp⟩
  have HX0 : Hid (Wr (((w.alloc (so S A c)).alloc (.cells #[.int .i64 0, .slice none 0 0] 24)).alloc (.cells #[.int .i64 S.wide, .slice none 0 0] 24)) (w.heap.size + 1)) := Lib.hid (by
    have := (Wr.new (w.alloc (so S A c)) _ rfl).below (N := w.heap.size + 2) ((Below.refl _ _).alloc (by simp) (.cells #[.int .i64 S.wide, .slice none 0 0] 24)) (by simp)
    simpa using this)
  have b1 : (((w.alloc (so S A c)).alloc (.cells #[.int .i64 0, .slice none 0 0] 24)).alloc (.cells #[.int .i64 S.wide, .slice none 0 0] 24)).cell? ⟨w.heap.size, 1, none⟩ = some (.slice A S.rows.length c) := by simp [go_sem]
  have HB0 : Hid (Below w.heap.size w (((w.alloc (so S A c)).alloc (.cells #[.int .i64 0, .slice none 0 0] 24)).alloc (.cells #[.int .i64 S.wide, .slice none 0 0] 24))) := Lib.hid ((((Below.refl _ w).alloc (Nat.le_refl _) (so S A c)).alloc (by simp) _).alloc (by simp; omega) _)
  have hz0 : (((w.alloc (so S A c)).alloc (.cells #[.int .i64 0, .slice none 0 0] 24)).alloc (.cells #[.int .i64 S.wide, .slice none 0 0] 24)).heap.size = w.heap.size + 1 + 1 + 1 := by simp
  change Code.wp _ _ _ _ (((w.alloc (so S A c)).alloc (.cells #[.int .i64 0, .slice none 0 0] 24)).alloc (.cells #[.int .i64 S.wide, .slice none 0 0] 24))
  generalize (((w.alloc (so S A c)).alloc (.cells #[.int .i64 0, .slice none 0 0] 24)).alloc (.cells #[.int .i64 S.wide, .slice none 0 0] 24)) = w0 at *
  generalize hn : w.heap.size = n at *
  have HN := Lib.hid hn
  clear hn
  generalize hq : n + 1 + 1 = q at *
  have HQ := Lib.hid hq
  have hq1 : n + 1 < q := by omega
  clear hq
  generalize hh : S.rows.length = h at *
  have HH := Lib.hid hh
  clear hh
  go_loopw [4] (fun i wr => ∃ k : Nat, k ≤ h ∧ i = .int .i64 (k : Int) ∧ (∃ v, VS wr q S.wide v ∧ MG wr (q + 1) v (S.rows.take k)) ∧ Wr wr (n + 1) ∧ Below q w0 wr ∧ q + 1 ≤ wr.heap.size) (fun i _ => h - (intOf i).toNat)
  case atStart => exact ⟨0, by omega, rfl, ⟨_, HV0.out, _, by rw [List.take_zero]; exact MGx.nil _ _⟩, HX0.out, Below.refl _ _, by omega⟩
  case round =>
    obtain ⟨k, hk, rfl, ⟨v, hV, xs, hM⟩, hX, HB, hz⟩ := hrel
    have d1 := (HB.cell (p := ⟨n, 1, none⟩) (by show n < q; omega)).trans b1
    have HBw : Hid (Below n w wr) := Lib.hid (HB0.out.trans (HB.mono (by omega)))
    by_cases hlt : k < h
    · obtain ⟨b, o, rfl, hb, _, hr⟩ := HGr.out.2.2.2 (by rw [HH.out]; omega)
      obtain ⟨A1, c1, e1, i1, _⟩ := hr k (by rw [HH.out]; exact hlt)
      rw [HN.out] at hb
      clear hr
      have hl0 := (W2.out k hlt).1
      have hl1 := (W2.out k hlt).2
      have e1r := (HBw.out.cell (p := ⟨b, o + k, none⟩) hb).trans e1
      have HI1 : Hid (Ints wr A1 c1 (gl S.rows k)) := Lib.hid (i1.below (by rw [HN.out]; exact HBw.out))
      clear e1 i1
      have HT := Lib.hid (take_snoc' (LL := S.rows) (k := k) (by rw [HH.out]; exact hlt))
      generalize gl S.rows k = R at *
      obtain ⟨v0, v1, v2, v3⟩ := hV
      have HM := Lib.hid hM
      have HX := Lib.hid hX
      have hkn : (k : Int) < (h : Int) := by omega
      have hzl : (S.rows.take k).length = k := by rw [List.length_take, HH.out]; omega
      have hal : Below wr.heap.size wr (wr.alloc (.cells #[] 3)).drew := ((Below.refl _ wr).alloc (Nat.le_refl _) _).drew
      have HAl := Lib.hid hal
      have y1 : (wr.alloc (.cells #[] 3)).cell? ⟨q, 1, none⟩ = some v := (hal.cell (p := ⟨q, 1, none⟩) v3).trans v1
      have y2 : (wr.alloc (.cells #[] 3)).cell? ⟨n, 1, none⟩ = some (.slice (some ⟨b, o, none⟩) h c) := (hal.cell (p := ⟨n, 1, none⟩) (by show n < wr.heap.size; omega)).trans d1
      have y3 : (wr.alloc (.cells #[] 3)).cell? ⟨b, o + k, none⟩ = some (.slice A1 R.length c1) := (hal.cell (p := ⟨b, _, none⟩) (by show b < wr.heap.size; omega)).trans e1r
      have HE0 : Hid ((wr.alloc (.cells #[] 3)).drew.heap[wr.heap.size]? = some (.cells #[] 3 (0, 0))) := Lib.hid (heap_alloc_new wr _)
      have HI2 : Hid (Ints (wr.alloc (.cells #[] 3)).drew A1 c1 R) := Lib.hid (HI1.out.below HAl.out)
      have HL : Hid (∀ g1 cap1 w1, RowC w1 g1 cap1 R → wr.heap.size ≤ g1 → Below wr.heap.size (wr.alloc (.cells #[] 3)).drew w1 →
          w1.cell? ⟨q, 1, none⟩ = some v ∧ (w1.alloc (.cells #[.slice (some ⟨g1, 0, none⟩) R.length cap1] 37)).cell? ⟨q, 1, none⟩ = some v ∧
          Below wr.heap.size wr (w1.alloc (.cells #[.slice (some ⟨g1, 0, none⟩) R.length cap1] 37)) ∧ RowC (w1.alloc (.cells #[.slice (some ⟨g1, 0, none⟩) R.length cap1] 37)) g1 cap1 R ∧
          (w1.alloc (.cells #[.slice (some ⟨g1, 0, none⟩) R.length cap1] 37)).cell? ⟨w1.heap.size, 0, none⟩ = some (.slice (some ⟨g1, 0, none⟩) R.length cap1)) := Lib.hid (fun g1 cap1 w1 hR1 hg1 hb1 => by
        have hbb : Below wr.heap.size wr w1 := HAl.out.trans hb1
        have hb2 : Below wr.heap.size wr (w1.alloc (.cells #[.slice (some ⟨g1, 0, none⟩) R.length cap1] 37)) := hbb.alloc hbb.size _
        exact ⟨(hbb.cell (p := ⟨q, 1, none⟩) v3).trans v1, (hb2.cell (p := ⟨q, 1, none⟩) v3).trans v1, hb2, hR1.kept (((Below.refl w1.heap.size w1).alloc (Nat.le_refl _) _).block _ hR1.lt), by simp [go_sem]⟩)
      have HK : Hid (∀ g1 cap1 w1 g cap w2, RowC w1 g1 cap1 R → wr.heap.size ≤ g1 → Below wr.heap.size (wr.alloc (.cells #[] 3)).drew w1 →
          MG w2 (q + 1) (.slice (some ⟨g, 0, none⟩) ((S.rows.take k).length + 1) cap) (S.rows.take k ++ [R]) → Below (q + 1) (w1.alloc (.cells #[.slice (some ⟨g1, 0, none⟩) R.length cap1] 37)) w2 →
          w2.cell? ⟨q, 1, none⟩ = some v ∧ w2.frozen? ⟨q, 1, none⟩ = false ∧
          (∃ v, VS (w2.setCell ⟨q, 1, none⟩ (.slice (some ⟨g, 0, none⟩) (k + 1) cap)) q S.wide v ∧ MG (w2.setCell ⟨q, 1, none⟩ (.slice (some ⟨g, 0, none⟩) (k + 1) cap)) (q + 1) v (S.rows.take (k + 1))) ∧
          Wr (w2.setCell ⟨q, 1, none⟩ (.slice (some ⟨g, 0, none⟩) (k + 1) cap)) (n + 1) ∧ Below q w0 (w2.setCell ⟨q, 1, none⟩ (.slice (some ⟨g, 0, none⟩) (k + 1) cap)) ∧ q + 1 ≤ (w2.setCell ⟨q, 1, none⟩ (.slice (some ⟨g, 0, none⟩) (k + 1) cap)).heap.size) := Lib.hid (fun g1 cap1 w1 g cap w2 hR1 hg1 hb1 hM2 hb2 => by
        obtain ⟨_, _, hbA, _, _⟩ := HL.out g1 cap1 w1 hR1 hg1 hb1
        have hbb : Below (q + 1) wr w2 := (hbA.mono hz).trans hb2
        have hz2 : q + 1 ≤ w2.heap.size := Nat.le_trans hz hbb.size
        have c0 := (hbb.cell (p := ⟨q, 0, none⟩) (by show q < q + 1; omega)).trans v0
        have c1 := (hbb.cell (p := ⟨q, 1, none⟩) (by show q < q + 1; omega)).trans v1
        have c2 := (hbb.frozen (p := ⟨q, 1, none⟩) (by show q < q + 1; omega)).trans v2
        rw [hzl, ← HT.out] at hM2
        have hset : Below q w2 (w2.setCell ⟨q, 1, none⟩ (.slice (some ⟨g, 0, none⟩) (k + 1) cap)) := (Below.refl _ _).setCell (p := ⟨q, 1, none⟩) (Nat.le_refl _) _
        refine ⟨c1, c2, ⟨.slice (some ⟨g, 0, none⟩) (k + 1) cap, ⟨by simp [go_sem, c0], by simp [go_sem, c1], by simpa [go_sem] using c2, by simp; omega⟩, hM2.setCell (by show q < q + 1; omega) _⟩, (HX.out.below hbb (by omega)).below hset (by omega), (HB.trans (hbb.mono (by omega))).trans hset, by simpa using hz2⟩)
      clear hM hX hal
      go_wp2
      go_region_law (first
          | (refine step_append_copy (by rfl) _ _ (by rfl) wr.heap.size (by rfl) HE0.out A1 c1 R (by rfl) HI2.out hl0 (by omega) ?_; intro g1 cap1 w1 hR1 hg1 hb1; have HH1 := HL.out g1 cap1 w1 hR1 hg1 hb1; have u1 := HH1.1; have u2 := HH1.2.1; have HH2 := Lib.hid HH1; clear HH1)
          | (refine step_append_row (wr := wr) (by rfl) _ _ (by rfl) (q + 1) v (S.rows.take k) xs (by rfl) HM.out HH2.out.2.2.1 g1 cap1 R HH2.out.2.2.2.1 hg1 w1.heap.size (by rfl) HH2.out.2.2.2.2 (by omega) hz ?_; intro g cap w2 hM2 hb2; have HK4 := HK.out g1 cap1 w1 g cap w2 hR1 hg1 hb1 hM2 hb2; have u3 := HK4.1; have u4 := HK4.2.1))
      all_goals (have HK5 := HK4.2.2; clear HK4 u1 u2 u3 u4 y1 y2 y3 hM2 hb2 hR1 hb1; generalize (w2.setCell ⟨q, 1, none⟩ (.slice (some ⟨g, 0, none⟩) (k + 1) cap)) = w4 at *; go_wp2; go_roundw)
      all_goals first | exact ⟨k + 1, by omega, by go_num, HK5.1, HK5.2.1, HK5.2.2.1, HK5.2.2.2⟩ | (simp [intOf]; omega)
    · obtain rfl : k = h := by omega
      have htk : S.rows.take k = S.rows := by rw [← HH.out, List.take_length]
      rw [htk] at hM
      obtain ⟨A', c', rfl, hG⟩ := hM.grid
      rw [HH.out] at hV hM
      obtain ⟨v0, v1, v2, v3⟩ := hV
      obtain ⟨r0, r1, f0, f1⟩ := hX
      have HM : Hid (MG wr (q + 1) (.slice A' k c') S.rows) := Lib.hid ⟨xs, hM⟩
      have HBn : Hid (Below n w wr) := HBw
      clear hG hM htk
      go_wp2
      refine bodyPost_ret (v := .agg #[.int .i64 S.wide, .slice A' k c']) (by simp [results, Try.results11, go_sem, r0, r1]) rfl ?_
      rw [HN.out, HH.out]
      have hM2 : MG ((wr.setCell ⟨n + 1, 0, none⟩ (.int .i64 S.wide)).setCell ⟨n + 1, 1, none⟩ (.slice A' k c')) n (.slice A' k c') S.rows :=
        MG.mono (B := q + 1) ((HM.out.setCell (p := ⟨n + 1, 0, none⟩) (by show n + 1 < q + 1; omega) _).setCell (p := ⟨n + 1, 1, none⟩) (by show n + 1 < q + 1; omega) _) (by omega)
      exact ⟨A', c', by rw [sv, HH.out], hM2, (HBn.out.setCell (p := ⟨n + 1, 0, none⟩) (by show n ≤ n + 1; omega) _).setCell (p := ⟨n + 1, 1, none⟩) (by show n ≤ n + 1; omega) _⟩

end Go.Proofs.Ytmjoiakggckeoaa.Skt
