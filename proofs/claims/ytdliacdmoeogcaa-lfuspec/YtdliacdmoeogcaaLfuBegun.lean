/-
  SameUses of the reference; what must be in any case.
-/
import Derived.Test.YtdliacdmoeogcaaLfuApi3
import Derived.Test.YtdliacdmoeogcaaLfuApi4
namespace Go.Proofs.Ytdliacdmoeogcaa.Lfu
open Go.RowKit
open Lru (isRm isK keysE keysE_zero traceE trace_zero)
set_option linter.unusedVariables false
set_option maxRecDepth 100000

theorem ints_lit (w : World) (L : List Int) (h : L.length ≤ maxLen) : Ints (w.alloc (.cells (L.map encI).toArray 3)) (some ⟨w.heap.size, 0, none⟩) L.length L := by
  refine ⟨Nat.le_refl _, h, fun e => (by cases e), fun _ => ⟨w.heap.size, 0, rfl, by simp, fun i hi => ?_⟩⟩
  rw [cell_of_row _ _ _ _ _ (0, 0) (show (w.alloc (.cells (L.map encI).toArray 3)).heap[w.heap.size]? = some (.cells (L.map encI).toArray 3 (0, 0)) from Array.getElem?_push_size)]
  simp [List.getElem?_eq_getElem hi, gi_get hi]
theorem uss_lit (w : World) (F : List Us) (h : F.length ≤ maxLen) : Uss (w.alloc (.cells (encUs F).toArray 42)) (some ⟨w.heap.size, 0, none⟩) F.length F := by
  refine ⟨Nat.le_refl _, h, fun e => (by cases e), fun _ => ⟨w.heap.size, 0, rfl, by simp, fun i hi => ?_⟩⟩
  have hb : (w.alloc (.cells (encUs F).toArray 42)).heap[w.heap.size]? = some (.cells (encUs F).toArray 42 (0, 0)) := Array.getElem?_push_size
  obtain ⟨e1, e2⟩ := encUs_get F i hi
  rw [Nat.zero_add, cell_of_row _ _ _ _ _ (0, 0) hb, cell_of_row _ _ _ _ _ (0, 0) hb]
  exact ⟨by simpa using e1, by simpa using e2⟩

theorem dnU {w : World} {A : Option Addr} {c : Nat} {F : List Us} (h : Uss w A c F) (n : Nat) : Uss (w.drewN n) A c F := h.below (bel_drewN (Below.refl _ _) n)
set_option maxHeartbeats 4000000 in
theorem sameUses_eq (r : Int) (A B : Option Addr) (c d : Nat) (F : List Us) (w : World) (hA : Uss w A c F) (hB : Uss w B d F) :
    Calls Try.prog 18 #[kv r (.slice A F.length c), kv r (.slice B F.length d)] w fun e w' => e = .returned (.bool true) ∧ Below w.heap.size w w' := by
  have HKa : Hid (Kb ((w.alloc (ko r (.slice A F.length c))).alloc (ko r (.slice B F.length d))) w.heap.size r (.slice A F.length c)) := Lib.hid ((Kb.new w r _).alloc _)
  have HKb : Hid (Kb ((w.alloc (ko r (.slice A F.length c))).alloc (ko r (.slice B F.length d))) (w.heap.size + 1) r (.slice B F.length d)) := Lib.hid (by
    have := Kb.new (w.alloc (ko r (.slice A F.length c))) r (.slice B F.length d)
    rwa [show (w.alloc (ko r (.slice A F.length c))).heap.size = w.heap.size + 1 by simp] at this)
  have hb0 : Below w.heap.size w ((w.alloc (ko r (.slice A F.length c))).alloc (ko r (.slice B F.length d))) := bel_al (bel_al (Below.refl _ _) (Nat.le_refl _) _) (by simp) _
  have HB0 := Lib.hid hb0
  have HA := Lib.hid (hA.below hb0)
  have HB := Lib.hid (hB.below hb0)
  have hlen := hA.len
  clear hA hB hb0
  obtain ⟨ln, hln⟩ : ∃ ln, F.length = ln := ⟨_, rfl⟩
  have HLN := Lib.hid hln
  rw [hln] at hlen HKa HKb HB0 HA HB ⊢
  clear hln
  obtain ⟨x1, x2, -, -⟩ := HKa.out.cells
  obtain ⟨y1, y2, -, -⟩ := HKb.out.cells
  go_enter Try.func18, Try.ntmps18
  go_wp2
  clear x1 x2 y1 y2
  generalize (w.alloc (ko r (.slice A ln c))).alloc (ko r (.slice B ln d)) = w1 at *
  go_loopw [5] (fun x wr => ∃ k : Nat, k ≤ ln ∧ x = .int .i64 (k : Int) ∧ Hid (Below w1.heap.size w1 wr)) (fun x _ => ln - (intOf x).toNat)
  case atStart => exact ⟨0, by omega, rfl, Lib.hid (Below.refl _ _)⟩
  case round =>
    obtain ⟨k, hk, rfl, HBr⟩ := hrel
    obtain ⟨x1, x2, -, -⟩ := (HKa.out.below HBr.out).cells
    obtain ⟨y1, y2, -, -⟩ := (HKb.out.below HBr.out).cells
    by_cases hlt : k < ln
    · have hkn : (k : Int) < (ln : Int) := by omega
      obtain ⟨a1, o1, rfl, e1, e2⟩ := (HA.out.below HBr.out).us (k := k) (by rw [HLN.out]; exact hlt)
      obtain ⟨a2, o2, rfl, e3, e4⟩ := (HB.out.below HBr.out).us (k := k) (by rw [HLN.out]; exact hlt)
      generalize gu F k = f at *
      obtain ⟨fx, fu⟩ := f
      dsimp only at e1 e2 e3 e4
      go_wp2
      go_quiet (fail)
      have HB2 : Hid (Below w1.heap.size w1 (wr.drewN nq)) := Lib.hid (bel_drewN HBr.out _)
      clear x1 x2 y1 y2 e1 e2 e3 e4
      generalize wr.drewN nq = w2 at *
      go_wp2
      go_roundw
      case rel => exact ⟨k + 1, by omega, by go_num, HB2⟩
      case measure => simp [intOf]; omega
    · obtain rfl : k = ln := by omega
      go_wp2
      go_ret
      exact ⟨rfl, HB0.out.trans (HBr.out.mono HB0.out.size)⟩
theorem sameUses_lit (r : Int) (A : Option Addr) (c n q : Nat) (F : List Us) (w : World) (hq : q = w.heap.size) (hn : F.length = n) (hm : n ≤ maxLen) (hA : Uss w A c F) :
    Calls Try.prog 18 #[kv r (.slice A n c), kv r (.slice (some ⟨q, 0, none⟩) n n)] (w.alloc (.cells (encUs F).toArray 42)) fun e w' => e = .returned (.bool true) ∧ Below w.heap.size w w' := by
  subst hq hn
  refine (sameUses_eq r A _ c _ F _ (hA.alloc _) (uss_lit w F hm)).mono ?_
  rintro e w' ⟨h1, h2⟩
  exact ⟨h1, (bel_al (Below.refl _ _) (Nat.le_refl _) _).trans (h2.mono (by simp))⟩

/-- What the calls of lfuBegun give. -/
theorem bg_facts : ∃ M1 M2 M3 : List Us,
    (∀ (q : Nat) (w : World), q = w.heap.size → Calls Try.prog 8 #[kv 2 (.slice none 0 0), .slice (some ⟨q, 0, none⟩) 4 4] (w.alloc (.cells #[.int .i64 1, .int .i64 1, .int .i64 2, .int .i64 3] 3)) fun e w' => ∃ A c, e = .returned (.tuple #[kv 2 (.slice A 2 c), .int .i64 1, .int .i64 0]) ∧ Uss w' A c M1 ∧ Below w.heap.size w w') ∧
    (∀ (A : Option Addr) (c : Nat) (w : World), Uss w A c M1 → Calls Try.prog 10 #[kv 2 (.slice A 2 c)] w fun e w' => e = .returned (.tuple #[.int .i64 3, .int .i64 0]) ∧ Below w.heap.size w w') ∧
    (∀ (A : Option Addr) (c : Nat) (w : World), Uss w A c M1 → Calls Try.prog 7 #[kv 2 (.slice A 2 c), .int .i64 4] w fun e w' => ∃ b o c, e = .returned (.tuple #[kv 2 (.slice (some ⟨b, o, none⟩) 2 c), .bool false, .int .i64 3, .int .i64 0]) ∧ Uss w' (some ⟨b, o, none⟩) c M2 ∧ Below w.heap.size w w') ∧
    (∀ (b o c : Nat) (w : World), Uss w (some ⟨b, o, none⟩) c M2 → w.cell? ⟨b, o, none⟩ = some (.int .i64 4) ∧ w.cell? ⟨b, o + 1, none⟩ = some (.int .i64 1)) ∧
    (∀ (q : Nat) (w : World), q = w.heap.size → Calls Try.prog 9 #[kv 2 (.slice (some ⟨q, 0, none⟩) 2 2)] (w.alloc (.cells #[.int .i64 1, .int .i64 5, .int .i64 2, .int .i64 1] 42)) fun e w' => ∃ A c, e = .returned (.tuple #[kv 2 (.slice A 2 c), .int .i64 0]) ∧ Uss w' A c M3 ∧ Below w.heap.size w w') ∧
    (∀ (A : Option Addr) (c q : Nat) (w : World), q = w.heap.size → Uss w A c M1 → Calls Try.prog 18 #[kv 2 (.slice A 2 c), kv 2 (.slice (some ⟨q, 0, none⟩) 2 2)] (w.alloc (.cells #[.int .i64 3, .int .i64 1, .int .i64 1, .int .i64 2] 42)) fun e w' => e = .returned (.bool true) ∧ Below w.heap.size w w') ∧
    (∀ (A : Option Addr) (c q : Nat) (w : World), q = w.heap.size → Uss w A c M3 → Calls Try.prog 18 #[kv 2 (.slice A 2 c), kv 2 (.slice (some ⟨q, 0, none⟩) 2 2)] (w.alloc (.cells #[.int .i64 1, .int .i64 2, .int .i64 2, .int .i64 1] 42)) fun e w' => e = .returned (.bool true) ∧ Below w.heap.size w w') := by
  refine ⟨[⟨3, 1⟩, ⟨1, 2⟩], [⟨4, 1⟩, ⟨1, 2⟩], [⟨1, 2⟩, ⟨2, 1⟩], fun q w hq => ?_, fun A c w h => ?_, fun A c w h => ?_, fun b o c w h => ?_, fun q w hq => ?_, fun A c q w hq h => ?_, fun A c q w hq h => ?_⟩
  · subst hq
    have := run_any 2 none 0 [] (some ⟨w.heap.size, 0, none⟩) 4 [1, 1, 2, 3] _ (Uss.none_ _) (ints_lit w [1, 1, 2, 3] (by unfold maxLen; decide))
    unfold NR at this
    rw [show rnR 2 [] [1, 1, 2, 3] = 2 by decide, show rnF 2 [] [1, 1, 2, 3] = [⟨3, 1⟩, ⟨1, 2⟩] by decide, show rnH 2 [] [1, 1, 2, 3] = 1 by decide, show rnE 2 [] [1, 1, 2, 3] = 0 by decide] at this
    exact this.mono (by rintro e w' ⟨A, c, he, hI, -, hb⟩; exact ⟨A, c, he, hI, (bel_al (Below.refl _ _) (Nat.le_refl _) _).trans (hb.mono (by simp))⟩)
  · have := victimE_any 2 A c [⟨3, 1⟩, ⟨1, 2⟩] w h
    rwa [show viN 2 [⟨3, 1⟩, ⟨1, 2⟩] = 3 by decide, show viE 2 [⟨3, 1⟩, ⟨1, 2⟩] = 0 by decide] at this
  · have := access_any 2 A c [⟨3, 1⟩, ⟨1, 2⟩] 4 w h
    unfold AR at this
    rw [show acR 2 [⟨3, 1⟩, ⟨1, 2⟩] 4 = 2 by decide, show acF 2 [⟨3, 1⟩, ⟨1, 2⟩] 4 = [⟨4, 1⟩, ⟨1, 2⟩] by decide, show acH 2 [⟨3, 1⟩, ⟨1, 2⟩] 4 = false by decide, show acG 2 [⟨3, 1⟩, ⟨1, 2⟩] 4 = 3 by decide, show acE 2 [⟨3, 1⟩, ⟨1, 2⟩] 4 = 0 by decide] at this
    exact this.mono (by
      rintro e w' ⟨A, c, he, hI, -, hb⟩
      obtain ⟨b, o, rfl, -⟩ := hI.2.2.2 (by simp)
      exact ⟨b, o, c, he, hI, hb⟩)
  · obtain ⟨b', o', e, e1, e2⟩ := h.us (k := 0) (by simp)
    cases e
    exact ⟨e1, e2⟩
  · subst hq
    have := age_any 2 (some ⟨w.heap.size, 0, none⟩) 2 [⟨1, 5⟩, ⟨2, 1⟩] _ (uss_lit w [⟨1, 5⟩, ⟨2, 1⟩] (by unfold maxLen; decide))
    unfold GR at this
    rw [show agR 2 [⟨1, 5⟩, ⟨2, 1⟩] = 2 by decide, show agF 2 [⟨1, 5⟩, ⟨2, 1⟩] = [⟨1, 2⟩, ⟨2, 1⟩] by decide, show checkK 2 [⟨1, 5⟩, ⟨2, 1⟩] = 0 by decide] at this
    exact this.mono (by rintro e w' ⟨A, c, he, hI, -, hb⟩; exact ⟨A, c, he, hI, (bel_al (Below.refl _ _) (Nat.le_refl _) _).trans (hb.mono (by simp))⟩)
  · exact sameUses_lit 2 A c 2 q [⟨3, 1⟩, ⟨1, 2⟩] w hq rfl (by unfold maxLen; decide) h
  · exact sameUses_lit 2 A c 2 q [⟨1, 2⟩, ⟨2, 1⟩] w hq rfl (by unfold maxLen; decide) h
theorem check_bg (w : World) : Calls Try.prog 17 #[kv 0 (.slice none 0 0)] w fun e w' => e = .returned (.int .i64 3) ∧ Below w.heap.size w w' := by
  have := check_any 0 none 0 [] w (Uss.none_ _)
  rwa [show checkK 0 [] = 3 by decide] at this
theorem victim_bg (w : World) : Calls Try.prog 10 #[kv 1 (.slice none 0 0)] w fun e w' => e = .returned (.tuple #[.int .i64 0, .int .i64 5]) ∧ Below w.heap.size w w' := by
  have := victimE_any 1 none 0 [] w (Uss.none_ _)
  rwa [show viN 1 [] = 0 by decide, show viE 1 [] = 5 by decide] at this

set_option maxHeartbeats 8000000 in
theorem begun_any (w : World) :
    Calls Try.prog 16 #[] w fun e w' => e = .returned (.bool true) ∧ Below w.heap.size w w' := by
  obtain ⟨M1, M2, M3, h1, h2, h3, h4, h5, h6, h7⟩ := bg_facts
  have H1 := Lib.hid h1
  have H2 := Lib.hid h2
  have H3 := Lib.hid h3
  have H4 := Lib.hid h4
  have H5 := Lib.hid h5
  have H6 := Lib.hid h6
  have H7 := Lib.hid h7
  clear h1 h2 h3 h4 h5 h6 h7
  go_enter Try.func16, Try.ntmps16
  go_wp2_with fail
  refine (H1.out _ w rfl).mono ?_
  rintro e w1 ⟨A1, c1, rfl, hI1, hb1⟩
  have K1 := Lib.hid (Kb.new w1 2 (.slice A1 2 c1))
  have I1 := Lib.hid (hI1.alloc (ko 2 (.slice A1 2 c1)))
  have HB1 : Hid (Below w.heap.size w (w1.alloc (ko 2 (.slice A1 2 c1)))) := Lib.hid (bel_al hb1 hb1.size _)
  clear hI1 hb1
  obtain ⟨x1, x2, -, -⟩ := K1.out.cells
  go_wp2_with fail
  refine (H2.out A1 c1 _ I1.out).mono ?_
  rintro e w2 ⟨rfl, hb2⟩
  have K2 := Lib.hid (K1.out.below hb2)
  have I2 := Lib.hid (I1.out.below hb2)
  have HB2 : Hid (Below w.heap.size w w2) := Lib.hid (HB1.out.trans (hb2.mono HB1.out.size))
  clear x1 x2 hb2
  obtain ⟨x1, x2, -, -⟩ := K2.out.cells
  go_wp2_with fail
  refine (H3.out A1 c1 _ I2.out).mono ?_
  rintro e w3 ⟨b3, o3, c3, rfl, hI3, hb3⟩
  have K3 := Lib.hid ((K2.out.below hb3).alloc (ko 2 (.slice (some ⟨b3, o3, none⟩) 2 c3)))
  have I3 := Lib.hid ((I2.out.below hb3).alloc (ko 2 (.slice (some ⟨b3, o3, none⟩) 2 c3)))
  have L3 := Lib.hid (Kb.new w3 2 (.slice (some ⟨b3, o3, none⟩) 2 c3))
  have J3 := Lib.hid (hI3.alloc (ko 2 (.slice (some ⟨b3, o3, none⟩) 2 c3)))
  have HB3 : Hid (Below w.heap.size w (w3.alloc (ko 2 (.slice (some ⟨b3, o3, none⟩) 2 c3)))) := Lib.hid (bel_al (HB2.out.trans (hb3.mono HB2.out.size)) (Nat.le_trans HB2.out.size hb3.size) _)
  clear x1 x2 hI3 hb3
  go_wp2_with fail
  refine (H5.out _ (w3.alloc (ko 2 (.slice (some ⟨b3, o3, none⟩) 2 c3))) (by simp)).mono ?_
  rintro e w4 ⟨A4, c4, rfl, hI4, hb4⟩
  have K4 := Lib.hid ((K3.out.below hb4).alloc (ko 2 (.slice A4 2 c4)))
  have I4 := Lib.hid ((I3.out.below hb4).alloc (ko 2 (.slice A4 2 c4)))
  have L4 := Lib.hid ((L3.out.below hb4).alloc (ko 2 (.slice A4 2 c4)))
  have J4 := Lib.hid ((J3.out.below hb4).alloc (ko 2 (.slice A4 2 c4)))
  have T4 := Lib.hid (Kb.new w4 2 (.slice A4 2 c4))
  have S4 := Lib.hid (hI4.alloc (ko 2 (.slice A4 2 c4)))
  have HB4 : Hid (Below w.heap.size w (w4.alloc (ko 2 (.slice A4 2 c4)))) := Lib.hid (bel_al (HB3.out.trans (hb4.mono HB3.out.size)) (Nat.le_trans HB3.out.size hb4.size) _)
  clear hI4 hb4
  go_wp2_with fail
  refine (victim_bg _).mono ?_
  rintro e w5 ⟨rfl, hb5⟩
  have K5 := Lib.hid (K4.out.below hb5)
  have I5 := Lib.hid (I4.out.below hb5)
  have L5 := Lib.hid (L4.out.below hb5)
  have J5 := Lib.hid (J4.out.below hb5)
  have T5 := Lib.hid (T4.out.below hb5)
  have S5 := Lib.hid (S4.out.below hb5)
  have HB5 : Hid (Below w.heap.size w w5) := Lib.hid (HB4.out.trans (hb5.mono HB4.out.size))
  clear hb5
  obtain ⟨x1, x2, -, -⟩ := K5.out.cells
  go_wp2_with fail
  refine (H6.out A1 c1 _ w5 rfl I5.out).mono ?_
  rintro e w6 ⟨rfl, hb6⟩
  have L6 := Lib.hid (L5.out.below hb6)
  have J6 := Lib.hid (J5.out.below hb6)
  have T6 := Lib.hid (T5.out.below hb6)
  have S6 := Lib.hid (S5.out.below hb6)
  have HB6 : Hid (Below w.heap.size w w6) := Lib.hid (HB5.out.trans (hb6.mono HB5.out.size))
  clear hb6 x1 x2
  obtain ⟨x1, x2, -, -⟩ := T6.out.cells
  obtain ⟨y1, y2, -, -⟩ := L6.out.cells
  obtain ⟨v1, v2⟩ := H4.out _ _ _ _ J6.out
  go_wp2_with fail
  refine (H7.out A4 c4 _ w6 rfl S6.out).mono ?_
  rintro e w7 ⟨rfl, hb7⟩
  have HB7 : Hid (Below w.heap.size w w7) := Lib.hid (HB6.out.trans (hb7.mono HB6.out.size))
  clear hb7 x1 x2 y1 y2 v1 v2
  go_wp2_with fail
  refine (check_bg _).mono ?_
  rintro e w8 ⟨rfl, hb8⟩
  have HB8 : Hid (Below w.heap.size w w8) := Lib.hid (HB7.out.trans (hb8.mono HB7.out.size))
  clear hb8
  go_wp2
  go_ret
  exact ⟨rfl, HB8.out⟩

end Go.Proofs.Ytdliacdmoeogcaa.Lfu
