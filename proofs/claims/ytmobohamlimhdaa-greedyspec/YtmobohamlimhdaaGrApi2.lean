/-
  What Total and Victim of package greedy return.
-/
import Derived.Test.YtmobohamlimhdaaGrCheck
namespace Go.Proofs.Ytmobohamlimhdaa.Grd
open Go.RowKit
open Lru (isK)
set_option linter.unusedVariables false
set_option maxRecDepth 100000

def toS (r fl : Int) (L : List It) : Int := if checkG 8 r fl L = 0 then sizes L else 0
def toC (r fl : Int) (L : List It) : Int := if checkG 8 r fl L = 0 then costs L else 0
def viE (r fl : Int) (L : List It) : Int := if checkG 8 r fl L = 0 then (if L.length = 0 then 5 else 0) else checkG 8 r fl L
def viK (r fl : Int) (L : List It) : Int := if viE r fl L = 0 then (gt L (lstN L)).key else 0

set_option maxHeartbeats 4000000 in
theorem totalA_any (r fl : Int) (A : Option Addr) (c : Nat) (L : List It) (w : World) (hT : Tss w A c L) :
    Calls Try.prog 8 #[kv r fl (.slice A L.length c)] w fun e w' => e = .returned (.tuple #[.int .i64 (toS r fl L), .int .i64 (toC r fl L), .int .i64 (checkG 8 r fl L)]) ∧ Below w.heap.size w w' := by
  have HK0 : Hid (Kb (w.alloc (ko r fl (.slice A L.length c))) w.heap.size r fl (.slice A L.length c)) := Lib.hid (Kb.new w r fl _)
  have HB0 : Hid (Below w.heap.size w (w.alloc (ko r fl (.slice A L.length c)))) := Lib.hid (bel_al (Below.refl _ _) (Nat.le_refl _) _)
  have HT0 : Hid (Tss (w.alloc (ko r fl (.slice A L.length c))) A c L) := Lib.hid (hT.alloc _)
  have HC := Lib.hid (check_any r fl A c L _ HT0.out)
  unfold CkC at HC
  obtain ⟨x0, x1, x2⟩ := HK0.out.cells
  clear hT
  by_cases h0 : checkG 8 r fl L = 0
  · have HG := Lib.hid ((check_zero (full := 8) (by decide)).1 h0)
    have HE : Hid (toS r fl L = sizes L ∧ toC r fl L = costs L) := Lib.hid (by unfold toS toC; rw [if_pos h0, if_pos h0]; exact ⟨rfl, rfl⟩)
    rw [HE.out.1, HE.out.2, h0]
    rw [h0] at HC
    have HTo := Lib.hid (fun (W : World) (hW : Tss W A c L) => total_any A c L W hW HG.out.few (fun t ht => (HG.out.items t ht).1))
    clear h0
    go_enter Try.func8, Try.ntmps8
    go_wp2_with fail
    refine HC.out.mono ?_
    rintro e w1 ⟨rfl, hb1⟩
    have HT1 := Lib.hid (HT0.out.below hb1)
    have HK1 := Lib.hid (HK0.out.below hb1)
    have HB1 : Hid (Below w.heap.size w w1) := Lib.hid (HB0.out.trans (hb1.mono HB0.out.size))
    clear hb1 x0 x1 x2
    obtain ⟨x0, x1, x2⟩ := HK1.out.cells
    go_wp2_with fail
    refine (HTo.out _ HT1.out).mono ?_
    rintro e w2 ⟨rfl, hb2⟩
    have HB2 : Hid (Below w.heap.size w w2) := Lib.hid (HB1.out.trans (hb2.mono HB1.out.size))
    clear hb2 x0 x1 x2
    go_wp2
    refine bodyPost_ret (v := .tuple #[.int .i64 (sizes L), .int .i64 (costs L), .int .i64 0]) (by simp [results, Try.results8, go_sem]) rfl ?_
    exact ⟨rfl, HB2.out⟩
  · have HE : Hid (toS r fl L = 0 ∧ toC r fl L = 0) := Lib.hid (by unfold toS toC; rw [if_neg h0, if_neg h0]; exact ⟨rfl, rfl⟩)
    rw [HE.out.1, HE.out.2]
    have q : (checkG 8 r fl L != 0) = true := by simpa using h0
    clear h0
    go_enter Try.func8, Try.ntmps8
    go_wp2_with fail
    refine HC.out.mono ?_
    rintro e w1 ⟨rfl, hb1⟩
    have HB1 : Hid (Below w.heap.size w w1) := Lib.hid (HB0.out.trans (hb1.mono HB0.out.size))
    clear hb1 x0 x1 x2
    go_wp2
    refine bodyPost_ret (v := .tuple #[.int .i64 0, .int .i64 0, .int .i64 (checkG 8 r fl L)]) (by simp [results, Try.results8, go_sem]) rfl ?_
    exact ⟨rfl, HB1.out⟩

set_option maxHeartbeats 4000000 in
theorem victimA_any (r fl : Int) (A : Option Addr) (c : Nat) (L : List It) (w : World) (hT : Tss w A c L) :
    Calls Try.prog 9 #[kv r fl (.slice A L.length c)] w fun e w' => e = .returned (.tuple #[.int .i64 (viK r fl L), .int .i64 (viE r fl L)]) ∧ Below w.heap.size w w' := by
  have HK0 : Hid (Kb (w.alloc (ko r fl (.slice A L.length c))) w.heap.size r fl (.slice A L.length c)) := Lib.hid (Kb.new w r fl _)
  have HB0 : Hid (Below w.heap.size w (w.alloc (ko r fl (.slice A L.length c)))) := Lib.hid (bel_al (Below.refl _ _) (Nat.le_refl _) _)
  have HT0 : Hid (Tss (w.alloc (ko r fl (.slice A L.length c))) A c L) := Lib.hid (hT.alloc _)
  have HC := Lib.hid (check_any r fl A c L _ HT0.out)
  unfold CkC at HC
  obtain ⟨x0, x1, x2⟩ := HK0.out.cells
  clear hT
  by_cases h0 : checkG 8 r fl L = 0
  · have HG := Lib.hid ((check_zero (full := 8) (by decide)).1 h0)
    rw [h0] at HC
    by_cases hl : L.length = 0
    · have HE : Hid (viK r fl L = 0 ∧ viE r fl L = 5) := Lib.hid (by
        have e : viE r fl L = 5 := by unfold viE; rw [if_pos h0, if_pos hl]
        refine ⟨?_, e⟩
        unfold viK; rw [if_neg (by rw [e]; decide)])
      rw [HE.out.1, HE.out.2]
      have q : ((L.length : Int) == 0) = true := by rw [beq_iff_eq]; omega
      clear h0 hl
      generalize L.length = n at *
      go_enter Try.func9, Try.ntmps9
      go_wp2_with fail
      refine HC.out.mono ?_
      rintro e w1 ⟨rfl, hb1⟩
      have HK1 := Lib.hid (HK0.out.below hb1)
      have HB1 : Hid (Below w.heap.size w w1) := Lib.hid (HB0.out.trans (hb1.mono HB0.out.size))
      clear hb1 x0 x1 x2
      obtain ⟨x0, x1, x2⟩ := HK1.out.cells
      go_wp2
      refine bodyPost_ret (v := .tuple #[.int .i64 0, .int .i64 5]) (by simp [results, Try.results9, go_sem]) rfl ?_
      exact ⟨rfl, HB1.out⟩
    · have hlp : 0 < L.length := by omega
      have hk := lstN_lt hlp
      have HE : Hid (viK r fl L = (gt L (lstN L)).key ∧ viE r fl L = 0) := Lib.hid (by
        have e : viE r fl L = 0 := by unfold viE; rw [if_pos h0, if_neg hl]
        refine ⟨?_, e⟩
        unfold viK; rw [if_pos e])
      rw [HE.out.1, HE.out.2]
      have q : ((L.length : Int) == 0) = false := by rw [beq_eq_false_iff_ne]; omega
      have HVi := Lib.hid (fun (W : World) (hW : Tss W A c L) => victim_any A c L W hW hlp (by have := HG.out.few; omega))
      have HKl := Lib.hid hk
      generalize lstN L = k at *
      have i1 : (k : Int) < (L.length : Int) := by omega
      have i2 : (0 : Int) ≤ (k : Int) := by omega
      clear h0 hl hlp hk
      obtain ⟨ky, hky⟩ : ∃ ky, (gt L k).key = ky := ⟨_, rfl⟩
      rw [hky]
      have HKY := Lib.hid hky
      clear hky HE
      obtain ⟨n, hn⟩ : ∃ n, L.length = n := ⟨_, rfl⟩
      rw [hn] at HK0 HB0 HT0 HC x2 q HVi i1 ⊢
      clear hn
      go_enter Try.func9, Try.ntmps9
      go_wp2_with fail
      refine HC.out.mono ?_
      rintro e w1 ⟨rfl, hb1⟩
      have HK1 := Lib.hid (HK0.out.below hb1)
      have HT1 := Lib.hid (HT0.out.below hb1)
      have HB1 : Hid (Below w.heap.size w w1) := Lib.hid (HB0.out.trans (hb1.mono HB0.out.size))
      clear hb1 x0 x1 x2
      obtain ⟨b, o, rfl, -, -, -, -⟩ := HT1.out.us HKl.out
      have HS : Hid (∀ W, Below w1.heap.size w1 W → W.cell? ⟨w.heap.size, 2, none⟩ = some (.slice (some ⟨b, o, none⟩) n c) ∧ W.cell? ⟨b, o + k * 4, none⟩ = some (.int .i64 ky)) := Lib.hid (fun W hW => ⟨(HK1.out.below hW).cells.2.2, by
        obtain ⟨b', o', e, e1, -⟩ := (HT1.out.below hW).us HKl.out
        cases e; rw [HKY.out] at e1; exact e1⟩)
      have HV1 := Lib.hid (HVi.out w1.drew HT1.out.drew)
      obtain ⟨x0, x1, x2⟩ := HK1.out.cells
      go_wp2_with fail
      go_region_held3 (fun w' => w'.cell? ⟨w.heap.size, 2, none⟩ = some (.slice (some ⟨b, o, none⟩) n c) ∧ w'.cell? ⟨b, o + k * 4, none⟩ = some (.int .i64 ky))
        (first | exact HS.out _ hB2 | exact HS.out _ (Below.refl _ _).drew)
        (first | (go_at_call 27; refine HV1.out.mono ?_; rintro e w2 ⟨rfl, hb2⟩; have hB2 : Below w1.heap.size w1 w2 := (Below.refl _ _).drew.trans hb2))
      rename_i hHH
      have HB2 : Hid (Below w.heap.size w w2) := Lib.hid (HB1.out.trans (hB2.mono HB1.out.size))
      clear hHH hB2 hb2
      go_wp2
      refine bodyPost_ret (v := .tuple #[.int .i64 ky, .int .i64 0]) (by simp [results, Try.results9, go_sem]) rfl ?_
      exact ⟨rfl, HB2.out⟩
  · have HE : Hid (viK r fl L = 0 ∧ viE r fl L = checkG 8 r fl L) := Lib.hid (by
      have e : viE r fl L = checkG 8 r fl L := by unfold viE; rw [if_neg h0]
      refine ⟨?_, e⟩
      unfold viK; rw [if_neg (by rw [e]; exact h0)])
    rw [HE.out.1, HE.out.2]
    have q : (checkG 8 r fl L != 0) = true := by simpa using h0
    clear h0
    go_enter Try.func9, Try.ntmps9
    go_wp2_with fail
    refine HC.out.mono ?_
    rintro e w1 ⟨rfl, hb1⟩
    have HB1 : Hid (Below w.heap.size w w1) := Lib.hid (HB0.out.trans (hb1.mono HB0.out.size))
    clear hb1 x0 x1 x2
    go_wp2
    refine bodyPost_ret (v := .tuple #[.int .i64 0, .int .i64 (checkG 8 r fl L)]) (by simp [results, Try.results9, go_sem]) rfl ?_
    exact ⟨rfl, HB1.out⟩

end Go.Proofs.Ytmobohamlimhdaa.Grd
