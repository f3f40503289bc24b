/-
  Package ring: Add, Shares as one; SamePoints of equal lists; what must be in any case (ringBegun) is true.
-/
import Derived.Test.YtjmhemkbfephpaaRgAdd
import Derived.Test.YtjmhemkbfephpaaRgShares
namespace Go.Proofs.Ytjmhemkbfephpaa.Rng
open Go.RowKit
open Two (REO RE)
set_option linter.unusedVariables false
set_option maxRecDepth 100000

theorem add_any (A B : Option Addr) (c d : Nat) (F : List Pt) (s : Int) (P : List Int) (w : World) (hF : Pts w A c F) (hP : Ints w B d P) :
    Calls Try.prog 9 #[.slice A F.length c, .int .i64 s, .slice B P.length d] w (RP (adL F s P) (adE F s P) w) := by
  by_cases he : adE F s P = 0
  · have := add_ok A B c d F s P w hF hP he
    rwa [he]
  · have := add_bad A B c d F s P w hF hP he
    rwa [adL_bad he]
theorem shares_any (A : Option Addr) (c : Nat) (F : List Pt) (n : Int) (w : World) (hF : Pts w A c F) :
    Calls Try.prog 11 #[.slice A F.length c, .int .i64 n] w (REO (shL F n) (shE F n) w) := by
  by_cases he : shE F n = 0
  · have h1 : checkR F = 0 := Classical.byContradiction fun h => h ((shE_check (n := n) h).symm.trans he)
    have h2 : ¬ (n < 1 ∨ 20 < n) := fun h => by rw [shE_range h1 h] at he; cases he
    obtain ⟨k, rfl⟩ : ∃ k : Nat, n = (k : Int) := ⟨n.toNat, by omega⟩
    have := shares_ok A c F k w hF he
    rwa [he]
  · have := shares_bad A c F n w hF he
    rwa [shL_bad he]

theorem eq_facts : Try.prog.underlying 35 = some (.struct #[⟨"At", 3, 0, false, "", "", 0⟩, ⟨"Shard", 3, 1, false, "", "", 8⟩]) ∧ Try.prog.stoodInHeld 35 = false ∧ Try.prog.eqGuardType Try.prog.depth 35 = false ∧ Try.prog.underlying 3 = some (.int .i64) :=
  ⟨by kernel_rfl, by kernel_rfl, by kernel_rfl, by kernel_rfl⟩

set_option maxHeartbeats 4000000 in
theorem samePts_eq (A B : Option Addr) (c d n : Nat) (F : List Pt) (w : World) (hn : F.length = n) (hA : Pts w A c F) (hB : Pts w B d F) :
    Calls Try.prog 18 #[.slice A n c, .slice B n d] w fun e w' => e = .returned (.bool true) ∧ Below w.heap.size w w' := by
  have HLN := Lib.hid hn
  have hlen := hA.len
  rw [hn] at hlen
  have HA := Lib.hid hA
  have HB := Lib.hid hB
  clear hA hB hn
  obtain ⟨t1, t2, t3, t4⟩ := eq_facts
  go_enter Try.func18, Try.ntmps18
  go_wp2
  go_loopw [5] (fun x wr => ∃ k : Nat, k ≤ n ∧ x = .int .i64 (k : Int) ∧ Hid (Below w.heap.size w wr)) (fun x _ => n - (intOf x).toNat)
  case atStart => exact ⟨0, by omega, rfl, Lib.hid (Below.refl _ _)⟩
  case round =>
    obtain ⟨k, hk, rfl, HBr⟩ := hrel
    by_cases hlt : k < n
    · have hkn : (k : Int) < (n : Int) := by omega
      obtain ⟨a1, o1, rfl, e1, e2⟩ := (HA.out.below HBr.out).pt (k := k) (by rw [HLN.out]; exact hlt)
      obtain ⟨a2, o2, rfl, e3, e4⟩ := (HB.out.below HBr.out).pt (k := k) (by rw [HLN.out]; exact hlt)
      generalize gp F k = f at *
      obtain ⟨fx, fu⟩ := f
      dsimp only at e1 e2 e3 e4
      go_wp2
      go_quiet (fail)
      have HB2 : Hid (Below w.heap.size w (wr.drewN nq)) := Lib.hid (bel_drewN HBr.out _)
      clear e1 e2 e3 e4
      generalize wr.drewN nq = w2 at *
      go_wp2
      go_roundw
      case rel => exact ⟨k + 1, by omega, by go_num, HB2⟩
      case measure => simp [intOf]; omega
    · obtain rfl : k = n := by omega
      go_wp2
      go_ret
      exact ⟨rfl, HBr.out⟩

theorem pts_lit (w : World) (F : List Pt) (hF : F.length ≤ 1000) : Pts (w.alloc (.cells (encPs F).toArray 35)) (some ⟨w.heap.size, 0, none⟩) F.length F := by
  have hb : (w.alloc (.cells (encPs F).toArray 35)).heap[w.heap.size]? = some (.cells (encPs F).toArray 35 (0, 0)) := heap_alloc_new w _
  refine ⟨Nat.le_refl _, by unfold maxLen; omega, fun e => (by cases e), fun _ => ⟨w.heap.size, 0, rfl, by simp, fun i hi => ?_⟩⟩
  obtain ⟨e1, e2⟩ := encPs_get F i hi
  rw [Nat.zero_add, cell_of_row _ _ _ _ _ (0, 0) hb, cell_of_row _ _ _ _ _ (0, 0) hb]
  exact ⟨by rw [List.getElem?_toArray]; exact e1, by rw [List.getElem?_toArray]; exact e2⟩
theorem ints_litR (w : World) (L : List Int) (h : L.length ≤ 1000) : Ints (w.alloc (.cells (L.map encI).toArray 3)) (some ⟨w.heap.size, 0, none⟩) L.length L := by
  refine ⟨Nat.le_refl _, by unfold maxLen; omega, fun e => (by cases e), fun _ => ⟨w.heap.size, 0, rfl, by simp, fun i hi => ?_⟩⟩
  rw [cell_of_row _ _ _ _ _ (0, 0) (show (w.alloc (.cells (L.map encI).toArray 3)).heap[w.heap.size]? = some (.cells (L.map encI).toArray 3 (0, 0)) from Array.getElem?_push_size)]
  simp [List.getElem?_eq_getElem hi, gi_get hi]

def one : List Pt := [⟨100, 1⟩]
def tri : List Pt := [⟨50, 2⟩, ⟨100, 1⟩, ⟨300, 2⟩]
theorem bg_add : adE one 2 [300, 50] = 0 ∧ adL one 2 [300, 50] = tri := by
  have h : adE one 2 [300, 50] = 0 := by decide
  exact ⟨h, by rw [adL_ok h]; decide⟩
theorem bg_own1 : owE tri 51 = 0 ∧ owR tri 51 = 1 := by decide
theorem bg_own2 : owE tri 301 = 0 ∧ owR tri 301 = 2 := by decide
theorem bg_own3 : owE [] 0 = 5 ∧ owR [] 0 = 0 := by decide
theorem bg_sh : shE tri 3 = 0 ∧ shL tri 3 = [0, 50, 65486] := by
  have h : shE tri 3 = 0 := by decide
  exact ⟨h, by rw [shL_ok (check_zero.1 (by decide)) (by decide) h]; decide⟩
theorem bg_rem : reE tri 2 = 0 ∧ reL tri 2 = one := by decide

set_option maxHeartbeats 4000000 in
theorem begun_any (w : World) : Calls Try.prog 16 #[] w fun e w' => e = .returned (.bool true) ∧ Below w.heap.size w w' := by
  have HAd : Hid (∀ (W : World), Calls Try.prog 9 #[.slice (some ⟨W.heap.size, 0, none⟩) 1 1, .int .i64 2, .slice (some ⟨W.heap.size + 1, 0, none⟩) 2 2] ((W.alloc (.cells #[.int .i64 100, .int .i64 1] 35)).alloc (.cells #[.int .i64 300, .int .i64 50] 3)) fun e w' => ∃ A c, e = .returned (.tuple #[.slice A 3 c, .int .i64 0]) ∧ Pts w' A c tri ∧ Below W.heap.size W w') := Lib.hid (fun W => by
    have h1 : Pts (W.alloc (.cells #[.int .i64 100, .int .i64 1] 35)) (some ⟨W.heap.size, 0, none⟩) 1 one := pts_lit W one (by decide)
    have h2 := ints_litR (W.alloc (.cells #[.int .i64 100, .int .i64 1] 35)) [300, 50] (by decide)
    rw [show (W.alloc (.cells #[.int .i64 100, .int .i64 1] 35)).heap.size = W.heap.size + 1 by simp] at h2
    have k := add_any _ _ _ _ one 2 [300, 50] _ (h1.alloc (.cells ([300, 50].map encI).toArray 3)) h2
    rw [bg_add.1, bg_add.2] at k
    refine k.mono ?_
    rintro e w' ⟨v, rfl, ho, hb⟩
    obtain ⟨A, c, rfl, hI, -⟩ := pts_of_own ho
    exact ⟨A, c, rfl, hI, (bel_al (bel_al (Below.refl _ _) (Nat.le_refl _) _) (by simp) _).trans (hb.mono (by simp; omega))⟩)
  have HO1 : Hid (∀ (A : Option Addr) (c : Nat) (W : World), Pts W A c tri → Calls Try.prog 8 #[.slice A 3 c, .int .i64 51] W fun e w' => e = .returned (.tuple #[.int .i64 1, .int .i64 0]) ∧ Below W.heap.size W w') := Lib.hid (fun A c W h => by
    have k := owner_any A c tri 51 W h
    rwa [bg_own1.1, bg_own1.2] at k)
  have HO2 : Hid (∀ (A : Option Addr) (c : Nat) (W : World), Pts W A c tri → Calls Try.prog 8 #[.slice A 3 c, .int .i64 301] W fun e w' => e = .returned (.tuple #[.int .i64 2, .int .i64 0]) ∧ Below W.heap.size W w') := Lib.hid (fun A c W h => by
    have k := owner_any A c tri 301 W h
    rwa [bg_own2.1, bg_own2.2] at k)
  have HO3 : Hid (∀ (W : World), Calls Try.prog 8 #[.slice none 0 0, .int .i64 0] W fun e w' => e = .returned (.tuple #[.int .i64 0, .int .i64 5]) ∧ Below W.heap.size W w') := Lib.hid (fun W => by
    have k := owner_any none 0 [] 0 W (Pts.none_ W)
    rwa [bg_own3.1, bg_own3.2] at k)
  have HSh : Hid (∀ (A : Option Addr) (c : Nat) (W : World), Pts W A c tri → Calls Try.prog 11 #[.slice A 3 c, .int .i64 3] W fun e w' => ∃ B d, e = .returned (.tuple #[.slice B 3 d, .int .i64 0]) ∧ Ints w' B d [0, 50, 65486] ∧ Below W.heap.size W w') := Lib.hid (fun A c W h => by
    have k := shares_any A c tri 3 W h
    rw [bg_sh.1, bg_sh.2] at k
    refine k.mono ?_
    intro e w' hr
    obtain ⟨B, d, rfl, hI, hb⟩ := hr.re
    exact ⟨B, d, rfl, hI, hb⟩)
  have HRe : Hid (∀ (A : Option Addr) (c : Nat) (W : World), Pts W A c tri → Calls Try.prog 10 #[.slice A 3 c, .int .i64 2] W fun e w' => ∃ B d, e = .returned (.tuple #[.slice B 1 d, .int .i64 0]) ∧ Below W.heap.size W w') := Lib.hid (fun A c W h => by
    have k := remove_any A c tri 2 W h
    rw [bg_rem.1, bg_rem.2] at k
    refine k.mono ?_
    rintro e w' ⟨v, rfl, ho, hb⟩
    obtain ⟨B, d, rfl, hI, -⟩ := pts_of_own ho
    exact ⟨B, d, rfl, hb⟩)
  have HSp : Hid (∀ (A : Option Addr) (c : Nat) (W : World), Pts W A c tri → Calls Try.prog 18 #[.slice A 3 c, .slice (some ⟨W.heap.size, 0, none⟩) 3 3] (W.alloc (.cells #[.int .i64 50, .int .i64 2, .int .i64 100, .int .i64 1, .int .i64 300, .int .i64 2] 35)) fun e w' => e = .returned (.bool true) ∧ Below W.heap.size W w') := Lib.hid (fun A c W h => by
    have h2 : Pts (W.alloc (.cells #[.int .i64 50, .int .i64 2, .int .i64 100, .int .i64 1, .int .i64 300, .int .i64 2] 35)) (some ⟨W.heap.size, 0, none⟩) 3 tri := pts_lit W tri (by decide)
    exact (samePts_eq A _ c _ 3 tri _ rfl (h.alloc _) h2).mono (fun e w' ⟨h1, h2⟩ => ⟨h1, fromAlloc (h2.mono (by simp))⟩))
  have HSi : Hid (∀ (B : Option Addr) (d : Nat) (W : World), Ints W B d [0, 50, 65486] → Calls Try.prog 19 #[.slice B 3 d, .slice (some ⟨W.heap.size, 0, none⟩) 3 3] (W.alloc (.cells #[.int .i64 0, .int .i64 50, .int .i64 65486] 3)) fun e w' => e = .returned (.bool true) ∧ Below W.heap.size W w') := Lib.hid (fun B d W h => by
    have h2 : Ints (W.alloc (.cells #[.int .i64 0, .int .i64 50, .int .i64 65486] 3)) (some ⟨W.heap.size, 0, none⟩) 3 [0, 50, 65486] := ints_litR W [0, 50, 65486] (by decide)
    have k := sameInts_any B _ d _ [0, 50, 65486] [0, 50, 65486] _ (h.alloc _) h2
    exact k.mono (fun e w' ⟨h1, h2⟩ => ⟨by simpa using h1, fromAlloc (h2.mono (by simp))⟩))
  go_enter Try.func16, Try.ntmps16
  go_wp2_with fail
  refine (HAd.out _).mono ?_
  rintro e w1 ⟨A, c, rfl, hI, hb⟩
  have HI := Lib.hid hI
  have HB1 := Lib.hid hb
  clear hI hb
  go_wp2_with fail
  refine (HO1.out _ _ _ HI.out).mono ?_
  rintro e w2 ⟨rfl, hb⟩
  have HI2 := Lib.hid (HI.out.below hb)
  have HB2 := Lib.hid (HB1.out.trans (hb.mono HB1.out.size))
  clear hb
  go_wp2_with fail
  refine (HO2.out _ _ _ HI2.out).mono ?_
  rintro e w3 ⟨rfl, hb⟩
  have HI3 := Lib.hid (HI2.out.below hb)
  have HB3 := Lib.hid (HB2.out.trans (hb.mono HB2.out.size))
  clear hb
  go_wp2_with fail
  refine (HSh.out _ _ _ HI3.out).mono ?_
  rintro e w4 ⟨B, d, rfl, hJ, hb⟩
  have HJ4 := Lib.hid hJ
  have HI4 := Lib.hid (HI3.out.below hb)
  have HB4 := Lib.hid (HB3.out.trans (hb.mono HB3.out.size))
  clear hb hJ
  go_wp2_with fail
  refine (HRe.out _ _ _ HI4.out).mono ?_
  rintro e w5 ⟨C, d5, rfl, hb⟩
  have HJ5 := Lib.hid (HJ4.out.below hb)
  have HI5 := Lib.hid (HI4.out.below hb)
  have HB5 := Lib.hid (HB4.out.trans (hb.mono HB4.out.size))
  clear hb
  go_wp2_with fail
  refine (HO3.out _).mono ?_
  rintro e w6 ⟨rfl, hb⟩
  have HJ6 := Lib.hid (HJ5.out.below hb)
  have HI6 := Lib.hid (HI5.out.below hb)
  have HB6 := Lib.hid (HB5.out.trans (hb.mono HB5.out.size))
  clear hb
  go_wp2_with fail
  refine (HSp.out _ _ _ HI6.out).mono ?_
  rintro e w7 ⟨rfl, hb⟩
  have HJ7 := Lib.hid (HJ6.out.below hb)
  have HB7 := Lib.hid (HB6.out.trans (hb.mono HB6.out.size))
  clear hb
  go_wp2_with fail
  refine (HSi.out _ _ _ HJ7.out).mono ?_
  rintro e w8 ⟨rfl, hb⟩
  have HB8 := Lib.hid (HB7.out.trans (hb.mono HB7.out.size))
  clear hb
  go_wp2
  go_ret
  exact ⟨rfl, HB8.out⟩

end Go.Proofs.Ytjmhemkbfephpaa.Rng
