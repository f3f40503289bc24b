/-
  What must be in any case.
-/
import Derived.Test.YtgdklpgmoanfkaaWsApi3
import Derived.Test.YtgdklpgmoanfkaaLruBegun
namespace Go.Proofs.Ytgdklpgmoanfkaa.Wst
open Go.RowKit
open Lru (isRm isK traceE trace_zero ints_lit same_lit)
open Dst (win fltK row)
open Two
set_option linter.unusedVariables false
set_option maxRecDepth 100000

/-! ### The sets, reckoned by putting one key in after another -/
def insU (x : Int) : List Int → List Int
  | [] => [x]
  | y :: L => if x < y then x :: y :: L else if x = y then y :: L else y :: insU x L
def srt : List Int → List Int
  | [] => []
  | x :: L => insU x (srt L)
theorem mem_insU {x z : Int} : ∀ {L : List Int}, z ∈ insU x L ↔ z = x ∨ z ∈ L
  | [] => by simp [insU]
  | y :: L => by
    unfold insU
    split
    · simp
    · split
      · rename_i e; subst e; simp
      · rw [List.mem_cons, mem_insU, List.mem_cons]
        constructor
        · rintro (h | h | h)
          · exact .inr (.inl h)
          · exact .inl h
          · exact .inr (.inr h)
        · rintro (h | h | h)
          · exact .inr (.inl h)
          · exact .inl h
          · exact .inr (.inr h)
theorem inc_insU {x : Int} : ∀ {L : List Int}, Inc L → Inc (insU x L)
  | [], _ => List.pairwise_singleton _ _
  | y :: L, h => by
    obtain ⟨h1, h2⟩ := List.pairwise_cons.1 h
    unfold insU
    split
    · rename_i e
      exact List.pairwise_cons.2 ⟨fun z hz => by
        rcases List.mem_cons.1 hz with rfl | m
        · exact e
        · have := h1 z m; omega, h⟩
    · split
      · exact h
      · rename_i e1 e2
        exact List.pairwise_cons.2 ⟨fun z hz => by
          rcases mem_insU.1 hz with rfl | m
          · omega
          · exact h1 z m, inc_insU h2⟩
theorem srt_spec : ∀ (L : List Int), Inc (srt L) ∧ ∀ z, z ∈ L ↔ z ∈ srt L
  | [] => ⟨List.Pairwise.nil, fun z => Iff.rfl⟩
  | x :: L => by
    obtain ⟨h1, h2⟩ := srt_spec L
    exact ⟨inc_insU h1, fun z => by show _ ↔ z ∈ insU x (srt L); rw [mem_insU, List.mem_cons, h2]⟩
theorem ord_srt (L : List Int) : ord L = srt L := ord_eq (srt_spec L).1 (srt_spec L).2
def wsetS (l : List Int) (n i : Nat) : List Int := srt (win l n (i + 1))
theorem wset_S (l : List Int) (n i : Nat) : wset l n i = wsetS l n i := ord_srt _
def phS (l : List Int) (n m : Nat) : Nat → List Int
  | 0 => []
  | i + 1 => if i = 0 then [0] else if lst (phS l n m i) + n ≤ i ∧ com (wsetS l n (lst (phS l n m i))) (wsetS l n i) < m then phS l n m i ++ [(i : Int)] else phS l n m i
theorem ph_S (l : List Int) (n m : Nat) : ∀ i, phK l n m i = phS l n m i
  | 0 => rfl
  | i + 1 => by
    unfold phK phS
    rw [ph_S l n m i]
    unfold cmn
    rw [wset_S, wset_S]

def b7 : List Int := [3, 1, 3, 2, 2, 9, 8]
theorem bE : wkE b7 2 = 0 ∧ wkE b7 3 = 0 ∧ wkE b7 1 = 0 := by decide
theorem bs1 : stV b7 3 3 = [1, 2, 3] ∧ stE b7 3 3 = 0 := by
  have e : stE b7 3 3 = 0 := by decide
  refine ⟨?_, e⟩
  unfold stV
  rw [if_pos e]
  show wset b7 3 3 = _
  rw [wset_S]; decide
theorem bs2 : zsV b7 2 = [1, 2, 2, 2, 1, 2, 2] := by
  unfold zsV
  rw [if_pos bE.1]
  show row 7 (fun j => ((wset b7 2 j).length : Int)) = _
  rw [show (fun j => ((wset b7 2 j).length : Int)) = (fun j => ((wsetS b7 2 j).length : Int)) from funext (fun j => by rw [wset_S])]
  decide
theorem bs3 : flV b7 2 = 5 := by decide
theorem bs4 : phV b7 2 1 = [0, 4, 6] ∧ phE b7 2 1 = 0 := by
  have e : phE b7 2 1 = 0 := by decide
  refine ⟨?_, e⟩
  unfold phV
  rw [if_pos e]
  show phK b7 2 1 7 = _
  rw [ph_S]; decide
theorem bs5 : stE b7 7 1 = 3 ∧ stV b7 7 1 = [] := by
  have e : stE b7 7 1 = 3 := by decide
  refine ⟨e, ?_⟩
  unfold stV
  rw [if_neg (by rw [e]; decide)]

set_option maxHeartbeats 4000000 in
theorem begun_any (w : World) : Calls Try.prog 16 #[] w fun e w' => e = .returned (.bool true) ∧ Below w.heap.size w w' := by
  have HI0 := Lib.hid (ints_lit w b7 (by unfold maxLen; decide))
  have HB0 : Hid (Below w.heap.size w (w.alloc (.cells #[.int .i64 3, .int .i64 1, .int .i64 3, .int .i64 2, .int .i64 2, .int .i64 9, .int .i64 8] 3))) := Lib.hid (bel_al (Below.refl _ _) (Nat.le_refl _) _)
  obtain ⟨w0, hw0⟩ : ∃ w0, w0 = w.alloc (.cells #[.int .i64 3, .int .i64 1, .int .i64 3, .int .i64 2, .int .i64 2, .int .i64 9, .int .i64 8] 3) := ⟨_, rfl⟩
  have HI0' : Hid (Ints w0 (some ⟨w.heap.size, 0, none⟩) 7 b7) := Lib.hid (by rw [hw0]; exact HI0.out)
  rw [← hw0] at HB0
  have HS1 : Hid (∀ W : World, Below w0.heap.size w0 W → Calls Try.prog 8 #[.slice (some ⟨w.heap.size, 0, none⟩) 7 7, .int .i64 3, .int .i64 3] W fun e w' => ∃ A c, e = .returned (.tuple #[.slice A 3 c, .int .i64 0]) ∧ Ints w' A c [1, 2, 3] ∧ Below W.heap.size W w') := Lib.hid (fun W hW => by
    have := Set_any _ 7 b7 3 3 W (HI0'.out.below hW)
    rw [bs1.1, bs1.2] at this
    exact this)
  have HS2 : Hid (∀ W : World, Below w0.heap.size w0 W → Calls Try.prog 9 #[.slice (some ⟨w.heap.size, 0, none⟩) 7 7, .int .i64 2] W fun e w' => ∃ A c, e = .returned (.tuple #[.slice A 7 c, .int .i64 0]) ∧ Ints w' A c [1, 2, 2, 2, 1, 2, 2] ∧ Below W.heap.size W w') := Lib.hid (fun W hW => by
    have := Sizes_any _ 7 b7 2 W (HI0'.out.below hW)
    rw [bs2, bE.1] at this
    exact this.mono (fun _ _ k => k.re))
  have HS3 : Hid (∀ W : World, Below w0.heap.size w0 W → Calls Try.prog 10 #[.slice (some ⟨w.heap.size, 0, none⟩) 7 7, .int .i64 2] W fun e w' => e = .returned (.tuple #[.int .i64 5, .int .i64 0]) ∧ W = w') := Lib.hid (fun W hW => by
    have := Faults_any _ 7 b7 2 W (HI0'.out.below hW)
    rw [bs3, bE.1] at this
    exact this)
  have HS4 : Hid (∀ W : World, Below w0.heap.size w0 W → Calls Try.prog 11 #[.slice (some ⟨w.heap.size, 0, none⟩) 7 7, .int .i64 2, .int .i64 1] W fun e w' => ∃ A c, e = .returned (.tuple #[.slice A 3 c, .int .i64 0]) ∧ Ints w' A c [0, 4, 6] ∧ Below W.heap.size W w') := Lib.hid (fun W hW => by
    have := Phases_any _ 7 b7 2 1 W (HI0'.out.below hW)
    rw [bs4.1, bs4.2] at this
    exact this.mono (fun _ _ k => k.re))
  have HS5 : Hid (∀ W : World, Below w0.heap.size w0 W → Calls Try.prog 8 #[.slice (some ⟨w.heap.size, 0, none⟩) 7 7, .int .i64 7, .int .i64 1] W fun e w' => ∃ A c, e = .returned (.tuple #[.slice A 0 c, .int .i64 3]) ∧ Below W.heap.size W w') := Lib.hid (fun W hW => by
    have := Set_any _ 7 b7 7 1 W (HI0'.out.below hW)
    rw [bs5.1, bs5.2] at this
    refine this.mono ?_
    rintro e w' ⟨A, c, rfl, -, hb⟩
    exact ⟨A, c, rfl, hb⟩)
  have HX1 : Hid (∀ (A : Option Addr) (c : Nat) (W : World), Ints W A c [1, 2, 3] → Calls Try.prog 17 #[.slice A 3 c, .slice (some ⟨W.heap.size, 0, none⟩) 3 3] (W.alloc (.cells #[.int .i64 1, .int .i64 2, .int .i64 3] 3)) fun e w' => e = .returned (.bool true) ∧ Below W.heap.size W w') := Lib.hid (fun A c W h =>
    same_lit A c 3 W.heap.size [1, 2, 3] [1, 2, 3] true W rfl h rfl (by unfold maxLen; decide) (by simp))
  have HX2 : Hid (∀ (A : Option Addr) (c : Nat) (W : World), Ints W A c [1, 2, 2, 2, 1, 2, 2] → Calls Try.prog 17 #[.slice A 7 c, .slice (some ⟨W.heap.size, 0, none⟩) 7 7] (W.alloc (.cells #[.int .i64 1, .int .i64 2, .int .i64 2, .int .i64 2, .int .i64 1, .int .i64 2, .int .i64 2] 3)) fun e w' => e = .returned (.bool true) ∧ Below W.heap.size W w') := Lib.hid (fun A c W h =>
    same_lit A c 7 W.heap.size [1, 2, 2, 2, 1, 2, 2] [1, 2, 2, 2, 1, 2, 2] true W rfl h rfl (by unfold maxLen; decide) (by simp))
  have HX3 : Hid (∀ (A : Option Addr) (c : Nat) (W : World), Ints W A c [0, 4, 6] → Calls Try.prog 17 #[.slice A 3 c, .slice (some ⟨W.heap.size, 0, none⟩) 3 3] (W.alloc (.cells #[.int .i64 0, .int .i64 4, .int .i64 6] 3)) fun e w' => e = .returned (.bool true) ∧ Below W.heap.size W w') := Lib.hid (fun A c W h =>
    same_lit A c 3 W.heap.size [0, 4, 6] [0, 4, 6] true W rfl h rfl (by unfold maxLen; decide) (by simp))
  clear HI0 HI0'
  have HW0 := Lib.hid hw0
  clear hw0
  obtain ⟨g0, hg0⟩ : ∃ g0, w.heap.size = g0 := ⟨_, rfl⟩
  rw [hg0] at HB0 HS1 HS2 HS3 HS4 HS5
  have HG := Lib.hid hg0
  clear hg0
  go_enter Try.func16, Try.ntmps16
  go_wp2_with fail
  rw [HG.out, ← HW0.out]
  refine (HS1.out w0 (Below.refl _ _)).mono ?_
  rintro e w1 ⟨A1, c1, rfl, hI1, hb1⟩
  have HI1 := Lib.hid hI1
  have HB1 := Lib.hid hb1
  clear hI1 hb1
  go_wp2_with fail
  refine (HS2.out w1 HB1.out).mono ?_
  rintro e w2 ⟨A2, c2, rfl, hI2, hb2⟩
  have HI2 := Lib.hid hI2
  have HI1 := Lib.hid (HI1.out.below hb2)
  have HB2 : Hid (Below w0.heap.size w0 w2) := Lib.hid (HB1.out.trans (hb2.mono HB1.out.size))
  clear hI2 hb2
  go_wp2_with fail
  refine (HS3.out w2 HB2.out).mono ?_
  rintro e w3 ⟨rfl, rfl⟩
  go_wp2_with fail
  refine (HS4.out w2 HB2.out).mono ?_
  rintro e w4 ⟨A4, c4, rfl, hI4, hb4⟩
  have HI4 := Lib.hid hI4
  have HJ1 := Lib.hid (HI1.out.below hb4)
  have HJ2 := Lib.hid (HI2.out.below hb4)
  have HB4 : Hid (Below w0.heap.size w0 w4) := Lib.hid (HB2.out.trans (hb4.mono HB2.out.size))
  clear hI4 hb4
  go_wp2_with fail
  refine (HS5.out w4 HB4.out).mono ?_
  rintro e w5 ⟨A5, c5, rfl, hb5⟩
  have HI5 := Lib.hid (HI4.out.below hb5)
  have HK1 := Lib.hid (HJ1.out.below hb5)
  have HK2 := Lib.hid (HJ2.out.below hb5)
  have HB5 : Hid (Below w0.heap.size w0 w5) := Lib.hid (HB4.out.trans (hb5.mono HB4.out.size))
  clear hb5
  go_wp2_with fail
  refine (HX1.out A1 c1 w5 HK1.out).mono ?_
  rintro e w6 ⟨rfl, hb6⟩
  have HI6 := Lib.hid (HI5.out.below hb6)
  have HK6 := Lib.hid (HK2.out.below hb6)
  have HB6 : Hid (Below w0.heap.size w0 w6) := Lib.hid (HB5.out.trans (hb6.mono HB5.out.size))
  clear hb6
  go_wp2_with fail
  refine (HX2.out A2 c2 w6 HK6.out).mono ?_
  rintro e w7 ⟨rfl, hb7⟩
  have HI7 := Lib.hid (HI6.out.below hb7)
  have HB7 : Hid (Below w0.heap.size w0 w7) := Lib.hid (HB6.out.trans (hb7.mono HB6.out.size))
  clear hb7
  go_wp2_with fail
  refine (HX3.out A4 c4 w7 HI7.out).mono ?_
  rintro e w8 ⟨rfl, hb8⟩
  have HB8 : Hid (Below w0.heap.size w0 w8) := Lib.hid (HB7.out.trans (hb8.mono HB7.out.size))
  clear hb8
  go_wp2
  go_ret
  exact ⟨rfl, by rw [HG.out]; exact HB0.out.trans (HB8.out.mono (by have := HB0.out.size; have := HG.out; omega))⟩

end Go.Proofs.Ytgdklpgmoanfkaa.Wst
