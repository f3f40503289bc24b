/-
  The small functions of the laws on the whole.
-/
import Derived.Test.YtjmhemkbfephpaaLruBegun
namespace Go.Proofs.Ytjmhemkbfephpaa.Top
open Go.RowKit
open Lru (cv co Bx ints_lit bel_al)
set_option linter.unusedVariables false
set_option maxRecDepth 100000

set_option maxHeartbeats 400000 in
theorem same_any (A B : Option Addr) (c d : Nat) (L M : List Int) (w : World) (ha : Ints w A c L) (hb : Ints w B d M) :
    Calls Try.prog 24 #[.slice A L.length c, .slice B M.length d] w fun e w' => e = .returned (.bool (decide (L = M))) ∧ Below w.heap.size w w' := by
  have hlL := ha.len
  by_cases hl : L.length = M.length
  · have hq : ((L.length : Int) != (M.length : Int)) = false := by simp [hl]
    by_cases h0 : 0 < L.length
    · obtain ⟨b1, o1, rfl, t1⟩ := ha.2.2.2 h0
      obtain ⟨b2, o2, rfl, t2⟩ := hb.2.2.2 (by omega)
      have hb1 := t1.1
      have hb2 := t2.1
      rw [← hl]
      go_enter Try.func24, Try.ntmps24
      go_wp2
      go_loopw [5] (fun i wr => ∃ k : Nat, k ≤ L.length ∧ i = .int .i64 k ∧ Hid (∀ j, j < k → gi L j = gi M j) ∧ Below w.heap.size w wr) (fun i _ => L.length - (intOf i).toNat)
      case atStart => exact ⟨0, by omega, rfl, Lib.hid (fun j hj => by omega), Below.refl _ _⟩
      case round =>
        obtain ⟨k, hk, rfl, HA, HB⟩ := hrel
        by_cases hlt : k < L.length
        · have c1 := (t1.below hb1 HB).2 k hlt
          have c2 := (t2.below hb2 HB).2 k (by omega)
          have l1 : (k : Int) < (L.length : Int) := by omega
          by_cases he : gi L k = gi M k
          · have hn : (gi L k != gi M k) = false := by simp [he]
            have HE := Lib.hid he
            clear he
            go_wp2
            go_quiet (fail)
            go_wp2
            go_roundw
            case rel => exact ⟨k + 1, by omega, by go_num, Lib.hid (fun j hj => by
              by_cases x : j = k
              · subst x; exact HE.out
              · exact HA.out j (by omega)), by first | exact HB | exact ⟨HB.os, HB.tape, HB.output, HB.size, HB.block⟩⟩
            case measure => simp [intOf]; omega
          · have hn : (gi L k != gi M k) = true := by simp [he]
            have HE : Hid (decide (L = M) = false) := Lib.hid (by simp; intro e; rw [e] at he; exact he rfl)
            clear he
            go_wp2
            go_quiet (fail)
            go_wp2
            go_ret
            exact ⟨ret_bool HE.out.symm, by first | exact HB | exact ⟨HB.os, HB.tape, HB.output, HB.size, HB.block⟩⟩
        · obtain rfl : k = L.length := by omega
          have HE : Hid (decide (L = M) = true) := Lib.hid (by
            simp only [decide_eq_true_eq]
            refine List.ext_getElem hl (fun i h1 h2 => ?_)
            have := HA.out i h1
            rwa [gi_get h1, gi_get h2] at this)
          go_wp2
          go_ret
          exact ⟨ret_bool HE.out.symm, HB⟩
    · have e1 : L = [] := List.length_eq_zero_iff.1 (by omega)
      have e2 : M = [] := List.length_eq_zero_iff.1 (by omega)
      subst e1 e2
      clear ha hb hq hl hlL h0
      show Calls _ _ #[.slice A 0 c, .slice B 0 d] _ _
      go_enter Try.func24, Try.ntmps24
      go_wp2
      go_loop [5] (fun i => i = .int .i64 0) (fun _ => 0)
      case atStart => rfl
      case round =>
        subst hrel
        go_wp2
        go_ret
        exact ⟨rfl, Below.refl _ _⟩
  · have hq : ((L.length : Int) != (M.length : Int)) = true := bd_ne (by omega)
    have HE : Hid (decide (L = M) = false) := Lib.hid (by simp; intro e; rw [e] at hl; exact hl rfl)
    clear hl
    go_enter Try.func24, Try.ntmps24
    go_wp2
    go_ret
    exact ⟨ret_bool HE.out.symm, Below.refl _ _⟩

theorem bg_run : ∃ M1 : List Int,
    (∀ (q : Nat) (w : World), q = w.heap.size → Calls Try.prog 23 #[.agg #[.int .i64 2, .slice none 0 0], .slice (some ⟨q, 0, none⟩) 4 4] (w.alloc (.cells #[.int .i64 1, .int .i64 2, .int .i64 1, .int .i64 3] 3)) fun e w' => ∃ A c, e = .returned (.tuple #[cv 2 A c M1, .int .i64 1, .int .i64 0]) ∧ Ints w' A c M1 ∧ Below w.heap.size w w') ∧
    (∀ (A : Option Addr) (c q : Nat) (w : World), q = w.heap.size → Ints w A c M1 → Calls Try.prog 24 #[.slice A M1.length c, .slice (some ⟨q, 0, none⟩) 2 2] (w.alloc (.cells #[.int .i64 3, .int .i64 1] 3)) fun e w' => e = .returned (.bool true) ∧ Below w.heap.size w w') := by
  refine ⟨[3, 1], fun q w hq => ?_, fun A c q w hq h => ?_⟩
  · subst hq
    have := Lru.run_any 2 none (some ⟨w.heap.size, 0, none⟩) 0 4 [] [1, 2, 1, 3] _ (Ints.none_ _) (ints_lit w [1, 2, 1, 3] (by unfold maxLen; decide))
    unfold Lru.NR at this
    rw [show Lru.rnR 2 [] [1, 2, 1, 3] = 2 by decide, show Lru.rnL 2 [] [1, 2, 1, 3] = [3, 1] by decide, show Lru.rnH 2 [] [1, 2, 1, 3] = 1 by decide, show Lru.rnE 2 [] [1, 2, 1, 3] = 0 by decide] at this
    exact this.mono (by rintro e w' ⟨A, c, he, hI, -, hb⟩; exact ⟨A, c, he, hI, (bel_al (Below.refl _ _) (Nat.le_refl _) _).trans (hb.mono (by simp))⟩)
  · subst hq
    refine (same_any A _ c 2 [3, 1] [3, 1] _ (h.alloc _) (ints_lit w [3, 1] (by unfold maxLen; decide))).mono ?_
    rintro e w' ⟨h1, h2⟩
    exact ⟨by rw [h1]; simp, (bel_al (Below.refl _ _) (Nat.le_refl _) _).trans (h2.mono (by simp))⟩

set_option maxHeartbeats 1000000 in
theorem begun_any (w : World) :
    Calls Try.prog 20 #[] w fun e w' => e = .returned (.bool true) ∧ Below w.heap.size w w' := by
  obtain ⟨M1, h1, h2⟩ := bg_run
  have H1 := Lib.hid h1
  have H2 := Lib.hid h2
  clear h1 h2
  go_enter Try.func20, Try.ntmps20
  go_wp2_with fail
  refine (H1.out _ w rfl).mono ?_
  rintro e w1 ⟨A1, c1, rfl, hI1, hb1⟩
  have X1 := Lib.hid (Bx.new (r := 2) hI1)
  have HB1 : Hid (Below w.heap.size w (w1.alloc (co 2 A1 c1 M1))) := Lib.hid (bel_al hb1 hb1.size _)
  clear hI1 hb1
  obtain ⟨-, x1, x2, -⟩ := X1.out
  go_wp2_with fail
  refine (H2.out A1 c1 _ (w1.alloc (co 2 A1 c1 M1)) (by simp) X1.out.ints).mono ?_
  rintro e w2 ⟨rfl, hb2⟩
  have HB2 : Hid (Below w.heap.size w w2) := Lib.hid (HB1.out.trans (hb2.mono HB1.out.size))
  clear hb2 x1 x2
  go_wp2
  go_ret
  exact ⟨rfl, HB2.out⟩

end Go.Proofs.Ytjmhemkbfephpaa.Top
