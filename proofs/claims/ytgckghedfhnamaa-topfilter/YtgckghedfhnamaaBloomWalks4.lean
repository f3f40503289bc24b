/-
  What Add and MayContain of package bloom return.
-/
import Derived.Test.YtgckghedfhnamaaBloomWalks3
import Derived.Laws.ResultCell
namespace Go.Proofs.Ytgckghedfhnamaa
open Go.RowKit Go.Shelf
set_option linter.unusedVariables false

/-- A filter and an error come back. -/
def FltR (G : Fl) (n : Int) (w : World) (e : Ending) (w' : World) : Prop :=
  ∃ A c, e = .returned (.tuple #[fv G A c, .int .i64 n]) ∧ Ints w' A c G.set ∧ (∀ a, A = some a → w.heap.size ≤ a.block) ∧ Below w.heap.size w w'

theorem SB.put {n : Nat} {F G : Fl} {A A' : Option Addr} {c c' : Nat} {w w0 wk : World} (h : SB n F A c w0 wk) (H1 : Below n w w0) (hi : Ints wk A' c' G.set) (hne : ∀ a, A' = some a → n + 2 ≤ a.block) (u0 u1 u2 : Value) :
    Ints (((wk.setCell ⟨n + 1, 0, none⟩ u0).setCell ⟨n + 1, 1, none⟩ u1).setCell ⟨n + 1, 2, none⟩ u2) A' c' G.set ∧ Below n w (((wk.setCell ⟨n + 1, 0, none⟩ u0).setCell ⟨n + 1, 1, none⟩ u1).setCell ⟨n + 1, 2, none⟩ u2) := by
  have hn : ∀ a, A' = some a → a.block ≠ n + 1 := fun a ha => by have := hne a ha; omega
  exact ⟨((hi.setCell hn _).setCell hn _).setCell hn _, (((H1.trans (h.bel.mono (by omega))).setCell (by show n ≤ n + 1; omega) _).setCell (by show n ≤ n + 1; omega) _).setCell (by show n ≤ n + 1; omega) _⟩

set_option maxHeartbeats 2000000 in
theorem add_any (F : Fl) (A : Option Addr) (c : Nat) (s : ByteArray) (w : World) (ha : Ints w A c F.set) (hs : s.size ≤ maxLen) :
    Calls Try.prog 5 #[fv F A c, .string s] w (FltR (addM F s) (errS F s) w) := by
  have hS := SB.new F A c w _ rfl
  have h1 : Below w.heap.size w ((w.alloc (fo F A c)).alloc (.cells #[.int .i64 0, .int .i64 0, .slice none 0 0] 26)) := ((Below.refl _ w).alloc (Nat.le_refl _) (fo F A c)).alloc (by simp) _
  have HS := Lib.hid hS
  have H1 := Lib.hid h1
  clear hS h1
  by_cases he : errS F s = 0
  · obtain ⟨g, hsz⟩ := errS_ok he
    have HE := Lib.hid he
    have HM : Hid (bitsM F s = bitsL F s ∧ addM F s = addL F s) := Lib.hid ⟨by unfold bitsM; rw [if_pos he], by unfold addM; rw [if_pos he]⟩
    have hl1 : F.set.length ≤ 1024 := by have := g.len; have := g.s2; omega
    have hl2 := bits_len g s
    clear he g
    go_enter Try.func5, Try.ntmps5
    go_wp2_with fail
    refine (bits_any F A c s _ (ha.below H1.out) hs).mono ?_
    rintro e w1 ⟨A1, c1, rfl, hi1, hb1⟩
    rw [HE.out]
    have hS1 := SB.next HS.out (SB.size HS.out) hb1
    rw [HM.out.1] at hi1 ⊢
    clear hb1
    have HS1 := Lib.hid hS1
    obtain ⟨b0, b1, b2, _, _, _, _, _, _, _, hB1⟩ := hS1
    have hA1 := ha.below (H1.out.trans (hB1.mono (Nat.le_succ _)))
    clear hB1
    go_wp2_with fail
    refine (withBits_any F A A1 c c1 _ _ hA1 hi1 hl1 (by omega)).mono ?_
    rintro e w2 ⟨A2, c2, rfl, hi2, hf2, hb2⟩
    have hS2 := SB.next HS1.out (SB.size HS1.out) hb2
    have hz1 := SB.size HS1.out
    have HP := Lib.hid (SB.put (G := addL F s) hS2 H1.out hi2 (fun a h => by have := hf2 a h; omega) (.int .i64 F.size) (.int .i64 F.hashes) (.slice A2 (ord (F.set ++ bitsL F s)).length c2))
    clear hb2
    obtain ⟨_, _, _, r0, r1, r2, f0, f1, f2, hz, _⟩ := hS2
    go_wp2
    refine bodyPost_ret (v := .tuple #[fv (addL F s) A2 c2, .int .i64 0]) (by simp [results, Try.results5, go_sem, r0, r1, r2]; exact ⟨rfl, rfl, rfl⟩) rfl ?_
    rw [HE.out, HM.out.2]
    exact ⟨A2, c2, rfl, HP.out.1, fun a h => by have := hf2 a h; omega, HP.out.2⟩
  · have HM : Hid (bitsM F s = [] ∧ addM F s = Fl.no) := Lib.hid ⟨by unfold bitsM; rw [if_neg he], by unfold addM; rw [if_neg he]⟩
    have hq := bd_ne he
    clear he
    go_enter Try.func5, Try.ntmps5
    go_wp2_with fail
    refine (bits_any F A c s _ (ha.below H1.out) hs).mono ?_
    rintro e w1 ⟨A1, c1, rfl, hi1, hb1⟩
    have hS1 := SB.next HS.out (SB.size HS.out) hb1
    have HP := Lib.hid (SB.put (G := Fl.no) hS1 H1.out (Ints.none_ w1) (fun a h => by cases h) (.int .i64 0) (.int .i64 0) (.slice none 0 0))
    clear hb1
    obtain ⟨_, _, _, r0, r1, r2, f0, f1, f2, hz, _⟩ := hS1
    go_wp2
    refine bodyPost_ret (v := .tuple #[fv Fl.no none 0, .int .i64 (errS F s)]) (by simp [results, Try.results5, go_sem, r0, r1, r2]; exact ⟨rfl, rfl, rfl⟩) rfl ?_
    rw [HM.out.2]
    exact ⟨none, 0, rfl, HP.out.1, fun a h => (by cases h), HP.out.2⟩

/-! ### MayContain -/
set_option maxHeartbeats 2000000 in
theorem may_any (F : Fl) (A : Option Addr) (c : Nat) (s : ByteArray) (w : World) (ha : Ints w A c F.set) (hs : s.size ≤ maxLen) :
    Calls Try.prog 7 #[fv F A c, .string s] w fun e w' => e = .returned (.tuple #[.bool (mayM F s), .int .i64 (errS F s)]) ∧ Below w.heap.size w w' := by
  have HW : Below w.heap.size w (w.alloc (fo F A c)) := (Below.refl _ _).alloc (Nat.le_refl _) _
  by_cases he : errS F s = 0
  · obtain ⟨g, hsz⟩ := errS_ok he
    have HE := Lib.hid he
    have HM : Hid (bitsM F s = bitsL F s ∧ mayM F s = mayL F s) := Lib.hid ⟨by unfold bitsM; rw [if_pos he], by unfold mayM; rw [if_pos he]⟩
    have hl1 : F.set.length ≤ 1024 := by have := g.len; have := g.s2; omega
    have hl2 := bits_len g s
    have HI := Lib.hid g.inc
    clear he g
    go_enter Try.func7, Try.ntmps7
    go_wp2_with fail
    refine (bits_any F A c s _ (ha.below HW) hs).mono ?_
    rintro e w1 ⟨A1, c1, rfl, hi1, hb1⟩
    rw [HE.out]
    rw [HM.out.1] at hi1 ⊢
    have HB1 := HW.trans (hb1.mono HW.size)
    have hz1 : w.heap.size < w1.heap.size := by have := hb1.size; simp at this; omega
    have b2 : w1.cell? ⟨w.heap.size, 2, none⟩ = some (.slice A F.set.length c) := (hb1.cell (by simp)).trans (by simp [go_sem])
    clear hb1
    generalize hL : bitsL F s = L at *
    have HL := Lib.hid hL
    clear hL
    go_wp2
    go_loopw [23] (fun i wr => ∃ k : Nat, k ≤ L.length ∧ i = .int .i64 (k : Int) ∧ Hid (∀ j, j < k → gi L j ∈ F.set) ∧ Below w1.heap.size w1 wr) (fun i _ => L.length - (intOf i).toNat)
    case atStart => exact ⟨0, by omega, rfl, Lib.hid (fun j hj => by omega), Below.refl _ _⟩
    case round =>
      obtain ⟨k, hk, rfl, HA, HB⟩ := hrel
      have d2 := (HB.cell (p := ⟨w.heap.size, 2, none⟩) hz1).trans b2
      by_cases hlt : k < L.length
      · obtain ⟨b, o, rfl, ht⟩ := (hi1.below HB).2.2.2 (by omega)
        have e1 := ht.2 k hlt
        have hAr := ha.below (HB1.trans (HB.mono HB1.size))
        by_cases hm : gi L k ∈ F.set
        · have hd : decide (gi L k ∈ F.set) = true := by simpa using hm
          have HX := Lib.hid hm
          clear hm
          go_wp2_with fail
          refine (search_any A c F.set _ _ hAr HI.out (by omega)).mono ?_
          rintro e w2 ⟨⟨n2, rfl⟩, hb2⟩
          rw [hd]
          have HB2 := HB.trans (hb2.mono HB.size)
          clear hb2
          go_wp2
          go_roundw
          case rel => exact ⟨k + 1, by omega, by go_num, Lib.hid (fun j hj => by
            by_cases x : j = k
            · subst x; exact HX.out
            · exact HA.out j (by omega)), HB2⟩
          case measure => simp [intOf]; omega
        · have hd : decide (gi L k ∈ F.set) = false := by simpa using hm
          have HX : Hid (mayL F s = false) := Lib.hid (by
            rw [Bool.eq_false_iff]
            intro h
            rw [mayL_iff] at h
            exact hm (h _ (by rw [HL.out]; exact gi_mem hlt)))
          clear hm
          go_wp2_with fail
          refine (search_any A c F.set _ _ hAr HI.out (by omega)).mono ?_
          rintro e w2 ⟨⟨n2, rfl⟩, hb2⟩
          rw [hd]
          have HB2 := HB.trans (hb2.mono HB.size)
          clear hb2
          go_wp2
          go_ret2
          rw [HM.out.2, HX.out, HE.out]
          exact ⟨rfl, HB1.trans (HB2.mono HB1.size)⟩
      · obtain rfl : k = L.length := by omega
        have HX : Hid (mayL F s = true) := Lib.hid (by
          rw [mayL_iff]
          intro x hx
          rw [HL.out] at hx
          obtain ⟨i, hi, rfl⟩ := List.getElem_of_mem hx
          have := HA.out i hi
          rwa [gi_get hi] at this)
        go_wp2
        go_ret2
        rw [HM.out.2, HX.out, HE.out]
        exact ⟨rfl, HB1.trans (HB.mono HB1.size)⟩
  · have HM : Hid (bitsM F s = [] ∧ mayM F s = false) := Lib.hid ⟨by unfold bitsM; rw [if_neg he], by unfold mayM; rw [if_neg he]⟩
    have hq := bd_ne he
    clear he
    go_enter Try.func7, Try.ntmps7
    go_wp2_with fail
    refine (bits_any F A c s _ (ha.below HW) hs).mono ?_
    rintro e w1 ⟨A1, c1, rfl, hi1, hb1⟩
    have HB1 := HW.trans (hb1.mono HW.size)
    clear hb1
    go_wp2
    go_ret2
    rw [HM.out.2]
    exact ⟨rfl, HB1⟩

end Go.Proofs.Ytgckghedfhnamaa
