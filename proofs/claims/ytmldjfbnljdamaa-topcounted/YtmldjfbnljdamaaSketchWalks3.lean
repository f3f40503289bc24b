/-
  What Add, Merge and Halve of package sketch return.
-/
import Derived.Test.YtmldjfbnljdamaaSketchChanged
namespace Go.Proofs.Ytmldjfbnljdamaa.Skt
open Go.RowKit
set_option linter.unusedVariables false

theorem enters_add : ∀ args w, (callFunc 14 args).run Try.prog w = .ok (.enter 14 args) w := enters_of Try.func14 (by kernel_rfl) rfl

set_option maxHeartbeats 1000000 in
theorem add_clo (S : Sk) (s : ByteArray) (n : Int) (A1 : Option Addr) (c1 p q : Nat) (w : World) (g : Fine S) (h1 : 1 ≤ n) (h2 : n ≤ 1099511627776) (hi : Ints w A1 c1 (plL S s)) (hp : p < w.heap.size) (hq : q < w.heap.size)
    (cp : w.cell? ⟨p, 0, none⟩ = some (.slice A1 S.rows.length c1)) (cq : w.cell? ⟨q, 0, none⟩ = some (.int .i64 n)) :
    ChgAt 14 #[.pointer (some ⟨p, 0, none⟩), .pointer (some ⟨q, 0, none⟩)] (addF S s n) S w := by
  intro W r j hb hr hj
  have b1 := g.bd r hr j hj
  have l6 := g.l2
  obtain ⟨b, o, rfl, ht⟩ := (hi.below hb).2.2.2 (by rw [plL_len]; omega)
  have e1 := ht.2 r (by rw [plL_len]; exact hr)
  rw [gi_plL hr] at e1
  have d1 := (hb.cell (p := ⟨p, 0, none⟩) hp).trans cp
  have d2 := (hb.cell (p := ⟨q, 0, none⟩) hq).trans cq
  have hrn : (r : Int) < (S.rows.length : Int) := by omega
  show Calls _ _ #[_, _, _, _, _] _ _
  generalize hx : gi (gl S.rows r) j = x at *
  by_cases he : j = plc S s r
  · have q1 : ((j : Int) == (plc S s r : Int)) = true := by simp [he]
    have HE : Hid (addF S s n r j x = x + n) := Lib.hid (by unfold addF; rw [if_pos he])
    clear he
    generalize S.rows.length = l at *
    go_enter Try.func14, Try.ntmps14
    go_wp2
    go_ret
    exact ⟨ret_int HE.out.symm, rfl⟩
  · have q1 : ((j : Int) == (plc S s r : Int)) = false := bd_eq (by omega)
    have HE : Hid (addF S s n r j x = x) := Lib.hid (by unfold addF; rw [if_neg he])
    clear he
    generalize S.rows.length = l at *
    go_enter Try.func14, Try.ntmps14
    go_wp2
    go_ret
    exact ⟨ret_int HE.out.symm, rfl⟩

/-! ### Add -/
theorem chgE_add (S : Sk) (s : ByteArray) (n : Int) : chgE (addF S s n) S = if fits (addL S s n).rows then 0 else 8 := rfl
theorem chgM_add (S : Sk) (s : ByteArray) (n : Int) : chgM (addF S s n) S = if fits (addL S s n).rows then addL S s n else Sk.no := rfl
theorem errA_err {S : Sk} {s : ByteArray} {n : Int} (h : errS S s ≠ 0) : errA S s n = errS S s ∧ addM S s n = Sk.no := by
  have e : errA S s n = errS S s := by unfold errA; rw [if_pos h]
  exact ⟨e, by unfold addM; rw [if_neg (by rw [e]; exact h)]⟩
theorem errA_range {S : Sk} {s : ByteArray} {n : Int} (h : errS S s = 0) (hn : n < 1 ∨ 1099511627776 < n) : errA S s n = 3 ∧ addM S s n = Sk.no := by
  have e : errA S s n = 3 := by unfold errA; rw [if_neg (by simpa using h), if_pos hn]
  exact ⟨e, by unfold addM; rw [e]; rfl⟩
theorem errA_chg {S : Sk} {s : ByteArray} {n : Int} (h : errS S s = 0) (h1 : 1 ≤ n) (h2 : n ≤ 1099511627776) : errA S s n = chgE (addF S s n) S ∧ addM S s n = chgM (addF S s n) S := by
  have e : errA S s n = chgE (addF S s n) S := by unfold errA; rw [if_neg (by simpa using h), if_neg (by omega), chgE_add]
  refine ⟨e, ?_⟩
  unfold addM
  rw [e, chgE_add, chgM_add]
  by_cases hf : fits (addL S s n).rows
  · rw [if_pos hf, if_pos hf]; rfl
  · rw [if_neg hf, if_neg hf]; rfl

/-- The boxes of Add: the sketch in block n, the number in block n + 1, the result in block n + 2. -/
def SA (n : Nat) (S : Sk) (A : Option Addr) (c : Nat) (many : Int) (w : World) : Prop :=
  w.cell? ⟨n, 0, none⟩ = some (.int .i64 S.wide) ∧ w.cell? ⟨n, 1, none⟩ = some (.slice A S.rows.length c) ∧ w.cell? ⟨n + 1, 0, none⟩ = some (.int .i64 many) ∧ Wr w (n + 1 + 1) ∧ n + 3 ≤ w.heap.size
theorem SA.next {n : Nat} {S : Sk} {A : Option Addr} {c : Nat} {many : Int} {w w' : World} {N : Nat} (h : SA n S A c many w) (hN : n + 3 ≤ N) (hb : Below N w w') : SA n S A c many w' :=
  ⟨(hb.cell (by show n < N; omega)).trans h.1, (hb.cell (by show n < N; omega)).trans h.2.1, (hb.cell (by show n + 1 < N; omega)).trans h.2.2.1, h.2.2.2.1.below hb (by omega), Nat.le_trans h.2.2.2.2 hb.size⟩
theorem SA.new (S : Sk) (A : Option Addr) (c : Nat) (many : Int) (w : World) :
    SA w.heap.size S A c many (((w.alloc (so S A c)).alloc (.cells #[.int .i64 many] 3)).alloc (.cells #[.int .i64 0, .slice none 0 0] 26)) := by
  refine ⟨by simp [go_sem], by simp [go_sem], by simp [go_sem], ?_, by simp⟩
  have := Wr.new ((w.alloc (so S A c)).alloc (.cells #[.int .i64 many] 3)) _ rfl
  simpa using this

set_option maxHeartbeats 4000000 in
theorem add_any (B : Nat) (S : Sk) (A : Option Addr) (c : Nat) (s : ByteArray) (n : Int) (w : World) (ha : Grid B w A c S.rows) (hs : s.size ≤ maxLen) :
    Calls Try.prog 6 #[sv S A c, .string s, .int .i64 n] w (SkR (addM S s n) (errA S s n) w) := by
  have hS := SA.new S A c n w
  have h1 : Below w.heap.size w (((w.alloc (so S A c)).alloc (.cells #[.int .i64 n] 3)).alloc (.cells #[.int .i64 0, .slice none 0 0] 26)) := (((Below.refl _ w).alloc (Nat.le_refl _) (so S A c)).alloc (by simp) _).alloc (by simp; omega) _
  have HS := Lib.hid hS
  have H1 := Lib.hid h1
  clear hS h1
  have hmf : ∀ (fn : Fn) (first cap : Array Value) (w : World), (Instr.makeFunc fn first cap).run Try.prog w = .ok (.func fn first cap) w := fun _ _ _ _ => rfl
  by_cases he : errS S s = 0
  · have g := (errS_ok he).1
    have HE := Lib.hid he
    have HM : Hid (plM S s = plL S s) := Lib.hid (by unfold plM; rw [if_pos he])
    have HG := Lib.hid g
    clear he g
    go_enter Try.func6, Try.ntmps6
    go_wp2_with fail
    refine (places_any B S A c s _ (ha.below H1.out) hs).mono ?_
    rintro e w1 ⟨A1, c1, rfl, hi1, hb1⟩
    rw [HE.out]
    rw [HM.out] at hi1 ⊢
    rw [plL_len]
    have hS1 := HS.out.next HS.out.2.2.2.2 hb1
    have HB1 := Lib.hid (H1.out.trans (hb1.mono H1.out.size))
    clear hb1
    have hS2 := hS1.next (N := w1.heap.size) hS1.2.2.2.2 ((Below.refl _ _).alloc (Nat.le_refl _) (.cells #[.slice A1 S.rows.length c1] 22))
    have HB2 : Hid (Below w.heap.size w (w1.alloc (.cells #[.slice A1 S.rows.length c1] 22))) := Lib.hid (bel_al HB1.out (Nat.le_refl _) _)
    have hi2 := hi1.alloc (.cells #[.slice A1 S.rows.length c1] 22)
    have HP : Hid ((w1.alloc (.cells #[.slice A1 S.rows.length c1] 22)).cell? ⟨w1.heap.size, 0, none⟩ = some (.slice A1 S.rows.length c1) ∧ w1.heap.size < (w1.alloc (.cells #[.slice A1 S.rows.length c1] 22)).heap.size) := Lib.hid ⟨by simp [go_sem], by simp⟩
    have HI := Lib.hid hi2
    have HS2 := Lib.hid hS2
    obtain ⟨x0, x1, x2, ⟨r0, r1, f0, f1⟩, hz⟩ := hS2
    clear hi1 hi2 hS1
    by_cases hn : n < 1 ∨ 1099511627776 < n
    · have HE2 := Lib.hid (errA_range HE.out hn)
      by_cases hn1 : n < 1
      · have q1 : decide (n < 1) = true := by simpa using hn1
        clear hn hn1
        go_wp2
        refine bodyPost_ret (v := .tuple #[.agg #[.int .i64 0, .slice none 0 0], .int .i64 3]) (by simp [results, Try.results6, go_sem, r0, r1]) rfl ?_
        rw [HE2.out.1, HE2.out.2]
        exact ⟨none, 0, rfl, Grid.none_ _ _, (HB2.out.setCell (p := ⟨w.heap.size + 1 + 1, 0, none⟩) (by show w.heap.size ≤ w.heap.size + 1 + 1; omega) _).setCell (p := ⟨w.heap.size + 1 + 1, 1, none⟩) (by show w.heap.size ≤ w.heap.size + 1 + 1; omega) _⟩
      · have q1 : decide (n < 1) = false := by simpa using hn1
        have q2 : decide (1099511627776 < n) = true := by simp; omega
        clear hn hn1
        go_wp2
        refine bodyPost_ret (v := .tuple #[.agg #[.int .i64 0, .slice none 0 0], .int .i64 3]) (by simp [results, Try.results6, go_sem, r0, r1]) rfl ?_
        rw [HE2.out.1, HE2.out.2]
        exact ⟨none, 0, rfl, Grid.none_ _ _, (HB2.out.setCell (p := ⟨w.heap.size + 1 + 1, 0, none⟩) (by show w.heap.size ≤ w.heap.size + 1 + 1; omega) _).setCell (p := ⟨w.heap.size + 1 + 1, 1, none⟩) (by show w.heap.size ≤ w.heap.size + 1 + 1; omega) _⟩
    · have q1 : decide (n < 1) = false := by simp; omega
      have q2 : decide (1099511627776 < n) = false := by simp; omega
      have HE2 := Lib.hid (errA_chg HE.out (show 1 ≤ n by omega) (by omega))
      have n1 : 1 ≤ n := by omega
      have n2 : n ≤ 1099511627776 := by omega
      clear hn
      go_wp2_with fail
      refine (changed_any B S A c _ (ha.below HB2.out) HG.out.toFine 14 _ (addF S s n) enters_add (add_clo S s n A1 c1 _ _ _ HG.out.toFine n1 n2 HI.out HP.out.2 (by omega) HP.out.1 x2)).mono ?_
      rintro e w3 ⟨A3, c3, rfl, hg3, hb3⟩
      have hz3 : w.heap.size + 3 ≤ (w1.alloc (.cells #[.slice A1 S.rows.length c1] 22)).heap.size := hz
      have hS3 := HS2.out.next hz3 hb3
      have HB3 := Lib.hid (HB2.out.trans (hb3.mono (by omega)))
      have HG3 := Lib.hid (hg3.mono hz3)
      clear hb3 hg3 x0 x1 x2 r0 r1 f0 f1 hz3
      obtain ⟨x0, x1, x2, ⟨r0, r1, f0, f1⟩, hz'⟩ := hS3
      generalize chgM (addF S s n) S = T at *
      generalize chgE (addF S s n) S = E at *
      go_wp2
      refine bodyPost_ret (v := .tuple #[sv T A3 c3, .int .i64 E]) (by simp [results, Try.results6, go_sem, r0, r1]) rfl ?_
      rw [HE2.out.1, HE2.out.2]
      exact ⟨A3, c3, rfl, Grid.mono (B := w.heap.size + 3) ((HG3.out.setCell (p := ⟨w.heap.size + 1 + 1, 0, none⟩) (by show w.heap.size + 1 + 1 < w.heap.size + 3; omega) _).setCell (p := ⟨w.heap.size + 1 + 1, 1, none⟩) (by show w.heap.size + 1 + 1 < w.heap.size + 3; omega) _) (by omega),
        (HB3.out.setCell (p := ⟨w.heap.size + 1 + 1, 0, none⟩) (by show w.heap.size ≤ w.heap.size + 1 + 1; omega) _).setCell (p := ⟨w.heap.size + 1 + 1, 1, none⟩) (by show w.heap.size ≤ w.heap.size + 1 + 1; omega) _⟩
  · have hq := bd_ne he
    have HE := Lib.hid (errA_err (n := n) he)
    clear he
    go_enter Try.func6, Try.ntmps6
    go_wp2_with fail
    refine (places_any B S A c s _ (ha.below H1.out) hs).mono ?_
    rintro e w1 ⟨A1, c1, rfl, hi1, hb1⟩
    have hS1 := HS.out.next HS.out.2.2.2.2 hb1
    have HB1 := Lib.hid (H1.out.trans (hb1.mono H1.out.size))
    clear hb1
    generalize (plM S s).length = l at *
    have hS2 := hS1.next (N := w1.heap.size) hS1.2.2.2.2 ((Below.refl _ _).alloc (Nat.le_refl _) (.cells #[.slice A1 l c1] 22))
    have HB2 : Hid (Below w.heap.size w (w1.alloc (.cells #[.slice A1 l c1] 22))) := Lib.hid (bel_al HB1.out (Nat.le_refl _) _)
    obtain ⟨x0, x1, x2, ⟨r0, r1, f0, f1⟩, hz⟩ := hS2
    clear hS1
    go_wp2
    refine bodyPost_ret (v := .tuple #[.agg #[.int .i64 0, .slice none 0 0], .int .i64 (errS S s)]) (by simp [results, Try.results6, go_sem, r0, r1]) rfl ?_
    rw [HE.out.1, HE.out.2]
    exact ⟨none, 0, rfl, Grid.none_ _ _, (HB2.out.setCell (p := ⟨w.heap.size + 1 + 1, 0, none⟩) (by show w.heap.size ≤ w.heap.size + 1 + 1; omega) _).setCell (p := ⟨w.heap.size + 1 + 1, 1, none⟩) (by show w.heap.size ≤ w.heap.size + 1 + 1; omega) _⟩

end Go.Proofs.Ytmldjfbnljdamaa.Skt
