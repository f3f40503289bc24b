/-
  Additions: sums and totals.
-/
import Derived.Test.YtmjoiakggckeoaaSketchBegun
namespace Go.Proofs.Ytmjoiakggckeoaa.Skt
open Go.RowKit
set_option linter.unusedVariables false

theorem addL_twice {S : Sk} (g : Fine S) (s : ByteArray) (a b : Int) : addL (addL S s a) s b = addL S s (a + b) := by
  have h : (addL (addL S s a) s b).rows = (addL S s (a + b)).rows := by
    refine grid_ext (by rw [rows_add, rows_add, rows_add]) (fun r hr => row_ext (by rw [len_add, len_add, len_add]) (fun j hj => ?_))
    rw [len_add] at hj
    rw [gi_add hj]
    rw [len_add] at hj
    rw [gi_add hj, gi_add hj, plc_same (S := addL S s a) (T := S) rfl]
    split <;> omega
  show Sk.mk _ _ = Sk.mk _ _
  rw [show chg (addF (addL S s a) s b) (addL S s a).rows = chg (addF S s (a + b)) S.rows from h]
  rfl
theorem addM_ok {S : Sk} {s : ByteArray} {n : Int} (h : errA S s n = 0) : addM S s n = addL S s n := by unfold addM; rw [if_pos h]
theorem addM_no {S : Sk} {s : ByteArray} {n : Int} (h : errA S s n ≠ 0) : addM S s n = Sk.no := by unfold addM; rw [if_neg h]
theorem good_addA {S : Sk} {s : ByteArray} {n : Int} (h : errA S s n = 0) : Good (addL S s n) := by
  obtain ⟨g, _, h1, _, hf⟩ := errA_ok h; exact good_add g s h1 hf
theorem tot_ok {S : Sk} (g : Good S) : totM S = sm (gl S.rows 0) := by unfold totM; rw [if_pos g.check]
theorem tot_add {S : Sk} {s : ByteArray} {n : Int} (h : errA S s n = 0) : totM (addL S s n) = totM S + n := by
  obtain ⟨g, _, _, _, _⟩ := errA_ok h
  rw [tot_ok (good_addA h), tot_ok g, sm_add g.toFine s n (by have := g.l1; omega)]
theorem adds_far {S : Sk} {s : ByteArray} {a b : Int} (h1 : errA S s a = 0) (hn : 1099511627776 < a + b) : errA S s (a + b) = 3 := by
  obtain ⟨g, hs, _, _, _⟩ := errA_ok h1
  exact (errA_range (errS_of g hs) (.inr hn)).1
theorem adds_near {S : Sk} {s : ByteArray} {a b : Int} (h1 : errA S s a = 0) (h2 : errA (addL S s a) s b = 0) (hn : a + b ≤ 1099511627776) :
    errA S s (a + b) = 0 ∧ addM S s (a + b) = addL (addL S s a) s b := by
  obtain ⟨g, hs, a1, a2, hf⟩ := errA_ok h1
  obtain ⟨g', _, b1, b2, hf'⟩ := errA_ok h2
  rw [addL_twice g.toFine] at hf' ⊢
  have e := errA_of g hs (show 1 ≤ a + b by omega) hn hf'
  exact ⟨e, addM_ok e⟩

theorem same_bg (A : Option Addr) (c : Nat) (w : World) (h : Grid 0 w A c Sk.no.rows) : Calls Try.prog 18 #[sv Sk.no A c, .agg #[.int .i64 0, .slice none 0 0]] w fun e w' => e = .returned (.bool true) ∧ Below w.heap.size w w' := by
  have h := sameS_any 0 0 Sk.no Sk.no A none c 0 w h (Grid.none_ _ _)
  rwa [sameS_refl] at h

end Go.Proofs.Ytmjoiakggckeoaa.Skt
