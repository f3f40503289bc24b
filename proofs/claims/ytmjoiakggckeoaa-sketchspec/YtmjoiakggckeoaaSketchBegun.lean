/-
  What must be in any case.
-/
import Derived.Test.YtmjoiakggckeoaaSketchOwn
namespace Go.Proofs.Ytmjoiakggckeoaa.Skt
open Go.RowKit
set_option linter.unusedVariables false

/-! ### Merged sketches -/
theorem gi_mer {A B : Sk} {r j : Nat} (h : j < (gl A.rows r).length) : gi (gl (merL A B).rows r) j = gi (gl A.rows r) j + gi (gl B.rows r) j := by
  show gi (gl (chg (merF B) A.rows) r) j = _
  rw [gi_chg _ _ h]; rfl
theorem len_mer (A B : Sk) (r : Nat) : (gl (merL A B).rows r).length = (gl A.rows r).length := len_gl_chg _ _ _
theorem sm_mer {A B : Sk} {r : Nat} (h : (gl A.rows r).length = (gl B.rows r).length) : sm (gl (merL A B).rows r) = sm (gl A.rows r) + sm (gl B.rows r) := by
  unfold sm
  rw [len_mer, ← h, ← sig_add]
  exact sig_congr (fun j hj => gi_mer hj)
theorem good_mer {A B : Sk} (ga : Good A) (gb : Good B) (h1 : A.rows.length = B.rows.length) (h2 : A.wide = B.wide) (hf : fits (merL A B).rows) : Good (merL A B) := by
  have hl : (merL A B).rows.length = A.rows.length := chg_len _ _
  have hlr : ∀ r, r < A.rows.length → (gl A.rows r).length = (gl B.rows r).length := fun r hr => by
    have := ga.len r hr; have := gb.len r (by omega); omega
  refine ⟨⟨by rw [hl]; exact ga.l1, by rw [hl]; exact ga.l2, ga.w1, ga.w2, fun i hi => ?_, fun i hi j hj => ⟨?_, hf i hi j hj⟩⟩, fun i hi => ?_⟩
  · rw [hl] at hi; rw [len_mer]; exact ga.len i hi
  · rw [hl] at hi
    rw [len_mer] at hj
    rw [gi_mer hj]
    have := (ga.bd i hi j hj).1
    have := (gb.bd i (by omega) j (by rw [← hlr i hi]; exact hj)).1
    omega
  · rw [hl] at hi
    have := ga.l1
    rw [sm_mer (hlr i hi), sm_mer (hlr 0 (by omega)), ga.ev i hi, gb.ev i (by omega)]
theorem plc_same {S T : Sk} (h : S.wide = T.wide) (s : ByteArray) (r : Nat) : plc S s r = plc T s r := by unfold plc; rw [h]

/-! ### The empty sketch -/
def kA : ByteArray := ⟨#[97]⟩
def Z (h m : Nat) : Sk := ⟨m, zeros h m⟩
theorem gl_zeros {h m r : Nat} (hr : r < h) : gl (zeros h m) r = List.replicate m 0 := by
  rw [gl_get (by rw [zeros_len]; exact hr)]; simp [zeros]
theorem gi_zeros {m j : Nat} : gi (List.replicate m (0 : Int)) j = 0 := by
  unfold gi
  rw [List.getD_eq_getElem?_getD, List.getElem?_replicate]
  split <;> rfl
theorem sm_zeros (m : Nat) : sm (List.replicate m (0 : Int)) = 0 := by
  unfold sm
  have h := sig_bd (f := gi (List.replicate m (0 : Int))) (m := 0) (n := (List.replicate m (0 : Int)).length) (fun j _ => by rw [gi_zeros]; omega)
  omega
theorem good_Z {h m : Nat} (h1 : 1 ≤ h) (h2 : h ≤ 6) (m1 : 1 ≤ m) (m2 : m ≤ 64) : Good (Z h m) := by
  have hl : (Z h m).rows.length = h := zeros_len h m
  refine ⟨⟨by rw [hl]; exact h1, by rw [hl]; exact h2, by show (1 : Int) ≤ (m : Int); omega, by show (m : Int) ≤ 64; omega, fun i hi => ?_, fun i hi j hj => ?_⟩, fun i hi => ?_⟩
  · rw [hl] at hi; show ((gl (zeros h m) i).length : Int) = (m : Int); rw [gl_zeros hi]; simp
  · rw [hl] at hi; show 0 ≤ gi (gl (zeros h m) i) j ∧ gi (gl (zeros h m) i) j ≤ _; rw [gl_zeros hi, gi_zeros]; omega
  · rw [hl] at hi; show sm (gl (zeros h m) i) = sm (gl (zeros h m) 0); rw [gl_zeros hi, gl_zeros (by omega)]

theorem gi_add {S : Sk} {s : ByteArray} {n : Int} {r j : Nat} (h : j < (gl S.rows r).length) : gi (gl (addL S s n).rows r) j = if j = plc S s r then gi (gl S.rows r) j + n else gi (gl S.rows r) j := by
  show gi (gl (chg (addF S s n) S.rows) r) j = _
  rw [gi_chg _ _ h]; rfl
theorem len_add (S : Sk) (s : ByteArray) (n : Int) (r : Nat) : (gl (addL S s n).rows r).length = (gl S.rows r).length := len_gl_chg _ _ _
theorem rows_add (S : Sk) (s : ByteArray) (n : Int) : (addL S s n).rows.length = S.rows.length := chg_len _ _
theorem rows_mer (A B : Sk) : (merL A B).rows.length = A.rows.length := chg_len _ _
theorem rows_hal (A : Sk) : (halL A).rows.length = A.rows.length := chg_len _ _
theorem len_hal (A : Sk) (r : Nat) : (gl (halL A).rows r).length = (gl A.rows r).length := len_gl_chg _ _ _
theorem gi_hal {A : Sk} {r j : Nat} (h : j < (gl A.rows r).length) : gi (gl (halL A).rows r) j = gi (gl A.rows r) j / 2 := by
  show gi (gl (chg halF A.rows) r) j = _
  rw [gi_chg _ _ h]; rfl

noncomputable def S5 : Sk := addL (Z 2 8) kA 5
theorem gZ28 : Good (Z 2 8) := good_Z (by omega) (by omega) (by omega) (by omega)
theorem gi_S5 {r j : Nat} (hr : r < 2) (hj : j < 8) : gi (gl S5.rows r) j = if j = plc (Z 2 8) kA r then 5 else 0 := by
  have h0 : gl (Z 2 8).rows r = List.replicate 8 0 := gl_zeros hr
  show gi (gl (addL (Z 2 8) kA 5).rows r) j = _
  rw [gi_add (by rw [h0]; simpa using hj), h0, gi_zeros]
  rfl
theorem len_S5 {r : Nat} (hr : r < 2) : (gl S5.rows r).length = 8 := by
  show (gl (addL (Z 2 8) kA 5).rows r).length = 8
  rw [len_add, show gl (Z 2 8).rows r = List.replicate 8 0 from gl_zeros hr]; rfl
theorem rows_S5 : S5.rows.length = 2 := (rows_add _ _ _).trans (zeros_len 2 8)
theorem fits_S5 : fits (addL (Z 2 8) kA 5).rows := fun r hr j hj => by
  have hr' : r < 2 := by rw [rows_add] at hr; exact hr
  have hj' : j < 8 := by have := len_S5 hr'; unfold S5 at this; omega
  have := gi_S5 hr' hj'
  unfold S5 at this
  rw [this]; split <;> omega
theorem g_S5 : Good S5 := good_add gZ28 kA (by omega) fits_S5
theorem bgA : errA (Z 2 8) kA 5 = 0 ∧ addM (Z 2 8) kA 5 = S5 := by
  have e := errA_of gZ28 (s := kA) (by decide) (n := 5) (by omega) (by omega) fits_S5
  exact ⟨e, by unfold addM; rw [if_pos e]; rfl⟩
theorem plc_8 (r : Nat) : plc S5 kA r = plc (Z 2 8) kA r := plc_same rfl kA r
theorem plc_8lt (r : Nat) : plc (Z 2 8) kA r < 8 := by
  have := plc_lt (S := Z 2 8) (show (1 : Int) ≤ 8 by omega) kA r
  have e : (Z 2 8).wide = 8 := rfl
  omega
theorem cnt_S5 {r : Nat} (hr : r < 2) : cnt S5 kA r = 5 := by
  unfold cnt
  rw [plc_8, gi_S5 hr (plc_8lt r), if_pos rfl]
theorem bgE : errS S5 kA = 0 ∧ estM S5 kA = 5 := by
  have e := errS_of g_S5 (s := kA) (by decide)
  refine ⟨e, ?_⟩
  unfold estM estL
  rw [if_pos e, rows_S5]
  unfold est est est
  rw [cnt_S5 (r := 0) (by omega), cnt_S5 (r := 1) (by omega)]
  rfl
theorem sm_S5 {r : Nat} (hr : r < 2) : sm (gl S5.rows r) = 5 := by
  show sm (gl (addL (Z 2 8) kA 5).rows r) = 5
  rw [sm_add gZ28.toFine kA 5 (by show r < 2; exact hr), show gl (Z 2 8).rows r = List.replicate 8 0 from gl_zeros hr, sm_zeros]
  rfl
theorem fits_M : fits (merL S5 S5).rows := fun r hr j hj => by
  rw [rows_mer, rows_S5] at hr
  rw [len_mer] at hj
  rw [gi_mer hj, gi_S5 hr (by rw [len_S5 hr] at hj; exact hj)]
  split <;> omega
theorem bgM : errM S5 S5 = 0 ∧ merM S5 S5 = merL S5 S5 := by
  have e := errM_of g_S5 g_S5 rfl rfl fits_M
  exact ⟨e, by unfold merM; rw [if_pos e]⟩
theorem g_M : Good (merL S5 S5) := good_mer g_S5 g_S5 rfl rfl fits_M
theorem bgT : checkS (merL S5 S5) = 0 ∧ totM (merL S5 S5) = 10 := by
  refine ⟨g_M.check, ?_⟩
  unfold totM
  rw [if_pos g_M.check, sm_mer rfl, sm_S5 (by omega)]
  rfl
theorem hal_M : halL (merL S5 S5) = S5 := by
  have h : (halL (merL S5 S5)).rows = S5.rows := by
    refine grid_ext (by rw [rows_hal, rows_mer]) (fun r hr => row_ext (by rw [len_hal, len_mer]) (fun j hj => ?_))
    rw [len_hal] at hj
    rw [gi_hal hj]
    rw [len_mer] at hj
    rw [gi_mer hj]
    omega
  show Sk.mk _ _ = _
  rw [show chg halF (merL S5 S5).rows = S5.rows from h]
  rfl
theorem bgH : errH (merL S5 S5) = 0 ∧ halM (merL S5 S5) = S5 := by
  have h := errH_y g_M.check (by rw [hal_M]; exact g_S5.ev)
  rw [hal_M] at h
  exact h
theorem bgJ : errH S5 = 0 := by
  refine (errH_y g_S5.check (fun r hr => ?_)).1
  rw [rows_hal, rows_S5] at hr
  have key : ∀ r, r < 2 → sm (gl (halL S5).rows r) = 2 := fun r hr => by
    unfold sm
    rw [len_hal, len_S5 hr, sig_congr (g := fun j => if j = plc (Z 2 8) kA r then 2 else 0) (fun j hj => by
      rw [gi_hal (by rw [len_S5 hr]; exact hj), gi_S5 hr hj]; split <;> rfl), sig_one, if_pos (plc_8lt r)]
  rw [key r hr, key 0 (by omega)]
theorem bgO : errA S5 kA 0 = 3 := (errA_range bgE.1 (.inl (by omega))).1

theorem empty_bg (w : World) : Calls Try.prog 30 #[.int .i64 2, .int .i64 8] w fun e w' => ∃ A c, e = .returned (sv (Z 2 8) A c) ∧ Grid w.heap.size w' A c (Z 2 8).rows ∧ Below w.heap.size w w' :=
  empty_any 2 8 w (by omega) (by omega) (by omega)
theorem add_bg (B : Nat) (A : Option Addr) (c : Nat) (w : World) (h : Grid B w A c (Z 2 8).rows) : Calls Try.prog 4 #[sv (Z 2 8) A c, .string ⟨#[97]⟩, .int .i64 5] w (SkR S5 0 w) := by
  have h := add_any B (Z 2 8) A c kA 5 w h (by decide)
  rwa [bgA.1, bgA.2] at h
theorem est_bg (B : Nat) (A : Option Addr) (c : Nat) (w : World) (h : Grid B w A c S5.rows) : Calls Try.prog 5 #[sv S5 A c, .string ⟨#[97]⟩] w fun e w' => e = .returned (.tuple #[.int .i64 5, .int .i64 0]) ∧ Below w.heap.size w w' := by
  have h := estimate_any B S5 A c kA w h (by decide)
  rwa [bgE.1, bgE.2] at h
theorem mer_bg (B : Nat) (A : Option Addr) (c : Nat) (w : World) (h : Grid B w A c S5.rows) : Calls Try.prog 6 #[sv S5 A c, sv S5 A c] w (SkR (merL S5 S5) 0 w) := by
  have h := merge_any B B S5 S5 A A c c w h h
  rwa [bgM.1, bgM.2] at h
theorem tot_bg (B : Nat) (A : Option Addr) (c : Nat) (w : World) (h : Grid B w A c (merL S5 S5).rows) : Calls Try.prog 8 #[sv (merL S5 S5) A c] w fun e w' => e = .returned (.tuple #[.int .i64 10, .int .i64 0]) ∧ Below w.heap.size w w' := by
  have h := total_any B (merL S5 S5) A c w h
  rwa [bgT.1, bgT.2] at h
theorem hal_bg (B : Nat) (A : Option Addr) (c : Nat) (w : World) (h : Grid B w A c (merL S5 S5).rows) : Calls Try.prog 7 #[sv (merL S5 S5) A c] w (SkR S5 0 w) := by
  have h := halve_any B (merL S5 S5) A c w h
  rwa [bgH.1, bgH.2] at h
theorem hal_bg2 (B : Nat) (A : Option Addr) (c : Nat) (w : World) (h : Grid B w A c S5.rows) : Calls Try.prog 7 #[sv S5 A c] w (SkR (halM S5) 0 w) := by
  have h := halve_any B S5 A c w h
  rwa [bgJ] at h
theorem add_bg2 (B : Nat) (A : Option Addr) (c : Nat) (w : World) (h : Grid B w A c S5.rows) : Calls Try.prog 4 #[sv S5 A c, .string ⟨#[97]⟩, .int .i64 0] w (SkR (addM S5 kA 0) 3 w) := by
  have h := add_any B S5 A c kA 0 w h (by decide)
  rwa [bgO] at h
theorem check_bg (w : World) : Calls Try.prog 17 #[.agg #[.int .i64 0, .slice none 0 0]] w fun e w' => e = .returned (.int .i64 1) ∧ Below w.heap.size w w' := by
  have h := check_any 0 Sk.no none 0 w (Grid.none_ _ _)
  rwa [check_no] at h

set_option maxHeartbeats 8000000 in
theorem begun_any (w : World) :
    Calls Try.prog 16 #[] w fun e w' => e = .returned (.bool true) ∧ Below w.heap.size w w' := by
  go_enter Try.func16, Try.ntmps16
  go_wp2_with fail
  refine (empty_bg _).mono ?_
  rintro e w0 ⟨A0, c0, rfl, hg0, hb0⟩
  go_wp2_with fail
  refine (add_bg _ A0 c0 _ hg0).mono ?_
  rintro e w1 ⟨A1, c1, rfl, hg1, hb1⟩
  have X1 := Bx.new (hg1.mono (Nat.zero_le _))
  have HB1 := bel_al (hb0.trans (hb1.mono hb0.size)) (Nat.le_refl _) (so S5 A1 c1)
  clear hb0 hb1 hg0 hg1
  have HX := Lib.hid X1
  obtain ⟨_, x1, x2, _⟩ := X1
  go_wp2_with fail
  refine (est_bg 0 A1 c1 _ HX.out.grid).mono ?_
  rintro e w2 ⟨rfl, hb2⟩
  have X2 := HX.out.below hb2
  have HB2 := HB1.trans (hb2.mono HB1.size)
  clear hb2 x1 x2 HB1 HX
  have HX := Lib.hid X2
  obtain ⟨_, x1, x2, _⟩ := X2
  go_wp2_with fail
  refine (mer_bg 0 A1 c1 _ HX.out.grid).mono ?_
  rintro e w3 ⟨A3, c3, rfl, hg3, hb3⟩
  have X3 := (HX.out.below hb3).alloc (so (merL S5 S5) A3 c3)
  have Y3 := Bx.new (hg3.mono (Nat.zero_le _))
  have HB3 := bel_al (HB2.trans (hb3.mono HB2.size)) (Nat.le_refl _) (so (merL S5 S5) A3 c3)
  clear hb3 x1 x2 HB2 HX hg3
  have HX := Lib.hid X3
  have HY := Lib.hid Y3
  obtain ⟨_, x1, x2, _⟩ := X3
  obtain ⟨_, y1, y2, _⟩ := Y3
  generalize hM : merL S5 S5 = M at *
  have HM := Lib.hid hM
  clear hM
  go_wp2_with fail
  refine ((HM.out ▸ tot_bg 0 A3 c3) _ HY.out.grid).mono ?_
  rintro e w4 ⟨rfl, hb4⟩
  have X4 := HX.out.below hb4
  have Y4 := HY.out.below hb4
  have HB4 := HB3.trans (hb4.mono HB3.size)
  clear hb4 x1 x2 y1 y2 HB3 HX HY
  have HX := Lib.hid X4
  have HY := Lib.hid Y4
  obtain ⟨_, x1, x2, _⟩ := X4
  obtain ⟨_, y1, y2, _⟩ := Y4
  go_wp2_with fail
  refine ((HM.out ▸ hal_bg 0 A3 c3) _ HY.out.grid).mono ?_
  rintro e w5 ⟨A5, c5, rfl, hg5, hb5⟩
  have X5 := (HX.out.below hb5).alloc (so S5 A5 c5)
  have Y5 := Bx.new (hg5.mono (Nat.zero_le _))
  have HB5 := bel_al (HB4.trans (hb5.mono HB4.size)) (Nat.le_refl _) (so S5 A5 c5)
  clear hb5 x1 x2 y1 y2 HB4 HX HY hg5
  have HX := Lib.hid X5
  have HY := Lib.hid Y5
  obtain ⟨_, x1, x2, _⟩ := X5
  obtain ⟨_, y1, y2, _⟩ := Y5
  go_wp2_with fail
  refine (hal_bg2 0 A1 c1 _ HX.out.grid).mono ?_
  rintro e w6 ⟨A6, c6, rfl, hg6, hb6⟩
  have X6 := (HX.out.below hb6).alloc (so (halM S5) A6 c6)
  have Y6 := (HY.out.below hb6).alloc (so (halM S5) A6 c6)
  have HB6 := bel_al (HB5.trans (hb6.mono HB5.size)) (Nat.le_refl _) (so (halM S5) A6 c6)
  clear hb6 x1 x2 y1 y2 HB5 HX HY hg6
  generalize halM S5 = U at *
  have HX := Lib.hid X6
  have HY := Lib.hid Y6
  obtain ⟨_, x1, x2, _⟩ := X6
  obtain ⟨_, y1, y2, _⟩ := Y6
  go_wp2_with fail
  refine (add_bg2 0 A1 c1 _ HX.out.grid).mono ?_
  rintro e w7 ⟨A7, c7, rfl, hg7, hb7⟩
  have X7 := (HX.out.below hb7).alloc (so (addM S5 kA 0) A7 c7)
  have Y7 := (HY.out.below hb7).alloc (so (addM S5 kA 0) A7 c7)
  have HB7 := bel_al (HB6.trans (hb7.mono HB6.size)) (Nat.le_refl _) (so (addM S5 kA 0) A7 c7)
  clear hb7 x1 x2 y1 y2 HB6 HX HY hg7
  generalize addM S5 kA 0 = V at *
  have HX := Lib.hid X7
  have HY := Lib.hid Y7
  obtain ⟨_, x1, x2, _⟩ := X7
  obtain ⟨_, y1, y2, _⟩ := Y7
  go_wp2_with fail
  refine (sameS_any 0 0 S5 S5 A5 A1 c5 c1 _ HY.out.grid HX.out.grid).mono ?_
  rintro e w8 ⟨rfl, hb8⟩
  rw [sameS_refl]
  have HB8 := HB7.trans (hb8.mono HB7.size)
  clear hb8 x1 x2 y1 y2 HB7 HX HY
  go_wp2_with fail
  refine (check_bg _).mono ?_
  rintro e w9 ⟨rfl, hb9⟩
  go_wp2
  go_ret
  exact ⟨rfl, HB8.trans (hb9.mono HB8.size)⟩

end Go.Proofs.Ytmjoiakggckeoaa.Skt
