/-
  What must be in any case.
-/
import Derived.Test.YteldnohdijcbpaaWheelAdd
import Derived.Test.YteldnohdijcbpaaWheelAdv
import Derived.Test.YteldnohdijcbpaaWheelSame
namespace Go.Proofs.Yteldnohdijcbpaa.Whl
open Go.RowKit Go.Maps
set_option linter.unusedVariables false

/-! ### the functions at wheels of timers in order -/
section
variable {now : Int} {L : List Tm}
theorem add_of (g : Good now L) {t : Tm} (h1 : okT now t) (h2 : ¬ hasId L t.id) (h3 : L.length < 60) : errA (wheelOf now L) t = 0 ∧ addM (wheelOf now L) t = wheelOf now (insT L t) := by
  have e : errA (wheelOf now L) t = 0 := by
    unfold errA
    rw [if_pos (good_check g), all_of g, if_pos (show okT (wheelOf now L).now t from h1), if_neg h2, if_neg (by omega)]
  exact ⟨e, by unfold addM; rw [if_pos e, all_of g]; rfl⟩
theorem can_of (g : Good now L) {id : Int} (h : hasId L id) : errC (wheelOf now L) id = 0 ∧ canM (wheelOf now L) id = wheelOf now (delT L id) := by
  have e : errC (wheelOf now L) id = 0 := by
    unfold errC
    rw [if_pos (good_check g), all_of g, if_pos h]
  exact ⟨e, by unfold canM; rw [if_pos e, all_of g]; rfl⟩
theorem adv_of (g : Good now L) {tq : Int} (h1 : isT tq) (h2 : now ≤ tq) : errV (wheelOf now L) tq = 0 ∧ advM (wheelOf now L) tq = wheelOf tq (lateT L tq) ∧ advG (wheelOf now L) tq = goneT L tq := by
  have e : errV (wheelOf now L) tq = 0 := by
    unfold errV
    rw [if_pos (good_check g), if_pos h1, if_neg (show ¬ tq < (wheelOf now L).now from by show ¬ tq < now; omega)]
  exact ⟨e, by unfold advM; rw [if_pos e, all_of g], by unfold advG; rw [if_pos e, all_of g]⟩
theorem next_of (g : Good now L) (h : L.length ≠ 0) : errN (wheelOf now L) = 0 ∧ nextM (wheelOf now L) = (gt L 0).tm := by
  have e : errN (wheelOf now L) = 0 := by
    unfold errN
    rw [if_pos (good_check g), all_of g, if_neg h]
  exact ⟨e, by unfold nextM; rw [if_pos e, all_of g]⟩
theorem next_no (g : Good now L) (h : L.length = 0) : errN (wheelOf now L) = 5 ∧ nextM (wheelOf now L) = 0 := by
  have e : errN (wheelOf now L) = 5 := by
    unfold errN
    rw [if_pos (good_check g), all_of g, if_pos h]
  exact ⟨e, by unfold nextM; rw [e]; rfl⟩
end

theorem good0 : Good 100 [] := good_nil (by decide)
theorem good1 : Good 100 [⟨1, 103⟩] := good_ins good0 (t := ⟨1, 103⟩) (by decide) (by decide) (by decide)
theorem good2 : Good 100 [⟨1, 103⟩, ⟨2, 700⟩] := good_ins good1 (t := ⟨2, 700⟩) (by decide) (by decide) (by decide)
theorem good3 : Good 100 [⟨3, 101⟩, ⟨1, 103⟩, ⟨2, 700⟩] := good_ins good2 (t := ⟨3, 101⟩) (by decide) (by decide) (by decide)
theorem good4 : Good 103 [⟨2, 700⟩] := good_late good3 (tq := 103) (by decide)
theorem good5 : Good 103 [] := good_nil (by decide)
theorem new_bg (w : World) : Calls Try.prog 4 #[.int .i64 100] w (WR (wheelOf 100 []) 0 w) := by
  have h := new_any 100 w
  rwa [show newM 100 = wheelOf 100 [] from if_pos (by decide), show errW 100 = 0 from if_pos (by decide)] at h
theorem add_bg1 (A : Option Addr) (c : Nat) (w : World) (hG : Grid 0 w A c (wheelOf 100 []).slots) : Calls Try.prog 5 #[wv (wheelOf 100 []) A c, .agg #[.int .i64 1, .int .i64 103]] w (WR (wheelOf 100 [⟨1, 103⟩]) 0 w) := by
  have h := add_any (wheelOf 100 []) A c ⟨1, 103⟩ w hG
  have e := add_of good0 (t := ⟨1, 103⟩) (by decide) (by decide) (by decide)
  rwa [e.1, e.2] at h
theorem add_bg2 (A : Option Addr) (c : Nat) (w : World) (hG : Grid 0 w A c (wheelOf 100 [⟨1, 103⟩]).slots) : Calls Try.prog 5 #[wv (wheelOf 100 [⟨1, 103⟩]) A c, .agg #[.int .i64 2, .int .i64 700]] w (WR (wheelOf 100 [⟨1, 103⟩, ⟨2, 700⟩]) 0 w) := by
  have h := add_any (wheelOf 100 [⟨1, 103⟩]) A c ⟨2, 700⟩ w hG
  have e := add_of good1 (t := ⟨2, 700⟩) (by decide) (by decide) (by decide)
  rwa [e.1, e.2] at h
theorem add_bg3 (A : Option Addr) (c : Nat) (w : World) (hG : Grid 0 w A c (wheelOf 100 [⟨1, 103⟩, ⟨2, 700⟩]).slots) : Calls Try.prog 5 #[wv (wheelOf 100 [⟨1, 103⟩, ⟨2, 700⟩]) A c, .agg #[.int .i64 3, .int .i64 101]] w (WR (wheelOf 100 [⟨3, 101⟩, ⟨1, 103⟩, ⟨2, 700⟩]) 0 w) := by
  have h := add_any (wheelOf 100 [⟨1, 103⟩, ⟨2, 700⟩]) A c ⟨3, 101⟩ w hG
  have e := add_of good2 (t := ⟨3, 101⟩) (by decide) (by decide) (by decide)
  rwa [e.1, e.2] at h
theorem next_bg (A : Option Addr) (c : Nat) (w : World) (hG : Grid 0 w A c (wheelOf 100 [⟨3, 101⟩, ⟨1, 103⟩, ⟨2, 700⟩]).slots) : Calls Try.prog 8 #[wv (wheelOf 100 [⟨3, 101⟩, ⟨1, 103⟩, ⟨2, 700⟩]) A c] w fun e w' => e = .returned (.tuple #[.int .i64 101, .int .i64 0]) ∧ Below w.heap.size w w' := by
  have h := next_any (wheelOf 100 [⟨3, 101⟩, ⟨1, 103⟩, ⟨2, 700⟩]) A c w hG
  have e := next_of good3 (by decide)
  rwa [e.1, e.2] at h
theorem adv_bg (A : Option Addr) (c : Nat) (w : World) (hG : Grid 0 w A c (wheelOf 100 [⟨3, 101⟩, ⟨1, 103⟩, ⟨2, 700⟩]).slots) : Calls Try.prog 7 #[wv (wheelOf 100 [⟨3, 101⟩, ⟨1, 103⟩, ⟨2, 700⟩]) A c, .int .i64 103] w (VR (wheelOf 103 [⟨2, 700⟩]) [⟨3, 101⟩, ⟨1, 103⟩] 0 w) := by
  have h := advance_any (wheelOf 100 [⟨3, 101⟩, ⟨1, 103⟩, ⟨2, 700⟩]) A c 103 w hG
  have e := adv_of good3 (tq := 103) (by decide) (by decide)
  rwa [e.1, e.2.1, e.2.2] at h
theorem can_bg (A : Option Addr) (c : Nat) (w : World) (hG : Grid 0 w A c (wheelOf 103 [⟨2, 700⟩]).slots) : Calls Try.prog 6 #[wv (wheelOf 103 [⟨2, 700⟩]) A c, .int .i64 2] w (WR (wheelOf 103 []) 0 w) := by
  have h := cancel_any (wheelOf 103 [⟨2, 700⟩]) A c 2 w hG
  have e := can_of good4 (id := 2) (by decide)
  rwa [e.1, e.2] at h
theorem next_bg2 (A : Option Addr) (c : Nat) (w : World) (hG : Grid 0 w A c (wheelOf 103 []).slots) : Calls Try.prog 8 #[wv (wheelOf 103 []) A c] w fun e w' => e = .returned (.tuple #[.int .i64 0, .int .i64 5]) ∧ Below w.heap.size w w' := by
  have h := next_any (wheelOf 103 []) A c w hG
  have e := next_no good5 (by decide)
  rwa [e.1, e.2] at h
theorem add_bg4 (A : Option Addr) (c : Nat) (w : World) (hG : Grid 0 w A c (wheelOf 103 [⟨2, 700⟩]).slots) : Calls Try.prog 5 #[wv (wheelOf 103 [⟨2, 700⟩]) A c, .agg #[.int .i64 4, .int .i64 103]] w (WR Whl.no 3 w) := by
  have h := add_any (wheelOf 103 [⟨2, 700⟩]) A c ⟨4, 103⟩ w hG
  have e : errA (wheelOf 103 [⟨2, 700⟩]) ⟨4, 103⟩ = 3 := by
    unfold errA
    rw [if_pos (good_check good4), if_neg (show ¬ okT (wheelOf 103 [⟨2, 700⟩]).now ⟨4, 103⟩ from by show ¬ okT 103 ⟨4, 103⟩; decide)]
  have e2 : addM (wheelOf 103 [⟨2, 700⟩]) ⟨4, 103⟩ = Whl.no := by unfold addM; rw [e]; rfl
  rwa [e, e2] at h
theorem check_bg (w : World) : Calls Try.prog 16 #[.agg #[.int .i64 0, .slice none 0 0]] w fun e w' => e = .returned (.int .i64 1) ∧ Below w.heap.size w w' := by
  have h := check_any Whl.no none 0 w (Grid.none_ _ _)
  rwa [show checkW Whl.no = 1 by decide] at h

/-- A wheel variable that may be written. -/
def VB (w : World) (p : Nat) (W : Whl) (A : Option Addr) (c : Nat) : Prop :=
  p < w.heap.size ∧ w.cell? ⟨p, 0, none⟩ = some (.int .i64 W.now) ∧ w.cell? ⟨p, 1, none⟩ = some (.slice A W.slots.length c) ∧ w.frozen? ⟨p, 0, none⟩ = false ∧ w.frozen? ⟨p, 1, none⟩ = false ∧ Grid 0 w A c W.slots
theorem VB.new {w : World} {W : Whl} {A : Option Addr} {c : Nat} (h : Grid 0 w A c W.slots) : VB (w.alloc (wo W A c)) w.heap.size W A c :=
  ⟨by simp, by simp [go_sem], by simp [go_sem], by simp [go_sem], by simp [go_sem], h.alloc _⟩
theorem VB.below {w w' : World} {p : Nat} {W : Whl} {A : Option Addr} {c : Nat} (h : VB w p W A c) (hb : Below w.heap.size w w') : VB w' p W A c :=
  ⟨Nat.lt_of_lt_of_le h.1 hb.size, (hb.cell h.1).trans h.2.1, (hb.cell h.1).trans h.2.2.1, (hb.frozen h.1).trans h.2.2.2.1, (hb.frozen h.1).trans h.2.2.2.2.1, h.2.2.2.2.2.below hb⟩
theorem VB.put {B : Nat} {w : World} {p : Nat} {W V : Whl} {A A' : Option Addr} {c c' : Nat} (h : VB w p W A c) (hg : Grid B w A' c' V.slots) (hp : p < B) :
    VB ((w.setCell ⟨p, 0, none⟩ (.int .i64 V.now)).setCell ⟨p, 1, none⟩ (.slice A' V.slots.length c')) p V A' c' := by
  obtain ⟨h0, h1, h2, h3, h4, h5⟩ := h
  exact ⟨by simpa [World.setCell] using h0, by simp [go_sem, h1], by simp [go_sem, h2], by simpa [go_sem] using h3, by simpa [go_sem] using h4, ((hg.setCell (p := ⟨p, 0, none⟩) hp _).setCell (p := ⟨p, 1, none⟩) hp _).mono (Nat.zero_le _)⟩
theorem bel_alB {B : Nat} {w w' : World} (h : Below B w w') (hB : B ≤ w'.heap.size) (o : Obj) : Below B w (w'.alloc o) := h.alloc hB o

theorem tms_lit (w : World) : Tms (w.alloc (.cells #[.int .i64 3, .int .i64 101, .int .i64 1, .int .i64 103] 26)) (some ⟨w.heap.size, 0, none⟩) 2 [⟨3, 101⟩, ⟨1, 103⟩] := by
  refine ⟨Nat.le_refl _, by unfold maxLen; decide, fun e => (by cases e), fun _ => ⟨w.heap.size, 0, rfl, by simp, fun i hi => ?_⟩⟩
  rcases (by simp at hi; omega : i = 0 ∨ i = 1) with rfl | rfl
  · exact ⟨by simp [go_sem, gt], by simp [go_sem, gt]⟩
  · exact ⟨by simp [go_sem, gt], by simp [go_sem, gt]⟩

theorem sameT_bg (A : Option Addr) (c q : Nat) (w : World) (hq : q = w.heap.size) (h : Tms w A c [⟨3, 101⟩, ⟨1, 103⟩]) :
    Calls Try.prog 18 #[.slice A 2 c, .slice (some ⟨q, 0, none⟩) 2 2] (w.alloc (.cells #[.int .i64 3, .int .i64 101, .int .i64 1, .int .i64 103] 26)) fun e w' => e = .returned (.bool true) ∧ Below w.heap.size w w' := by
  subst hq
  refine (sameTimers_eq A _ c 2 [⟨3, 101⟩, ⟨1, 103⟩] _ (h.alloc _) (tms_lit w)).mono ?_
  rintro e w' ⟨h1, h2⟩
  exact ⟨h1, (bel_alB (Below.refl _ _) (Nat.le_refl _) _).trans (h2.mono (by simp))⟩

set_option maxHeartbeats 8000000 in
theorem begun_any (w : World) :
    Calls Try.prog 15 #[] w fun e w' => e = .returned (.bool true) ∧ Below w.heap.size w w' := by
  have HN := Lib.hid (new_bg w)
  have H1 := Lib.hid add_bg1
  have H2 := Lib.hid add_bg2
  have H3 := Lib.hid add_bg3
  have H4 := Lib.hid next_bg
  have H5 := Lib.hid adv_bg
  have H6 := Lib.hid can_bg
  have H7 := Lib.hid next_bg2
  have H8 := Lib.hid add_bg4
  have q48 : (((wheelOf 100 []).slots.length : Int) != 48) = false := by
    rw [show (wheelOf 100 []).slots.length = 48 from spread_len _ _]; rfl
  generalize wheelOf 100 [] = W0 at *
  generalize wheelOf 100 [⟨1, 103⟩] = W1 at *
  generalize wheelOf 100 [⟨1, 103⟩, ⟨2, 700⟩] = W2 at *
  generalize wheelOf 100 [⟨3, 101⟩, ⟨1, 103⟩, ⟨2, 700⟩] = W3 at *
  generalize wheelOf 103 [⟨2, 700⟩] = W4 at *
  generalize wheelOf 103 [] = W5 at *
  generalize Whl.no = WN at *
  go_enter Try.func15, Try.ntmps15
  go_wp2_with fail
  refine HN.out.mono ?_
  rintro e w0 ⟨A0, c0, rfl, hg0, hb0⟩
  have V0 := Lib.hid (VB.new (hg0.mono (Nat.zero_le _)))
  have HB0 : Hid (Below w.heap.size w (w0.alloc (wo W0 A0 c0))) := Lib.hid (bel_alB hb0 hb0.size _)
  have HP : Hid (w.heap.size ≤ w0.heap.size) := Lib.hid hb0.size
  clear hg0 hb0
  obtain ⟨-, x1, x2, f1, f2, -⟩ := V0.out
  go_wp2_with fail
  refine (H1.out A0 c0 _ V0.out.2.2.2.2.2).mono ?_
  rintro e w1 ⟨A1, c1, rfl, hg1, hb1⟩
  generalize hp : w0.heap.size = p at *
  clear hp
  have V1 := Lib.hid ((V0.out.below hb1).put hg1 V0.out.1)
  have HB1 : Hid (Below w.heap.size w ((w1.setCell ⟨p, 0, none⟩ (.int .i64 W1.now)).setCell ⟨p, 1, none⟩ (.slice A1 W1.slots.length c1))) := Lib.hid (((HB0.out.trans (hb1.mono HB0.out.size)).setCell (p := ⟨p, 0, none⟩) HP.out _).setCell (p := ⟨p, 1, none⟩) HP.out _)
  clear x1 x2 f1 f2
  obtain ⟨-, x1, x2, f1, f2, -⟩ := V0.out.below hb1
  clear hg1 hb1
  obtain ⟨-, y1, y2, -, -, -⟩ := V1.out
  go_wp2_with fail
  refine (H2.out A1 c1 _ V1.out.2.2.2.2.2).mono ?_
  rintro e w2 ⟨A2, c2, rfl, hg2, hb2⟩
  clear y1 y2
  have V2 := Lib.hid ((V1.out.below hb2).put hg2 V1.out.1)
  have HB2 : Hid (Below w.heap.size w ((w2.setCell ⟨p, 0, none⟩ (.int .i64 W2.now)).setCell ⟨p, 1, none⟩ (.slice A2 W2.slots.length c2))) := Lib.hid (((HB1.out.trans (hb2.mono HB1.out.size)).setCell (p := ⟨p, 0, none⟩) HP.out _).setCell (p := ⟨p, 1, none⟩) HP.out _)
  clear x1 x2 f1 f2
  obtain ⟨-, x1, x2, f1, f2, -⟩ := V1.out.below hb2
  clear hg2 hb2
  obtain ⟨-, y1, y2, -, -, -⟩ := V2.out
  go_wp2_with fail
  refine (H3.out A2 c2 _ V2.out.2.2.2.2.2).mono ?_
  rintro e w3 ⟨A3, c3, rfl, hg3, hb3⟩
  clear y1 y2
  have V3 := Lib.hid ((V2.out.below hb3).put hg3 V2.out.1)
  have HB3 : Hid (Below w.heap.size w ((w3.setCell ⟨p, 0, none⟩ (.int .i64 W3.now)).setCell ⟨p, 1, none⟩ (.slice A3 W3.slots.length c3))) := Lib.hid (((HB2.out.trans (hb3.mono HB2.out.size)).setCell (p := ⟨p, 0, none⟩) HP.out _).setCell (p := ⟨p, 1, none⟩) HP.out _)
  clear x1 x2 f1 f2
  obtain ⟨-, x1, x2, f1, f2, -⟩ := V2.out.below hb3
  clear hg3 hb3
  obtain ⟨-, y1, y2, -, -, -⟩ := V3.out
  go_wp2_with fail
  refine (H4.out A3 c3 _ V3.out.2.2.2.2.2).mono ?_
  rintro e w4 ⟨rfl, hb4⟩
  have V4 := Lib.hid (V3.out.below hb4)
  have HB4 : Hid (Below w.heap.size w w4) := Lib.hid (HB3.out.trans (hb4.mono HB3.out.size))
  clear x1 x2 f1 f2 y1 y2 hb4
  obtain ⟨-, x1, x2, -, -, -⟩ := V4.out
  go_wp2_with fail
  refine (H5.out A3 c3 _ V4.out.2.2.2.2.2).mono ?_
  rintro e w5 ⟨A5, c5, A6, c6, rfl, hg5, hT5, hA5, hb5⟩
  have X5 := Lib.hid (Bx.new (W := W4) (hg5.mono (Nat.zero_le _)))
  have HT5 := Lib.hid (hT5.alloc (wo W4 A5 c5))
  have HB5 : Hid (Below w.heap.size w (w5.alloc (wo W4 A5 c5))) := Lib.hid (bel_alB (HB4.out.trans (hb5.mono HB4.out.size)) (Nat.le_trans HB4.out.size hb5.size) _)
  clear x1 x2 hg5 hT5 hA5 hb5
  obtain ⟨-, x1, x2, -⟩ := X5.out
  go_wp2_with fail
  refine (H6.out A5 c5 _ X5.out.grid).mono ?_
  rintro e w6 ⟨A7, c7, rfl, hg6, hb6⟩
  have X6 := Lib.hid ((X5.out.below hb6).alloc (wo W5 A7 c7))
  have Y6 := Lib.hid (Bx.new (W := W5) (hg6.mono (Nat.zero_le _)))
  have HT6 := Lib.hid ((HT5.out.below hb6).alloc (wo W5 A7 c7))
  have HB6 : Hid (Below w.heap.size w (w6.alloc (wo W5 A7 c7))) := Lib.hid (bel_alB (HB5.out.trans (hb6.mono HB5.out.size)) (Nat.le_trans HB5.out.size hb6.size) _)
  clear x1 x2 hg6 hb6
  obtain ⟨-, x1, x2, -⟩ := X6.out
  obtain ⟨-, y1, y2, -⟩ := Y6.out
  go_wp2_with fail
  refine (H7.out A7 c7 _ Y6.out.grid).mono ?_
  rintro e w7 ⟨rfl, hb7⟩
  have X7 := Lib.hid (X6.out.below hb7)
  have HT7 := Lib.hid (HT6.out.below hb7)
  have HB7 : Hid (Below w.heap.size w w7) := Lib.hid (HB6.out.trans (hb7.mono HB6.out.size))
  clear x1 x2 y1 y2 hb7
  obtain ⟨-, x1, x2, -⟩ := X7.out
  go_wp2_with fail
  refine (H8.out A5 c5 _ X7.out.grid).mono ?_
  rintro e w8 ⟨A8, c8, rfl, hg8, hb8⟩
  have HT8 := Lib.hid ((HT7.out.below hb8).alloc (wo WN A8 c8))
  have HB8 : Hid (Below w.heap.size w (w8.alloc (wo WN A8 c8))) := Lib.hid (bel_alB (HB7.out.trans (hb8.mono HB7.out.size)) (Nat.le_trans HB7.out.size hb8.size) _)
  clear x1 x2 hg8 hb8
  go_wp2_with fail
  refine (sameT_bg A6 c6 _ (w8.alloc (wo WN A8 c8)) (by simp) HT8.out).mono ?_
  rintro e w9 ⟨rfl, hb9⟩
  have HB9 : Hid (Below w.heap.size w w9) := Lib.hid (HB8.out.trans (hb9.mono HB8.out.size))
  clear hb9
  go_wp2_with fail
  refine (check_bg _).mono ?_
  rintro e w10 ⟨rfl, hb10⟩
  have HB10 : Hid (Below w.heap.size w w10) := Lib.hid (HB9.out.trans (hb10.mono HB9.out.size))
  clear hb10
  go_wp2
  go_ret
  exact ⟨rfl, HB10.out⟩

end Go.Proofs.Yteldnohdijcbpaa.Whl
