/-
  Package segment: one access.
-/
import Derived.Test.YtpjgfehhhgcjnaaSegUse
namespace Go.Proofs.Ytpjgfehhhgcjnaa.Seg
open Go.RowKit Go.Maps
open Lru (isRm isK keysE keysE_zero traceE trace_zero touch index_any contains_any idx_in idx_out)
set_option linter.unusedVariables false
set_option maxRecDepth 100000

/-- What access gives. -/
def UR (f s : Int) (t : St) (x : Int) (base : Nat) (v : Value) (w : World) (e : Ending) (w' : World) : Prop :=
  ∃ A c B d E k, e = .returned (.tuple #[kv f s (.slice A (tch f s t x).1.length c) (.slice B (tch f s t x).2.length d), .bool (decide (isHit t x)), .slice E (lost f s t x).length k]) ∧ OwnI w' base (.slice A (tch f s t x).1.length c) (tch f s t x).1 ∧ OwnI w' base (.slice B (tch f s t x).2.length d) (tch f s t x).2 ∧ Apart (.slice A (tch f s t x).1.length c) (.slice B (tch f s t x).2.length d) ∧ OwnI w' base (.slice E (lost f s t x).length k) (lost f s t x) ∧ Below base w w' ∧ w.grownBy w' v.ownBlock
theorem gb_all {w w' : World} (h : Below w.heap.size w w') (row : Option Nat) : w.grownBy w' row := ⟨h.os, h.tape, h.output, h.size, fun k hk _ => h.block k hk⟩
theorem gb_pre {w w1 w' : World} {row : Option Nat} (h : Below w.heap.size w w1) (g : w1.grownBy w' row) : w.grownBy w' row :=
  ⟨g.os.trans h.os, g.tape.trans h.tape, g.output.trans h.output, Nat.le_trans h.size g.size, fun k hk hne => (g.block k (Nat.lt_of_lt_of_le hk h.size) hne).trans (h.block k hk)⟩
theorem gb_post {w w1 w' : World} {row : Option Nat} (g : w.grownBy w1 row) (h : Below w.heap.size w1 w') : w.grownBy w' row :=
  ⟨h.os.trans g.os, h.tape.trans g.tape, h.output.trans g.output, Nat.le_trans g.size h.size, fun k hk hne => (h.block k hk).trans (g.block k hk hne)⟩
theorem UR.mk {f s : Int} {t : St} {x : Int} {base : Nat} {v : Value} {w w' : World} {A B E : Option Addr} {n c m d j k : Nat} {N O G : List Int} {b : Bool}
    (h1 : (tch f s t x).1 = N) (h2 : (tch f s t x).2 = O) (h3 : lost f s t x = G) (h4 : decide (isHit t x) = b) (a : OwnI w' base (.slice A n c) N) (o : OwnI w' base (.slice B m d) O) (p : Apart (.slice A n c) (.slice B m d)) (g : OwnI w' base (.slice E j k) G) (hb : Below base w w' ∧ w.grownBy w' v.ownBlock) :
    UR f s t x base v w (.returned (.tuple #[kv f s (.slice A n c) (.slice B m d), .bool b, .slice E j k])) w' := by
  subst h1 h2 h3 h4
  obtain ⟨rfl, -⟩ := ints_own a
  obtain ⟨rfl, -⟩ := ints_own o
  obtain ⟨rfl, -⟩ := ints_own g
  exact ⟨A, c, B, d, E, k, rfl, a, o, p, g, hb⟩
theorem frontN (A : Option Addr) (c n : Nat) (L : List Int) (r x : Int) (w : World) (hn : n = L.length) (hI : Ints w A c L) (hG : Lru.Good r L) (hx : isK x) :
    Calls Try.prog 30 #[.slice A n c, .int .i64 r, .int .i64 x] w fun e w' => ∃ A5 c5 E k p q, e = .returned (.tuple #[.slice A5 p c5, .slice E q k]) ∧ OwnI w' w.heap.size (.slice A5 p c5) (touch r L x) ∧ OwnI w' w.heap.size (.slice E q k) (gl r L x) ∧ Below w.heap.size w w' := by
  subst hn
  refine (toFront_any A c L r x w hI hG hx).mono ?_
  rintro e w' ⟨A5, c5, E, k, rfl, h⟩
  exact ⟨A5, c5, E, k, _, _, rfl, h⟩

set_option maxHeartbeats 8000000 in
theorem access_own (f s : Int) (A B : Option Addr) (c d n m base : Nat) (N O : List Int) (x : Int) (w : World) (hN : OwnI w base (.slice A n c) N) (hO : OwnI w base (.slice B m d) O) (hAp : Apart (.slice A n c) (.slice B m d)) (hB : base ≤ w.heap.size) (hG : Good f s N O) (hx : isK x) :
    Calls Try.prog 20 #[kv f s (.slice A n c) (.slice B m d), .int .i64 x] w (UR f s (N, O) x base (.slice A n c) w) := by
  obtain ⟨hk0, hz0, hb0⟩ := box2 w f s (.slice A n c) (.slice B m d)
  have HK0 := Lib.hid hk0
  have HZ0 := Lib.hid hz0
  have HB0 := Lib.hid hb0
  have HN0 : Hid (OwnI ((w.alloc (ko f s (.slice A n c) (.slice B m d))).alloc zk) base (.slice A n c) N) := Lib.hid (own_al (own_al hN _) _)
  have HO0 : Hid (OwnI ((w.alloc (ko f s (.slice A n c) (.slice B m d))).alloc zk) base (.slice B m d) O) := Lib.hid (own_al (own_al hO _) _)
  have HAp := Lib.hid hAp
  have HBs := Lib.hid hB
  have HG := Lib.hid hG
  have HX := Lib.hid hx
  clear hk0 hz0 hb0 hN hO hAp hB hG hx
  obtain ⟨x1, x2, x3, x4⟩ := HK0.out.cells
  obtain ⟨y1, y2, y3, y4⟩ := HK0.out.free
  by_cases h1 : x ∈ N
  · have HE : Hid ((tch f s (N, O) x).1 = N.erase x ∧ (tch f s (N, O) x).2 = touch s O x ∧ lost f s (N, O) x = gl s O x ∧ decide (isHit (N, O) x) = true) := Lib.hid (by
      have h3 : isHit (N, O) x := Or.inl h1
      exact ⟨by simp [tch, h1], by simp [tch, h1], by unfold lost; rw [if_pos h3], decide_eq_true h3⟩)
    obtain ⟨k, hk, he, hd⟩ := idx_in h1
    have hnl := (ints_own HN0.out).1
    have HIx := Lib.hid (index_any A c N x _ (ints_own HN0.out).2)
    have HD := Lib.hid (delete_own2 base (.slice A n c) N k _ HN0.out hk)
    rw [hd] at HD
    rw [he, ← hnl] at HIx
    rw [← hnl] at HD
    have hk40 : k < 40 := by have := HG.out.lenN; omega
    have q1 : decide ((k : Int) < 0) = false := by simp
    have q2 : decide ((0 : Int) ≤ (k : Int)) = true := by simp
    have hk9 : IntKind.i64.wrap ((k : Int) + 1) = (k : Int) + 1 := by rw [IntKind.wrap_i64]; omega
    clear h1 hk he hd hnl hk40
    go_enter Try.func20, Try.ntmps20
    go_wp2_with fail
    refine HIx.out.mono ?_
    rintro e w' ⟨rfl, rfl⟩
    go_wp2_with fail
    refine HD.out.mono ?_
    rintro e w2 ⟨A2, c2, rfl, ho2, hob, hg2⟩
    obtain ⟨n2, hn2⟩ : ∃ n2, n - 1 = n2 := ⟨_, rfl⟩
    rw [hn2] at ho2 hob ⊢
    have HK2 := Lib.hid (HK0.out.grown HN0.out hg2)
    have HZ2 := Lib.hid (HZ0.out.grown HN0.out hg2)
    have HO2 := Lib.hid (own_grown HO0.out hg2 (HAp.out.symm))
    have HAp2 : Hid (Apart (.slice A2 n2 c2) (.slice B m d)) := Lib.hid (by unfold Apart; rw [hob]; exact HAp.out)
    have HB2 : Hid (Below base w w2) := Lib.hid ((HB0.out.mono HBs.out).trans (sub_of_grown HN0.out hg2 (Nat.le_trans HBs.out HB0.out.size)))
    have HN2 := Lib.hid ho2
    have HG2 := Lib.hid (gb_pre HB0.out hg2)
    clear ho2 hob hg2 hn2 x1 x2 x3 x4 y1 y2 y3 y4
    have HK3 := Lib.hid (HK2.out.setN (.slice A2 n2 c2))
    have HZ3 := Lib.hid (HZ2.out.other (a := ⟨w.heap.size, 2, none⟩) (Nat.succ_ne_self _) (.slice A2 n2 c2))
    have HN3 := Lib.hid (own_set HN2.out (HK2.out.own HN2.out) 2 (.slice A2 n2 c2))
    have HO3 := Lib.hid (own_set HO2.out (HK2.out.own HO2.out) 2 (.slice A2 n2 c2))
    have HB3 := Lib.hid (bel_set HB2.out (a := ⟨w.heap.size, 2, none⟩) HBs.out (.slice A2 n2 c2))
    have HF := Lib.hid (frontN B d m O s x (w2.setCell ⟨w.heap.size, 2, none⟩ (.slice A2 n2 c2)) (ints_own HO3.out).1 (ints_own HO3.out).2 HG.out.od HX.out)
    obtain ⟨x1, x2, x3, x4⟩ := HK2.out.cells
    obtain ⟨y1, y2, y3, y4⟩ := HK2.out.free
    go_wp2_with fail
    refine HF.out.mono ?_
    rintro e w4 ⟨B4, d4, E, k4, m4, j4, rfl, ho4, hg4, hb4⟩
    have HK4 := Lib.hid (HK3.out.below hb4)
    have HZ4 := Lib.hid (HZ3.out.below hb4)
    have HN4 := Lib.hid (own_bel HN3.out hb4)
    have HB4 : Hid (Below base w w4) := Lib.hid (HB3.out.trans (hb4.mono (Nat.le_trans HBs.out HB3.out.size)))
    have HAp4 : Hid (Apart (.slice A2 n2 c2) (.slice B4 m4 d4)) := Lib.hid (Apart.symm (apart_new ho4 HN3.out (Nat.le_refl _)))
    have HBs3 : Hid (base ≤ (w2.setCell ⟨w.heap.size, 2, none⟩ (.slice A2 n2 c2)).heap.size) := Lib.hid (Nat.le_trans HBs.out HB3.out.size)
    have HO4 := Lib.hid (own_le ho4 HBs3.out)
    have HE4 := Lib.hid (own_le hg4 HBs3.out)
    have HW4 : Hid (w.grownBy w4 (Value.slice A n c).ownBlock) := Lib.hid (gb_post HG2.out ((bel_set (Below.refl _ _) (a := ⟨w.heap.size, 2, none⟩) (Nat.le_refl _) (.slice A2 n2 c2)).trans (hb4.mono (by have := HG2.out.size; show w.heap.size ≤ (w2.setCell _ _).heap.size; simpa [World.setCell] using this))))
    clear ho4 hg4 hb4 x1 x2 x3 x4 y1 y2 y3 y4
    have HZ5 := Lib.hid (HZ4.out.other (a := ⟨w.heap.size, 3, none⟩) (Nat.succ_ne_self _) (.slice B4 m4 d4))
    have HK5 := Lib.hid (HK4.out.setO (.slice B4 m4 d4))
    have HP : Hid (OwnI (set4 (w4.setCell ⟨w.heap.size, 3, none⟩ (.slice B4 m4 d4)) (w.heap.size + 1) (.int .i64 f) (.int .i64 s) (.slice A2 n2 c2) (.slice B4 m4 d4)) base (.slice A2 n2 c2) (N.erase x) ∧
        OwnI (set4 (w4.setCell ⟨w.heap.size, 3, none⟩ (.slice B4 m4 d4)) (w.heap.size + 1) (.int .i64 f) (.int .i64 s) (.slice A2 n2 c2) (.slice B4 m4 d4)) base (.slice B4 m4 d4) (touch s O x) ∧
        OwnI (set4 (w4.setCell ⟨w.heap.size, 3, none⟩ (.slice B4 m4 d4)) (w.heap.size + 1) (.int .i64 f) (.int .i64 s) (.slice A2 n2 c2) (.slice B4 m4 d4)) base (.slice E j4 k4) (gl s O x) ∧
        Below base w (set4 (w4.setCell ⟨w.heap.size, 3, none⟩ (.slice B4 m4 d4)) (w.heap.size + 1) (.int .i64 f) (.int .i64 s) (.slice A2 n2 c2) (.slice B4 m4 d4)) ∧ w.grownBy (set4 (w4.setCell ⟨w.heap.size, 3, none⟩ (.slice B4 m4 d4)) (w.heap.size + 1) (.int .i64 f) (.int .i64 s) (.slice A2 n2 c2) (.slice B4 m4 d4)) (Value.slice A n c).ownBlock) := Lib.hid (by
      have a := own_set HN4.out (HK4.out.own HN4.out) 3 (.slice B4 m4 d4)
      have b := own_set HO4.out (HK4.out.own HO4.out) 3 (.slice B4 m4 d4)
      have g := own_set HE4.out (HK4.out.own HE4.out) 3 (.slice B4 m4 d4)
      refine ⟨own_set4 a (HZ5.out.own a) _ _ _ _, own_set4 b (HZ5.out.own b) _ _ _ _, own_set4 g (HZ5.out.own g) _ _ _ _, ?_⟩
      exact ⟨bel_set4 (bel_set HB4.out (a := ⟨w.heap.size, 3, none⟩) HBs.out _) (Nat.le_succ_of_le HBs.out) _ _ _ _, gb_post HW4.out (bel_set4 (bel_set (Below.refl _ _) (a := ⟨w.heap.size, 3, none⟩) (Nat.le_refl _) _) (Nat.le_succ _) _ _ _ _)⟩)
    obtain ⟨x1, x2, x3, x4⟩ := HK4.out.cells
    obtain ⟨y1, y2, y3, y4⟩ := HK4.out.free
    obtain ⟨z1, z2, z3, z4⟩ := HZ4.out.cells
    obtain ⟨u1, u2, u3, u4⟩ := HZ4.out.free
    have HQ := Lib.hid (UR.mk HE.out.1 HE.out.2.1 HE.out.2.2.1 HE.out.2.2.2 HP.out.1 HP.out.2.1 HAp4.out HP.out.2.2.1 HP.out.2.2.2)
    go_wp2
    refine bodyPost_ret (v := .tuple #[kv f s (.slice A2 n2 c2) (.slice B4 m4 d4), .bool true, .slice E j4 k4]) (by simp [results, Try.results20, go_sem, z1, z2, z3, z4]) rfl ?_
    exact HQ.out
  · have hlt := idx_out h1
    have HIx := Lib.hid (index_any A c N x _ (ints_own HN0.out).2)
    have hnl := (ints_own HN0.out).1
    obtain ⟨i, hi⟩ : ∃ i, i = Lib.idxOf N x := ⟨_, rfl⟩
    rw [← hi, ← hnl] at HIx
    rw [← hi] at hlt
    have q1 : decide (i < (0 : Int)) = true := by simpa using hlt
    have q2 : decide ((0 : Int) ≤ i) = false := by simp; omega
    have HCt := Lib.hid (contains_any B d O x _ (ints_own HO0.out).2)
    have hml := (ints_own HO0.out).1
    rw [← hml] at HCt
    clear hi hlt
    by_cases h2 : x ∈ O
    · have HE : Hid ((tch f s (N, O) x).1 = N ∧ (tch f s (N, O) x).2 = touch s O x ∧ lost f s (N, O) x = gl s O x ∧ decide (isHit (N, O) x) = true) := Lib.hid (by
        have h3 : isHit (N, O) x := Or.inr h2
        exact ⟨by simp [tch, h1, h2], by simp [tch, h1, h2], by unfold lost; rw [if_pos h3], decide_eq_true h3⟩)
      have d2 : decide (x ∈ O) = true := by simpa using h2
      rw [d2] at HCt
      clear h1 h2 d2 hnl hml
      have HF := Lib.hid (frontN B d m O s x _ (ints_own HO0.out).1 (ints_own HO0.out).2 HG.out.od HX.out)
      go_enter Try.func20, Try.ntmps20
      go_wp2_with fail
      refine HIx.out.mono ?_
      rintro e w' ⟨rfl, rfl⟩
      go_wp2_with fail
      refine HCt.out.mono ?_
      rintro e w' ⟨rfl, rfl⟩
      go_wp2_with fail
      refine HF.out.mono ?_
      rintro e w4 ⟨B4, d4, E, k4, m4, j4, rfl, ho4, hg4, hb4⟩
      have HK4 := Lib.hid (HK0.out.below hb4)
      have HZ4 := Lib.hid (HZ0.out.below hb4)
      have HN4 := Lib.hid (own_bel HN0.out hb4)
      have HBs3 : Hid (base ≤ ((w.alloc (ko f s (.slice A n c) (.slice B m d))).alloc zk).heap.size) := Lib.hid (Nat.le_trans HBs.out HB0.out.size)
      have HB4 : Hid (Below base w w4) := Lib.hid ((HB0.out.mono HBs.out).trans (hb4.mono HBs3.out))
      have HAp4 : Hid (Apart (.slice A n c) (.slice B4 m4 d4)) := Lib.hid (Apart.symm (apart_new ho4 HN0.out (Nat.le_refl _)))
      have HO4 := Lib.hid (own_le ho4 HBs3.out)
      have HE4 := Lib.hid (own_le hg4 HBs3.out)
      have HW4 : Hid (w.grownBy w4 (Value.slice A n c).ownBlock) := Lib.hid (gb_all (HB0.out.trans (hb4.mono HB0.out.size)) _)
      clear ho4 hg4 hb4 x1 x2 x3 x4 y1 y2 y3 y4
      have HZ5 := Lib.hid (HZ4.out.other (a := ⟨w.heap.size, 3, none⟩) (Nat.succ_ne_self _) (.slice B4 m4 d4))
      have HP : Hid (OwnI (set4 (w4.setCell ⟨w.heap.size, 3, none⟩ (.slice B4 m4 d4)) (w.heap.size + 1) (.int .i64 f) (.int .i64 s) (.slice A n c) (.slice B4 m4 d4)) base (.slice A n c) N ∧
          OwnI (set4 (w4.setCell ⟨w.heap.size, 3, none⟩ (.slice B4 m4 d4)) (w.heap.size + 1) (.int .i64 f) (.int .i64 s) (.slice A n c) (.slice B4 m4 d4)) base (.slice B4 m4 d4) (touch s O x) ∧
          OwnI (set4 (w4.setCell ⟨w.heap.size, 3, none⟩ (.slice B4 m4 d4)) (w.heap.size + 1) (.int .i64 f) (.int .i64 s) (.slice A n c) (.slice B4 m4 d4)) base (.slice E j4 k4) (gl s O x) ∧
          Below base w (set4 (w4.setCell ⟨w.heap.size, 3, none⟩ (.slice B4 m4 d4)) (w.heap.size + 1) (.int .i64 f) (.int .i64 s) (.slice A n c) (.slice B4 m4 d4)) ∧ w.grownBy (set4 (w4.setCell ⟨w.heap.size, 3, none⟩ (.slice B4 m4 d4)) (w.heap.size + 1) (.int .i64 f) (.int .i64 s) (.slice A n c) (.slice B4 m4 d4)) (Value.slice A n c).ownBlock) := Lib.hid (by
        have a := own_set HN4.out (HK4.out.own HN4.out) 3 (.slice B4 m4 d4)
        have b := own_set HO4.out (HK4.out.own HO4.out) 3 (.slice B4 m4 d4)
        have g := own_set HE4.out (HK4.out.own HE4.out) 3 (.slice B4 m4 d4)
        refine ⟨own_set4 a (HZ5.out.own a) _ _ _ _, own_set4 b (HZ5.out.own b) _ _ _ _, own_set4 g (HZ5.out.own g) _ _ _ _, ?_⟩
        exact ⟨bel_set4 (bel_set HB4.out (a := ⟨w.heap.size, 3, none⟩) HBs.out _) (Nat.le_succ_of_le HBs.out) _ _ _ _, gb_post HW4.out (bel_set4 (bel_set (Below.refl _ _) (a := ⟨w.heap.size, 3, none⟩) (Nat.le_refl _) _) (Nat.le_succ _) _ _ _ _)⟩)
      obtain ⟨x1, x2, x3, x4⟩ := HK4.out.cells
      obtain ⟨y1, y2, y3, y4⟩ := HK4.out.free
      obtain ⟨z1, z2, z3, z4⟩ := HZ4.out.cells
      obtain ⟨u1, u2, u3, u4⟩ := HZ4.out.free
      have HQ := Lib.hid (UR.mk HE.out.1 HE.out.2.1 HE.out.2.2.1 HE.out.2.2.2 HP.out.1 HP.out.2.1 HAp4.out HP.out.2.2.1 HP.out.2.2.2)
      go_wp2
      refine bodyPost_ret (v := .tuple #[kv f s (.slice A n c) (.slice B4 m4 d4), .bool true, .slice E j4 k4]) (by simp [results, Try.results20, go_sem, z1, z2, z3, z4]) rfl ?_
      exact HQ.out
    · have HE : Hid ((tch f s (N, O) x).1 = touch f N x ∧ (tch f s (N, O) x).2 = O ∧ lost f s (N, O) x = gl f N x ∧ decide (isHit (N, O) x) = false) := Lib.hid (by
        have h3 : ¬ isHit (N, O) x := fun h => h.elim h1 h2
        refine ⟨by simp [tch, h1, h2], by simp [tch, h1, h2], by unfold lost; rw [if_neg h3], by simpa using h3⟩)
      have d2 : decide (x ∈ O) = false := by simpa using h2
      rw [d2] at HCt
      clear h1 h2 d2 hnl hml
      have HF := Lib.hid (frontN A c n N f x _ (ints_own HN0.out).1 (ints_own HN0.out).2 HG.out.nw HX.out)
      go_enter Try.func20, Try.ntmps20
      go_wp2_with fail
      refine HIx.out.mono ?_
      rintro e w' ⟨rfl, rfl⟩
      go_wp2_with fail
      refine HCt.out.mono ?_
      rintro e w' ⟨rfl, rfl⟩
      go_wp2_with fail
      refine HF.out.mono ?_
      rintro e w4 ⟨A4, c4, E, k4, n4, j4, rfl, ho4, hg4, hb4⟩
      have HK4 := Lib.hid (HK0.out.below hb4)
      have HZ4 := Lib.hid (HZ0.out.below hb4)
      have HO4 := Lib.hid (own_bel HO0.out hb4)
      have HBs3 : Hid (base ≤ ((w.alloc (ko f s (.slice A n c) (.slice B m d))).alloc zk).heap.size) := Lib.hid (Nat.le_trans HBs.out HB0.out.size)
      have HB4 : Hid (Below base w w4) := Lib.hid ((HB0.out.mono HBs.out).trans (hb4.mono HBs3.out))
      have HAp4 : Hid (Apart (.slice A4 n4 c4) (.slice B m d)) := Lib.hid (apart_new ho4 HO0.out (Nat.le_refl _))
      have HN4 := Lib.hid (own_le ho4 HBs3.out)
      have HE4 := Lib.hid (own_le hg4 HBs3.out)
      have HW4 : Hid (w.grownBy w4 (Value.slice A n c).ownBlock) := Lib.hid (gb_all (HB0.out.trans (hb4.mono HB0.out.size)) _)
      clear ho4 hg4 hb4 x1 x2 x3 x4 y1 y2 y3 y4
      have HZ5 := Lib.hid (HZ4.out.other (a := ⟨w.heap.size, 2, none⟩) (Nat.succ_ne_self _) (.slice A4 n4 c4))
      have HP : Hid (OwnI (set4 (w4.setCell ⟨w.heap.size, 2, none⟩ (.slice A4 n4 c4)) (w.heap.size + 1) (.int .i64 f) (.int .i64 s) (.slice A4 n4 c4) (.slice B m d)) base (.slice A4 n4 c4) (touch f N x) ∧
          OwnI (set4 (w4.setCell ⟨w.heap.size, 2, none⟩ (.slice A4 n4 c4)) (w.heap.size + 1) (.int .i64 f) (.int .i64 s) (.slice A4 n4 c4) (.slice B m d)) base (.slice B m d) O ∧
          OwnI (set4 (w4.setCell ⟨w.heap.size, 2, none⟩ (.slice A4 n4 c4)) (w.heap.size + 1) (.int .i64 f) (.int .i64 s) (.slice A4 n4 c4) (.slice B m d)) base (.slice E j4 k4) (gl f N x) ∧
          Below base w (set4 (w4.setCell ⟨w.heap.size, 2, none⟩ (.slice A4 n4 c4)) (w.heap.size + 1) (.int .i64 f) (.int .i64 s) (.slice A4 n4 c4) (.slice B m d)) ∧ w.grownBy (set4 (w4.setCell ⟨w.heap.size, 2, none⟩ (.slice A4 n4 c4)) (w.heap.size + 1) (.int .i64 f) (.int .i64 s) (.slice A4 n4 c4) (.slice B m d)) (Value.slice A n c).ownBlock) := Lib.hid (by
        have a := own_set HN4.out (HK4.out.own HN4.out) 2 (.slice A4 n4 c4)
        have b := own_set HO4.out (HK4.out.own HO4.out) 2 (.slice A4 n4 c4)
        have g := own_set HE4.out (HK4.out.own HE4.out) 2 (.slice A4 n4 c4)
        refine ⟨own_set4 a (HZ5.out.own a) _ _ _ _, own_set4 b (HZ5.out.own b) _ _ _ _, own_set4 g (HZ5.out.own g) _ _ _ _, ?_⟩
        exact ⟨bel_set4 (bel_set HB4.out (a := ⟨w.heap.size, 2, none⟩) HBs.out _) (Nat.le_succ_of_le HBs.out) _ _ _ _, gb_post HW4.out (bel_set4 (bel_set (Below.refl _ _) (a := ⟨w.heap.size, 2, none⟩) (Nat.le_refl _) _) (Nat.le_succ _) _ _ _ _)⟩)
      obtain ⟨x1, x2, x3, x4⟩ := HK4.out.cells
      obtain ⟨y1, y2, y3, y4⟩ := HK4.out.free
      obtain ⟨z1, z2, z3, z4⟩ := HZ4.out.cells
      obtain ⟨u1, u2, u3, u4⟩ := HZ4.out.free
      have HQ := Lib.hid (UR.mk HE.out.1 HE.out.2.1 HE.out.2.2.1 HE.out.2.2.2 HP.out.1 HP.out.2.1 HAp4.out HP.out.2.2.1 HP.out.2.2.2)
      go_wp2
      refine bodyPost_ret (v := .tuple #[kv f s (.slice A4 n4 c4) (.slice B m d), .bool false, .slice E j4 k4]) (by simp [results, Try.results20, go_sem, z1, z2, z3, z4]) rfl ?_
      exact HQ.out

end Go.Proofs.Ytpjgfehhhgcjnaa.Seg
