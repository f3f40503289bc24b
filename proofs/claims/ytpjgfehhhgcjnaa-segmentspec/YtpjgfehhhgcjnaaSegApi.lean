/-
  What Access, Run and Keys of package segment return.
-/
import Derived.Test.YtpjgfehhhgcjnaaSegUse2
import Derived.Test.YtpjgfehhhgcjnaaSegCheck
namespace Go.Proofs.Ytpjgfehhhgcjnaa.Seg
open Go.RowKit Go.Maps
open Lru (isRm isK keysE keysE_zero traceE trace_zero touch)
set_option linter.unusedVariables false
set_option maxRecDepth 100000

/-! ### The answers -/
def acE (f s : Int) (t : St) (x : Int) : Int := if checkS f s t.1 t.2 = 0 then (if isK x then 0 else 3) else checkS f s t.1 t.2
def acT (f s : Int) (t : St) (x : Int) : St := if acE f s t x = 0 then tch f s t x else ([], [])
def acR (f s : Int) (t : St) (x r : Int) : Int := if acE f s t x = 0 then r else 0
def acH (f s : Int) (t : St) (x : Int) : Bool := if acE f s t x = 0 then decide (isHit t x) else false
def acG (f s : Int) (t : St) (x : Int) : List Int := if acE f s t x = 0 then lost f s t x else []
def rnE (f s : Int) (t : St) (xs : List Int) : Int := if checkS f s t.1 t.2 = 0 then traceE xs else checkS f s t.1 t.2
def rnT (f s : Int) (t : St) (xs : List Int) : St := if rnE f s t xs = 0 then runS f s t xs else ([], [])
def rnR (f s : Int) (t : St) (xs : List Int) (r : Int) : Int := if rnE f s t xs = 0 then r else 0
def rnH (f s : Int) (t : St) (xs : List Int) : Int := if rnE f s t xs = 0 then (hitsS f s t xs : Int) else 0
def kyL (f s : Int) (t : St) : List Int := if checkS f s t.1 t.2 = 0 then t.1 ++ t.2 else []
def AR (f s : Int) (t : St) (x : Int) (w : World) (e : Ending) (w' : World) : Prop :=
  ∃ A c B d E k, e = .returned (.tuple #[kv (acR f s t x f) (acR f s t x s) (.slice A (acT f s t x).1.length c) (.slice B (acT f s t x).2.length d), .bool (acH f s t x), .slice E (acG f s t x).length k, .int .i64 (acE f s t x)]) ∧
    OwnI w' w.heap.size (.slice A (acT f s t x).1.length c) (acT f s t x).1 ∧ OwnI w' w.heap.size (.slice B (acT f s t x).2.length d) (acT f s t x).2 ∧ OwnI w' w.heap.size (.slice E (acG f s t x).length k) (acG f s t x) ∧ Below w.heap.size w w'
def NR (f s : Int) (t : St) (xs : List Int) (w : World) (e : Ending) (w' : World) : Prop :=
  ∃ A c B d, e = .returned (.tuple #[kv (rnR f s t xs f) (rnR f s t xs s) (.slice A (rnT f s t xs).1.length c) (.slice B (rnT f s t xs).2.length d), .int .i64 (rnH f s t xs), .int .i64 (rnE f s t xs)]) ∧
    OwnI w' w.heap.size (.slice A (rnT f s t xs).1.length c) (rnT f s t xs).1 ∧ OwnI w' w.heap.size (.slice B (rnT f s t xs).2.length d) (rnT f s t xs).2 ∧ Below w.heap.size w w'
def KR (f s : Int) (t : St) (w : World) (e : Ending) (w' : World) : Prop :=
  ∃ A c, e = .returned (.tuple #[.slice A (kyL f s t).length c, .int .i64 (checkS f s t.1 t.2)]) ∧ OwnI w' w.heap.size (.slice A (kyL f s t).length c) (kyL f s t) ∧ Below w.heap.size w w'
theorem AR.bad {f s : Int} {t : St} {x er : Int} {w w' : World} (he : acE f s t x = er) (h0 : er ≠ 0) (hb : Below w.heap.size w w') : AR f s t x w (.returned (.tuple #[nk, .bool false, .slice none 0 0, .int .i64 er])) w' := by
  have h : ¬ acE f s t x = 0 := by rw [he]; exact h0
  have e1 : acT f s t x = ([], []) := by unfold acT; rw [if_neg h]
  have e2 : acG f s t x = [] := by unfold acG; rw [if_neg h]
  unfold AR
  rw [e1, e2]
  refine ⟨none, 0, none, 0, none, 0, ?_, own_none _ _, own_none _ _, own_none _ _, hb⟩
  unfold acR acH; rw [if_neg h, if_neg h, if_neg h, he]; rfl
theorem NR.bad {f s : Int} {t : St} {xs : List Int} {er : Int} {w w' : World} (he : rnE f s t xs = er) (h0 : er ≠ 0) (hb : Below w.heap.size w w') : NR f s t xs w (.returned (.tuple #[nk, .int .i64 0, .int .i64 er])) w' := by
  have h : ¬ rnE f s t xs = 0 := by rw [he]; exact h0
  have e1 : rnT f s t xs = ([], []) := by unfold rnT; rw [if_neg h]
  unfold NR
  rw [e1]
  refine ⟨none, 0, none, 0, ?_, own_none _ _, own_none _ _, hb⟩
  unfold rnR rnH; rw [if_neg h, if_neg h, if_neg h, he]; rfl
theorem KR.bad {f s : Int} {t : St} {er : Int} {w w' : World} (he : checkS f s t.1 t.2 = er) (h0 : er ≠ 0) (hb : Below w.heap.size w w') : KR f s t w (.returned (.tuple #[.slice none 0 0, .int .i64 er])) w' := by
  have h : ¬ checkS f s t.1 t.2 = 0 := by rw [he]; exact h0
  have e1 : kyL f s t = [] := by unfold kyL; rw [if_neg h]
  unfold KR
  rw [e1]
  exact ⟨none, 0, by rw [he]; rfl, own_none _ _, hb⟩
theorem AR.good {f s : Int} {t : St} {x : Int} {w w' : World} {A B E : Option Addr} {c d k n m j : Nat} {N O G : List Int} (he : acE f s t x = 0) (h1 : (tch f s t x).1 = N) (h2 : (tch f s t x).2 = O) (h3 : lost f s t x = G)
    (a : OwnI w' w.heap.size (.slice A n c) N) (o : OwnI w' w.heap.size (.slice B m d) O) (g : OwnI w' w.heap.size (.slice E j k) G) (hb : Below w.heap.size w w') :
    AR f s t x w (.returned (.tuple #[kv f s (.slice A n c) (.slice B m d), .bool (decide (isHit t x)), .slice E j k, .int .i64 0])) w' := by
  have e1 : acT f s t x = tch f s t x := by unfold acT; rw [if_pos he]
  have e2 : acG f s t x = lost f s t x := by unfold acG; rw [if_pos he]
  subst h1 h2 h3
  obtain ⟨rfl, -⟩ := ints_own a
  obtain ⟨rfl, -⟩ := ints_own o
  obtain ⟨rfl, -⟩ := ints_own g
  unfold AR
  rw [e1, e2]
  refine ⟨A, c, B, d, E, k, ?_, a, o, g, hb⟩
  unfold acR acH; rw [if_pos he, if_pos he, if_pos he, he]
theorem NR.good {f s : Int} {t : St} {xs : List Int} {w w' : World} {A B : Option Addr} {c d n m : Nat} {N O : List Int} (he : rnE f s t xs = 0) (h1 : (runS f s t xs).1 = N) (h2 : (runS f s t xs).2 = O)
    (a : OwnI w' w.heap.size (.slice A n c) N) (o : OwnI w' w.heap.size (.slice B m d) O) (hb : Below w.heap.size w w') :
    NR f s t xs w (.returned (.tuple #[kv f s (.slice A n c) (.slice B m d), .int .i64 (hitsS f s t xs : Int), .int .i64 0])) w' := by
  have e1 : rnT f s t xs = runS f s t xs := by unfold rnT; rw [if_pos he]
  subst h1 h2
  obtain ⟨rfl, -⟩ := ints_own a
  obtain ⟨rfl, -⟩ := ints_own o
  unfold NR
  rw [e1]
  refine ⟨A, c, B, d, ?_, a, o, hb⟩
  unfold rnR rnH; rw [if_pos he, if_pos he, if_pos he, he]

set_option maxHeartbeats 4000000 in
theorem access_any (f s : Int) (A B : Option Addr) (c d : Nat) (N O : List Int) (x : Int) (w : World) (hN : Ints w A c N) (hO : Ints w B d O) :
    Calls Try.prog 7 #[kv f s (.slice A N.length c) (.slice B O.length d), .int .i64 x] w (AR f s (N, O) x w) := by
  obtain ⟨hk0, hz0, hb0⟩ := box2 w f s (.slice A N.length c) (.slice B O.length d)
  have HK0 := Lib.hid hk0
  have HZ0 := Lib.hid hz0
  have HB0 := Lib.hid hb0
  have HN0 := Lib.hid (hN.below hb0)
  have HO0 := Lib.hid (hO.below hb0)
  clear hk0 hz0 hb0 hN hO
  have HC := Lib.hid (check_any f s A B c d N O _ HN0.out HO0.out)
  by_cases h0 : checkS f s N O = 0
  · have HG := Lib.hid (check_zero.1 h0)
    rw [h0] at HC
    by_cases h1 : isK x
    · have HE : Hid (acE f s (N, O) x = 0) := Lib.hid (by unfold acE; rw [if_pos h0, if_pos h1])
      have p1 : decide (isK x) = true := by simpa using h1
      have HX := Lib.hid h1
      clear h0 h1
      obtain ⟨x1, x2, x3, x4⟩ := HK0.out.cells
      go_enter Try.func7, Try.ntmps7
      go_wp2_with fail
      refine HC.out.mono ?_
      rintro e w1 ⟨rfl, hb1⟩
      have HK1 := Lib.hid (HK0.out.below hb1)
      have HZ1 := Lib.hid (HZ0.out.below hb1)
      have HB1 : Hid (Below w.heap.size w w1) := Lib.hid (HB0.out.trans (hb1.mono HB0.out.size))
      have HN1 := Lib.hid (HN0.out.below hb1)
      have HO1 := Lib.hid (HO0.out.below hb1)
      clear hb1 x1 x2 x3 x4
      go_wp2_with fail
      refine (isKey_any _ _).mono ?_
      rintro e w2 ⟨rfl, rfl⟩
      rw [p1]
      have HCl := Lib.hid (clone_any f s A B c d N O w1 HN1.out HO1.out (by have := HG.out.lenN; omega) (by have := HG.out.lenO; omega))
      obtain ⟨x1, x2, x3, x4⟩ := HK1.out.cells
      go_wp2_with fail
      refine HCl.out.mono ?_
      rintro e w2 ⟨A2, c2, B2, d2, rfl, hn2, ho2, hap2, hb2⟩
      have HZ2 := Lib.hid (HZ1.out.below hb2)
      have HL2 : Hid (w.heap.size + 1 < w1.heap.size) := Lib.hid HZ1.out.lt
      have HB2 := Lib.hid hb2
      have HU := Lib.hid (access_own f s A2 B2 c2 d2 N.length O.length w1.heap.size N O x w2 hn2 ho2 hap2 hb2.size HG.out HX.out)
      clear hb2 hn2 ho2 hap2 x1 x2 x3 x4
      go_wp2_with fail
      refine HU.out.mono ?_
      rintro e w4 ⟨A4, c4, B4, d4, E4, k4, rfl, hn4, ho4, -, he4, hb4, -⟩
      have HN4 := Lib.hid (own_le (own_al hn4 (ko f s (.slice A4 (tch f s (N, O) x).1.length c4) (.slice B4 (tch f s (N, O) x).2.length d4))) (Nat.le_trans (Nat.le_trans (Nat.le_succ _) (Nat.le_of_lt HL2.out)) (Nat.le_refl _)))
      have HO4 := Lib.hid (own_le (own_al ho4 (ko f s (.slice A4 (tch f s (N, O) x).1.length c4) (.slice B4 (tch f s (N, O) x).2.length d4))) (Nat.le_trans (Nat.le_trans (Nat.le_succ _) (Nat.le_of_lt HL2.out)) (Nat.le_refl _)))
      have HE4 := Lib.hid (own_le (own_al he4 (ko f s (.slice A4 (tch f s (N, O) x).1.length c4) (.slice B4 (tch f s (N, O) x).2.length d4))) (Nat.le_trans (Nat.le_trans (Nat.le_succ _) (Nat.le_of_lt HL2.out)) (Nat.le_refl _)))
      have HK4 := Lib.hid (Kb.new w4 f s (.slice A4 (tch f s (N, O) x).1.length c4) (.slice B4 (tch f s (N, O) x).2.length d4))
      have HZ4 := Lib.hid ((HZ2.out.belowB hb4 HL2.out).alloc (ko f s (.slice A4 (tch f s (N, O) x).1.length c4) (.slice B4 (tch f s (N, O) x).2.length d4)))
      have HB4 : Hid (Below w.heap.size w (w4.alloc (ko f s (.slice A4 (tch f s (N, O) x).1.length c4) (.slice B4 (tch f s (N, O) x).2.length d4)))) := Lib.hid (by
        have h := HB1.out.trans ((HB2.out.trans hb4).mono HB1.out.size)
        exact bel_al h h.size _)
      clear hn4 ho4 he4 hb4
      obtain ⟨T, hT⟩ : ∃ T, T = tch f s (N, O) x := ⟨_, rfl⟩
      obtain ⟨G, hG⟩ : ∃ G, G = lost f s (N, O) x := ⟨_, rfl⟩
      rw [← hT] at HN4 HO4 HE4 HK4 HZ4 HB4 ⊢
      rw [← hG] at HE4 ⊢
      have HT := Lib.hid (congrArg Prod.fst hT.symm)
      have HT2 := Lib.hid (congrArg Prod.snd hT.symm)
      have HGe := Lib.hid hG.symm
      clear hT hG
      obtain ⟨T1, T2⟩ := T
      dsimp only at HN4 HO4 HE4 HK4 HZ4 HB4 HT HT2 ⊢
      obtain ⟨n4, hn4⟩ : ∃ n4, T1.length = n4 := ⟨_, rfl⟩
      obtain ⟨m4, hm4⟩ : ∃ m4, T2.length = m4 := ⟨_, rfl⟩
      obtain ⟨j4, hj4⟩ : ∃ j4, G.length = j4 := ⟨_, rfl⟩
      simp only [hn4, hm4, hj4] at HN4 HO4 HE4 HK4 HZ4 HB4 ⊢
      clear hn4 hm4 hj4
      have HP := Lib.hid (AR.good (w' := set4 (w4.alloc (ko f s (.slice A4 n4 c4) (.slice B4 m4 d4))) (w.heap.size + 1) (.int .i64 f) (.int .i64 s) (.slice A4 n4 c4) (.slice B4 m4 d4)) HE.out HT.out HT2.out HGe.out (own_set4 HN4.out (HZ4.out.own HN4.out) _ _ _ _) (own_set4 HO4.out (HZ4.out.own HO4.out) _ _ _ _) (own_set4 HE4.out (HZ4.out.own HE4.out) _ _ _ _) (bel_set4 HB4.out (Nat.le_succ _) _ _ _ _))
      obtain ⟨x1, x2, x3, x4⟩ := HK4.out.cells
      obtain ⟨z1, z2, z3, z4⟩ := HZ4.out.cells
      obtain ⟨u1, u2, u3, u4⟩ := HZ4.out.free
      generalize decide (isHit (N, O) x) = b at *
      go_wp2
      refine bodyPost_ret (v := .tuple #[kv f s (.slice A4 n4 c4) (.slice B4 m4 d4), .bool b, .slice E4 j4 k4, .int .i64 0]) (by simp [results, Try.results7, go_sem, z1, z2, z3, z4]) rfl ?_
      exact HP.out
    · have HE : Hid (acE f s (N, O) x = 3) := Lib.hid (by unfold acE; rw [if_pos h0, if_neg h1])
      have p1 : decide (isK x) = false := by simpa using h1
      clear h0 h1
      obtain ⟨x1, x2, x3, x4⟩ := HK0.out.cells
      go_enter Try.func7, Try.ntmps7
      go_wp2_with fail
      refine HC.out.mono ?_
      rintro e w1 ⟨rfl, hb1⟩
      have HZ1 := Lib.hid (HZ0.out.below hb1)
      have HB1 : Hid (Below w.heap.size w w1) := Lib.hid (HB0.out.trans (hb1.mono HB0.out.size))
      clear hb1 x1 x2 x3 x4
      go_wp2_with fail
      refine (isKey_any _ _).mono ?_
      rintro e w2 ⟨rfl, rfl⟩
      rw [p1]
      obtain ⟨z1, z2, z3, z4⟩ := HZ1.out.cells
      obtain ⟨u1, u2, u3, u4⟩ := HZ1.out.free
      go_wp2
      refine bodyPost_ret (v := .tuple #[nk, .bool false, .slice none 0 0, .int .i64 3]) (by simp [results, Try.results7, go_sem, z1, z2, z3, z4]) rfl ?_
      exact AR.bad HE.out (by decide) (bel_set4 HB1.out (p := w.heap.size + 1) (by omega) _ _ _ _)
  · have HE : Hid (acE f s (N, O) x = checkS f s N O) := Lib.hid (by unfold acE; rw [if_neg h0])
    have H0 := Lib.hid h0
    have q : (checkS f s N O != 0) = true := by simpa using h0
    clear h0
    obtain ⟨x1, x2, x3, x4⟩ := HK0.out.cells
    go_enter Try.func7, Try.ntmps7
    go_wp2_with fail
    refine HC.out.mono ?_
    rintro e w1 ⟨rfl, hb1⟩
    have HZ1 := Lib.hid (HZ0.out.below hb1)
    have HB1 : Hid (Below w.heap.size w w1) := Lib.hid (HB0.out.trans (hb1.mono HB0.out.size))
    clear hb1 x1 x2 x3 x4
    obtain ⟨z1, z2, z3, z4⟩ := HZ1.out.cells
    obtain ⟨u1, u2, u3, u4⟩ := HZ1.out.free
    go_wp2
    refine bodyPost_ret (v := .tuple #[nk, .bool false, .slice none 0 0, .int .i64 (checkS f s N O)]) (by simp [results, Try.results7, go_sem, z1, z2, z3, z4]) rfl ?_
    exact AR.bad HE.out H0.out (bel_set4 HB1.out (p := w.heap.size + 1) (by omega) _ _ _ _)

set_option maxHeartbeats 4000000 in
theorem keys_any (f s : Int) (A B : Option Addr) (c d : Nat) (N O : List Int) (w : World) (hN : Ints w A c N) (hO : Ints w B d O) :
    Calls Try.prog 9 #[kv f s (.slice A N.length c) (.slice B O.length d)] w (KR f s (N, O) w) := by
  have HK0 := Lib.hid (Kb.new w f s (.slice A N.length c) (.slice B O.length d))
  have HB0 : Hid (Below w.heap.size w (w.alloc (ko f s (.slice A N.length c) (.slice B O.length d)))) := Lib.hid (bel_al (Below.refl _ _) (Nat.le_refl _) _)
  have HN0 := Lib.hid (hN.below HB0.out)
  have HO0 := Lib.hid (hO.below HB0.out)
  clear hN hO
  have HC := Lib.hid (check_any f s A B c d N O _ HN0.out HO0.out)
  obtain ⟨x1, x2, x3, x4⟩ := HK0.out.cells
  by_cases h0 : checkS f s N O = 0
  · have HG := Lib.hid (check_zero.1 h0)
    have HE : Hid (kyL f s (N, O) = N ++ O) := Lib.hid (by unfold kyL; rw [if_pos h0])
    have H0 := Lib.hid h0
    rw [h0] at HC
    clear h0
    obtain ⟨n, hn⟩ : ∃ n, N.length = n := ⟨_, rfl⟩
    obtain ⟨m, hm⟩ : ∃ m, O.length = m := ⟨_, rfl⟩
    have HCc := Lib.hid (fun (q : Nat) (W : World) (hq : q = W.heap.size) (a : Ints W A c N) (b : Ints W B d O) => concat_new A B c d n m q N O W hq hn hm a b (by have := HG.out.lenN; omega) (by have := HG.out.lenO; omega))
    simp only [hn, hm] at HK0 HB0 HN0 HO0 HC x1 x2 x3 x4 ⊢
    clear hn hm
    go_enter Try.func9, Try.ntmps9
    go_wp2_with fail
    refine HC.out.mono ?_
    rintro e w1 ⟨rfl, hb1⟩
    have HK1 := Lib.hid (HK0.out.below hb1)
    have HB1 : Hid (Below w.heap.size w w1) := Lib.hid (HB0.out.trans (hb1.mono HB0.out.size))
    have HN1 := Lib.hid (HN0.out.below hb1)
    have HO1 := Lib.hid (HO0.out.below hb1)
    clear hb1 x1 x2 x3 x4
    obtain ⟨x1, x2, x3, x4⟩ := HK1.out.cells
    go_wp2_with fail
    refine (HCc.out _ w1 rfl HN1.out HO1.out).mono ?_
    rintro e w2 ⟨E, k2, rfl, ho2, hb2⟩
    have HB2 : Hid (Below w.heap.size w w2) := Lib.hid (HB1.out.trans (hb2.mono HB1.out.size))
    have HO2 := Lib.hid (own_le ho2 HB1.out.size)
    clear ho2 hb2 x1 x2 x3 x4
    go_wp2
    refine bodyPost_ret (v := .tuple #[.slice E (n + m) k2, .int .i64 0]) (by simp [results, Try.results9, go_sem]) rfl ?_
    obtain ⟨e1, -⟩ := ints_own HO2.out
    refine ⟨E, k2, ?_, ?_, HB2.out⟩
    · rw [HE.out, e1]
      show _ = Ending.returned (.tuple #[_, .int .i64 (checkS f s N O)])
      rw [H0.out]
    · rw [HE.out, ← e1]; exact HO2.out
  · have HE : Hid (checkS f s N O = checkS f s N O) := Lib.hid rfl
    have H0 := Lib.hid h0
    have q : (checkS f s N O != 0) = true := by simpa using h0
    clear h0
    go_enter Try.func9, Try.ntmps9
    go_wp2_with fail
    refine HC.out.mono ?_
    rintro e w1 ⟨rfl, hb1⟩
    have HB1 : Hid (Below w.heap.size w w1) := Lib.hid (HB0.out.trans (hb1.mono HB0.out.size))
    clear hb1 x1 x2 x3 x4
    go_wp2
    refine bodyPost_ret (v := .tuple #[.slice none 0 0, .int .i64 (checkS f s N O)]) (by simp [results, Try.results9, go_sem]) rfl ?_
    exact KR.bad (t := (N, O)) rfl H0.out HB1.out

end Go.Proofs.Ytpjgfehhhgcjnaa.Seg
