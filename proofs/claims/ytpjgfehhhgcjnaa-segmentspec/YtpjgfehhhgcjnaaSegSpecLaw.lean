/-
  The walk of the law that compares package segment with its reference.
-/
import Derived.Test.YtpjgfehhhgcjnaaSegRef3
import Derived.Deep.DeepCutAuto
namespace Go.Proofs.Ytpjgfehhhgcjnaa.Seg
open Go.RowKit Go.Maps
open Lru (isRm isK keysE keysE_zero traceE trace_zero touch)
set_option linter.unusedVariables false
set_option maxRecDepth 100000

/-- A row that does not lie in one of two variables. -/
def Fr (q : Nat) (B : Option Addr) (L : List Int) : Prop := 0 < L.length → ∀ a, B = some a → a.block ≠ q ∧ a.block ≠ q + 1
theorem fr_own {q : Nat} {B : Option Addr} {L : List Int} {base n c : Nat} {w : World} (h : OwnI w base (.slice B n c) L) (hb : q + 1 < base) : Fr q B L := fun _ a ha => by
  obtain ⟨A', c', e, -, hA⟩ := Lru.ints_of_own2 h
  cases e
  have := hA a ha
  exact ⟨by omega, by omega⟩
theorem fr_wh {q b : Nat} {A B : Option Addr} {L M : List Int} (h : Wh A L b B M) (hb : q + 1 < b) (hA : 0 < L.length → ∀ a, A = some a → a.block ≠ q ∧ a.block ≠ q + 1) : Fr q B M := fun h0 a ha => by
  rcases h a ha with ⟨h1, h2⟩ | h1
  · exact hA (by rw [← h2]; exact h0) a h1
  · exact ⟨by omega, by omega⟩
theorem Fr.ne {q v : Nat} {B : Option Addr} {L : List Int} (h : Fr q B L) (hv : v = q ∨ v = q + 1) : 0 < L.length → ∀ a, B = some a → a.block ≠ v := fun h0 a ha => by
  obtain ⟨h1, h2⟩ := h h0 a ha
  rcases hv with rfl | rfl
  · exact h1
  · exact h2
/-- A variable with a segmented cache whose rows lie in none of two variables. -/
def KN (q : Nat) (w : World) (p : Nat) (f s : Int) (t : St) : Prop :=
  ∃ B n d C m e, Kb w p f s (.slice B n d) (.slice C m e) ∧ t.1.length = n ∧ t.2.length = m ∧ Ints w B d t.1 ∧ Ints w C e t.2 ∧ Fr q B t.1 ∧ Fr q C t.2
/-- A slice whose row lies in none of two variables. -/
def SL (q : Nat) (w : World) (v : Value) (L : List Int) : Prop := ∃ E n k, v = .slice E n k ∧ L.length = n ∧ Ints w E k L ∧ Fr q E L
section
variable {q : Nat} {w w' : World} {p v : Nat} {f s : Int} {t : St} {x : Value} {L : List Int}
theorem KN.below (k : KN q w p f s t) (hb : Below w.heap.size w w') : KN q w' p f s t := by
  obtain ⟨B, n, d, C, m, e, k1, k2, k3, k4, k5, k6, k7⟩ := k
  exact ⟨B, n, d, C, m, e, k1.below hb, k2, k3, k4.below hb, k5.below hb, k6, k7⟩
theorem KN.set4 (k : KN q w p f s t) (hp : p ≠ v) (hv : v = q ∨ v = q + 1) (a b c d : Value) : KN q (set4 w v a b c d) p f s t := by
  obtain ⟨B, n, d', C, m, e, k1, k2, k3, k4, k5, k6, k7⟩ := k
  exact ⟨B, n, d', C, m, e, k1.other4 hp _ _ _ _, k2, k3, ints_set4 k4 (k6.ne hv) _ _ _ _, ints_set4 k5 (k7.ne hv) _ _ _ _, k6, k7⟩
theorem KN.zero (k : Kb w p 0 0 (.slice none 0 0) (.slice none 0 0)) : KN q w p 0 0 ([], []) :=
  ⟨none, 0, 0, none, 0, 0, k, rfl, rfl, Ints.none_ _, Ints.none_ _, fun h => absurd h (by simp), fun h => absurd h (by simp)⟩
theorem SL.below (k : SL q w x L) (hb : Below w.heap.size w w') : SL q w' x L := by
  obtain ⟨E, n, d, k1, k2, k3, k4⟩ := k
  exact ⟨E, n, d, k1, k2, k3.below hb, k4⟩
theorem SL.set4 (k : SL q w x L) (hv : v = q ∨ v = q + 1) (a b c d : Value) : SL q (set4 w v a b c d) x L := by
  obtain ⟨E, n, d', k1, k2, k3, k4⟩ := k
  exact ⟨E, n, d', k1, k2, ints_set4 k3 (k4.ne hv) _ _ _ _, k4⟩
theorem SL.zero (q : Nat) (w : World) : SL q w (.slice none 0 0) [] := ⟨none, 0, 0, rfl, rfl, Ints.none_ _, fun h => absurd h (by simp)⟩
theorem SL.own {base n c : Nat} {B : Option Addr} (h : OwnI w base (.slice B n c) L) (hb : q + 1 < base) : SL q w (.slice B n c) L :=
  ⟨B, n, c, rfl, (ints_own h).1.symm, (ints_own h).2, fr_own h hb⟩
end

/-- Behind the reference's part. -/
def CutK (f s : Int) (t : St) (key : Int) (xs : List Int) (q : Nat) (w4 : World) (s17 s18 s21 s22 s23 s24 : Value) (wx : World) : Prop :=
  s17 = .int .i64 (acE f s t key) ∧ s18 = .int .i64 (rnE f s t xs) ∧ s21 = .bool (acH f s t key) ∧ s22 = .int .i64 (rnH f s t xs) ∧ SL q wx s23 (acG f s t key) ∧ SL q wx s24 (kyL f s t) ∧
  KN q wx q (acR f s t key f) (acR f s t key s) (acT f s t key) ∧ KN q wx (q + 1) (rnR f s t xs f) (rnR f s t xs s) (rnT f s t xs) ∧ Below q w4 wx
section
variable {f s : Int} {t : St} {key : Int} {xs : List Int}
theorem ac_no (e : acE f s t key ≠ 0) : acH f s t key = false ∧ acG f s t key = [] ∧ (∀ r, acR f s t key r = 0) ∧ acT f s t key = ([], []) :=
  ⟨by unfold acH; rw [if_neg e], by unfold acG; rw [if_neg e], fun r => by unfold acR; rw [if_neg e], by unfold acT; rw [if_neg e]⟩
theorem rn_no (e : rnE f s t xs ≠ 0) : rnH f s t xs = 0 ∧ (∀ r, rnR f s t xs r = 0) ∧ rnT f s t xs = ([], []) :=
  ⟨by unfold rnH; rw [if_neg e], fun r => by unfold rnR; rw [if_neg e], by unfold rnT; rw [if_neg e]⟩
theorem bad_all (e : checkS f s t.1 t.2 ≠ 0) : acE f s t key = checkS f s t.1 t.2 ∧ rnE f s t xs = checkS f s t.1 t.2 ∧ kyL f s t = [] ∧ acE f s t key ≠ 0 ∧ rnE f s t xs ≠ 0 := by
  have e1 : acE f s t key = checkS f s t.1 t.2 := by unfold acE; rw [if_neg e]
  have e2 : rnE f s t xs = checkS f s t.1 t.2 := by unfold rnE; rw [if_neg e]
  exact ⟨e1, e2, by unfold kyL; rw [if_neg e], by rw [e1]; exact e, by rw [e2]; exact e⟩
theorem ac_bad (h0 : checkS f s t.1 t.2 = 0) (hk : ¬ isK key) : acE f s t key = 3 ∧ acE f s t key ≠ 0 := by
  have e : acE f s t key = 3 := by unfold acE; rw [if_pos h0, if_neg hk]
  exact ⟨e, by rw [e]; decide⟩
theorem ac_ok (h0 : checkS f s t.1 t.2 = 0) (hk : isK key) : acE f s t key = 0 ∧ acH f s t key = decide (isHit t key) ∧ acG f s t key = lost f s t key ∧ (∀ r, acR f s t key r = r) ∧ acT f s t key = tch f s t key := by
  have e : acE f s t key = 0 := by unfold acE; rw [if_pos h0, if_pos hk]
  exact ⟨e, by unfold acH; rw [if_pos e], by unfold acG; rw [if_pos e], fun r => by unfold acR; rw [if_pos e], by unfold acT; rw [if_pos e]⟩
theorem rn_ok (h0 : checkS f s t.1 t.2 = 0) (ht : traceE xs = 0) : rnE f s t xs = traceE xs ∧ rnH f s t xs = (hitsS f s t xs : Int) ∧ (∀ r, rnR f s t xs r = r) ∧ rnT f s t xs = runS f s t xs := by
  have e : rnE f s t xs = traceE xs := by unfold rnE; rw [if_pos h0]
  have n : rnE f s t xs = 0 := by rw [e]; exact ht
  exact ⟨e, by unfold rnH; rw [if_pos n], fun r => by unfold rnR; rw [if_pos n], by unfold rnT; rw [if_pos n]⟩
end
theorem sameHalls_eq (f s : Int) (A B A2 B2 : Option Addr) (c d c2 d2 n m n2 m2 : Nat) (N O : List Int) (w : World) (hn : N.length = n) (hm : O.length = m) (hn2 : N.length = n2) (hm2 : O.length = m2) (hN : Ints w A c N) (hO : Ints w B d O) (hM : Ints w A2 c2 N) (hP : Ints w B2 d2 O) :
    Calls Try.prog 16 #[kv f s (.slice A n c) (.slice B m d), kv f s (.slice A2 n2 c2) (.slice B2 m2 d2)] w fun e w' => e = .returned (.bool true) ∧ Below w.heap.size w w' := by
  have := sameHalls_any f s f s A B A2 B2 c d c2 d2 n m n2 m2 N O N O w hn hm hn2 hm2 hN hO hM hP
  rwa [decide_eq_true rfl] at this
theorem sameI_eq (A B : Option Addr) (c d n m : Nat) (L : List Int) (w : World) (hn : L.length = n) (hm : L.length = m) (hA : Ints w A c L) (hB : Ints w B d L) :
    Calls Try.prog 17 #[.slice A n c, .slice B m d] w fun e w' => e = .returned (.bool true) ∧ Below w.heap.size w w' := by
  have := sameI A B c d n m L L w hn hm hA hB
  rwa [decide_eq_true rfl] at this

set_option maxHeartbeats 20000000 in
theorem segmentSpec_walk (f s : Int) (A : Option Addr) (c : Nat) (N : List Int) (B : Option Addr) (d : Nat) (O : List Int) (key : Int) (A1 : Option Addr) (c1 : Nat) (xs : List Int) (w : World) (hN : Ints w A c N) (hO : Ints w B d O) (hJ : Ints w A1 c1 xs) :
    Calls Try.prog 3 #[kv f s (.slice A N.length c) (.slice B O.length d), .int .i64 key, .slice A1 xs.length c1] w fun e w' => e = .returned (.bool true) ∧ Below w.heap.size w w' := by
  have HJ := Lib.hid hJ
  have HN := Lib.hid hN
  have HO := Lib.hid hO
  have HA := Lib.hid (fun (W : World) (a : Ints W A c N) (b : Ints W B d O) => access_any f s A B c d N O key W a b)
  have HR := Lib.hid (fun (W : World) (a : Ints W A c N) (b : Ints W B d O) (j : Ints W A1 c1 xs) => run_any f s A B c d N O A1 c1 xs W a b j)
  have HKy := Lib.hid (fun (W : World) (a : Ints W A c N) (b : Ints W B d O) => keys_any f s A B c d N O W a b)
  have HCk := Lib.hid (fun (W : World) (a : Ints W A c N) (b : Ints W B d O) => check_any f s A B c d N O W a b)
  have HCr := Lib.hid (fun (W : World) (a : Ints W A c N) (b : Ints W B d O) => hallsCheck_any f s A B c d N O W a b)
  have HTc := Lib.hid (fun (W : World) (b : Ints W A1 c1 xs) => Kr.traceCheck_any A1 c1 xs W b)
  unfold AR at HA
  unfold NR at HR
  unfold KR at HKy
  clear hN hO hJ
  obtain ⟨n, hn⟩ : ∃ n, N.length = n := ⟨_, rfl⟩
  obtain ⟨m, hm⟩ : ∃ n, O.length = n := ⟨_, rfl⟩
  obtain ⟨ln, hln⟩ : ∃ n, xs.length = n := ⟨_, rfl⟩
  have Hn := Lib.hid hn
  have Hm := Lib.hid hm
  have HLN := Lib.hid hln
  simp only [hn, hm, hln] at HA HR HKy HCk HCr HTc ⊢
  clear hn hm hln
  have X0 := Lib.hid (Kb.new w f s (.slice A n c) (.slice B m d))
  have HB0 : Hid (Below w.heap.size w (w.alloc (ko f s (.slice A n c) (.slice B m d)))) := Lib.hid (bel_al (Below.refl _ _) (Nat.le_refl _) _)
  obtain ⟨tn1, htn1⟩ : ∃ n, (acT f s (N, O) key).1.length = n := ⟨_, rfl⟩
  obtain ⟨tm1, htm1⟩ : ∃ n, (acT f s (N, O) key).2.length = n := ⟨_, rfl⟩
  obtain ⟨gn1, hgn1⟩ : ∃ n, (acG f s (N, O) key).length = n := ⟨_, rfl⟩
  obtain ⟨tn2, htn2⟩ : ∃ n, (rnT f s (N, O) xs).1.length = n := ⟨_, rfl⟩
  obtain ⟨tm2, htm2⟩ : ∃ n, (rnT f s (N, O) xs).2.length = n := ⟨_, rfl⟩
  obtain ⟨kn, hkn⟩ : ∃ n, (kyL f s (N, O)).length = n := ⟨_, rfl⟩
  have Htn1 := Lib.hid htn1
  have Htm1 := Lib.hid htm1
  have Hgn1 := Lib.hid hgn1
  have Htn2 := Lib.hid htn2
  have Htm2 := Lib.hid htm2
  have Hkn := Lib.hid hkn
  simp only [htn1, htm1, hgn1] at HA
  simp only [htn2, htm2] at HR
  simp only [hkn] at HKy
  clear htn1 htm1 hgn1 htn2 htm2 hkn
  obtain ⟨x1, x2, x3, x4⟩ := X0.out.cells
  go_enter Try.func3, Try.ntmps3
  go_wp2_with fail
  refine (HA.out _ (HN.out.below HB0.out) (HO.out.below HB0.out)).mono ?_
  rintro e w1 ⟨B1, k1, C1, l1, E1, j1, rfl, hi1, hj1, he1, hb1⟩
  have X1 := Lib.hid ((X0.out.below hb1).alloc (ko (acR f s (N, O) key f) (acR f s (N, O) key s) (.slice B1 tn1 k1) (.slice C1 tm1 l1)))
  have P1 := Lib.hid (Kb.new w1 (acR f s (N, O) key f) (acR f s (N, O) key s) (.slice B1 tn1 k1) (.slice C1 tm1 l1))
  have PI1 := Lib.hid (And.intro ((ints_own hi1).2.alloc (ko (acR f s (N, O) key f) (acR f s (N, O) key s) (.slice B1 tn1 k1) (.slice C1 tm1 l1))) (And.intro ((ints_own hj1).2.alloc (ko (acR f s (N, O) key f) (acR f s (N, O) key s) (.slice B1 tn1 k1) (.slice C1 tm1 l1))) ((ints_own he1).2.alloc (ko (acR f s (N, O) key f) (acR f s (N, O) key s) (.slice B1 tn1 k1) (.slice C1 tm1 l1)))))
  have HB1 : Hid (Below w.heap.size w (w1.alloc (ko (acR f s (N, O) key f) (acR f s (N, O) key s) (.slice B1 tn1 k1) (.slice C1 tm1 l1)))) := Lib.hid (bel_al (HB0.out.trans (hb1.mono HB0.out.size)) (Nat.le_trans HB0.out.size hb1.size) _)
  clear hi1 hj1 he1 hb1 x1 x2 x3 x4
  obtain ⟨x1, x2, x3, x4⟩ := X1.out.cells
  go_wp2_with fail
  refine (HR.out _ (HN.out.below HB1.out) (HO.out.below HB1.out) (HJ.out.below HB1.out)).mono ?_
  rintro e w2 ⟨B2, k2, C2, l2, rfl, hi2, hj2, hb2⟩
  have X2 := Lib.hid ((X1.out.below hb2).alloc (ko (rnR f s (N, O) xs f) (rnR f s (N, O) xs s) (.slice B2 tn2 k2) (.slice C2 tm2 l2)))
  have P2 := Lib.hid ((P1.out.below hb2).alloc (ko (rnR f s (N, O) xs f) (rnR f s (N, O) xs s) (.slice B2 tn2 k2) (.slice C2 tm2 l2)))
  have PI2 := Lib.hid (And.intro ((PI1.out.1.below hb2).alloc (ko (rnR f s (N, O) xs f) (rnR f s (N, O) xs s) (.slice B2 tn2 k2) (.slice C2 tm2 l2))) (And.intro ((PI1.out.2.1.below hb2).alloc (ko (rnR f s (N, O) xs f) (rnR f s (N, O) xs s) (.slice B2 tn2 k2) (.slice C2 tm2 l2))) ((PI1.out.2.2.below hb2).alloc (ko (rnR f s (N, O) xs f) (rnR f s (N, O) xs s) (.slice B2 tn2 k2) (.slice C2 tm2 l2)))))
  have U2 := Lib.hid (Kb.new w2 (rnR f s (N, O) xs f) (rnR f s (N, O) xs s) (.slice B2 tn2 k2) (.slice C2 tm2 l2))
  have UI2 := Lib.hid (And.intro ((ints_own hi2).2.alloc (ko (rnR f s (N, O) xs f) (rnR f s (N, O) xs s) (.slice B2 tn2 k2) (.slice C2 tm2 l2))) ((ints_own hj2).2.alloc (ko (rnR f s (N, O) xs f) (rnR f s (N, O) xs s) (.slice B2 tn2 k2) (.slice C2 tm2 l2))))
  have HB2 : Hid (Below w.heap.size w (w2.alloc (ko (rnR f s (N, O) xs f) (rnR f s (N, O) xs s) (.slice B2 tn2 k2) (.slice C2 tm2 l2)))) := Lib.hid (bel_al (HB1.out.trans (hb2.mono HB1.out.size)) (Nat.le_trans HB1.out.size hb2.size) _)
  clear hi2 hj2 hb2 x1 x2 x3 x4
  obtain ⟨x1, x2, x3, x4⟩ := X2.out.cells
  go_wp2_with fail
  refine (HKy.out _ (HN.out.below HB2.out) (HO.out.below HB2.out)).mono ?_
  rintro e w3 ⟨E3, k3, rfl, hk3, hb3⟩
  have X3 := Lib.hid (X2.out.below hb3)
  have P3 := Lib.hid (P2.out.below hb3)
  have PI3 := Lib.hid (And.intro (PI2.out.1.below hb3) (And.intro (PI2.out.2.1.below hb3) (PI2.out.2.2.below hb3)))
  have U3 := Lib.hid (U2.out.below hb3)
  have UI3 := Lib.hid (And.intro (UI2.out.1.below hb3) (UI2.out.2.below hb3))
  have K3 := Lib.hid (ints_own hk3).2
  have HB3 : Hid (Below w.heap.size w w3) := Lib.hid (HB2.out.trans (hb3.mono HB2.out.size))
  clear hk3 hb3 x1 x2 x3 x4
  obtain ⟨x1, x2, x3, x4⟩ := X3.out.cells
  go_wp2_with fail
  refine (HCr.out _ (HN.out.below HB3.out) (HO.out.below HB3.out)).mono ?_
  rintro e w4 ⟨rfl, hb4⟩
  have X4 := Lib.hid (X3.out.below hb4)
  have P4 := Lib.hid (P3.out.below hb4)
  have PI4 := Lib.hid (And.intro (PI3.out.1.below hb4) (And.intro (PI3.out.2.1.below hb4) (PI3.out.2.2.below hb4)))
  have U4 := Lib.hid (U3.out.below hb4)
  have UI4 := Lib.hid (And.intro (UI3.out.1.below hb4) (UI3.out.2.below hb4))
  have K4 := Lib.hid (K3.out.below hb4)
  have HB4 : Hid (Below w.heap.size w w4) := Lib.hid (HB3.out.trans (hb4.mono HB3.out.size))
  clear hb4 x1 x2 x3 x4 X1 X2 X3 P1 P2 P3 PI1 PI2 PI3 U2 U3 UI2 UI3 K3 HB1 HB2 HB3
  generalize w1.heap.size = p1 at *
  generalize w2.heap.size = p2 at *
  have HZZ : Hid (Kb ((w4.alloc zk).alloc zk) w4.heap.size 0 0 (.slice none 0 0) (.slice none 0 0) ∧ Kb ((w4.alloc zk).alloc zk) (w4.heap.size + 1) 0 0 (.slice none 0 0) (.slice none 0 0) ∧ Below w4.heap.size w4 ((w4.alloc zk).alloc zk)) := Lib.hid (box2 w4 0 0 (.slice none 0 0) (.slice none 0 0))
  go_upto_if 50 with fail
  generalize ((w4.alloc zk).alloc zk) = w5 at *
  generalize hq : w4.heap.size = q at *
  have HQ := Lib.hid hq
  clear hq
  go_cut [17, 18, 21, 22, 23, 24] (fun s17 s18 s21 s22 s23 s24 wx => CutK f s (N, O) key xs q w4 s17 s18 s21 s22 s23 s24 wx)
  case first =>
    as_aux_lemma =>
      by_cases h0 : checkS f s N O = 0
      · have H0 := Lib.hid h0
        have HG := Lib.hid (check_zero.1 h0)
        have qc : (checkS f s N O == 0) = true := by simpa using h0
        have hb5' : Below w4.heap.size w4 w5 := by rw [HQ.out]; exact HZZ.out.2.2
        have X5 := Lib.hid (X4.out.below hb5')
        have HB5 : Hid (Below w.heap.size w w5) := Lib.hid (HB4.out.trans (hb5'.mono HB4.out.size))
        have HQ4 : Hid (w.heap.size < q) := Lib.hid (by rw [← HQ.out]; exact X4.out.lt)
        have HAn : Hid (0 < N.length → ∀ a, A = some a → a.block ≠ q ∧ a.block ≠ q + 1) := Lib.hid (fun h1 a ha => by
          have := ints_lt HN.out h1 a ha; have := HQ4.out; exact ⟨by omega, by omega⟩)
        have HAo : Hid (0 < O.length → ∀ a, B = some a → a.block ≠ q ∧ a.block ≠ q + 1) := Lib.hid (fun h1 a ha => by
          have := ints_lt HO.out h1 a ha; have := HQ4.out; exact ⟨by omega, by omega⟩)
        clear h0 hb5' HA HR HKy HCk HCr P4 PI4 U4 UI4 K4
        obtain ⟨bk, hbk⟩ : ∃ bk : Bool, bk = !decide (isK key) := ⟨_, rfl⟩
        have HBk := Lib.hid hbk
        clear hbk
        go_upto_region 10 with fail
        go_cut [56] (fun s56 wx => s56 = .bool bk ∧ w5 = wx)
        case first =>
          as_aux_lemma =>
            by_cases h1 : key < 0
            · have d1 : decide (key < 0) = true := by simpa using h1
              have HE : Hid (true = bk) := Lib.hid (by rw [HBk.out, decide_eq_false (fun h : isK key => by have := h.1; omega)]; rfl)
              clear h1
              go_wp2
              go_meet
              exact ⟨by rw [HE.out], rfl⟩
            · have d1 : decide (key < 0) = false := by simpa using h1
              have HE : Hid (decide (1048576 < key) = bk) := Lib.hid (by
                rw [HBk.out]
                by_cases h : 1048576 < key
                · rw [decide_eq_true h, decide_eq_false (fun h2 : isK key => by have := h2.2; omega)]; rfl
                · rw [decide_eq_false h, decide_eq_true (show isK key from ⟨by omega, by omega⟩)]; rfl)
              clear h1
              go_wp2
              go_meet
              exact ⟨by rw [HE.out], rfl⟩
        case rest =>
          as_aux_lemma =>
            obtain ⟨rfl, rfl⟩ := hcut
            go_upto_if 56 with fail
            go_cut [17, 21, 23] (fun s17 s21 s23 wx => s17 = .int .i64 (acE f s (N, O) key) ∧ s21 = .bool (acH f s (N, O) key) ∧ SL q wx s23 (acG f s (N, O) key) ∧ KN q wx q (acR f s (N, O) key f) (acR f s (N, O) key s) (acT f s (N, O) key) ∧ Kb wx (q + 1) 0 0 (.slice none 0 0) (.slice none 0 0) ∧ Below q w4 wx)
            case first =>
              as_aux_lemma =>
                by_cases hk : isK key
                · have d1 : bk = false := by rw [HBk.out]; simpa using hk
                  subst d1
                  have HE := Lib.hid (ac_ok (t := (N, O)) H0.out hk)
                  have HTr := Lib.hid (touchRef_any f s A B c d n m N O key w5 Hn.out Hm.out (HN.out.below HB5.out) (HO.out.below HB5.out) HG.out hk)
                  unfold TR at HTr
                  clear hk
                  obtain ⟨T, hT⟩ : ∃ T, tch f s (N, O) key = T := ⟨_, rfl⟩
                  obtain ⟨G, hG⟩ : ∃ T, lost f s (N, O) key = T := ⟨_, rfl⟩
                  obtain ⟨hb, hhb⟩ : ∃ T, decide (isHit (N, O) key) = T := ⟨_, rfl⟩
                  rw [hT, hG, hhb] at HTr HE
                  clear hT hG hhb
                  obtain ⟨T1, T2⟩ := T
                  dsimp only at HTr
                  have HQz : Hid (q + 1 < w5.heap.size) := Lib.hid HZZ.out.2.1.lt
                  obtain ⟨x1, x2, x3, x4⟩ := X5.out.cells
                  go_wp2_with fail
                  refine HTr.out.mono ?_
                  rintro e w6 ⟨A6, c6, n6, B6, d6, m6, E6, k6, j6, rfl, hi6, hj6, he6, hb6⟩
                  have hz := HZZ.out.1.below hb6
                  have HK6 := Lib.hid (hz.put4 f s (.slice A6 n6 c6) (.slice B6 m6 d6))
                  have HI6 := Lib.hid (own_set4 hi6 (hz.own hi6) (.int .i64 f) (.int .i64 s) (.slice A6 n6 c6) (.slice B6 m6 d6))
                  have HJ6 := Lib.hid (own_set4 hj6 (hz.own hj6) (.int .i64 f) (.int .i64 s) (.slice A6 n6 c6) (.slice B6 m6 d6))
                  have HE6 := Lib.hid (SL.own (q := q) (own_set4 he6 (hz.own he6) (.int .i64 f) (.int .i64 s) (.slice A6 n6 c6) (.slice B6 m6 d6)) HQz.out)
                  have HY6 := Lib.hid ((HZZ.out.2.1.below hb6).other4 (q := q) (by omega) (.int .i64 f) (.int .i64 s) (.slice A6 n6 c6) (.slice B6 m6 d6))
                  have HB6 := Lib.hid (bel_set4 (HZZ.out.2.2.trans (hb6.mono (by have := HQz.out; omega))) (p := q) (Nat.le_refl _) (.int .i64 f) (.int .i64 s) (.slice A6 n6 c6) (.slice B6 m6 d6))
                  have HKN : Hid (KN q (set4 w6 q (.int .i64 f) (.int .i64 s) (.slice A6 n6 c6) (.slice B6 m6 d6)) q f s (T1, T2)) := Lib.hid ⟨A6, n6, c6, B6, m6, d6, HK6.out, (ints_own HI6.out).1.symm, (ints_own HJ6.out).1.symm, (ints_own HI6.out).2, (ints_own HJ6.out).2, fr_own HI6.out HQz.out, fr_own HJ6.out HQz.out⟩
                  obtain ⟨z1, z2, z3, z4⟩ := hz.cells
                  obtain ⟨u1, u2, u3, u4⟩ := hz.free
                  clear hz hi6 hj6 he6 hb6 x1 x2 x3 x4 HI6 HJ6 HK6
                  go_wp2
                  go_meet
                  obtain ⟨e1, e2, e3, e4, e6⟩ := HE.out
                  exact ⟨by rw [e1, H0.out], by rw [e2], by rw [e3]; exact HE6.out, by rw [e4, e4, e6]; exact HKN.out, HY6.out, HB6.out⟩
                · have hb := ac_bad (t := (N, O)) H0.out hk
                  have HE := Lib.hid (And.intro hb.1 (ac_no hb.2))
                  have d1 : bk = true := by rw [HBk.out]; simpa using hk
                  subst d1
                  clear hk hb
                  go_wp2
                  go_meet
                  obtain ⟨e1, e2, e3, e4, e6⟩ := HE.out
                  exact ⟨by rw [e1], by rw [e2], by rw [e3]; exact SL.zero _ _, by rw [e4, e4, e6]; exact KN.zero HZZ.out.1, HZZ.out.2.1, HZZ.out.2.2⟩
            case rest =>
              as_aux_lemma =>
                obtain ⟨rfl, rfl, ⟨Es, ns, ks, rfl, sl1, sl2, sl3⟩, hX6, hz1, hb6⟩ := hcut
                have S6 : Hid (SL q wc (.slice Es ns ks) (acG f s (N, O) key)) := Lib.hid ⟨Es, ns, ks, rfl, sl1, sl2, sl3⟩
                have E6 := Lib.hid hX6
                have HZ6 := Lib.hid hz1
                have HBq6 := Lib.hid hb6
                have hb6' : Below w4.heap.size w4 wc := by rw [HQ.out]; exact hb6
                have X6 := Lib.hid (X4.out.below hb6')
                have HB6 : Hid (Below w.heap.size w wc) := Lib.hid (HB4.out.trans (hb6'.mono HB4.out.size))
                clear sl1 sl2 sl3 hX6 hz1 hb6 hb6'
                generalize wc = w6 at *
                go_wp2_with fail
                refine (HTc.out w6 (HJ.out.below HB6.out)).mono ?_
                rintro e w' ⟨rfl, rfl⟩
                go_upto_if 67 with fail
                go_cut [22] (fun s22 wx => s22 = .int .i64 (rnH f s (N, O) xs) ∧ SL q wx (.slice Es ns ks) (acG f s (N, O) key) ∧ KN q wx q (acR f s (N, O) key f) (acR f s (N, O) key s) (acT f s (N, O) key) ∧ KN q wx (q + 1) (rnR f s (N, O) xs f) (rnR f s (N, O) xs s) (rnT f s (N, O) xs) ∧ Below q w4 wx)
                case first =>
                  as_aux_lemma =>
                    by_cases ht : traceE xs = 0
                    · have d1 : (traceE xs == 0) = true := by simpa using ht
                      have HE := Lib.hid (rn_ok (t := (N, O)) H0.out ht)
                      have HT := Lib.hid (trace_zero.1 ht)
                      have HRr := Lib.hid (runRef_any f s A B c d n m N O A1 c1 ln xs w6 Hn.out Hm.out HLN.out (HN.out.below HB6.out) (HO.out.below HB6.out) (HJ.out.below HB6.out) HG.out HT.out.2 (by rw [← HLN.out]; exact HT.out.1))
                      clear ht
                      obtain ⟨T, hT⟩ : ∃ T, runS f s (N, O) xs = T := ⟨_, rfl⟩
                      rw [hT] at HRr HE
                      clear hT
                      obtain ⟨T1, T2⟩ := T
                      dsimp only at HRr
                      have HQz : Hid (q + 1 < w6.heap.size) := Lib.hid HZ6.out.lt
                      obtain ⟨x1, x2, x3, x4⟩ := X6.out.cells
                      go_wp2_with fail
                      refine HRr.out.mono ?_
                      rintro e w7 ⟨A7, c7, n7, B7, d7, m7, rfl, hn7, hm7, hi7, hj7, hw7, hv7, hb7⟩
                      have hz := HZ6.out.below hb7
                      have hf7 := fr_wh hw7 HQz.out HAn.out
                      have hg7 := fr_wh hv7 HQz.out HAo.out
                      have HK7 := Lib.hid (hz.put4 f s (.slice A7 n7 c7) (.slice B7 m7 d7))
                      have HKN : Hid (KN q (set4 w7 (q + 1) (.int .i64 f) (.int .i64 s) (.slice A7 n7 c7) (.slice B7 m7 d7)) (q + 1) f s (T1, T2)) := Lib.hid ⟨A7, n7, c7, B7, m7, d7, HK7.out, hn7, hm7, ints_set4 hi7 (hf7.ne (.inr rfl)) _ _ _ _, ints_set4 hj7 (hg7.ne (.inr rfl)) _ _ _ _, hf7, hg7⟩
                      have HE7 := Lib.hid ((E6.out.below hb7).set4 (v := q + 1) (by omega) (.inr rfl) (.int .i64 f) (.int .i64 s) (.slice A7 n7 c7) (.slice B7 m7 d7))
                      have HS7 := Lib.hid ((S6.out.below hb7).set4 (v := q + 1) (.inr rfl) (.int .i64 f) (.int .i64 s) (.slice A7 n7 c7) (.slice B7 m7 d7))
                      have HB7 := Lib.hid (bel_set4 (HBq6.out.trans (hb7.mono (by have := HQz.out; omega))) (p := q + 1) (by omega) (.int .i64 f) (.int .i64 s) (.slice A7 n7 c7) (.slice B7 m7 d7))
                      obtain ⟨z1, z2, z3, z4⟩ := hz.cells
                      obtain ⟨u1, u2, u3, u4⟩ := hz.free
                      clear hz hn7 hm7 hi7 hj7 hw7 hv7 hb7 hf7 hg7 HK7 x1 x2 x3 x4
                      go_wp2
                      go_meet
                      obtain ⟨e1, e2, e3, e5⟩ := HE.out
                      exact ⟨by rw [e2], HS7.out, HE7.out, by rw [e3, e3, e5]; exact HKN.out, HB7.out⟩
                    · have d1 : (traceE xs == 0) = false := by simpa using ht
                      have hE : rnE f s (N, O) xs ≠ 0 := by unfold rnE; rw [if_pos H0.out]; exact ht
                      have HE := Lib.hid (rn_no hE)
                      clear ht hE
                      go_wp2
                      go_meet
                      obtain ⟨e2, e3, e5⟩ := HE.out
                      exact ⟨by rw [e2], S6.out, E6.out, by rw [e3, e3, e5]; exact KN.zero HZ6.out, HBq6.out⟩
                case rest =>
                  as_aux_lemma =>
                    obtain ⟨rfl, hs7, hE7, hR7, hb7⟩ := hcut
                    have S7 := Lib.hid hs7
                    have E7 := Lib.hid hE7
                    have R7 := Lib.hid hR7
                    have HBq7 := Lib.hid hb7
                    have hb7' : Below w4.heap.size w4 wc := by rw [HQ.out]; exact hb7
                    have X7 := Lib.hid (X4.out.below hb7')
                    have HB7 : Hid (Below w.heap.size w wc) := Lib.hid (HB4.out.trans (hb7'.mono HB4.out.size))
                    have HEr : Hid (rnE f s (N, O) xs = traceE xs) := Lib.hid (by unfold rnE; rw [if_pos H0.out])
                    have HKl : Hid (kyL f s (N, O) = ([] ++ N) ++ O) := Lib.hid (by unfold kyL; rw [if_pos H0.out]; rfl)
                    have HQz : Hid (q + 1 < wc.heap.size) := Lib.hid (by
                      obtain ⟨_, _, _, _, _, _, k1, -⟩ := R7.out
                      exact k1.lt)
                    clear hs7 hE7 hR7 hb7 hb7'
                    generalize wc = w7 at *
                    have HL1 : Hid (([] : List Int).length + n ≤ 17592186044416) := Lib.hid (by have := HG.out.lenN; have := Hn.out; simp; omega)
                    have HL2 : Hid (([] ++ N : List Int).length + m ≤ 17592186044416) := Lib.hid (by have := HG.out.lenN; have := HG.out.lenO; have := Hn.out; have := Hm.out; simp; omega)
                    have HK5 : Hid (∀ w' : World, Below w7.heap.size w7 w' → w'.cell? ⟨w.heap.size, 2, none⟩ = some (.slice A n c) ∧ w'.cell? ⟨w.heap.size, 3, none⟩ = some (.slice B m d)) := Lib.hid (fun w' hb => by
                      obtain ⟨-, -, a, b⟩ := (X7.out.below hb).cells
                      exact ⟨a, b⟩)
                    have HJ5 : Hid (∀ w' : World, Below w7.heap.size w7 w' → Ints w' A c N ∧ Ints w' B d O) := Lib.hid (fun w' hb => ⟨(HN.out.below HB7.out).below hb, (HO.out.below HB7.out).below hb⟩)
                    obtain ⟨lk, hlk⟩ : ∃ q, (([] ++ N) ++ O).length = q := ⟨_, rfl⟩
                    have HME := Lib.hid hlk
                    clear hlk
                    have HOA := Lib.hid (own_empty w7)
                    have HBA := Lib.hid (bel_empty w7)
                    go_wp2
                    go_region_held3 (fun w' => w'.cell? ⟨w.heap.size, 2, none⟩ = some (.slice A n c) ∧ w'.cell? ⟨w.heap.size, 3, none⟩ = some (.slice B m d))
                      (first | exact HK5.out _ hBb | exact HK5.out _ hBa | exact HK5.out _ HBA.out | exact HK5.out _ (Below.refl _ _).drew)
                      (first
                        | ((with_reducible refine at_world (w7.alloc (.cells #[] 3)).drew ?_); refine step_append_ints (by rfl) _ _ (by rfl) w7.heap.size _ [] (by rfl) HOA.out A c n N Hn.out.symm (by rfl) (HJ5.out _ HBA.out).1 HL1.out HBA.out.size ?_; intro va wa hown6 hg6; have hBa := HBA.out.grown hg6 HBA.out.size (fun q hq => (HOA.out.lt q hq).1))
                        | ((with_reducible refine at_world wa ?_); refine step_append_ints (by rfl) _ _ (by rfl) w7.heap.size _ ([] ++ N) (by rfl) hown6 B d m O Hm.out.symm (by rfl) (HJ5.out _ hBa).2 HL2.out hBa.size ?_; intro vb wb hown7 hg7; have hBb := hBa.grown hg7 hBa.size (fun q hq => (hown6.lt q hq).1); obtain ⟨Bb, kb, rfl, -⟩ := ints_of_own hown7; rw [HME.out] at hown7; rw [HME.out]))
                    rename_i hHH
                    have HF : Hid (SL q wb (.slice Bb lk kb) (kyL f s (N, O)) ∧ SL q wb (.slice Es ns ks) (acG f s (N, O) key) ∧ KN q wb q (acR f s (N, O) key f) (acR f s (N, O) key s) (acT f s (N, O) key) ∧ KN q wb (q + 1) (rnR f s (N, O) xs f) (rnR f s (N, O) xs s) (rnT f s (N, O) xs) ∧ Below q w4 wb) := Lib.hid ⟨by rw [HKl.out]; exact SL.own hown7 HQz.out, S7.out.below hBb, E7.out.below hBb, R7.out.below hBb, HBq7.out.trans (hBb.mono (by have := HQz.out; omega))⟩
                    clear hHH hBa hBb hown6 hown7 hg6 hg7
                    go_wp2
                    go_meet
                    exact ⟨rfl, by rw [HEr.out], rfl, rfl, HF.out.2.1, HF.out.1, HF.out.2.2⟩
      · obtain ⟨e1, e2, e3, e4, e5⟩ := bad_all (t := (N, O)) (key := key) (xs := xs) h0
        have HE := Lib.hid (And.intro e1 (And.intro e2 (And.intro e3 (And.intro (ac_no e4) (rn_no e5)))))
        have qc : (checkS f s N O == 0) = false := by simpa using h0
        clear h0 e1 e2 e3 e4 e5
        go_wp2
        go_meet
        obtain ⟨e1, e2, e3, ⟨e4, e5, e6, e7⟩, e8, e9, e10⟩ := HE.out
        refine ⟨by rw [e1], by rw [e2], by rw [e4], by rw [e8], by rw [e5]; exact SL.zero _ _, by rw [e3]; exact SL.zero _ _, ?_, ?_, HZZ.out.2.2⟩
        · rw [e6, e6, e7]; exact KN.zero HZZ.out.1
        · rw [e9, e9, e10]; exact KN.zero HZZ.out.2.1
  case rest =>
    as_aux_lemma =>
      obtain ⟨rfl, rfl, rfl, rfl, ⟨Es, ns, ks, rfl, sl1, sl2, -⟩, ⟨Ek, nk', kk, rfl, kl1, kl2, -⟩, ⟨Ba, na, da, Ca, ma, la, ka, fa1, fa2, fa3, fa4, -, -⟩, ⟨Bb, nb, db, Cb, mb, lb, kb, fb1, fb2, fb3, fb4, -, -⟩, hb⟩ := hcut
      have hb' : Below w4.heap.size w4 wc := by rw [HQ.out]; exact hb
      have X6 := Lib.hid (X4.out.below hb')
      have P6 := Lib.hid (P4.out.below hb')
      have PI6 := Lib.hid (And.intro (PI4.out.1.below hb') (And.intro (PI4.out.2.1.below hb') (PI4.out.2.2.below hb')))
      have U6 := Lib.hid (U4.out.below hb')
      have UI6 := Lib.hid (And.intro (UI4.out.1.below hb') (UI4.out.2.below hb'))
      have K6 := Lib.hid (K4.out.below hb')
      have T6 := Lib.hid ka
      have TI6 := Lib.hid (And.intro fa3 fa4)
      have R6 := Lib.hid kb
      have RI6 := Lib.hid (And.intro fb3 fb4)
      have G6 := Lib.hid sl2
      have L6 := Lib.hid kl2
      have Hna := Lib.hid fa1
      have Hma := Lib.hid fa2
      have Hnb := Lib.hid fb1
      have Hmb := Lib.hid fb2
      have Hns := Lib.hid sl1
      have Hnk := Lib.hid kl1
      have HB6 : Hid (Below w.heap.size w wc) := Lib.hid (HB4.out.trans (hb'.mono HB4.out.size))
      clear ka fa1 fa2 fa3 fa4 kb fb1 fb2 fb3 fb4 hb hb' sl1 sl2 kl1 kl2
      go_wp2_with fail
      refine (begun_any _).mono ?_
      rintro e w7 ⟨rfl, hb7⟩
      have X7 := Lib.hid (X6.out.below hb7)
      have P7 := Lib.hid (P6.out.below hb7)
      have PI7 := Lib.hid (And.intro (PI6.out.1.below hb7) (And.intro (PI6.out.2.1.below hb7) (PI6.out.2.2.below hb7)))
      have U7 := Lib.hid (U6.out.below hb7)
      have UI7 := Lib.hid (And.intro (UI6.out.1.below hb7) (UI6.out.2.below hb7))
      have K7 := Lib.hid (K6.out.below hb7)
      have T7 := Lib.hid (T6.out.below hb7)
      have TI7 := Lib.hid (And.intro (TI6.out.1.below hb7) (TI6.out.2.below hb7))
      have R7 := Lib.hid (R6.out.below hb7)
      have RI7 := Lib.hid (And.intro (RI6.out.1.below hb7) (RI6.out.2.below hb7))
      have G7 := Lib.hid (G6.out.below hb7)
      have L7 := Lib.hid (L6.out.below hb7)
      have HB7 : Hid (Below w.heap.size w w7) := Lib.hid (HB6.out.trans (hb7.mono HB6.out.size))
      clear hb7 X6 P6 PI6 U6 UI6 K6 T6 TI6 R6 RI6 G6 L6 HB6
      obtain ⟨x1, x2, x3, x4⟩ := X7.out.cells
      go_wp2_with fail
      refine (HCk.out _ (HN.out.below HB7.out) (HO.out.below HB7.out)).mono ?_
      rintro e w8 ⟨rfl, hb8⟩
      have P8 := Lib.hid (P7.out.below hb8)
      have PI8 := Lib.hid (And.intro (PI7.out.1.below hb8) (And.intro (PI7.out.2.1.below hb8) (PI7.out.2.2.below hb8)))
      have U8 := Lib.hid (U7.out.below hb8)
      have UI8 := Lib.hid (And.intro (UI7.out.1.below hb8) (UI7.out.2.below hb8))
      have K8 := Lib.hid (K7.out.below hb8)
      have T8 := Lib.hid (T7.out.below hb8)
      have TI8 := Lib.hid (And.intro (TI7.out.1.below hb8) (TI7.out.2.below hb8))
      have R8 := Lib.hid (R7.out.below hb8)
      have RI8 := Lib.hid (And.intro (RI7.out.1.below hb8) (RI7.out.2.below hb8))
      have G8 := Lib.hid (G7.out.below hb8)
      have L8 := Lib.hid (L7.out.below hb8)
      have HB8 : Hid (Below w.heap.size w w8) := Lib.hid (HB7.out.trans (hb8.mono HB7.out.size))
      clear hb8 X7 P7 PI7 U7 UI7 K7 T7 TI7 R7 RI7 G7 L7 HB7 x1 x2 x3 x4
      obtain ⟨x1, x2, x3, x4⟩ := P8.out.cells
      obtain ⟨y1, y2, y3, y4⟩ := T8.out.cells
      go_wp2_with fail
      refine (sameHalls_eq _ _ B1 C1 Ba Ca k1 l1 da la tn1 tm1 na ma _ _ w8 Htn1.out Htm1.out Hna.out Hma.out PI8.out.1 PI8.out.2.1 TI8.out.1 TI8.out.2).mono ?_
      rintro e w9 ⟨rfl, hb9⟩
      have PE9 := Lib.hid (PI8.out.2.2.below hb9)
      have U9 := Lib.hid (U8.out.below hb9)
      have UI9 := Lib.hid (And.intro (UI8.out.1.below hb9) (UI8.out.2.below hb9))
      have K9 := Lib.hid (K8.out.below hb9)
      have R9 := Lib.hid (R8.out.below hb9)
      have RI9 := Lib.hid (And.intro (RI8.out.1.below hb9) (RI8.out.2.below hb9))
      have G9 := Lib.hid (G8.out.below hb9)
      have L9 := Lib.hid (L8.out.below hb9)
      have HB9 : Hid (Below w.heap.size w w9) := Lib.hid (HB8.out.trans (hb9.mono HB8.out.size))
      clear hb9 P8 PI8 U8 UI8 K8 T8 TI8 R8 RI8 G8 L8 HB8 x1 x2 x3 x4 y1 y2 y3 y4
      have dh : (acH f s (N, O) key == acH f s (N, O) key) = true := by simp
      go_wp2_with fail
      refine (sameI_eq E1 Es j1 ks gn1 ns _ w9 Hgn1.out Hns.out PE9.out G9.out).mono ?_
      rintro e w10 ⟨rfl, hb10⟩
      have U10 := Lib.hid (U9.out.below hb10)
      have UI10 := Lib.hid (And.intro (UI9.out.1.below hb10) (UI9.out.2.below hb10))
      have K10 := Lib.hid (K9.out.below hb10)
      have R10 := Lib.hid (R9.out.below hb10)
      have RI10 := Lib.hid (And.intro (RI9.out.1.below hb10) (RI9.out.2.below hb10))
      have L10 := Lib.hid (L9.out.below hb10)
      have HB10 : Hid (Below w.heap.size w w10) := Lib.hid (HB9.out.trans (hb10.mono HB9.out.size))
      clear hb10 PE9 U9 UI9 K9 R9 RI9 G9 L9 HB9
      obtain ⟨x1, x2, x3, x4⟩ := U10.out.cells
      obtain ⟨y1, y2, y3, y4⟩ := R10.out.cells
      go_wp2_with fail
      refine (sameHalls_eq _ _ B2 C2 Bb Cb k2 l2 db lb tn2 tm2 nb mb _ _ w10 Htn2.out Htm2.out Hnb.out Hmb.out UI10.out.1 UI10.out.2 RI10.out.1 RI10.out.2).mono ?_
      rintro e w11 ⟨rfl, hb11⟩
      have K11 := Lib.hid (K10.out.below hb11)
      have L11 := Lib.hid (L10.out.below hb11)
      have HB11 : Hid (Below w.heap.size w w11) := Lib.hid (HB10.out.trans (hb11.mono HB10.out.size))
      clear hb11 U10 UI10 K10 R10 RI10 L10 HB10 x1 x2 x3 x4 y1 y2 y3 y4
      go_wp2_with fail
      refine (sameI_eq E3 Ek k3 kk kn nk' _ w11 Hkn.out Hnk.out K11.out L11.out).mono ?_
      rintro e w12 ⟨rfl, hb12⟩
      have HB12 : Hid (Below w.heap.size w w12) := Lib.hid (HB11.out.trans (hb12.mono HB11.out.size))
      clear hb12 K11 L11 HB11
      go_wp2
      go_ret
      exact ⟨rfl, HB12.out⟩

end Go.Proofs.Ytpjgfehhhgcjnaa.Seg
