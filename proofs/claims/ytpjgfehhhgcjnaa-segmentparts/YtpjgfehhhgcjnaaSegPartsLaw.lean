/-
  The walk of the law on a trace in two parts, for segmented caches.
-/
import Derived.Test.YtpjgfehhhgcjnaaSegInts
import Derived.Test.YtpjgfehhhgcjnaaSegFacts
import Derived.Deep.DeepCutAuto
namespace Go.Proofs.Ytpjgfehhhgcjnaa.Seg
open Go.RowKit Go.Maps
open Lru (isRm isK keysE keysE_zero traceE trace_zero touch)
set_option linter.unusedVariables false
set_option maxRecDepth 100000

abbrev Zk (w : World) (p : Nat) : Prop := Kb w p 0 0 (.slice none 0 0) (.slice none 0 0)
section
variable (w : World)
theorem zk_new : Zk (w.alloc zk) w.heap.size := Kb.new w 0 0 _ _
theorem mk_ownA : OwnI (w.alloc (.cells #[] 3)).drew w.heap.size (.slice (some ⟨w.heap.size, 0, none⟩) 0 0) [] := own_bel (own_made w _ (Nat.le_refl _)) (Below.refl _ _).drew
theorem mk_ownB : OwnI ((w.alloc (.cells #[] 3)).alloc zk).drew w.heap.size (.slice (some ⟨w.heap.size, 0, none⟩) 0 0) [] := own_bel (own_made w _ (Nat.le_refl _)) (bel_al (Below.refl _ _) (Nat.le_refl _) _).drew
theorem mk_ownC : OwnI ((w.alloc zk).alloc (.cells #[] 3)).drew w.heap.size (.slice (some ⟨w.heap.size + 1, 0, none⟩) 0 0) [] := by
  have h := own_made (w.alloc zk) w.heap.size (by simp)
  rw [show (w.alloc zk).heap.size = w.heap.size + 1 by simp] at h
  exact own_bel h (Below.refl _ _).drew
theorem mk_zB : Zk ((w.alloc (.cells #[] 3)).alloc zk).drew (w.heap.size + 1) := by
  have h := zk_new (w.alloc (.cells #[] 3))
  rw [show (w.alloc (.cells #[] 3)).heap.size = w.heap.size + 1 by simp] at h
  exact h
theorem mk_zC : Zk ((w.alloc zk).alloc (.cells #[] 3)).drew w.heap.size := (zk_new w).alloc _
theorem mk_bA : Below w.heap.size w (w.alloc (.cells #[] 3)).drew := (bel_al (Below.refl _ _) (Nat.le_refl _) _).drew
theorem mk_bD : Below w.heap.size w (w.alloc zk).drew := (bel_al (Below.refl _ _) (Nat.le_refl _) _).drew
theorem mk_bB : Below w.heap.size w ((w.alloc (.cells #[] 3)).alloc zk).drew := (bel_al (bel_al (Below.refl _ _) (Nat.le_refl _) _) (by simp) _).drew
theorem mk_bC : Below w.heap.size w ((w.alloc zk).alloc (.cells #[] 3)).drew := (bel_al (bel_al (Below.refl _ _) (Nat.le_refl _) _) (by simp) _).drew
end
theorem runI (f s : Int) (A B : Option Addr) (c d n m : Nat) (N O : List Int) (D : Option Addr) (dd l : Nat) (xs : List Int) (w : World) (hn : N.length = n) (hm : O.length = m) (hl : xs.length = l) (hN : Ints w A c N) (hO : Ints w B d O) (hJ : Ints w D dd xs) :
    Calls Try.prog 8 #[kv f s (.slice A n c) (.slice B m d), .slice D l dd] w (NR f s (N, O) xs w) := by
  subst hn hm hl
  exact run_any f s A B c d N O D dd xs w hN hO hJ
theorem hasIx (A : Option Addr) (c n : Nat) (L : List Int) (x : Int) (w : World) (hn : L.length = n) (ha : Ints w A c L) (hb : x ∉ L) :
    Calls Try.prog 18 #[.slice A n c, .int .i64 x] w fun e w' => e = .returned (.bool false) ∧ w' = w := by
  subst hn
  refine (hasInt_any A c L x w ha).mono ?_
  rintro e w' ⟨h1, h2⟩
  rw [decide_eq_false hb] at h1
  exact ⟨h1, h2.symm⟩
/-- Run, by letters. -/
theorem runL_any {f s : Int} {A B : Option Addr} {c d n m : Nat} {N O : List Int} {D : Option Addr} {dd l : Nat} {xs : List Int} {w : World} {R1 R2 h er : Int} {T1 T2 : List Int} {n1 m1 : Nat} (hn : N.length = n) (hm : O.length = m) (hl : xs.length = l)
    (e1 : rnR f s (N, O) xs f = R1) (e2 : rnR f s (N, O) xs s = R2) (e3 : rnT f s (N, O) xs = (T1, T2)) (e4 : rnH f s (N, O) xs = h) (e5 : rnE f s (N, O) xs = er) (e6 : T1.length = n1) (e7 : T2.length = m1)
    (hN : Ints w A c N) (hO : Ints w B d O) (hJ : Ints w D dd xs) :
    Calls Try.prog 8 #[kv f s (.slice A n c) (.slice B m d), .slice D l dd] w fun e w' => ∃ A' c' B' d', e = .returned (.tuple #[kv R1 R2 (.slice A' n1 c') (.slice B' m1 d'), .int .i64 h, .int .i64 er]) ∧ OwnI w' w.heap.size (.slice A' n1 c') T1 ∧ OwnI w' w.heap.size (.slice B' m1 d') T2 ∧ Below w.heap.size w w' := by
  have h := runI f s A B c d n m N O D dd l xs w hn hm hl hN hO hJ
  unfold NR at h
  rw [e1, e2, e3, e4, e5] at h
  subst e6 e7
  exact h

set_option maxHeartbeats 20000000 in
theorem segmentParts_walk (f s : Int) (A : Option Addr) (c : Nat) (N : List Int) (B : Option Addr) (d : Nat) (O : List Int) (A1 : Option Addr) (c1 : Nat) (xs : List Int) (A2 : Option Addr) (c2 : Nat) (ys : List Int) (x : Int) (w : World) (hN : Ints w A c N) (hO : Ints w B d O) (hJ : Ints w A1 c1 xs) (hK : Ints w A2 c2 ys) (hz1 : xs.length ≤ 17592186043904) (hz2 : ys.length ≤ 17592186043904) :
    Calls Try.prog 6 #[kv f s (.slice A N.length c) (.slice B O.length d), .slice A1 xs.length c1, .slice A2 ys.length c2, .int .i64 x] w fun e w' => e = .returned (.bool true) ∧ Below w.heap.size w w' := by
  obtain ⟨n, hn⟩ : ∃ n, N.length = n := ⟨_, rfl⟩
  obtain ⟨m, hm⟩ : ∃ m, O.length = m := ⟨_, rfl⟩
  obtain ⟨lx, hlx⟩ : ∃ m, xs.length = m := ⟨_, rfl⟩
  obtain ⟨ly, hly⟩ : ∃ m, ys.length = m := ⟨_, rfl⟩
  have X0 := Lib.hid (Kb.new w f s (.slice A n c) (.slice B m d))
  have HB0 : Hid (Below w.heap.size w (w.alloc (ko f s (.slice A n c) (.slice B m d)))) := Lib.hid (bel_al (Below.refl _ _) (Nat.le_refl _) _)
  have HN := Lib.hid hN
  have HO := Lib.hid hO
  have HJ := Lib.hid hJ
  have HK := Lib.hid hK
  clear hN hO hJ hK
  rw [hn, hm, hlx, hly]
  obtain ⟨R1, hR1⟩ : ∃ r, rnR f s (N, O) xs f = r := ⟨_, rfl⟩
  obtain ⟨S1, hS1⟩ : ∃ r, rnR f s (N, O) xs s = r := ⟨_, rfl⟩
  obtain ⟨T, hT⟩ : ∃ T, rnT f s (N, O) xs = T := ⟨_, rfl⟩
  obtain ⟨T1, T2⟩ := T
  obtain ⟨h1, hh1⟩ : ∃ r, rnH f s (N, O) xs = r := ⟨_, rfl⟩
  obtain ⟨e1, he1⟩ : ∃ r, rnE f s (N, O) xs = r := ⟨_, rfl⟩
  obtain ⟨n1, hn1⟩ : ∃ n, T1.length = n := ⟨_, rfl⟩
  obtain ⟨m1, hm1⟩ : ∃ n, T2.length = n := ⟨_, rfl⟩
  have HR1 := Lib.hid (fun (W : World) (a : Ints W A c N) (b : Ints W B d O) (k : Ints W A1 c1 xs) => runL_any hn hm hlx hR1 hS1 hT hh1 he1 hn1 hm1 a b k)
  obtain ⟨x1, x2, x3, x4⟩ := X0.out.cells
  by_cases q1 : e1 = 0
  · have HF := Lib.hid (parts_facts (t := (N, O)) (ys := ys) (he1.trans q1))
    have d1 : (e1 != 0) = false := by simp [q1]
    obtain ⟨rr1, rr2, hx200, -, -⟩ := HF.out
    rw [hR1] at rr1
    rw [hS1] at rr2
    subst rr1 rr2
    replace HF := Lib.hid HF.out.2.2.2
    obtain ⟨R2, hR2⟩ : ∃ r, rnR R1 S1 (T1, T2) ys R1 = r := ⟨_, rfl⟩
    obtain ⟨S2, hS2⟩ : ∃ r, rnR R1 S1 (T1, T2) ys S1 = r := ⟨_, rfl⟩
    obtain ⟨T', hT'⟩ : ∃ T, rnT R1 S1 (T1, T2) ys = T := ⟨_, rfl⟩
    obtain ⟨U1, U2⟩ := T'
    obtain ⟨h2, hh2⟩ : ∃ r, rnH R1 S1 (T1, T2) ys = r := ⟨_, rfl⟩
    obtain ⟨e2, he2⟩ : ∃ r, rnE R1 S1 (T1, T2) ys = r := ⟨_, rfl⟩
    obtain ⟨n2, hn2⟩ : ∃ n, U1.length = n := ⟨_, rfl⟩
    obtain ⟨m2, hm2⟩ : ∃ n, U2.length = n := ⟨_, rfl⟩
    have HR2 := Lib.hid (fun (A : Option Addr) (c : Nat) (B : Option Addr) (d : Nat) (W : World) (a : Ints W A c T1) (b : Ints W B d T2) (k : Ints W A2 c2 ys) => runL_any hn1 hm1 hly hR2 hS2 hT' hh2 he2 hn2 hm2 a b k)
    obtain ⟨R3, hR3⟩ : ∃ r, rnR R1 S1 (N, O) (xs ++ ys) R1 = r := ⟨_, rfl⟩
    obtain ⟨S3, hS3⟩ : ∃ r, rnR R1 S1 (N, O) (xs ++ ys) S1 = r := ⟨_, rfl⟩
    obtain ⟨T', hT3⟩ : ∃ T, rnT R1 S1 (N, O) (xs ++ ys) = T := ⟨_, rfl⟩
    obtain ⟨V1, V2⟩ := T'
    obtain ⟨h3, hh3⟩ : ∃ r, rnH R1 S1 (N, O) (xs ++ ys) = r := ⟨_, rfl⟩
    obtain ⟨e3, he3⟩ : ∃ r, rnE R1 S1 (N, O) (xs ++ ys) = r := ⟨_, rfl⟩
    obtain ⟨n3, hn3⟩ : ∃ n, V1.length = n := ⟨_, rfl⟩
    obtain ⟨m3, hm3⟩ : ∃ n, V2.length = n := ⟨_, rfl⟩
    obtain ⟨m5, hm5⟩ : ∃ n, (xs ++ ys).length = n := ⟨_, rfl⟩
    have HR3 := Lib.hid (fun (D : Option Addr) (dd : Nat) (W : World) (a : Ints W A c N) (b : Ints W B d O) (k : Ints W D dd (xs ++ ys)) => runL_any hn hm hm5 hR3 hS3 hT3 hh3 he3 hn3 hm3 a b k)
    have hb1 := rnH_bound R1 S1 (N, O) xs
    have hb2 := rnH_bound R1 S1 (T1, T2) ys
    rw [hh1] at hb1
    rw [hh2] at hb2
    rw [hT, hT', hT3, hR2, hS2, hR3, hS3, hh1, hh2, hh3, he2, he3] at HF
    have HX2 : Hid (lx ≤ 200) := Lib.hid (by rw [← hlx]; exact hx200)
    have HZ2 := Lib.hid hz2
    have HLX := Lib.hid hlx
    have HLY := Lib.hid hly
    have HM5 := Lib.hid hm5
    have Hn2 := Lib.hid hn2
    have Hm2 := Lib.hid hm2
    have Hn3 := Lib.hid hn3
    have Hm3 := Lib.hid hm3
    clear hn hm hlx hly hR1 hS1 hT hh1 he1 hn1 hm1 hR2 hS2 hT' hh2 he2 hn2 hm2 hR3 hS3 hT3 hh3 he3 hn3 hm3 hm5 hz1 hz2 hx200 q1
    go_enter Try.func6, Try.ntmps6
    go_wp2_with fail
    refine (HR1.out _ (HN.out.below HB0.out) (HO.out.below HB0.out) (HJ.out.below HB0.out)).mono ?_
    rintro e w1 ⟨B1, k1, C1, l1, rfl, hi1, hj1, hbb⟩
    have X1 := Lib.hid ((X0.out.below hbb).alloc (ko R1 S1 (.slice B1 n1 k1) (.slice C1 m1 l1)))
    have Y1 := Lib.hid (Kb.new w1 R1 S1 (.slice B1 n1 k1) (.slice C1 m1 l1))
    have I1 := Lib.hid ((ints_own hi1).2.alloc (ko R1 S1 (.slice B1 n1 k1) (.slice C1 m1 l1)))
    have J1 := Lib.hid ((ints_own hj1).2.alloc (ko R1 S1 (.slice B1 n1 k1) (.slice C1 m1 l1)))
    have HB1 : Hid (Below w.heap.size w (w1.alloc (ko R1 S1 (.slice B1 n1 k1) (.slice C1 m1 l1)))) := Lib.hid (bel_al (HB0.out.trans (hbb.mono HB0.out.size)) (Nat.le_trans HB0.out.size hbb.size) _)
    clear hi1 hj1 hbb x1 x2 x3 x4
    go_wp2_with fail
    refine (begun_any _).mono ?_
    rintro e w3 ⟨rfl, hb3⟩
    have X3 := Lib.hid (X1.out.below hb3)
    have Y3 := Lib.hid (Y1.out.below hb3)
    have I3 := Lib.hid (I1.out.below hb3)
    have J3 := Lib.hid (J1.out.below hb3)
    have HB3 : Hid (Below w.heap.size w w3) := Lib.hid (HB1.out.trans (hb3.mono HB1.out.size))
    clear hb3
    generalize w1.heap.size = p1 at *
    obtain ⟨y1, y2, y3, y4⟩ := Y3.out.cells
    go_wp2_with fail
    refine (HR2.out B1 k1 C1 l1 _ I3.out J3.out (HK.out.below HB3.out)).mono ?_
    rintro e w4 ⟨B4, k4, C4, l4, rfl, hi4, hj4, hb4⟩
    have X4 := Lib.hid ((X3.out.below hb4).alloc (ko R2 S2 (.slice B4 n2 k4) (.slice C4 m2 l4)))
    have Z4 := Lib.hid (Kb.new w4 R2 S2 (.slice B4 n2 k4) (.slice C4 m2 l4))
    have I4 := Lib.hid ((ints_own hi4).2.alloc (ko R2 S2 (.slice B4 n2 k4) (.slice C4 m2 l4)))
    have J4 := Lib.hid ((ints_own hj4).2.alloc (ko R2 S2 (.slice B4 n2 k4) (.slice C4 m2 l4)))
    have HB4 : Hid (Below w.heap.size w (w4.alloc (ko R2 S2 (.slice B4 n2 k4) (.slice C4 m2 l4)))) := Lib.hid (bel_al (HB3.out.trans (hb4.mono HB3.out.size)) (Nat.le_trans HB3.out.size hb4.size) _)
    clear hi4 hj4 hb4 y1 y2 y3 y4
    go_upto_region 7 with fail
    generalize w4.heap.size = p4 at *
    generalize w4.alloc (ko R2 S2 (.slice B4 n2 k4) (.slice C4 m2 l4)) = w5 at *
    go_cut [15, 16, 17] (fun s15 s16 s17 wx => ∃ p D a E b, s15 = .pointer (some ⟨p, 0, none⟩) ∧ s16 = .int .i64 h3 ∧ s17 = .int .i64 e3 ∧ Kb wx p R3 S3 (.slice D n3 a) (.slice E m3 b) ∧ Ints wx D a V1 ∧ Ints wx E b V2 ∧ Below w5.heap.size w5 wx)
    case first =>
      as_aux_lemma =>
        have HK5 : Hid (∀ w' : World, Below w5.heap.size w5 w' → w'.cell? ⟨w.heap.size, 0, none⟩ = some (.int .i64 R1) ∧ w'.cell? ⟨w.heap.size, 1, none⟩ = some (.int .i64 S1) ∧ w'.cell? ⟨w.heap.size, 2, none⟩ = some (.slice A n c) ∧ w'.cell? ⟨w.heap.size, 3, none⟩ = some (.slice B m d)) := Lib.hid (fun w' hb => (X4.out.below hb).cells)
        have HJ5 : Hid (∀ w' : World, Below w5.heap.size w5 w' → Ints w' A1 c1 xs ∧ Ints w' A2 c2 ys ∧ Ints w' A c N ∧ Ints w' B d O) := Lib.hid (fun w' hb => ⟨(HJ.out.below HB4.out).below hb, (HK.out.below HB4.out).below hb, (HN.out.below HB4.out).below hb, (HO.out.below HB4.out).below hb⟩)
        have HOA := Lib.hid (mk_ownA w5)
        have HOB := Lib.hid (mk_ownB w5)
        have HOC := Lib.hid (mk_ownC w5)
        have HZB := Lib.hid (mk_zB w5)
        have HZC := Lib.hid (mk_zC w5)
        have HBA := Lib.hid (mk_bA w5)
        have HBB := Lib.hid (mk_bB w5)
        have HBC := Lib.hid (mk_bC w5)
        have HBD := Lib.hid (mk_bD w5)
        have HL1 : Hid (([] : List Int).length + lx ≤ 17592186044416) := Lib.hid (by have := HX2.out; simp; omega)
        have HL2' : Hid (([] ++ xs : List Int).length + ly ≤ 17592186044416) := Lib.hid (by have := HX2.out; have := HLX.out; have := HZ2.out; have := HLY.out; simp; omega)
        have HME : Hid ((([] ++ xs) ++ ys : List Int).length = m5) := Lib.hid (by rw [List.nil_append]; exact HM5.out)
        have HR4 : Hid (∀ (B' : Option Addr) (d' : Nat) (W : World), Ints W A c N → Ints W B d O → Ints W B' d' (([] ++ xs) ++ ys) → _) := Lib.hid (by rw [List.nil_append]; exact HR3.out)
        go_wp2
        go_region_held3 (fun w' => w'.cell? ⟨w.heap.size, 0, none⟩ = some (.int .i64 R1) ∧ w'.cell? ⟨w.heap.size, 1, none⟩ = some (.int .i64 S1) ∧ w'.cell? ⟨w.heap.size, 2, none⟩ = some (.slice A n c) ∧ w'.cell? ⟨w.heap.size, 3, none⟩ = some (.slice B m d))
          (first | exact HK5.out _ (bel_set4 hBd hpz _ _ _ _) | exact HK5.out _ (bel_set4 (bel_al hBd hBd.size _) hBd.size _ _ _ _) | exact HK5.out _ (bel_al hBd hBd.size _) | exact HK5.out _ hBd | exact HK5.out _ (bel_al hBb hBb.size _) | exact HK5.out _ hBb | exact HK5.out _ (bel_al hBa hBa.size _) | exact HK5.out _ hBa | exact HK5.out _ HBB.out | exact HK5.out _ HBC.out | exact HK5.out _ HBA.out | exact HK5.out _ HBD.out | exact HK5.out _ (Below.refl _ _).drew)
          (first
            | ((with_reducible refine at_world (w5.alloc (.cells #[] 3)).drew ?_); refine step_append_ints (by rfl) _ _ (by rfl) w5.heap.size _ [] (by rfl) HOA.out A1 c1 lx xs HLX.out.symm (by rfl) (HJ5.out _ HBA.out).1 HL1.out HBA.out.size ?_; intro va wa hown6 hg6; have hBa := HBA.out.grown hg6 HBA.out.size (fun q hq => (HOA.out.lt q hq).1))
            | ((with_reducible refine at_world ((w5.alloc (.cells #[] 3)).alloc zk).drew ?_); refine step_append_ints (by rfl) _ _ (by rfl) w5.heap.size _ [] (by rfl) HOB.out A1 c1 lx xs HLX.out.symm (by rfl) (HJ5.out _ HBB.out).1 HL1.out HBB.out.size ?_; intro va wa hown6 hg6; have hBa := HBB.out.grown hg6 HBB.out.size (fun q hq => (HOB.out.lt q hq).1); have hza := HZB.out.grown HOB.out hg6; have hpz : w5.heap.size ≤ w5.heap.size + 1 := Nat.le_succ _)
            | ((with_reducible refine at_world ((w5.alloc zk).alloc (.cells #[] 3)).drew ?_); refine step_append_ints (by rfl) _ _ (by rfl) w5.heap.size _ [] (by rfl) HOC.out A1 c1 lx xs HLX.out.symm (by rfl) (HJ5.out _ HBC.out).1 HL1.out HBC.out.size ?_; intro va wa hown6 hg6; have hBa := HBC.out.grown hg6 HBC.out.size (fun q hq => (HOC.out.lt q hq).1); have hza := HZC.out.grown HOC.out hg6; have hpz : w5.heap.size ≤ w5.heap.size := Nat.le_refl _)
            | ((with_reducible refine at_world wa ?_); refine step_append_ints (by rfl) _ _ (by rfl) w5.heap.size _ ([] ++ xs) (by rfl) hown6 A2 c2 ly ys HLY.out.symm (by rfl) (HJ5.out _ hBa).2.1 HL2'.out hBa.size ?_; intro vb wb hown7 hg7; have hBb := hBa.grown hg7 hBa.size (fun q hq => (hown6.lt q hq).1); have hzb := hza.grown hown6 hg7; obtain ⟨Bb, kb, rfl, hIb⟩ := ints_of_own hown7; rw [HME.out])
            | ((with_reducible refine at_world wa ?_); refine step_append_ints (by rfl) _ _ (by rfl) w5.heap.size _ ([] ++ xs) (by rfl) hown6 A2 c2 ly ys HLY.out.symm (by rfl) (HJ5.out _ hBa).2.1 HL2'.out hBa.size ?_; intro vb wb hown7 hg7; have hBb := hBa.grown hg7 hBa.size (fun q hq => (hown6.lt q hq).1); obtain ⟨Bb, kb, rfl, hIb⟩ := ints_of_own hown7; rw [HME.out])
            | ((with_reducible refine at_world (wa.alloc zk) ?_); have hBz := bel_al hBa hBa.size zk; have hownz := own_al hown6 zk; refine step_append_ints (by rfl) _ _ (by rfl) w5.heap.size _ ([] ++ xs) (by rfl) hownz A2 c2 ly ys HLY.out.symm (by rfl) (HJ5.out _ hBz).2.1 HL2'.out hBz.size ?_; intro vb wb hown7 hg7; have hBb := hBz.grown hg7 hBz.size (fun q hq => (hownz.lt q hq).1); have hzb := (zk_new wa).grown hownz hg7; have hpz : w5.heap.size ≤ wa.heap.size := hBa.size; obtain ⟨Bb, kb, rfl, hIb⟩ := ints_of_own hown7; rw [HME.out])
            | (go_at_call 8; refine (HR4.out Bb kb wb (HJ5.out _ hBb).2.2.1 (HJ5.out _ hBb).2.2.2 hIb).mono ?_; rintro e wd ⟨Bd, kd, Cd, ld, rfl, hId, hJd, hbd⟩; have hBd := hBb.trans (hbd.mono hBb.size); have hzd := hzb.below hbd; obtain ⟨r0, r1, r2, r3⟩ := hzd.cells; obtain ⟨f0, f1, f2, f3⟩ := hzd.free)
            | (go_at_call 8; refine (HR4.out Bb kb wb (HJ5.out _ hBb).2.2.1 (HJ5.out _ hBb).2.2.2 hIb).mono ?_; rintro e wd ⟨Bd, kd, Cd, ld, rfl, hId, hJd, hbd⟩; have hBd := hBb.trans (hbd.mono hBb.size))
            | (have hBy := bel_al hBb hBb.size zk; go_at_call 8; refine (HR4.out Bb kb (wb.alloc zk) (HJ5.out _ hBy).2.2.1 (HJ5.out _ hBy).2.2.2 (hIb.alloc _)).mono ?_; rintro e wd ⟨Bd, kd, Cd, ld, rfl, hId, hJd, hbd⟩; have hBd := hBy.trans (hbd.mono hBy.size); have hzd := (zk_new wb).below hbd; have hpz : w5.heap.size ≤ wb.heap.size := hBb.size; obtain ⟨r0, r1, r2, r3⟩ := hzd.cells; obtain ⟨f0, f1, f2, f3⟩ := hzd.free))
        all_goals
          go_wp2
          go_meet
          first
            | exact ⟨_, Bd, kd, Cd, ld, rfl, rfl, rfl, hzd.put4 _ _ _ _, (ints_own (own_set4 hId (hzd.own hId) _ _ _ _)).2, (ints_own (own_set4 hJd (hzd.own hJd) _ _ _ _)).2, bel_set4 hBd hpz _ _ _ _⟩
            | exact ⟨_, Bd, kd, Cd, ld, rfl, rfl, rfl, Kb.new _ _ _ _ _, (ints_own hId).2.alloc _, (ints_own hJd).2.alloc _, bel_al hBd hBd.size _⟩
    case rest =>
      as_aux_lemma =>
        obtain ⟨p6, B6, k6, C6, l6, rfl, rfl, rfl, hX6, hI6, hJ6, hb6⟩ := hcut
        have X6 := Lib.hid hX6
        have I6 := Lib.hid hI6
        have J6 := Lib.hid hJ6
        have Z6 := Lib.hid (Z4.out.below hb6)
        have I46 := Lib.hid (I4.out.below hb6)
        have J46 := Lib.hid (J4.out.below hb6)
        have HB6 : Hid (Below w.heap.size w wc) := Lib.hid (HB4.out.trans (hb6.mono HB4.out.size))
        clear hX6 hb6 hI6 hJ6
        by_cases q2 : e2 = 0
        · have d2 : (e2 != 0) = false := by simp [q2]
          by_cases q3 : e3 = 0
          · have d3 : (e3 != 0) = false := by simp [q3]
            obtain ⟨f1, f2, f3, f4, f5, f6⟩ := HF.out.1 q2 q3
            have hw : IntKind.i64.wrap (h1 + h2) = h1 + h2 := by rw [IntKind.wrap_i64]; omega
            have d4 : (h3 == h1 + h2) = true := by simpa using f6
            have HS := Lib.hid (fun (W : World) (a : Ints W B4 k4 U1) (b : Ints W C4 l4 U2) (a' : Ints W B6 k6 V1) (b' : Ints W C6 l6 V2) => sameHalls_any R2 S2 R3 S3 B4 C4 B6 C6 k4 l4 k6 l6 n2 m2 n3 m3 U1 U2 V1 V2 W Hn2.out Hm2.out Hn3.out Hm3.out a b a' b')
            have d7 : decide ((R2, S2, U1, U2) = (R3, S3, V1, V2)) = true := by
              cases f1
              rw [f2, f3, f4, f5]
              exact decide_eq_true rfl
            rw [d7] at HS
            obtain ⟨R5, hR5⟩ : ∃ r, rnR R2 S2 (U1, U2) [x, x] R2 = r := ⟨_, rfl⟩
            obtain ⟨S5, hS5⟩ : ∃ r, rnR R2 S2 (U1, U2) [x, x] S2 = r := ⟨_, rfl⟩
            obtain ⟨T', hT5⟩ : ∃ T, rnT R2 S2 (U1, U2) [x, x] = T := ⟨_, rfl⟩
            obtain ⟨W1, W2⟩ := T'
            obtain ⟨h5, hh5⟩ : ∃ r, rnH R2 S2 (U1, U2) [x, x] = r := ⟨_, rfl⟩
            obtain ⟨e5, he5⟩ : ∃ r, rnE R2 S2 (U1, U2) [x, x] = r := ⟨_, rfl⟩
            obtain ⟨n5, hn5⟩ : ∃ n, W1.length = n := ⟨_, rfl⟩
            obtain ⟨m5, hm5⟩ : ∃ n, W2.length = n := ⟨_, rfl⟩
            have HR5 := Lib.hid (fun (D : Option Addr) (dd : Nat) (W : World) (a : Ints W B4 k4 U1) (b : Ints W C4 l4 U2) (k : Ints W D dd [x, x]) => runL_any (l := 2) Hn2.out Hm2.out rfl hR5 hS5 hT5 hh5 he5 hn5 hm5 a b k)
            have HL5 := Lib.hid (Lru.ints_lit wc [x, x] (by unfold maxLen; simp))
            have HC5 := Lib.hid (fun o => bel_al (Below.refl wc.heap.size wc) (Nat.le_refl _) o)
            have HT5 : Hid (e5 = 0 → ∃ L, W2 = x :: L ∧ x ∉ W1) := Lib.hid (fun h => by
              have := two_facts (he5.trans h)
              rwa [hT5] at this)
            have Hn5 := Lib.hid hn5
            have Hm5 := Lib.hid hm5
            clear q2 q3 f1 f2 f3 f4 f5 f6 d7 hR5 hS5 hT5 hh5 he5 hn5 hm5
            obtain ⟨z1, z2, z3, z4⟩ := Z6.out.cells
            go_wp2_with fail
            refine (HR5.out _ _ _ (I46.out.alloc _) (J46.out.alloc _) HL5.out).mono ?_
            rintro e w7 ⟨B7, k7, C7, l7, rfl, hi7, hj7, hb7⟩
            have HB67 : Hid (Below wc.heap.size wc (w7.alloc (ko R5 S5 (.slice B7 n5 k7) (.slice C7 m5 l7)))) := Lib.hid (by
              have h := (HC5.out _).trans (hb7.mono (HC5.out _).size)
              exact bel_al h h.size _)
            have Y7 := Lib.hid (Kb.new w7 R5 S5 (.slice B7 n5 k7) (.slice C7 m5 l7))
            have N7 := Lib.hid ((ints_own hi7).2.alloc (ko R5 S5 (.slice B7 n5 k7) (.slice C7 m5 l7)))
            have O7 := Lib.hid ((ints_own hj7).2.alloc (ko R5 S5 (.slice B7 n5 k7) (.slice C7 m5 l7)))
            have Z7 := Lib.hid (Z6.out.below HB67.out)
            have X7 := Lib.hid (X6.out.below HB67.out)
            clear hi7 hj7 hb7 z1 z2 z3 z4
            have HB7 : Hid (Below w.heap.size w (w7.alloc (ko R5 S5 (.slice B7 n5 k7) (.slice C7 m5 l7)))) := Lib.hid (HB6.out.trans (HB67.out.mono HB6.out.size))
            have HSh := Lib.hid (HS.out _ (I46.out.below HB67.out) (J46.out.below HB67.out) (I6.out.below HB67.out) (J6.out.below HB67.out))
            clear HB67 HS HR5 HL5 HC5
            obtain ⟨z1, z2, z3, z4⟩ := Z7.out.cells
            obtain ⟨x1, x2, x3, x4⟩ := X7.out.cells
            by_cases q5 : e5 = 0
            · have d8 : (e5 != 0) = false := by simp [q5]
              obtain ⟨L, rfl, hnm⟩ := HT5.out q5
              have hm0 : 0 < m5 := by rw [← Hm5.out]; simp
              have d9 : decide ((0 : Int) < (m5 : Int)) = true := by simp; omega
              have hm0' : (0 : Int) < (m5 : Int) := by omega
              obtain ⟨b, o, rfl, ht⟩ := O7.out.2.2.2 (by simp)
              have e0 := ht.2 0 (by simp)
              rw [Nat.add_zero, show gi (x :: L) 0 = x from rfl] at e0
              have HE0 := Lib.hid e0
              have HBl := Lib.hid ht.1
              have HHi := Lib.hid (fun (W : World) (h : Ints W B7 k7 W1) => hasIx B7 k7 n5 W1 x W Hn5.out h hnm)
              clear q5 hnm ht e0
              go_wp2_with fail
              refine HSh.out.mono ?_
              rintro e w8 ⟨rfl, hb8⟩
              have Y8 := Lib.hid (Y7.out.below hb8)
              have N8 := Lib.hid (N7.out.below hb8)
              have HB8 : Hid (Below w.heap.size w w8) := Lib.hid (HB7.out.trans (hb8.mono HB7.out.size))
              have e8 := (hb8.cell (p := ⟨b, o, none⟩) HBl.out).trans HE0.out
              clear hb8 z1 z2 z3 z4 x1 x2 x3 x4
              obtain ⟨y1, y2, y3, y4⟩ := Y8.out.cells
              go_wp2_with fail
              refine (HHi.out _ N8.out).mono ?_
              rintro e w9 ⟨rfl, rfl⟩
              go_wp2
              go_ret
              exact ⟨rfl, HB8.out⟩
            · have d8 : (e5 != 0) = true := by simpa using q5
              clear q5
              go_wp2_with fail
              refine HSh.out.mono ?_
              rintro e w8 ⟨rfl, hb8⟩
              have HB8 : Hid (Below w.heap.size w w8) := Lib.hid (HB7.out.trans (hb8.mono HB7.out.size))
              clear hb8 z1 z2 z3 z4 x1 x2 x3 x4
              go_wp2
              go_ret
              exact ⟨rfl, HB8.out⟩
          · have d3 : (e3 != 0) = true := by simpa using q3
            have d5 : (e2 == e3) = false := by simp [q2]; exact fun e => q3 e.symm
            have d6 : (e3 == 2) = true := by simpa using HF.out.2 (Or.inr q3) (by rw [q2]; exact fun e => q3 e.symm)
            clear q2 q3
            go_wp2
            go_ret
            exact ⟨rfl, HB6.out⟩
        · have d2 : (e2 != 0) = true := by simpa using q2
          by_cases q4 : e2 = e3
          · have d5 : (e2 == e3) = true := by simpa using q4
            clear q2 q4
            go_wp2
            go_ret
            exact ⟨rfl, HB6.out⟩
          · have d5 : (e2 == e3) = false := by simpa using q4
            have d6 : (e3 == 2) = true := by simpa using HF.out.2 (Or.inl q2) q4
            clear q2 q4
            go_wp2
            go_ret
            exact ⟨rfl, HB6.out⟩
  · have hz : rnE f s (N, O) xs ≠ 0 := by rw [he1]; exact q1
    obtain ⟨z1, z2⟩ := bad_facts hz
    rw [hT] at z2
    cases z2
    have d1 : (e1 != 0) = true := by simpa using q1
    have d2 : (h1 == 0) = true := by rw [← hh1, z1]; rfl
    obtain rfl : n1 = 0 := hn1.symm
    obtain rfl : m1 = 0 := hm1.symm
    clear q1 z1 hz hn hm hlx hly hR1 hS1 hT hh1 he1 hn1 hm1 hz1 hz2
    go_enter Try.func6, Try.ntmps6
    go_wp2_with fail
    refine (HR1.out _ (HN.out.below HB0.out) (HO.out.below HB0.out) (HJ.out.below HB0.out)).mono ?_
    rintro e w1 ⟨B1, k1, C1, l1, rfl, -, -, hb1⟩
    have Y1 := Lib.hid (Kb.new w1 R1 S1 (.slice B1 0 k1) (.slice C1 0 l1))
    have HB1 : Hid (Below w.heap.size w (w1.alloc (ko R1 S1 (.slice B1 0 k1) (.slice C1 0 l1)))) := Lib.hid (bel_al (HB0.out.trans (hb1.mono HB0.out.size)) (Nat.le_trans HB0.out.size hb1.size) _)
    clear hb1 x1 x2 x3 x4
    go_wp2_with fail
    refine (begun_any _).mono ?_
    rintro e w3 ⟨rfl, hb3⟩
    have Y3 := Lib.hid (Y1.out.below hb3)
    have HB3 : Hid (Below w.heap.size w w3) := Lib.hid (HB1.out.trans (hb3.mono HB1.out.size))
    clear hb3
    obtain ⟨y1, y2, y3, y4⟩ := Y3.out.cells
    go_wp2
    go_ret
    exact ⟨rfl, HB3.out⟩

end Go.Proofs.Ytpjgfehhhgcjnaa.Seg
