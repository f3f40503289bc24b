/-
  RingSpec: what the package answers is what the reference reckons.
-/
import Derived.Test.YtjmhemkbfephpaaRgBegun
import Derived.Test.YtjmhemkbfephpaaRgRef2
import Derived.Test.YtjmhemkbfephpaaLruWalks
import Derived.Deep.DeepCutAuto
namespace Go.Proofs.Ytjmhemkbfephpaa.Rng
open Go.RowKit
open Two (REO RE)
set_option linter.unusedVariables false
set_option maxRecDepth 100000

theorem ints_one1 (w : World) (n : Int) (t : TypeId) : Ints (w.alloc (.cells #[.int .i64 n] t)) (some ⟨w.heap.size, 0, none⟩) 1 [n] := by
  refine ⟨Nat.le_refl _, by unfold maxLen; decide, fun e => (by cases e), fun _ => ⟨w.heap.size, 0, rfl, by simp, fun i hi => ?_⟩⟩
  obtain rfl : i = 0 := by simp at hi; omega
  simp [go_sem, gi]
theorem append_one {w : World} {ops : Array Oper} {rest : List Oper} {o : Oper} {a : Act} {Q : Exit → Act → World → Prop} (hgd : o.guard = none) (s x : Operand)
    (ho : o.op = .call { callee := .builtin .append, args := #[s, x], argTypes := #[23, 23] })
    (base : Nat) (v : Value) (L : List Int) (hs : a.eval s = v) (hown : OwnI w base v L) (n : Int) (t : TypeId)
    (hx : a.eval x = .slice (some ⟨w.heap.size, 0, none⟩) 1 1)
    (hn : L.length ≤ 1048576) (hbase : base ≤ w.heap.size)
    (h : ∀ v' w', OwnI w' base v' (L ++ [n]) → (w.alloc (.cells #[.int .i64 n] t)).grownBy w' v.ownBlock → wpList Try.prog ops Q rest (a.put o.dst v') w') : wpList Try.prog ops Q (o :: rest) a (w.alloc (.cells #[.int .i64 n] t)) :=
  wpList_append_ints hgd s x ho base v L hs (hown.alloc _) (some ⟨w.heap.size, 0, none⟩) 1 [n] hx (ints_one1 w n t) (by simp; omega) (by simp; omega) h
theorem own_growI {w w' : World} {base : Nat} {v : Value} {L : List Int} {o : Obj} {B : Nat} {w0 : World} (hown : OwnI w base v L) (h0 : Below B w0 w) (hB : B ≤ w.heap.size) (hb : B ≤ base) (hg : (w.alloc o).grownBy w' v.ownBlock) : Below B w0 w' :=
  (bel_al h0 hB o).grown hg (by simp; omega) (fun k hk => Nat.le_trans hb (hown.lt k hk).1)
theorem same_any (A B : Option Addr) (c d n m : Nat) (X : List Int) (w : World) (ha : Ints w A c X) (hb : Ints w B d X) (hn : X.length = n) (hm : X.length = m) :
    Calls Try.prog 19 #[.slice A n c, .slice B m d] w fun e w' => e = .returned (.bool true) ∧ Below w.heap.size w w' := by
  have k := sameInts_any A B c d X X w ha hb
  rw [decide_eq_true rfl, hn] at k
  rw [← hm, hn]
  exact k

theorem shL_take {L : List Pt} {n : Nat} (h : shE L (n : Int) = 0) : (shL L (n : Int)).length = n ∧ (∀ k, k < n → (shL L (n : Int)).take (k + 1) = (shL L (n : Int)).take k ++ [((share L (k : Int) : Nat) : Int)]) := by
  unfold shL
  rw [if_pos h, Int.toNat_natCast]
  refine ⟨by simp, fun k hk => ?_⟩
  rw [List.take_add_one, List.getElem?_eq_getElem (by simpa using hk)]
  simp

set_option maxHeartbeats 8000000 in
theorem ringSpec_walk (A : Option Addr) (c : Nat) (L : List Pt) (x s n : Int) (B : Option Addr) (d : Nat) (P : List Int) (w : World) (hL : Pts w A c L) (hP : Ints w B d P) :
    Calls Try.prog 3 #[.slice A L.length c, .int .i64 x, .int .i64 s, .int .i64 n, .slice B P.length d] w fun e w' => e = .returned (.bool true) ∧ Below w.heap.size w w' := by
  obtain ⟨m, hm⟩ : ∃ m, m = min P.length 70 := ⟨_, rfl⟩
  have hmk : m ≤ P.length := by omega
  have hmin : min (P.length : Int) (70 : Int) = (m : Int) := by omega
  obtain ⟨B', hsl, hP', -⟩ := Lru.slice_upto hP hmk
  have hl1 := hL.len
  have hl2 := hP.len
  have hp70 : (P.take m).length ≤ 1000 := by rw [List.length_take]; omega
  have HLo := Lib.hid (fun (W : World) (hW : Below w.heap.size w W) => hL.below hW)
  have HOw := Lib.hid (owner_any A c L x w hL)
  have HAd := Lib.hid (fun (W : World) (hW : Below w.heap.size w W) => add_any A B' c d L s (P.take m) W (hL.below hW) (hP'.below hW))
  have HRm := Lib.hid (fun (W : World) (hW : Below w.heap.size w W) => remove_any A c L s W (hL.below hW))
  have HSh := Lib.hid (fun (W : World) (hW : Below w.heap.size w W) => shares_any A c L n W (hL.below hW))
  have HCk := Lib.hid (fun (W : World) (hW : Below w.heap.size w W) => check_any A c L W (hL.below hW))
  have HRC := Lib.hid (fun (W : World) (hW : Below w.heap.size w W) => refCheck_any A c L W (hL.below hW))
  have HRO := Lib.hid (fun (W : World) (hW : Below w.heap.size w W) (h0 : 0 < L.length) => refOwner_any A c L x W (hL.below hW) h0)
  have HRA := Lib.hid (fun (W : World) (hW : Below w.heap.size w W) (hG : Good L) => refAdd_any A B' c d L s (P.take m) W (hL.below hW) (hP'.below hW) hG hp70)
  have HRS := Lib.hid (fun (W : World) (hW : Below w.heap.size w W) (hG : Good L) (h0 : L.length ≠ 0) (i : Int) => refShare_any A c L i W (hL.below hW) hG h0)
  have HBG := Lib.hid begun_any
  have HBAD : Hid (checkR L ≠ 0 → owE L x = checkR L ∧ owR L x = 0 ∧ adE L s (P.take m) = checkR L ∧ adL L s (P.take m) = [] ∧ reE L s = checkR L ∧ reL L s = [] ∧ shE L n = checkR L ∧ shL L n = []) := Lib.hid (fun h =>
    have a1 := owE_check (x := x) h
    have a2 := adE_check (s := s) (P := P.take m) h
    have a3 := reE_check (s := s) h
    have a4 := shE_check (n := n) h
    ⟨a1, owR_bad (by rw [a1]; exact h), a2, adL_bad (by rw [a2]; exact h), a3, reL_bad (by rw [a3]; exact h), a4, shL_bad (by rw [a4]; exact h)⟩)
  have HO1 : Hid (checkR L = 0 → ¬ isP x → owE L x = 3 ∧ owR L x = 0) := Lib.hid (fun h h2 => ⟨owE_range h h2, owR_bad (by rw [owE_range h h2]; decide)⟩)
  have HO2 : Hid (checkR L = 0 → isP x → L.length = 0 → owE L x = 5 ∧ owR L x = 0) := Lib.hid (fun h h2 h3 => ⟨owE_none h h2 h3, owR_bad (by rw [owE_none h h2 h3]; decide)⟩)
  have HO3 : Hid (checkR L = 0 → isP x → L.length ≠ 0 → owE L x = 0 ∧ own L x = owR L x) := Lib.hid (fun h h2 h3 => ⟨owE_ok h h2 h3, (owR_ok (owE_ok h h2 h3)).symm⟩)
  have HR1 : Hid (checkR L = 0 → (remP L s).length = L.length → reE L s = 5 ∧ reL L s = []) := Lib.hid (fun h h2 => ⟨reE_none h h2, reL_bad (by rw [reE_none h h2]; decide)⟩)
  have HR2 : Hid (checkR L = 0 → ¬ (remP L s).length = L.length → reE L s = 0 ∧ reL L s = remP L s) := Lib.hid (fun h h2 => ⟨reE_ok h h2, reL_ok (reE_ok h h2)⟩)
  have HS1 : Hid (checkR L = 0 → n < 1 ∨ 20 < n → shE L n = 3) := Lib.hid (fun h h2 => shE_range h h2)
  have HS2 : Hid (checkR L = 0 → ¬ (n < 1 ∨ 20 < n) → L.length = 0 → shE L n = 5) := Lib.hid (fun h h2 h3 => shE_none h h2 h3)
  have HS3 : Hid (checkR L = 0 → ¬ (n < 1 ∨ 20 < n) → L.length ≠ 0 → shE L n = 0) := Lib.hid (fun h h2 h3 => shE_ok h h2 h3)
  have HS4 : Hid (shE L n = 0 → ∃ k : Nat, n = (k : Int) ∧ k ≤ 20 ∧ L.length ≠ 0 ∧ (shL L n).length = k ∧ (∀ j, j < k → (shL L n).take (j + 1) = (shL L n).take j ++ [((share L (j : Int) : Nat) : Int)])) := Lib.hid (fun h => by
    have h1 : checkR L = 0 := Classical.byContradiction fun hh => hh ((shE_check (n := n) hh).symm.trans h)
    have h2 : ¬ (n < 1 ∨ 20 < n) := fun hh => by rw [shE_range h1 hh] at h; cases h
    have h3 : L.length ≠ 0 := fun hh => by rw [shE_none h1 h2 hh] at h; cases h
    obtain ⟨k, rfl⟩ : ∃ k : Nat, n = (k : Int) := ⟨n.toNat, by omega⟩
    exact ⟨k, rfl, by omega, h3, (shL_take h).1, (shL_take h).2⟩)
  have HS5 : Hid (shE L n ≠ 0 → shL L n = []) := Lib.hid (fun h => shL_bad h)
  have HGC : Hid (checkR L = 0 → Good L) := Lib.hid (fun h => check_zero.1 h)
  have HRk : Hid (∀ k, k < L.length → remP (L.take (k + 1)) s = if (gp L k).sh = s then remP (L.take k) s else remP (L.take k) s ++ [gp L k]) := Lib.hid (fun k hk => rem_succ hk)
  have HRl : Hid (∀ k, (remP (L.take k) s).length ≤ L.length) := Lib.hid (fun k => rem_len k)
  have HRe : Hid (remP (L.take L.length) s = remP L s) := Lib.hid (by rw [List.take_length])
  clear hP' hL hP hm hmk hp70
  obtain ⟨ln, hln⟩ : ∃ ln, L.length = ln := ⟨_, rfl⟩
  have HLN := Lib.hid hln
  rw [hln] at hl1 HOw HAd HRm HSh HCk HRC HRO HRA HRS HO2 HO3 HR1 HR2 HS2 HS3 HS4 HRk HRl HRe ⊢
  clear hln
  generalize P.length = lp at *
  generalize (P.take m).length = lm at *
  generalize adL L s (P.take m) = M at *
  generalize adE L s (P.take m) = f1 at *
  generalize reL L s = D at *
  generalize reE L s = g1 at *
  generalize shL L n = S at *
  generalize shE L n = h1 at *
  generalize owR L x = n1 at *
  generalize owE L x = e1 at *
  generalize checkR L = ck at *
  obtain ⟨lM, hlM⟩ : ∃ lM, M.length = lM := ⟨_, rfl⟩
  obtain ⟨lD, hlD⟩ : ∃ lD, D.length = lD := ⟨_, rfl⟩
  obtain ⟨lS, hlS⟩ : ∃ lS, S.length = lS := ⟨_, rfl⟩
  have HLM := Lib.hid hlM
  have HLD := Lib.hid hlD
  have HLS := Lib.hid hlS
  clear hlM hlD hlS
  go_enter Try.func3, Try.ntmps3
  go_wp2_with fail
  refine HOw.out.mono ?_
  rintro e w1 ⟨rfl, hb1⟩
  have HB1 := Lib.hid hb1
  clear hb1
  go_wp2_with fail
  refine (HAd.out w1 HB1.out).mono ?_
  rintro e w2 ⟨v2, rfl, ho2, hb2⟩
  obtain ⟨A1, c1, rfl, hI1, -⟩ := pts_of_own ho2
  rw [HLM.out]
  have HI2 := Lib.hid hI1
  have HB2 := Lib.hid (HB1.out.trans (hb2.mono HB1.out.size))
  clear ho2 hI1 hb2 HB1
  go_wp2_with fail
  refine (HRm.out w2 HB2.out).mono ?_
  rintro e w3 ⟨v3, rfl, ho3, hb3⟩
  obtain ⟨A2, c2, rfl, hI2, -⟩ := pts_of_own ho3
  rw [HLD.out]
  have HJ3 := Lib.hid hI2
  have HI3 := Lib.hid (HI2.out.below hb3)
  have HB3 := Lib.hid (HB2.out.trans (hb3.mono HB2.out.size))
  clear ho3 hI2 hb3 HB2 HI2
  go_wp2_with fail
  refine (HSh.out w3 HB3.out).mono ?_
  intro e w4 hr4
  obtain ⟨A3, c3, rfl, hI4, hb4⟩ := hr4.re
  rw [HLS.out]
  have HK4 := Lib.hid hI4
  have HJ4 := Lib.hid (HJ3.out.below hb4)
  have HI4 := Lib.hid (HI3.out.below hb4)
  have HB4 := Lib.hid (HB3.out.trans (hb4.mono HB3.out.size))
  clear hr4 hI4 hb4 HB3 HI3 HJ3
  go_wp2_with fail
  refine (HRC.out w4 HB4.out).mono ?_
  rintro e w5 ⟨rfl, hb5⟩
  have HK5 := Lib.hid (HK4.out.below hb5)
  have HJ5 := Lib.hid (HJ4.out.below hb5)
  have HI5 := Lib.hid (HI4.out.below hb5)
  have HB5 := Lib.hid (HB4.out.trans (hb5.mono HB4.out.size))
  clear hb5 HB4 HI4 HJ4 HK4 HOw HAd HRm HSh HRC
  go_upto_if 67 with fail
  go_cut [20, 21, 22, 23, 24, 25, 26, 27] (fun s20 s21 s22 s23 s24 s25 s26 s27 wx => s20 = .int .i64 e1 ∧ s21 = .int .i64 f1 ∧ s22 = .int .i64 g1 ∧ s23 = .int .i64 h1 ∧ s24 = .int .i64 n1 ∧ (∃ A' c', s25 = .slice A' lM c' ∧ Pts wx A' c' M) ∧ (∃ A' c', s26 = .slice A' lD c' ∧ Pts wx A' c' D) ∧ (∃ A' c', s27 = .slice A' lS c' ∧ Ints wx A' c' S) ∧ Below w5.heap.size w5 wx)
  case first =>
    as_aux_lemma =>
      by_cases hz : ck = 0
      · subst hz
        replace HO1 := Lib.hid (HO1.out rfl)
        replace HO2 := Lib.hid (HO2.out rfl)
        replace HO3 := Lib.hid (HO3.out rfl)
        replace HR1 := Lib.hid (HR1.out rfl)
        replace HR2 := Lib.hid (HR2.out rfl)
        replace HS1 := Lib.hid (HS1.out rfl)
        replace HS2 := Lib.hid (HS2.out rfl)
        replace HS3 := Lib.hid (HS3.out rfl)
        have HG := Lib.hid (HGC.out rfl)
        clear HGC HBAD HI5 HJ5 HK5 HCk HBG
        obtain ⟨bk, hbk⟩ : ∃ bk : Bool, bk = !decide (isP x) := ⟨_, rfl⟩
        have HBk := Lib.hid hbk
        clear hbk
        go_upto_region 12 with fail
        go_cut [73] (fun s73 wx => s73 = .bool bk ∧ w5 = wx)
        case first =>
          as_aux_lemma =>
            by_cases h1 : x < 0
            · have d1 : decide (x < 0) = true := by simpa using h1
              have HE : Hid (true = bk) := Lib.hid (by rw [HBk.out, decide_eq_false (fun h : isP x => by have := h.1; omega)]; rfl)
              clear h1
              go_wp2
              go_meet
              exact ⟨by rw [HE.out], rfl⟩
            · have d1 : decide (x < 0) = false := by simpa using h1
              have HE : Hid (decide (65535 < x) = bk) := Lib.hid (by
                rw [HBk.out]
                by_cases h : 65535 < x
                · rw [decide_eq_true h, decide_eq_false (fun h2 : isP x => by have := h2.2; omega)]; rfl
                · rw [decide_eq_false h, decide_eq_true (show isP x from ⟨by omega, by omega⟩)]; rfl)
              clear h1
              go_wp2
              go_meet
              exact ⟨by rw [HE.out], rfl⟩
        case rest =>
          as_aux_lemma =>
            obtain ⟨rfl, rfl⟩ := hcut
            go_upto_if 73 with fail
            go_cut [20, 24] (fun s20 s24 wx => s20 = .int .i64 e1 ∧ s24 = .int .i64 n1 ∧ w5 = wx)
            case first =>
              as_aux_lemma =>
                by_cases hp : isP x
                · have d1 : bk = false := by rw [HBk.out]; simpa using hp
                  subst d1
                  by_cases h0 : ln = 0
                  · obtain ⟨r1, r2⟩ := HO2.out hp h0
                    have t1 : ((ln : Int) == 0) = true := by rw [beq_iff_eq]; omega
                    have t2 : decide ((ln : Int) = 0) = true := by simp; omega
                    subst r1 r2
                    clear hp h0
                    go_wp2
                    go_meet
                    exact ⟨rfl, rfl, rfl⟩
                  · obtain ⟨r1, r2⟩ := HO3.out hp h0
                    have t1 : ((ln : Int) == 0) = false := by rw [beq_eq_false_iff_ne]; omega
                    have t2 : decide ((ln : Int) = 0) = false := by simp; omega
                    have HC := Lib.hid (HRO.out w5 HB5.out (by omega))
                    rw [r2] at HC
                    clear r2
                    subst r1
                    clear hp h0
                    go_wp2_with fail
                    refine HC.out.mono ?_
                    rintro e w6 ⟨rfl, rfl⟩
                    go_wp2
                    go_meet
                    exact ⟨rfl, rfl, rfl⟩
                · have d1 : bk = true := by rw [HBk.out]; simpa using hp
                  subst d1
                  obtain ⟨r1, r2⟩ := HO1.out hp
                  subst r1 r2
                  clear hp
                  go_wp2
                  go_meet
                  exact ⟨rfl, rfl, rfl⟩
            case rest =>
              as_aux_lemma =>
                obtain ⟨rfl, rfl, rfl⟩ := hcut
                clear HO1 HO2 HO3 HBk HRO
                go_wp2_with fail
                refine (HRA.out w5 HB5.out HG.out).mono ?_
                rintro e w6 ⟨v6, rfl, ho6, hb6⟩
                obtain ⟨A6, c6, rfl, hI6, -⟩ := pts_of_own ho6
                rw [HLM.out]
                have HI6 := Lib.hid hI6
                have HB6 : Hid (Below w5.heap.size w5 w6) := Lib.hid hb6
                have HBB := Lib.hid (HB5.out.trans (hb6.mono HB5.out.size))
                clear ho6 hI6 hb6 HRA
                go_wp2
                go_loopw [26, 28] (fun v i wr => ∃ k : Nat, k ≤ ln ∧ i = .int .i64 (k : Int) ∧ Hid (OwnP wr w6.heap.size v (remP (L.take k) s)) ∧ Hid (Below w6.heap.size w6 wr)) (fun _ i _ => ln - (intOf i).toNat)
                case atStart => exact ⟨0, by omega, rfl, Lib.hid (OwnP.nil _ _), Lib.hid (Below.refl _ _)⟩
                case round =>
                  rename World => wr
                  obtain ⟨k, hk, rfl, HO, HBr⟩ := hrel
                  have HBw := Lib.hid (HBB.out.trans (HBr.out.mono HBB.out.size))
                  have HLr := Lib.hid (HLo.out wr HBw.out)
                  by_cases hlt : k < ln
                  · have hin : (k : Int) < (ln : Int) := by omega
                    have hiB : (0 : Int) ≤ (k : Int) := by omega
                    have HS := Lib.hid (HRk.out k hlt)
                    have HL1 : Hid ((remP (L.take k) s).length ≤ 1048576) := Lib.hid (by have := HRl.out k; have := HG.out.few; have := HLN.out; omega)
                    obtain ⟨b, o, rfl, e1, e2⟩ := HLr.out.pt (k := k) (by rw [HLN.out]; exact hlt)
                    generalize gp L k = f at *
                    obtain ⟨at0, sh0⟩ := f
                    dsimp only at e1 e2 HS
                    by_cases q : sh0 = s
                    · have d1 : (sh0 == s) = true := by simpa using q
                      have d2 : (sh0 != s) = false := by simpa using q
                      have d3 : decide (sh0 = s) = true := by simpa using q
                      have HR : Hid (remP (L.take (k + 1)) s = remP (L.take k) s) := Lib.hid (by rw [HS.out, if_pos q])
                      clear q
                      go_wp2
                      go_roundw
                      case rel => exact ⟨k + 1, by omega, by go_num, by rw [HR.out]; exact HO, HBr⟩
                      case measure => simp [intOf]; omega
                    · have d1 : (sh0 == s) = false := by simpa using q
                      have d2 : (sh0 != s) = true := by simpa using q
                      have d3 : decide (sh0 = s) = false := by simpa using q
                      have HR : Hid (remP (L.take (k + 1)) s = remP (L.take k) s ++ [⟨at0, sh0⟩]) := Lib.hid (by rw [HS.out, if_neg q])
                      clear q
                      go_wp2_with (first | (at_builtin; refine append_pt rfl _ _ rfl w6.heap.size _ _ rfl HO.out ⟨at0, sh0⟩ rfl HL1.out HBr.out.size ?_; intro v7 w7 ho7 hg7; have HO7 := Lib.hid ho7; have HB7 := Lib.hid (own_grow HO.out HBr.out HBr.out.size (Nat.le_refl _) hg7); clear ho7 hg7))
                      go_roundw
                      case rel => exact ⟨k + 1, by omega, by go_num, by rw [HR.out]; exact HO7, HB7⟩
                      case measure => simp [intOf]; omega
                  · obtain rfl : k = ln := by omega
                    rw [HRe.out] at HO
                    obtain ⟨A8, c8, rfl, hI8, -⟩ := pts_of_own HO.out
                    have HI8 := Lib.hid hI8
                    obtain ⟨lq, hlq⟩ : ∃ q, (remP L s).length = q := ⟨_, rfl⟩
                    rw [hlq] at HR1 HR2 ⊢
                    have HLQ := Lib.hid hlq
                    have HI9 := Lib.hid (HI6.out.below HBr.out)
                    have HB9 := Lib.hid (HB6.out.trans (HBr.out.mono HB6.out.size))
                    clear hI8 HO hlq HRk HRl HRe HLr HI6 HB6 hk hlt
                    go_upto_if 111 with fail
                    go_cut [22, 26] (fun s22 s26 wx => s22 = .int .i64 g1 ∧ (∃ A' c', s26 = .slice A' lD c' ∧ Pts wx A' c' D) ∧ wr = wx)
                    case first =>
                      as_aux_lemma =>
                        by_cases hq : lq = k
                        · have t1 : ((lq : Int) == (k : Int)) = true := by rw [beq_iff_eq]; omega
                          have t2 : decide ((lq : Int) = (k : Int)) = true := by simp; omega
                          have t3 : (lq == k) = true := by rw [beq_iff_eq]; omega
                          have t4 : decide (lq = k) = true := by simp; omega
                          obtain ⟨r1, r2⟩ := HR1.out hq
                          have hd0 := HLD.out
                          rw [r2] at hd0
                          simp only [List.length_nil] at hd0
                          subst r1 r2 hd0
                          clear hq
                          go_wp2
                          go_meet
                          exact ⟨rfl, ⟨none, 0, rfl, Pts.none_ _⟩, rfl⟩
                        · have t1 : ((lq : Int) == (k : Int)) = false := by rw [beq_eq_false_iff_ne]; omega
                          have t2 : decide ((lq : Int) = (k : Int)) = false := by simp; omega
                          have t3 : (lq == k) = false := by rw [beq_eq_false_iff_ne]; omega
                          have t4 : decide (lq = k) = false := by simp; omega
                          obtain ⟨r1, r2⟩ := HR2.out hq
                          have HLL : Hid (lq = lD) := Lib.hid (by rw [← HLQ.out, ← r2, HLD.out])
                          have HRR := Lib.hid r2
                          clear hq r2
                          subst r1
                          go_wp2
                          go_meet
                          exact ⟨rfl, ⟨A8, c8, by rw [HLL.out], by rw [HRR.out]; exact HI8.out⟩, rfl⟩
                    case rest =>
                      as_aux_lemma =>
                        obtain ⟨rfl, ⟨A9, c9, rfl, hj9⟩, rfl⟩ := hcut
                        have HJ9 := Lib.hid hj9
                        clear hj9 HR1 HR2 HI8 HLQ
                        obtain ⟨bs, hbs⟩ : ∃ bs : Bool, bs = decide (n < 1 ∨ 20 < n) := ⟨_, rfl⟩
                        have HBs := Lib.hid hbs
                        clear hbs
                        go_upto_region 25 with fail
                        go_cut [117] (fun s117 wx => s117 = .bool bs ∧ wr = wx)
                        case first =>
                          as_aux_lemma =>
                            by_cases h1 : n < 1
                            · have d1 : decide (n < 1) = true := by simpa using h1
                              have HE : Hid (true = bs) := Lib.hid (by rw [HBs.out, decide_eq_true (Or.inl h1)])
                              clear h1
                              go_wp2
                              go_meet
                              exact ⟨by rw [HE.out], rfl⟩
                            · have d1 : decide (n < 1) = false := by simpa using h1
                              have HE : Hid (decide (20 < n) = bs) := Lib.hid (by
                                rw [HBs.out]
                                by_cases h : 20 < n
                                · rw [decide_eq_true h, decide_eq_true (Or.inr h)]
                                · rw [decide_eq_false h, decide_eq_false (by omega)])
                              clear h1
                              go_wp2
                              go_meet
                              exact ⟨by rw [HE.out], rfl⟩
                        case rest =>
                          as_aux_lemma =>
                            obtain ⟨rfl, rfl⟩ := hcut
                            go_upto_if 117 with fail
                            go_cut [23] (fun s23 wx => s23 = .int .i64 h1 ∧ wr = wx)
                            case first =>
                              as_aux_lemma =>
                                by_cases hn : n < 1 ∨ 20 < n
                                · have d1 : bs = true := by rw [HBs.out]; exact decide_eq_true hn
                                  subst d1
                                  obtain rfl := HS1.out hn
                                  clear hn
                                  go_wp2
                                  go_meet
                                  exact ⟨rfl, rfl⟩
                                · have d1 : bs = false := by rw [HBs.out]; exact decide_eq_false hn
                                  subst d1
                                  by_cases h0 : k = 0
                                  · have t1 : ((k : Int) == 0) = true := by rw [beq_iff_eq]; omega
                                    have t2 : decide ((k : Int) = 0) = true := by simp; omega
                                    have t3 : (k == 0) = true := by rw [beq_iff_eq]; omega
                                    obtain rfl := HS2.out hn h0
                                    clear hn h0
                                    go_wp2
                                    go_meet
                                    exact ⟨rfl, rfl⟩
                                  · have t1 : ((k : Int) == 0) = false := by rw [beq_eq_false_iff_ne]; omega
                                    have t2 : decide ((k : Int) = 0) = false := by simp; omega
                                    have t3 : (k == 0) = false := by rw [beq_eq_false_iff_ne]; omega
                                    obtain rfl := HS3.out hn h0
                                    clear hn h0
                                    go_wp2
                                    go_meet
                                    exact ⟨rfl, rfl⟩
                            case rest =>
                              as_aux_lemma =>
                                obtain ⟨rfl, rfl⟩ := hcut
                                clear HS1 HS2 HS3 HBs
                                by_cases hh : h1 = 0
                                · obtain ⟨k2, rfl, h20, hne, hlS, hTk⟩ := HS4.out hh
                                  have HTk := Lib.hid hTk
                                  have HTe : Hid (S.take k2 = S) := Lib.hid (by rw [← hlS, List.take_length])
                                  have HTl : Hid (∀ j, (S.take j).length ≤ 1048576) := Lib.hid (fun j => by rw [List.length_take]; omega)
                                  have HNE := Lib.hid hne
                                  subst hh
                                  clear hTk hlS hne HS4 HS5
                                  go_wp2
                                  go_loopw [27, 29] (fun v i wj => ∃ j : Nat, j ≤ k2 ∧ i = .int .i64 (j : Int) ∧ Hid (OwnI wj wr.heap.size v (S.take j)) ∧ Hid (Below wr.heap.size wr wj)) (fun _ i _ => k2 - (intOf i).toNat)
                                  case atStart => exact ⟨0, by omega, rfl, Lib.hid (Two.own_none _ _), Lib.hid (Below.refl _ _)⟩
                                  case round =>
                                    rename World => wj
                                    obtain ⟨j, hj, rfl, HO, HBj⟩ := hrel
                                    by_cases hjl : j < k2
                                    · have hjn : (j : Int) < (k2 : Int) := by omega
                                      have d1 : decide ((j : Int) < (k2 : Int)) = true := by simp; omega
                                      have d2 : decide (j < k2) = true := by simp; omega
                                      have HTj := Lib.hid (HTk.out j hjl)
                                      have HL1 := Lib.hid (HTl.out j)
                                      have HC := Lib.hid (HRS.out wj (HBw.out.trans (HBj.out.mono HBw.out.size)) HG.out HNE.out (j : Int))
                                      generalize share L (j : Int) = z at *
                                      go_wp2_with fail
                                      refine HC.out.mono ?_
                                      rintro e wk ⟨rfl, hbk⟩
                                      have HOk := Lib.hid (Two.own_bel HO.out hbk)
                                      have HBk := Lib.hid (HBj.out.trans (hbk.mono HBj.out.size))
                                      clear hbk
                                      go_wp2_with (first | (at_builtin; refine append_one rfl _ _ rfl wr.heap.size _ _ rfl HOk.out (z : Int) _ rfl HL1.out HBk.out.size ?_; intro v7 w7 ho7 hg7; have HO7 := Lib.hid ho7; have HB7 := Lib.hid (own_growI HOk.out HBk.out HBk.out.size (Nat.le_refl _) hg7); clear ho7 hg7))
                                      go_roundw
                                      case rel => exact ⟨j + 1, by omega, by go_num, by rw [HTj.out]; exact HO7, HB7⟩
                                      case measure => simp [intOf]; omega
                                    · obtain rfl : j = k2 := by omega
                                      rw [HTe.out] at HO
                                      obtain ⟨Aj, cj, rfl, hij⟩ := ints_of_own HO.out
                                      rw [HLS.out]
                                      have HIj := Lib.hid hij
                                      have d1 : decide ((j : Int) < (j : Int)) = false := by simp
                                      clear hij
                                      go_wp2
                                      go_meet
                                      exact ⟨rfl, rfl, rfl, rfl, rfl, ⟨A6, c6, rfl, HI9.out.below HBj.out⟩, ⟨A9, c9, rfl, HJ9.out.below HBj.out⟩, ⟨Aj, cj, rfl, HIj.out⟩, HB9.out.trans (HBj.out.mono HB9.out.size)⟩
                                · obtain rfl := HS5.out hh
                                  have hs0 := HLS.out
                                  simp only [List.length_nil] at hs0
                                  subst hs0
                                  have z1 : (h1 == 0) = false := by rw [beq_eq_false_iff_ne]; exact hh
                                  have z2 : decide (h1 = 0) = false := by simpa using hh
                                  clear hh HS4 HS5
                                  go_wp2
                                  go_loopw [27, 29] (fun v i wj => v = .slice none 0 0 ∧ i = .int .i64 0 ∧ wr = wj) (fun _ _ _ => 0)
                                  case atStart => exact ⟨rfl, rfl, rfl⟩
                                  case round =>
                                    obtain ⟨rfl, rfl, rfl⟩ := hrel
                                    by_cases h0 : 0 < n
                                    · have d1 : decide (0 < n) = true := by simpa using h0
                                      clear h0
                                      go_wp2
                                      go_meet
                                      exact ⟨rfl, rfl, rfl, rfl, rfl, ⟨A6, c6, rfl, HI9.out⟩, ⟨A9, c9, rfl, HJ9.out⟩, ⟨none, 0, rfl, Ints.none_ _⟩, HB9.out⟩
                                    · have d1 : decide (0 < n) = false := by simpa using h0
                                      clear h0
                                      go_wp2
                                      go_meet
                                      exact ⟨rfl, rfl, rfl, rfl, rfl, ⟨A6, c6, rfl, HI9.out⟩, ⟨A9, c9, rfl, HJ9.out⟩, ⟨none, 0, rfl, Ints.none_ _⟩, HB9.out⟩
      · obtain ⟨r1, r2, r3, r4, r5, r6, r7, r8⟩ := HBAD.out hz
        have z1 : (ck == 0) = false := by rw [beq_eq_false_iff_ne]; exact hz
        have z2 : decide (ck = 0) = false := by simpa using hz
        have hm0 := HLM.out
        have hd0 := HLD.out
        have hs0 := HLS.out
        rw [r4] at hm0
        rw [r6] at hd0
        rw [r8] at hs0
        simp only [List.length_nil] at hm0 hd0 hs0
        subst r1 r2 r3 r4 r5 r6 r7 r8
        subst hm0 hd0 hs0
        clear hz
        go_wp2
        go_meet
        exact ⟨rfl, rfl, rfl, rfl, rfl, ⟨none, 0, rfl, Pts.none_ _⟩, ⟨none, 0, rfl, Pts.none_ _⟩, ⟨none, 0, rfl, Ints.none_ _⟩, Below.refl _ _⟩
  case rest =>
    as_aux_lemma =>
      obtain ⟨rfl, rfl, rfl, rfl, rfl, ⟨A5, c5, rfl, hi⟩, ⟨A6, c6, rfl, hj⟩, ⟨A7, c7, rfl, hk⟩, hb⟩ := hcut
      have HI6 := Lib.hid hi
      have HJ6 := Lib.hid hj
      have HK6 := Lib.hid hk
      have HX6 := Lib.hid (HI5.out.below hb)
      have HY6 := Lib.hid (HJ5.out.below hb)
      have HZ6 := Lib.hid (HK5.out.below hb)
      have HB6 := Lib.hid (HB5.out.trans (hb.mono HB5.out.size))
      clear hi hj hk hb HI5 HJ5 HK5
      generalize wc = w6 at *
      go_wp2_with fail
      refine (HBG.out w6).mono ?_
      rintro e w7 ⟨rfl, hb7⟩
      have HI7 := Lib.hid (HI6.out.below hb7)
      have HJ7 := Lib.hid (HJ6.out.below hb7)
      have HK7 := Lib.hid (HK6.out.below hb7)
      have HX7 := Lib.hid (HX6.out.below hb7)
      have HY7 := Lib.hid (HY6.out.below hb7)
      have HZ7 := Lib.hid (HZ6.out.below hb7)
      have HB7 := Lib.hid (HB6.out.trans (hb7.mono HB6.out.size))
      clear hb7 HI6 HJ6 HK6 HX6 HY6 HZ6
      go_wp2_with fail
      refine (HCk.out w7 HB7.out).mono ?_
      rintro e w8 ⟨rfl, hb8⟩
      have HI8 := Lib.hid (HI7.out.below hb8)
      have HJ8 := Lib.hid (HJ7.out.below hb8)
      have HK8 := Lib.hid (HK7.out.below hb8)
      have HX8 := Lib.hid (HX7.out.below hb8)
      have HY8 := Lib.hid (HY7.out.below hb8)
      have HZ8 := Lib.hid (HZ7.out.below hb8)
      have HB8 := Lib.hid (HB7.out.trans (hb8.mono HB7.out.size))
      clear hb8 HI7 HJ7 HK7 HX7 HY7 HZ7
      go_wp2_with fail
      refine (samePts_eq _ _ _ _ _ _ _ HLM.out HX8.out HI8.out).mono ?_
      rintro e w9 ⟨rfl, hb9⟩
      have HJ9 := Lib.hid (HJ8.out.below hb9)
      have HK9 := Lib.hid (HK8.out.below hb9)
      have HY9 := Lib.hid (HY8.out.below hb9)
      have HZ9 := Lib.hid (HZ8.out.below hb9)
      have HB9 := Lib.hid (HB8.out.trans (hb9.mono HB8.out.size))
      clear hb9 HI8 HJ8 HK8 HX8 HY8 HZ8
      go_wp2_with fail
      refine (samePts_eq _ _ _ _ _ _ _ HLD.out HY9.out HJ9.out).mono ?_
      rintro e wa ⟨rfl, hba⟩
      have HKa := Lib.hid (HK9.out.below hba)
      have HZa := Lib.hid (HZ9.out.below hba)
      have HBa := Lib.hid (HB9.out.trans (hba.mono HB9.out.size))
      clear hba HJ9 HK9 HY9 HZ9
      go_wp2_with fail
      refine (same_any _ _ _ _ _ _ _ _ HZa.out HKa.out HLS.out HLS.out).mono ?_
      rintro e wb ⟨rfl, hbb⟩
      have HBb := Lib.hid (HBa.out.trans (hbb.mono HBa.out.size))
      clear hbb
      go_wp2
      go_ret
      exact ⟨rfl, HBb.out⟩

end Go.Proofs.Ytjmhemkbfephpaa.Rng
