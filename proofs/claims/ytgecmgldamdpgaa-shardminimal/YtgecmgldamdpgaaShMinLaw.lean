/-
  ShardMinimal.
-/
import Derived.Test.YtgecmgldamdpgaaShMin
namespace Go.Proofs.Ytgecmgldamdpgaa.Shd
open Go.RowKit
open Two (REO)
set_option linter.unusedVariables false
set_option maxRecDepth 100000

set_option maxHeartbeats 16000000 in
theorem shardMinimal_walk (A : Option Addr) (c : Nat) (L : List Sh) (at_ : Int) (B : Option Addr) (d : Nat) (K : List ByteArray) (w : World) (hL : Shs w A c L) (hN : Nms L) (hK : Strs w B d K) (hS : ∀ i, i < K.length → (ky K i).size ≤ maxLen) (hz : L.length ≤ 5864062014634) :
    Calls Try.prog 5 #[.slice A L.length c, .int .i64 at_, .slice B K.length d] w fun e w' => e = .returned (.bool true) ∧ Below w.heap.size w w' := by
  obtain ⟨m, hm⟩ : ∃ m, m = min K.length 40 := ⟨_, rfl⟩
  have hmk : m ≤ K.length := by omega
  have hm40 : m ≤ 40 := by omega
  have hmin : min (K.length : Int) (40 : Int) = (m : Int) := by omega
  obtain ⟨B', hsl, hK'⟩ := strs_upto hK hmk
  have hKL : (K.take m).length = m := by rw [List.length_take]; omega
  have HS : Hid (∀ i, i < m → (ky (K.take m) i).size ≤ maxLen) := Lib.hid (fun i hi => by
    have e : ky (K.take m) i = ky K i := ky_take hi
    rw [e]; exact hS i (by omega))
  have HK := Lib.hid hK'
  have HKL := Lib.hid hKL
  have HBG := Lib.hid begun_any
  generalize K.take m = X at *
  have hlen := hL.len
  have HL := Lib.hid hL
  have HN := Lib.hid hN
  have HZ := Lib.hid hz
  have hkl : K.length ≤ 9223372036854775807 := by have h1 := hK.1; have h2 := hK.2.1; unfold maxLen at h2; omega
  generalize K.length = kn at *
  clear hK hK' hKL hS hm hL hN hz
  by_cases q1 : at_ < 0
  · have p1 : decide (at_ < 0) = true := by simpa using q1
    clear q1
    generalize L.length = n at *
    go_enter Try.func5, Try.ntmps5
    go_wp2_with (go_at_call 14; with_reducible refine (HBG.out _).mono ?_; rintro e w2 ⟨rfl, hb⟩; have HB := Lib.hid hb; clear hb)
    go_ret
    exact ⟨rfl, HB.out⟩
  · have p1 : decide (at_ < 0) = false := by simpa using q1
    by_cases q2 : (L.length : Int) ≤ at_
    · have p2 : decide ((L.length : Int) ≤ at_) = true := by simpa using q2
      clear q1 q2
      generalize L.length = n at *
      go_enter Try.func5, Try.ntmps5
      go_wp2_with (go_at_call 14; with_reducible refine (HBG.out _).mono ?_; rintro e w2 ⟨rfl, hb⟩; have HB := Lib.hid hb; clear hb)
      go_ret
      exact ⟨rfl, HB.out⟩
    · have p2 : decide ((L.length : Int) ≤ at_) = false := by simpa using q2
      by_cases q3 : L.length < 2
      · have p3 : decide ((L.length : Int) < 2) = true := by simp; omega
        have p3' : decide (L.length < 2) = true := by simp; omega
        clear q1 q2 q3
        generalize L.length = n at *
        go_enter Try.func5, Try.ntmps5
        go_wp2_with (go_at_call 14; with_reducible refine (HBG.out _).mono ?_; rintro e w2 ⟨rfl, hb⟩; have HB := Lib.hid hb; clear hb)
        go_ret
        exact ⟨rfl, HB.out⟩
      · obtain ⟨a, rfl⟩ : ∃ a : Nat, at_ = (a : Int) := ⟨at_.toNat, by omega⟩
        have ha : a < L.length := by omega
        have p2' : decide (L.length ≤ a) = false := by simp; omega
        have p3 : decide ((L.length : Int) < 2) = false := by simp; omega
        have p3' : decide (L.length < 2) = false := by simp; omega
        have HA : Hid (a < L.length) := Lib.hid ha
        have H2 : Hid (2 ≤ L.length) := Lib.hid (by omega)
        have hw1 : IntKind.i64.wrap ((a : Int) + 1) = (a : Int) + 1 := by rw [IntKind.wrap_i64]; omega
        have HLL := Lib.hid (less_len ha)
        have HLN := Lib.hid (less_nms ha HN.out)
        have HLO := Lib.hid (fun s : ByteArray => less_owner (s := s) ha H2.out)
        have HLT : Hid (∀ s, own L s < L.length ∧ sec L s < L.length) := Lib.hid (fun s => ⟨own_lt (by omega), (sec_best H2.out).1⟩)
        have HMV := Lib.hid (fun (s : ByteArray) (h : err L s = 0) => mv_less (s := s) (err_zero.1 h).1 ha H2.out)
        have HTW := Lib.hid (fun (W : World) (s : ByteArray) (h : ShA W A c L) (hs : s.size ≤ maxLen) (he : err L s = 0) => owners_two A c L s W h hs he H2.out)
        have HOW := Lib.hid (fun (W : World) (C : Option Addr) (cc : Nat) (s : ByteArray) (h : ShA W C cc (less L a)) (hs : s.size ≤ maxLen) (he : err (less L a) s = 0) => owner_own C cc (less L a) s W h hs he)
        have HM1 := Lib.hid (fun (W : World) (C : Option Addr) (cc : Nat) (h : ShA W A c L) (h' : ShA W C cc (less L a)) (hk : Strs W B' d X) => moved_any A C B' c cc d L (less L a) X W h h' hk (fun i hi => HS.out i (by rw [HKL.out] at hi; exact hi)))
        have HM2 := Lib.hid (fun (W : World) (C : Option Addr) (cc : Nat) (h : ShA W A c L) (h' : ShA W C cc (less L a)) (hk : Strs W B' d X) => moved_any C A B' cc c d (less L a) L X W h' h hk (fun i hi => HS.out i (by rw [HKL.out] at hi; exact hi)))
        -- the parts of the list
        have HSA : Hid (∀ W, Shs W A c L → ∃ A1 A2 c2, (∀ V : World, (Instr.slice 22 (.slice A L.length c) none (some (.int .i64 (a : Int))) none).run Try.prog V = .ok (.slice A1 a c) V) ∧ (∀ V : World, (Instr.slice 22 (.slice A L.length c) (some (.int .i64 ((a : Int) + 1))) none none).run Try.prog V = .ok (.slice A2 (L.drop (a + 1)).length c2) V) ∧ Shs W A1 c (L.take a) ∧ Shs W A2 c2 (L.drop (a + 1))) := Lib.hid (fun W h => by
          obtain ⟨A1, e1, h1⟩ := shs_upto h (k := a) (by omega)
          obtain ⟨A2, c2, e2, h2⟩ := shs_from h (k := a + 1) (by omega)
          exact ⟨A1, A2, c2, e1, fun V => by have := e2 V; rwa [show ((a + 1 : Nat) : Int) = (a : Int) + 1 by omega] at this, h1, h2⟩)
        have HT1 : Hid (a = (L.take a).length) := Lib.hid (by rw [List.length_take]; omega)
        have HT3 : Hid (a + (L.drop (a + 1)).length ≤ 5864062014634) := Lib.hid (by rw [List.length_drop]; have := HZ.out; omega)
        have HLE : Hid (L.take a ++ L.drop (a + 1) = less L a) := Lib.hid rfl
        have HML1 := Lib.hid (movL_len L (less L a) X)
        have HML2 := Lib.hid (movL_len (less L a) L X)
        have HMB1 := Lib.hid (movL_bad (L := L) (M := less L a) (K := X))
        have HMB2 := Lib.hid (movL_bad (L := less L a) (M := L) (K := X))
        have HME1 := Lib.hid (fun (h : movE L (less L a) X = 0) (i : Nat) (hi : i < X.length) => movE_key h hi)
        have HMM1 := Lib.hid (fun (h : movE L (less L a) X = 0) (i : Nat) (hi : i < X.length) => mem_movL h hi)
        have HMM2 := Lib.hid (fun (h : movE (less L a) L X = 0) (i : Nat) (hi : i < X.length) => mem_movL h hi)
        have HNL : Hid (∀ W C cc, Shs W C cc (less L a) → ∀ k, k < L.length - 1 → ∃ b o, C = some ⟨b, o, none⟩ ∧ W.cell? ⟨b, o + k * 2, none⟩ = some (.string (gs (less L a) k).name)) := Lib.hid (fun W C cc h k hk => by
          obtain ⟨b, o, e, e1, _⟩ := h.sh (k := k) (by rw [less_len ha]; exact hk)
          exact ⟨b, o, e, e1⟩)
        have HNM : Hid (∀ W, Shs W A c L → ∀ k, k < L.length → ∃ b o, A = some ⟨b, o, none⟩ ∧ W.cell? ⟨b, o + k * 2, none⟩ = some (.string (gs L k).name)) := Lib.hid (fun W h k hk => by
          obtain ⟨b, o, e, e1, _⟩ := h.sh hk
          exact ⟨b, o, e, e1⟩)
        have HSH : Hid (∀ (W : World) (base : Nat) (v : Value), OwnS W base v (less L a) → ∃ g cc, v = .slice (some ⟨g, 0, none⟩) (L.length - 1) cc ∧ Shs W (some ⟨g, 0, none⟩) cc (less L a)) := Lib.hid (fun W base v h => by
          obtain ⟨g, cc, rfl, _⟩ := h.form (by rw [less_len ha]; omega)
          obtain ⟨A', c', e, h1, _⟩ := shs_of_own h
          simp only [Value.slice.injEq] at e
          obtain ⟨rfl, -, rfl⟩ := e
          exact ⟨g, cc, by rw [less_len ha], h1⟩)
        rw [HLL.out] at HOW HM1 HM2
        rw [HKL.out] at HM1 HM2 HME1 HMM1 HMM2 HML1 HML2
        clear q1 q2 q3 ha
        obtain ⟨hd1, hhd1⟩ : ∃ q, (L.drop (a + 1)).length = q := ⟨_, rfl⟩
        have HHD := Lib.hid hhd1
        rw [hhd1] at HSA HT3
        clear hhd1
        generalize less L a = R at *
        obtain ⟨A1, A2, c2, hs1, hs2, hp1, hp2⟩ := HSA.out w HL.out
        have HP1 := Lib.hid hp1
        have HP2 := Lib.hid hp2
        clear hp1 hp2 HSA
        obtain ⟨n, hn⟩ : ∃ n, L.length = n := ⟨_, rfl⟩
        obtain ⟨n1, hn1⟩ : ∃ n1, L.length - 1 = n1 := ⟨_, rfl⟩
        have HNN : Hid (n1 = n - 1) := Lib.hid (by rw [← hn1, hn])
        rw [hn1] at HLO HOW HM1 HM2 HSH HLL HNL
        rw [hn] at HLT p2 p2' p3 p3' HLO HTW HM1 HM2 hlen hs1 hs2 H2 HA HNM
        rw [hn]
        have ha' : (a : Int) + 1 ≤ (n : Int) := by have := HA.out; omega
        have ha'' : (a : Int) < (n : Int) := by have := HA.out; omega
        have ha0 : (0 : Int) ≤ (a : Int) := by omega
        clear hn hn1
        go_enter Try.func5, Try.ntmps5
        go_wp2_with (first | (go_at_call 14; with_reducible refine (HBG.out _).mono ?_; rintro e w2 ⟨rfl, hb⟩; have HB := Lib.hid hb; have HOe := Lib.hid (own_lit w2 w2.heap.size (Nat.le_refl _)); have HP1a := Lib.hid (HP1.out.below hb); have HP2a := Lib.hid (HP2.out.below hb); clear hb))
        have HBe : Hid (Below w2.heap.size w2 (w2.alloc (.cells #[] 35)).drew) := Lib.hid ((bel_al (Below.refl _ _) (Nat.le_refl _) _).drew)
        have HOe' : Hid (OwnS (w2.alloc (.cells #[] 35)).drew w2.heap.size (.slice (some ⟨w2.heap.size, 0, none⟩) 0 0) []) := Lib.hid HOe.out.drew
        have HL1 : Hid (([] : List Sh).length + a ≤ 5864062014700) := Lib.hid (by simp only [List.length_nil]; have := HT3.out; omega)
        have HL2 : Hid (([] ++ L.take a : List Sh).length + hd1 ≤ 5864062014700) := Lib.hid (by rw [List.nil_append, ← HT1.out]; have := HT3.out; omega)
        go_region_law (first
          | (refine step_append_shs (by rfl) _ _ (by rfl) w2.heap.size _ [] (by rfl) HOe'.out A1 c a (L.take a) HT1.out (by rfl) (HP1a.out.below HBe.out) HL1.out HBe.out.size ?_; intro v4 w4 hown4 hg4)
          | (refine step_append_shs (by rfl) _ _ (by rfl) w2.heap.size _ ([] ++ L.take a) (by rfl) hown4 A2 c2 hd1 (L.drop (a + 1)) HHD.out.symm (by rfl) (HP2a.out.below (HBe.out.grown hg4 HBe.out.size (fun q hq => (HOe'.out.lt q hq).1))) HL2.out (HBe.out.grown hg4 HBe.out.size (fun q hq => (HOe'.out.lt q hq).1)).size ?_; intro v5 w5 hown5 hg5))
        have hB4 := HBe.out.grown hg4 HBe.out.size (fun q hq => (HOe'.out.lt q hq).1)
        have hB5 := hB4.grown hg5 hB4.size (fun q hq => (hown4.lt q hq).1)
        rw [List.nil_append, HLE.out] at hown5
        obtain ⟨g, cc, rfl, hsh5⟩ := HSH.out _ _ _ hown5
        have HB5 : Hid (Below w.heap.size w w5) := Lib.hid (HB.out.trans (hB5.mono HB.out.size))
        have HR5 : Hid (ShA w5 (some ⟨g, 0, none⟩) cc R) := Lib.hid ⟨hsh5, HLN.out⟩
        have HA5 : Hid (ShA w5 A c L) := Lib.hid ⟨HL.out.below HB5.out, HN.out⟩
        have HK5 := Lib.hid (HK.out.below HB5.out)
        clear hB4 hB5 hown5 hown4 hg4 hg5 hsh5 hs1 hs2 hw1 HBe HOe' HOe HP1a HP2a HP1 HP2 p1 p2 p2' p3 p3'
        go_simp
        go_wp2_with fail
        refine (HM1.out w5 _ _ HA5.out HR5.out HK5.out).mono ?_
        rintro e w6 ⟨v6, rfl, ho6, hb6⟩
        obtain ⟨F1, d1, rfl, hi6⟩ := ints_of_own ho6
        have HF6 := Lib.hid hi6
        have HR6 := Lib.hid (HR5.out.below hb6)
        have HA6 := Lib.hid (HA5.out.below hb6)
        have HK6 := Lib.hid (HK5.out.below hb6)
        have HB6 := Lib.hid (HB5.out.trans (hb6.mono HB5.out.size))
        clear ho6 hi6 hb6 HR5 HA5 HK5 HM1
        go_wp2_with fail
        refine (HM2.out w6 _ _ HA6.out HR6.out HK6.out).mono ?_
        rintro e w7 ⟨v7, rfl, ho7, hb7⟩
        obtain ⟨F2, d2, rfl, hi7⟩ := ints_of_own ho7
        have HF7 := Lib.hid (HF6.out.below hb7)
        have HG7 := Lib.hid hi7
        have HR7 := Lib.hid (HR6.out.below hb7)
        have HA7 := Lib.hid (HA6.out.below hb7)
        have HK7 := Lib.hid (HK6.out.below hb7)
        have HB7 := Lib.hid (HB6.out.trans (hb7.mono HB6.out.size))
        clear ho7 hi7 hb7 HR6 HA6 HK6 HM2 HF6
        generalize movE L R X = e1 at *
        generalize movE R L X = e2 at *
        generalize movL L R X = M1 at *
        generalize movL R L X = M2 at *
        obtain ⟨l1, hl1⟩ : ∃ q, M1.length = q := ⟨_, rfl⟩
        obtain ⟨l2, hl2⟩ : ∃ q, M2.length = q := ⟨_, rfl⟩
        have HL1' := Lib.hid hl1
        have HL2' := Lib.hid hl2
        rw [hl1] at HML1 ⊢
        rw [hl2] at HML2 ⊢
        have hll1 : l1 ≤ 40 := by have := HML1.out; omega
        have hll2 : l2 ≤ 40 := by have := HML2.out; omega
        have hsum : IntKind.i64.wrap ((l1 : Int) + (l2 : Int)) = (l1 : Int) + (l2 : Int) := by rw [IntKind.wrap_i64]; omega
        clear hl1 hl2
        by_cases z1 : e1 = 0
        · by_cases z2 : e2 = 0
          · have t1 : (e1 != 0) = false := by simp [z1]
            have t2 : (e2 != 0) = false := by simp [z2]
            have HKE := Lib.hid (HME1.out z1)
            have HI1 := Lib.hid (HMM1.out z1)
            have HI2 := Lib.hid (HMM2.out z2)
            clear z1 z2 hsum hll1 hll2
            go_wp2
            go_loopw [12] (fun i wr => ∃ k : Nat, k ≤ m ∧ i = .int .i64 (k : Int) ∧ Hid (Below w7.heap.size w7 wr)) (fun i _ => m - (intOf i).toNat)
            case atStart => exact ⟨0, by omega, rfl, Lib.hid (Below.refl _ _)⟩
            case round =>
              obtain ⟨k, hk, rfl, HBr⟩ := hrel
              have HBw : Hid (Below w.heap.size w wr) := Lib.hid (HB7.out.trans (HBr.out.mono HB7.out.size))
              by_cases hlt : k < m
              · have hin : (k : Int) < (m : Int) := by omega
                have hiB : (0 : Int) ≤ (k : Int) := by omega
                have HKr := Lib.hid (HK7.out.below HBr.out)
                obtain ⟨bk, ok, rfl, e1⟩ := HKr.out.str (k := k) (by rw [HKL.out]; exact hlt)
                have HSZ := Lib.hid (HS.out k hlt)
                have HX1 : Hid (∀ W, Below wr.heap.size wr W → W.cell? ⟨bk, ok + k, none⟩ = some (.string (ky X k))) := Lib.hid (fun W hW => by
                  obtain ⟨b', o', e, _, hc⟩ := HKr.out.2.2 (by rw [HKL.out]; omega)
                  cases e
                  exact (hW.cell (p := ⟨bk, ok + k, none⟩) (by assumption)).trans e1)
                replace e1 : wr.cell? ⟨bk, ok + k, none⟩ = some (.string (ky X k)) := e1
                obtain ⟨r1, r2⟩ := HKE.out k hlt
                have m1 := HI1.out k hlt
                have m2 := HI2.out k hlt
                obtain ⟨v1, v2⟩ := HMV.out _ r1
                rw [v1] at m1
                rw [v2] at m2
                have HC1 := Lib.hid (HTW.out wr _ (HA7.out.below HBr.out) HSZ.out r1)
                have HC2 := Lib.hid (fun (W : World) (hW : Below wr.heap.size wr W) => HOW.out W _ _ _ ((HR7.out.below HBr.out).below hW) HSZ.out r2)
                obtain ⟨o1, o2, o3, o4⟩ := HLO.out (ky X k)
                have HRN : Hid (∀ W, Below wr.heap.size wr W → W.cell? ⟨g, own R (ky X k) * 2, none⟩ = some (.string (gs L (nxt L (ky X k) a)).name)) := Lib.hid (fun W hW => by
                  obtain ⟨b', o', e, hc⟩ := HNL.out W _ _ ((HR7.out.below HBr.out).below hW).sh _ o1
                  cases e
                  rw [Nat.zero_add, o2] at hc
                  exact hc)
                obtain ⟨hown, hsec⟩ := HLT.out (ky X k)
                have HLN1 : Hid (∀ W, Below wr.heap.size wr W → ∃ b o, A = some ⟨b, o, none⟩ ∧ W.cell? ⟨b, o + own L (ky X k) * 2, none⟩ = some (.string (gs L (own L (ky X k))).name) ∧ W.cell? ⟨b, o + sec L (ky X k) * 2, none⟩ = some (.string (gs L (sec L (ky X k))).name)) := Lib.hid (fun W hW => by
                  have hA := ((HA7.out.below HBr.out).below hW).sh
                  obtain ⟨b', o', e, hc⟩ := HNM.out W hA _ hown
                  obtain ⟨b2, o2, e', hc2⟩ := HNM.out W hA _ hsec
                  rw [e] at e'
                  cases e'
                  exact ⟨b', o', e, hc, hc2⟩)
                have HNX : Hid (nxt L (ky X k) a = if own L (ky X k) = a then sec L (ky X k) else own L (ky X k)) := Lib.hid rfl
                clear r1 r2 v1 v2 o2 o3 o4
                generalize ky X k = s at *
                by_cases qi : own L s = a
                · have hn' : nxt L s a = sec L s := by rw [HNX.out, if_pos qi]
                  have u0 : (((own L s : Nat) : Int) == (a : Int)) = true := by simp; omega
                  rw [decide_eq_true qi] at m1 m2
                  rw [hn'] at HRN
                  have HH1 : Hid (∀ W, Below w7.heap.size w7 W → Calls Try.prog 19 #[.slice F1 l1 d1, .int .i64 (k : Int)] W fun e w' => e = .returned (.bool true) ∧ W = w') := Lib.hid (fun W hW => by
                    have h := hasInt_any F1 d1 M1 (k : Int) W (HF7.out.below hW)
                    rwa [m1, HL1'.out] at h)
                  have HH2 : Hid (∀ W, Below w7.heap.size w7 W → Calls Try.prog 19 #[.slice F2 l2 d2, .int .i64 (k : Int)] W fun e w' => e = .returned (.bool true) ∧ W = w') := Lib.hid (fun W hW => by
                    have h := hasInt_any F2 d2 M2 (k : Int) W (HG7.out.below hW)
                    rwa [m2, HL2'.out] at h)
                  clear hn' qi m1 m2 HNX
                  generalize (gs L (own L s)).name = x at *
                  generalize (gs L (sec L s)).name = y at *
                  generalize own L s = i at *
                  generalize sec L s = j at *
                  generalize own R s = kk at *
                  have hs1 : (y.toList == y.toList) = true := by simp
                  have b1 : decide ((i : Int) < 0) = false := by simp
                  have b2 : decide ((n : Int) ≤ (i : Int)) = false := by simp; omega
                  have b2' : decide (n ≤ i) = false := by simp; omega
                  have b3 : decide ((j : Int) < 0) = false := by simp
                  have b4 : decide ((n : Int) ≤ (j : Int)) = false := by simp; omega
                  have b4' : decide (n ≤ j) = false := by simp; omega
                  have b5 : decide ((kk : Int) < 0) = false := by simp
                  have b6 : decide ((n1 : Int) ≤ (kk : Int)) = false := by simp; omega
                  have b6' : decide (n1 ≤ kk) = false := by simp; omega
                  have f1 : (i : Int) < (n : Int) := by omega
                  have f2 : (j : Int) < (n : Int) := by omega
                  have f3 : (kk : Int) < (n1 : Int) := by omega
                  have f4 : (0 : Int) ≤ (i : Int) := by omega
                  have f5 : (0 : Int) ≤ (j : Int) := by omega
                  have f6 : (0 : Int) ≤ (kk : Int) := by omega
                  clear hown hsec o1
                  go_wp2_with fail
                  refine HC1.out.mono ?_
                  rintro e w8 ⟨bo, oo, co, rfl, c0, c1, hlt8, hb8⟩
                  have HB8 := Lib.hid hb8
                  have HC0 := Lib.hid c0
                  have HC1' := Lib.hid c1
                  have HLT8 := Lib.hid hlt8
                  have x8 := HX1.out _ hb8
                  clear hb8 c0 c1 hlt8 e1
                  go_wp2_with fail
                  refine (HC2.out _ HB8.out).mono ?_
                  rintro e w9 ⟨rfl, hb9⟩
                  have y0 := (hb9.cell (p := ⟨bo, oo, none⟩) HLT8.out).trans HC0.out
                  have y1 := (hb9.cell (p := ⟨bo, oo + 1, none⟩) HLT8.out).trans HC1'.out
                  have hb29 : Below wr.heap.size wr w9 := HB8.out.trans (hb9.mono HB8.out.size)
                  obtain ⟨bA, oA, rfl, n1', n2'⟩ := HLN1.out _ hb29
                  have n3' := HRN.out _ hb29
                  have HB9 : Hid (Below w7.heap.size w7 w9) := Lib.hid (HBr.out.trans (hb29.mono HBr.out.size))
                  clear hb9 hb29 x8
                  have HQ1 := Lib.hid (fun q : Nat => (HH1.out (w9.drewN q) (bel_drewN HB9.out q)).mono (fun e w' h => (⟨h.1, h.2.symm⟩ : _ ∧ w' = w9.drewN q)))
                  have HQ2 := Lib.hid (fun q : Nat => (HH2.out (w9.drewN q) (bel_drewN HB9.out q)).mono (fun e w' h => (⟨h.1, h.2.symm⟩ : _ ∧ w' = w9.drewN q)))
                  go_wp2_with fail
                  go_quiet (first | (go_at_call 19; (with_reducible exact Calls.quiet_of_same (HQ1.out _))) | (go_at_call 19; (with_reducible exact Calls.quiet_of_same (HQ2.out _))))
                  have HB10 := Lib.hid (bel_drewN HB9.out nq)
                  have y0' : (w9.drewN nq).cell? ⟨bo, oo, none⟩ = some (.int .i64 (i : Int)) := y0
                  have y1' : (w9.drewN nq).cell? ⟨bo, oo + 1, none⟩ = some (.int .i64 (j : Int)) := y1
                  have z1' : (w9.drewN nq).cell? ⟨bA, oA + i * 2, none⟩ = some (.string x) := n1'
                  have z2' : (w9.drewN nq).cell? ⟨bA, oA + j * 2, none⟩ = some (.string y) := n2'
                  have z3' : (w9.drewN nq).cell? ⟨g, kk * 2, none⟩ = some (.string y) := n3'
                  clear y0 y1 n1' n2' n3' HQ1 HQ2 b1 b2 b2' b3 b4 b4' b5 b6 b6'
                  generalize w9.drewN nq = w10 at *
                  go_wp2
                  go_roundw
                  case rel => exact ⟨k + 1, by omega, by go_num, HB10⟩
                  case measure => simp [intOf]; omega
                · have hn' : nxt L s a = own L s := by rw [HNX.out, if_neg qi]
                  have u0 : (((own L s : Nat) : Int) == (a : Int)) = false := by rw [beq_eq_false_iff_ne]; omega
                  rw [decide_eq_false qi] at m1 m2
                  rw [hn'] at HRN
                  have HH1 : Hid (∀ W, Below w7.heap.size w7 W → Calls Try.prog 19 #[.slice F1 l1 d1, .int .i64 (k : Int)] W fun e w' => e = .returned (.bool false) ∧ W = w') := Lib.hid (fun W hW => by
                    have h := hasInt_any F1 d1 M1 (k : Int) W (HF7.out.below hW)
                    rwa [m1, HL1'.out] at h)
                  have HH2 : Hid (∀ W, Below w7.heap.size w7 W → Calls Try.prog 19 #[.slice F2 l2 d2, .int .i64 (k : Int)] W fun e w' => e = .returned (.bool false) ∧ W = w') := Lib.hid (fun W hW => by
                    have h := hasInt_any F2 d2 M2 (k : Int) W (HG7.out.below hW)
                    rwa [m2, HL2'.out] at h)
                  clear hn' qi m1 m2 HNX
                  generalize (gs L (own L s)).name = x at *
                  generalize (gs L (sec L s)).name = y at *
                  generalize own L s = i at *
                  generalize sec L s = j at *
                  generalize own R s = kk at *
                  have hs1 : (x.toList == x.toList) = true := by simp
                  have b1 : decide ((i : Int) < 0) = false := by simp
                  have b2 : decide ((n : Int) ≤ (i : Int)) = false := by simp; omega
                  have b2' : decide (n ≤ i) = false := by simp; omega
                  have b3 : decide ((j : Int) < 0) = false := by simp
                  have b4 : decide ((n : Int) ≤ (j : Int)) = false := by simp; omega
                  have b4' : decide (n ≤ j) = false := by simp; omega
                  have b5 : decide ((kk : Int) < 0) = false := by simp
                  have b6 : decide ((n1 : Int) ≤ (kk : Int)) = false := by simp; omega
                  have b6' : decide (n1 ≤ kk) = false := by simp; omega
                  have f1 : (i : Int) < (n : Int) := by omega
                  have f2 : (j : Int) < (n : Int) := by omega
                  have f3 : (kk : Int) < (n1 : Int) := by omega
                  have f4 : (0 : Int) ≤ (i : Int) := by omega
                  have f5 : (0 : Int) ≤ (j : Int) := by omega
                  have f6 : (0 : Int) ≤ (kk : Int) := by omega
                  clear hown hsec o1
                  go_wp2_with fail
                  refine HC1.out.mono ?_
                  rintro e w8 ⟨bo, oo, co, rfl, c0, c1, hlt8, hb8⟩
                  have HB8 := Lib.hid hb8
                  have HC0 := Lib.hid c0
                  have HC1' := Lib.hid c1
                  have HLT8 := Lib.hid hlt8
                  have x8 := HX1.out _ hb8
                  clear hb8 c0 c1 hlt8 e1
                  go_wp2_with fail
                  refine (HC2.out _ HB8.out).mono ?_
                  rintro e w9 ⟨rfl, hb9⟩
                  have y0 := (hb9.cell (p := ⟨bo, oo, none⟩) HLT8.out).trans HC0.out
                  have y1 := (hb9.cell (p := ⟨bo, oo + 1, none⟩) HLT8.out).trans HC1'.out
                  have hb29 : Below wr.heap.size wr w9 := HB8.out.trans (hb9.mono HB8.out.size)
                  obtain ⟨bA, oA, rfl, n1', n2'⟩ := HLN1.out _ hb29
                  have n3' := HRN.out _ hb29
                  have HB9 : Hid (Below w7.heap.size w7 w9) := Lib.hid (HBr.out.trans (hb29.mono HBr.out.size))
                  clear hb9 hb29 x8
                  have HQ1 := Lib.hid (fun q : Nat => (HH1.out (w9.drewN q) (bel_drewN HB9.out q)).mono (fun e w' h => (⟨h.1, h.2.symm⟩ : _ ∧ w' = w9.drewN q)))
                  have HQ2 := Lib.hid (fun q : Nat => (HH2.out (w9.drewN q) (bel_drewN HB9.out q)).mono (fun e w' h => (⟨h.1, h.2.symm⟩ : _ ∧ w' = w9.drewN q)))
                  go_wp2_with fail
                  go_quiet (first | (go_at_call 19; (with_reducible exact Calls.quiet_of_same (HQ1.out _))) | (go_at_call 19; (with_reducible exact Calls.quiet_of_same (HQ2.out _))))
                  have HB10 := Lib.hid (bel_drewN HB9.out nq)
                  have y0' : (w9.drewN nq).cell? ⟨bo, oo, none⟩ = some (.int .i64 (i : Int)) := y0
                  have y1' : (w9.drewN nq).cell? ⟨bo, oo + 1, none⟩ = some (.int .i64 (j : Int)) := y1
                  have z1' : (w9.drewN nq).cell? ⟨bA, oA + i * 2, none⟩ = some (.string x) := n1'
                  have z2' : (w9.drewN nq).cell? ⟨bA, oA + j * 2, none⟩ = some (.string y) := n2'
                  have z3' : (w9.drewN nq).cell? ⟨g, kk * 2, none⟩ = some (.string x) := n3'
                  clear y0 y1 n1' n2' n3' HQ1 HQ2 b1 b2 b2' b3 b4 b4' b5 b6 b6'
                  generalize w9.drewN nq = w10 at *
                  go_wp2
                  go_roundw
                  case rel => exact ⟨k + 1, by omega, by go_num, HB10⟩
                  case measure => simp [intOf]; omega
              · obtain rfl : k = m := by omega
                go_wp2
                go_ret
                exact ⟨rfl, HBw.out⟩
          · have t1 : (e1 != 0) = false := by simp [z1]
            have t2 : (e2 != 0) = true := by simp [z2]
            have t3 : (e1 != e2) = true := by rw [z1]; simp; omega
            obtain ⟨bb, hbb⟩ : ∃ b, (((l1 : Int) + (l2 : Int)) == 0) = b := ⟨_, rfl⟩
            clear z1 z2
            cases bb with
            | true =>
              go_wp2
              go_ret
              exact ⟨rfl, HB7.out⟩
            | false =>
              go_wp2
              go_ret
              exact ⟨rfl, HB7.out⟩
        · have t1 : (e1 != 0) = true := by simp [z1]
          by_cases z2 : e1 = e2
          · have y1 : l1 = 0 := by rw [← HL1'.out, HMB1.out z1]; rfl
            have y2 : l2 = 0 := by rw [← HL2'.out, HMB2.out (by rw [← z2]; exact z1)]; rfl
            have hbb : (((l1 : Int) + (l2 : Int)) == 0) = true := by rw [y1, y2]; rfl
            clear z1 z2 y1 y2
            go_wp2
            go_ret
            exact ⟨rfl, HB7.out⟩
          · have t3 : (e1 != e2) = true := by simp; omega
            obtain ⟨bb, hbb⟩ : ∃ b, (((l1 : Int) + (l2 : Int)) == 0) = b := ⟨_, rfl⟩
            clear z1 z2
            cases bb with
            | true =>
              go_wp2
              go_ret
              exact ⟨rfl, HB7.out⟩
            | false =>
              go_wp2
              go_ret
              exact ⟨rfl, HB7.out⟩

end Go.Proofs.Ytgecmgldamdpgaa.Shd
