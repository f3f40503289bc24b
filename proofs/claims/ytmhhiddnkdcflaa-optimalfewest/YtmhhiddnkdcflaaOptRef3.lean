/-
  The reference: fewest, BestFewest.
-/
import Derived.Test.YtmhhiddnkdcflaaOptRef
import Derived.Test.YtmhhiddnkdcflaaTwoInts
import Derived.Test.YtmhhiddnkdcflaaKeysRef
namespace Go.Proofs.Ytmhhiddnkdcflaa.Opt
open Go.RowKit
open Bst
open Two
open Lru (isRm isK)
set_option linter.unusedVariables false
set_option maxRecDepth 100000

theorem minK_base (f : Nat → Nat) (b : Nat) : ∀ k, minK f b k ≤ b
  | 0 => Nat.le_refl _
  | k + 1 => by
    have := minK_base f b k
    unfold minK
    split <;> omega
theorem few_le (r b : Nat) : ∀ (xs S : List Int), few r b S xs ≤ b + xs.length
  | [], _ => Nat.zero_le _
  | x :: xs, S => by
    unfold few
    simp only [List.length_cons]
    split
    · have := few_le r b xs S; omega
    · split
      · have := few_le r b xs (S ++ [x]); omega
      · have := minK_base (fun k => 1 + few r b (S.set k x) xs) b S.length; omega
theorem few_hit {r b k : Nat} {L S : List Int} (h : k < L.length) (hm : gi L k ∈ S) : few r b S (L.drop k) = few r b S (L.drop (k + 1)) := by
  rw [drop_at h]
  show (if gi L k ∈ S then _ else _) = _
  rw [if_pos hm]
theorem few_room {r b k : Nat} {L S : List Int} (h : k < L.length) (hm : gi L k ∉ S) (hl : S.length < r) : few r b S (L.drop k) = 1 + few r b (S ++ [gi L k]) (L.drop (k + 1)) := by
  rw [drop_at h]
  show (if gi L k ∈ S then _ else _) = _
  rw [if_neg hm, if_pos hl]
theorem few_full {r b k : Nat} {L S : List Int} (h : k < L.length) (hm : gi L k ∉ S) (hl : ¬ S.length < r) : few r b S (L.drop k) = minK (fun j => 1 + few r b (S.set j (gi L k)) (L.drop (k + 1))) b S.length := by
  rw [drop_at h]
  show (if gi L k ∈ S then _ else _) = _
  rw [if_neg hm, if_neg hl]
theorem few_end {r b k : Nat} {L S : List Int} (h : k = L.length) : few r b S (L.drop k) = 0 := by
  subst h; rw [List.drop_length]; rfl

set_option maxHeartbeats 16000000 in
theorem fewest_any (r : Int) (hr : isRm r) (L : List Int) (hl9 : L.length ≤ 9) : ∀ (d p : Nat) (A : Option Addr) (c : Nat) (B : Option Addr) (k : Nat) (S : List Int) (w : World), d + p = L.length → Ints w A c L → Ints w B k S → S.length ≤ r.toNat →
    Calls Try.prog 38 #[.slice A L.length c, .int .i64 (p : Int), .slice B S.length k, .int .i64 r] w fun e w' => e = .returned (.int .i64 (few r.toNat (L.length + 1) S (L.drop p) : Int)) ∧ Below w.heap.size w w' := by
  intro d
  induction d using Nat.strongRecOn with
  | ind d ih =>
  intro p A c B k S w hd hI hJ hS
  have HIH := Lib.hid ih
  have HI := Lib.hid hI
  have HJ := Lib.hid hJ
  have HRr : Hid (((r.toNat : Nat) : Int) = r ∧ 1 ≤ r.toNat ∧ r.toNat ≤ 40) := Lib.hid (by have := hr.1; have := hr.2; omega)
  have hSl : S.length ≤ 40 := by have := HRr.out.2.2; omega
  have HS := Lib.hid hS
  obtain ⟨rn, hrn⟩ : ∃ rn, rn = r.toNat := ⟨_, rfl⟩
  rw [← hrn] at HRr HS ⊢
  simp only [← hrn] at HIH
  clear hrn ih hI hJ hS hr
  obtain ⟨n, hn⟩ : ∃ n, L.length = n := ⟨_, rfl⟩
  have HN := Lib.hid hn
  obtain ⟨sn, hsn⟩ : ∃ n, S.length = n := ⟨_, rfl⟩
  have HSn := Lib.hid hsn
  have HHas := Lib.hid (fun (y : Int) (b : Bool) (hb : decide (y ∈ S) = b) => Kr.hasInt_b B k S y b w HJ.out hb)
  simp only [hn] at HIH hd hl9 ⊢
  simp only [hsn] at HHas hSl HS ⊢
  clear hn hsn
  have HSl := Lib.hid hSl
  obtain ⟨b1, hb1⟩ : ∃ b1, b1 = n + 1 := ⟨_, rfl⟩
  have HB1 := Lib.hid hb1
  rw [← hb1] at HIH ⊢
  clear hb1
  go_enter Try.func38, Try.ntmps38
  go_wp2
  go_loop [1] (fun s1 => ∃ q : Nat, p ≤ q ∧ q ≤ n ∧ s1 = .int .i64 (q : Int) ∧ Hid (few rn b1 S (L.drop p) = few rn b1 S (L.drop q))) (fun s1 => n - (intOf s1).toNat)
  case atStart => exact ⟨p, Nat.le_refl _, by omega, rfl, Lib.hid rfl⟩
  case round =>
    obtain ⟨q, hpq, hq, rfl, HF⟩ := hrel
    by_cases hlt : q < n
    · have hin : (q : Int) < (n : Int) := by omega
      have hiB : (0 : Int) ≤ (q : Int) := by omega
      have hqL : q < L.length := by rw [HN.out]; exact hlt
      have HQL := Lib.hid hqL
      obtain ⟨b, o, rfl, ht⟩ := HI.out.2.2.2 (by omega)
      have e1 := ht.2 q hqL
      have HBl := Lib.hid ht.1
      obtain ⟨x, hx⟩ : ∃ x, x = gi L q := ⟨_, rfl⟩
      have HX : Hid (gi L q = x) := Lib.hid hx.symm
      rw [← hx] at e1
      clear ht hqL hx
      by_cases hm : x ∈ S
      · have HH := Lib.hid (HHas.out x true (decide_eq_true hm))
        have HE : Hid (few rn b1 S (L.drop q) = few rn b1 S (L.drop (q + 1))) := Lib.hid (few_hit HQL.out (by rw [HX.out]; exact hm))
        clear hm
        go_wp2_with fail
        refine HH.out.mono ?_
        rintro e w7 ⟨rfl, hw7⟩
        subst hw7
        go_wp2
        go_round
        case rel => exact ⟨q + 1, by omega, by omega, by go_num, Lib.hid (HF.out.trans HE.out)⟩
        case measure => simp [intOf]; omega
      · have HH := Lib.hid (HHas.out x false (decide_eq_false hm))
        have hqn : ((q : Int) == (n : Int)) = false := by simp; omega
        have hw1 : IntKind.i64.wrap ((q : Int) + 1) = ((q + 1 : Nat) : Int) := by rw [IntKind.wrap_i64]; omega
        have HF2 : Hid (∀ (S' : List Int) (B' : Option Addr) (k' : Nat) (W : World), Ints W (some ⟨b, o, none⟩) c L → Ints W B' k' S' → S'.length ≤ rn → Calls Try.prog 38 #[.slice (some ⟨b, o, none⟩) n c, .int .i64 ((q + 1 : Nat) : Int), .slice B' S'.length k', .int .i64 r] W fun e w' => e = .returned (.int .i64 (few rn b1 S' (L.drop (q + 1)) : Int)) ∧ Below W.heap.size W w') := Lib.hid (fun S' B' k' W h1 h2 h3 => HIH.out (n - (q + 1)) (by omega) (q + 1) (some ⟨b, o, none⟩) c B' k' S' W (by omega) h1 h2 h3)
        have HFb : Hid (∀ S', few rn b1 S' (L.drop (q + 1)) ≤ 20) := Lib.hid (fun S' => by have h1 := few_le rn b1 (L.drop (q + 1)) S'; rw [List.length_drop, HN.out] at h1; have h2 := HB1.out; omega)
        clear HIH
        by_cases hf : sn < rn
        · have d1 : decide ((sn : Int) < r) = true := by have := HRr.out.1; simp; omega
          have HE : Hid (few rn b1 S (L.drop q) = 1 + few rn b1 (S ++ [x]) (L.drop (q + 1))) := Lib.hid (by rw [few_room HQL.out (by rw [HX.out]; exact hm) (by rw [HSn.out]; exact hf), HX.out])
          have HFj : Hid (few rn b1 (S ++ [x]) (L.drop (q + 1)) ≤ 20) := Lib.hid (HFb.out _)
          obtain ⟨m5, hm5⟩ : ∃ m, (([] ++ S) ++ [x] : List Int).length = m := ⟨_, rfl⟩
          have HME := Lib.hid hm5
          have HF5 : Hid (∀ (B' : Option Addr) (k' : Nat) (W : World), Ints W (some ⟨b, o, none⟩) c L → Ints W B' k' (([] ++ S) ++ [x]) → Calls Try.prog 38 #[.slice (some ⟨b, o, none⟩) n c, .int .i64 ((q + 1 : Nat) : Int), .slice B' m5 k', .int .i64 r] W fun e w' => e = .returned (.int .i64 (few rn b1 (S ++ [x]) (L.drop (q + 1)) : Int)) ∧ Below W.heap.size W w') := Lib.hid (by
            rw [← hm5, List.nil_append]
            exact fun B' k' W h1 h2 => HF2.out (S ++ [x]) B' k' W h1 h2 (by simp; rw [HSn.out]; omega))
          generalize few rn b1 (S ++ [x]) (L.drop (q + 1)) = fv at *
          have hwf : IntKind.i64.wrap (1 + (fv : Int)) = 1 + (fv : Int) := by rw [IntKind.wrap_i64]; have := HFj.out; omega
          have HR : Hid (few rn b1 S (L.drop p) = 1 + fv) := Lib.hid (by rw [HF.out, HE.out])
          have HL1 : Hid (([] : List Int).length + sn ≤ 17592186044416) := Lib.hid (by simp; omega)
          have HL2 : Hid (([] ++ S : List Int).length + 1 ≤ 17592186044416) := Lib.hid (by simp; rw [HSn.out]; omega)
          clear hm hf hm5
          go_wp2_with fail
          refine HH.out.mono ?_
          rintro e w ⟨rfl, rfl⟩
          have HL0 : Hid (∀ W, Below w.heap.size w W → W.cell? ⟨b, o + q, none⟩ = some (.int .i64 x) ∧ Ints W (some ⟨b, o, none⟩) c L ∧ Ints W B k S) := Lib.hid (fun W hW => ⟨(hW.cell (p := ⟨b, _, none⟩) HBl.out).trans e1, HI.out.below hW, HJ.out.below hW⟩)
          have HOA := Lib.hid (nw_A w)
          have HBA := Lib.hid (nw_bA w)
          have HOB := Lib.hid (nw_B w x)
          have HXB := Lib.hid (nw_xB w x)
          have HBB := Lib.hid (nw_bB w x)
          have HOC := Lib.hid (nw_C w x)
          have HXC := Lib.hid (nw_xC w x)
          have HBC := Lib.hid (nw_bC w x)
          have HBD := Lib.hid (nw_bD w x)
          clear e1
          go_wp2
          go_region_held3 (fun w' => w'.cell? ⟨b, o + q, none⟩ = some (.int .i64 x))
            (first | exact (HL0.out _ hBd).1 | exact (HL0.out _ hBb).1 | exact (HL0.out _ (bel_al hBa hBa.size _)).1 | exact (HL0.out _ hBa).1 | exact (HL0.out _ HBB.out).1 | exact (HL0.out _ HBC.out).1 | exact (HL0.out _ HBA.out).1 | exact (HL0.out _ HBD.out).1 | exact (HL0.out _ (Below.refl _ _).drew).1)
            (first
              | ((with_reducible refine at_world (w.alloc (.cells #[] 3)).drew ?_); refine step_append_ints (by rfl) _ _ (by rfl) w.heap.size _ [] (by rfl) HOA.out B k sn S HSn.out.symm (by rfl) (HL0.out _ HBA.out).2.2 HL1.out HBA.out.size ?_; intro va wa hown6 hg6; have hBa := HBA.out.grown hg6 HBA.out.size (fun q hq => (HOA.out.lt q hq).1))
              | ((with_reducible refine at_world ((w.alloc (.cells #[] 3)).alloc (.cells #[.int .i64 x] 3)).drew ?_); refine step_append_ints (by rfl) _ _ (by rfl) w.heap.size _ [] (by rfl) HOB.out B k sn S HSn.out.symm (by rfl) (HL0.out _ HBB.out).2.2 HL1.out HBB.out.size ?_; intro va wa hown6 hg6; have hBa := HBB.out.grown hg6 HBB.out.size (fun q hq => (HOB.out.lt q hq).1); have hxa := own_ints (own_grown HXB.out hg6 (ap_ne (by omega))))
              | ((with_reducible refine at_world ((w.alloc (.cells #[.int .i64 x] 3)).alloc (.cells #[] 3)).drew ?_); refine step_append_ints (by rfl) _ _ (by rfl) w.heap.size _ [] (by rfl) HOC.out B k sn S HSn.out.symm (by rfl) (HL0.out _ HBC.out).2.2 HL1.out HBC.out.size ?_; intro va wa hown6 hg6; have hBa := HBC.out.grown hg6 HBC.out.size (fun q hq => (HOC.out.lt q hq).1); have hxa := own_ints (own_grown HXC.out hg6 (ap_ne (by omega))))
              | ((with_reducible refine at_world wa ?_); refine step_append_ints (by rfl) _ _ (by rfl) w.heap.size _ ([] ++ S) (by rfl) hown6 _ 1 1 [x] rfl (by rfl) hxa HL2.out hBa.size ?_; intro vb wb hown7 hg7; have hBb := hBa.grown hg7 hBa.size (fun q hq => (hown6.lt q hq).1); obtain ⟨Bb, kb, rfl, hIb⟩ := ints_of_own hown7; rw [HME.out])
              | ((with_reducible refine at_world (wa.alloc (.cells #[.int .i64 x] 3)) ?_); have hBz := bel_al hBa hBa.size (xo x); have hownz := own_al hown6 (xo x); refine step_append_ints (by rfl) _ _ (by rfl) w.heap.size _ ([] ++ S) (by rfl) hownz (some ⟨wa.heap.size, 0, none⟩) 1 1 [x] rfl (by rfl) (own_ints (own_one1 wa x wa.heap.size (Nat.le_refl _))) HL2.out hBz.size ?_; intro vb wb hown7 hg7; have hBb := hBz.grown hg7 hBz.size (fun q hq => (hownz.lt q hq).1); obtain ⟨Bb, kb, rfl, hIb⟩ := ints_of_own hown7; rw [HME.out])
              | (go_at_call 38; refine (HF5.out Bb kb wb (HL0.out _ hBb).2.1 hIb).mono ?_; rintro e wd ⟨rfl, hbd⟩; have hBd := hBb.trans (hbd.mono hBb.size)))
          all_goals
            go_wp2
            go_ret
            exact ⟨Lru.ret_int (by rw [HR.out]; go_num), hBd⟩
        · have d1 : decide ((sn : Int) < r) = false := by have := HRr.out.1; simp; omega
          have HE : Hid (few rn b1 S (L.drop q) = minK (fun j => 1 + few rn b1 (S.set j x) (L.drop (q + 1))) b1 sn) := Lib.hid (by rw [few_full HQL.out (by rw [HX.out]; exact hm) (by rw [HSn.out]; exact hf), HX.out, HSn.out])
          obtain ⟨f, hff⟩ : ∃ f : Nat → Nat, f = fun j => 1 + few rn b1 (S.set j x) (L.drop (q + 1)) := ⟨_, rfl⟩
          have HFf : Hid (∀ j, f j = 1 + few rn b1 (S.set j x) (L.drop (q + 1))) := Lib.hid (fun j => by rw [hff])
          rw [← hff] at HE
          clear hm hff hSl
          have hwn : IntKind.i64.wrap ((n : Int) + 1) = (b1 : Int) := by rw [IntKind.wrap_i64]; have := HB1.out; omega
          have HSr : Hid (sn = rn) := Lib.hid (by have := HS.out; omega)
          clear hf
          go_wp2_with fail
          refine HH.out.mono ?_
          rintro e w ⟨rfl, rfl⟩
          go_wp2
          clear e1
          go_loopw [9, 10] (fun s9 s10 wr => ∃ j : Nat, j ≤ sn ∧ s10 = .int .i64 (j : Int) ∧ s9 = .int .i64 (minK f b1 j : Int) ∧ Hid (Below w.heap.size w wr)) (fun _ s10 _ => sn - (intOf s10).toNat)
          case atStart => exact ⟨0, Nat.zero_le _, rfl, rfl, Lib.hid (Below.refl _ _)⟩
          case round =>
            obtain ⟨j, hj, rfl, rfl, HBr⟩ := hrel
            by_cases hjm : j < sn
            · have hjn : (j : Int) < (sn : Int) := by omega
              have hjB : (0 : Int) ≤ (j : Int) := by omega
              have hwj : IntKind.i64.wrap ((j : Int) + 1) = (j : Int) + 1 := by rw [IntKind.wrap_i64]; have := HSl.out; omega
              have HJr : Hid (Ints (wr.alloc (.cells #[] 3)) B k S) := Lib.hid ((HJ.out.below HBr.out).alloc _)
              have HOr : Hid (OwnI (wr.alloc (.cells #[] 3)) wr.heap.size (.slice (some ⟨wr.heap.size, 0, none⟩) 0 0) []) := Lib.hid (own_made wr _ (Nat.le_refl _))
              have HBa : Hid (Below wr.heap.size wr (wr.alloc (.cells #[] 3))) := Lib.hid (bel_al (Below.refl _ _) (Nat.le_refl _) _)
              have HFj : Hid (few rn b1 (S.set j x) (L.drop (q + 1)) ≤ 20) := Lib.hid (HFb.out _)
              have HF3 := Lib.hid (HF2.out (S.set j x))
              have HEj : Hid (f j = 1 + few rn b1 (S.set j x) (L.drop (q + 1))) := Lib.hid (HFf.out j)
              have HMk : Hid (minK f b1 (j + 1) = if f j < minK f b1 j then f j else minK f b1 j) := Lib.hid rfl
              generalize few rn b1 (S.set j x) (L.drop (q + 1)) = fv at *
              rw [HEj.out] at HMk
              generalize minK f b1 j = mk at *
              go_wp2_with (first
                | (at_builtin; refine wpList_append_m (by rfl) _ _ (by rfl) wr.heap.size _ [] (by rfl) HOr.out B k sn S HSn.out.symm (by rfl) HJr.out (by rw [HSn.out]; have h1 := HSl.out; simp; omega) HBa.out.size ?_)
                | go_in)
              intro v3 w3 h3 h4
              have hb3 : Below wr.heap.size wr w3 := HBa.out.grown h4 HBa.out.size (fun q hq => (HOr.out.lt q hq).1)
              obtain ⟨g, kk, rfl, hgb, hgs⟩ := own_form h3 (by rw [HSn.out]; omega)
              rw [HSn.out] at h3 ⊢
              obtain ⟨g2, f2⟩ := own_cells h3 HSn.out.symm (by rw [HSn.out]; exact hjm)
              have e1 : w3.cell? ⟨b, o + q, none⟩ = some (.int .i64 x) := by
                obtain ⟨b', o', e, ht⟩ := ((HI.out.below HBr.out).below hb3).2.2.2 (by have := HQL.out; omega)
                cases e
                rw [ht.2 q HQL.out, HX.out]
              have HO4 : Hid (OwnI (w3.setCell ⟨g, j, none⟩ (.int .i64 x)) wr.heap.size (.slice (some ⟨g, 0, none⟩) sn kk) (S.set j x)) := Lib.hid (own_put h3 HSn.out.symm j x)
              have HB4 : Hid (Below w.heap.size w (w3.setCell ⟨g, j, none⟩ (.int .i64 x))) := Lib.hid (bel_set (HBr.out.trans (hb3.mono HBr.out.size)) (a := ⟨g, j, none⟩) (Nat.le_trans HBr.out.size hgb) _)
              have HI4 : Hid (Ints (w3.setCell ⟨g, j, none⟩ (.int .i64 x)) (some ⟨b, o, none⟩) c L) := Lib.hid (HI.out.below HB4.out)
              generalize gi S j = u0 at *
              have hlen : (S.set j x).length = sn := by rw [List.length_set]; exact HSn.out
              have HLe := Lib.hid hlen
              have HJ4 : Hid (Ints (w3.setCell ⟨g, j, none⟩ (.int .i64 x)) (some ⟨g, 0, none⟩) kk (S.set j x)) := Lib.hid (by
                obtain ⟨A', c', e, hI'⟩ := ints_of_own HO4.out
                cases e
                exact hI')
              have HF4 := Lib.hid (HF3.out (some ⟨g, 0, none⟩) kk _ HI4.out HJ4.out (by rw [HLe.out, HSr.out]; exact Nat.le_refl _))
              rw [HLe.out] at HF4
              clear h3 h4 hb3 hgb hgs hlen HF3
              go_wp2_with fail
              refine HF4.out.mono ?_
              rintro e w6 ⟨rfl, hb6⟩
              have HB6 : Hid (Below w.heap.size w w6) := Lib.hid (HB4.out.trans (hb6.mono HB4.out.size))
              clear hb6 g2 f2 e1
              have hwf : IntKind.i64.wrap (1 + (fv : Int)) = 1 + (fv : Int) := by rw [IntKind.wrap_i64]; have := HFj.out; omega
              by_cases hlt2 : 1 + fv < mk
              · rw [if_pos hlt2] at HMk
                have d2 : decide (1 + (fv : Int) < (mk : Int)) = true := by simp; omega
                clear hlt2
                go_wp2
                go_roundw
                case rel => exact ⟨j + 1, by omega, by go_num, by rw [HMk.out]; go_num, HB6⟩
                case measure => simp [intOf]; omega
              · rw [if_neg hlt2] at HMk
                have d2 : decide (1 + (fv : Int) < (mk : Int)) = false := by simp; omega
                clear hlt2
                go_wp2
                go_roundw
                case rel => exact ⟨j + 1, by omega, by go_num, by rw [HMk.out], HB6⟩
                case measure => simp [intOf]; omega
            · obtain rfl : j = sn := by omega
              have HR : Hid (few rn b1 S (L.drop p) = minK f b1 j) := Lib.hid (by rw [HF.out, HE.out])
              go_wp2
              go_ret
              exact ⟨Lru.ret_int (by rw [HR.out]), HBr.out⟩
    · obtain rfl : q = n := by omega
      have HE : Hid (few rn b1 S (L.drop p) = 0) := Lib.hid (by rw [HF.out]; exact few_end HN.out.symm)
      have hqn : ((q : Int) == (q : Int)) = true := by simp
      go_wp2
      go_ret
      exact ⟨Lru.ret_int (by rw [HE.out]; rfl), Below.refl _ _⟩

theorem bestFewest_any (r : Int) (hr : isRm r) (A : Option Addr) (c : Nat) (L : List Int) (w : World) (hI : Ints w A c L) (hl : L.length ≤ 9) :
    Calls Try.prog 18 #[.slice A L.length c, .int .i64 r] w fun e w' => e = .returned (.int .i64 (missB r.toNat [] L : Int)) ∧ Below w.heap.size w w' := by
  have HF := Lib.hid (fewest_any r hr L hl L.length 0 A c none 0 [] w (by omega) hI (Ints.none_ _) (Nat.zero_le _))
  rw [List.drop_zero, few_eq (by have := hr.1; omega) (Nat.lt_succ_self _)] at HF
  clear hI hl hr
  generalize L.length = n at *
  go_enter Try.func18, Try.ntmps18
  go_wp2_with fail
  refine HF.out.mono ?_
  rintro e w1 ⟨rfl, hb1⟩
  have HB1 := Lib.hid hb1
  clear hb1
  go_wp2
  go_ret
  exact ⟨rfl, HB1.out⟩

end Go.Proofs.Ytmhhiddnkdcflaa.Opt
