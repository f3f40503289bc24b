/-
  The reference of package shard: ShardOwners.
-/
import Derived.Test.YtgecmgldamdpgaaShRef
import Derived.Test.YtgecmgldamdpgaaBelowQuiet
namespace Go.Proofs.Ytgecmgldamdpgaa.Shd
open Go.RowKit
open Two (own_none own_bel)
set_option linter.unusedVariables false
set_option maxRecDepth 100000

/-- The owners in their order. -/
def owl (L : List Sh) (s : ByteArray) : List Nat := ord (sc L s) (L.length - 1)
theorem owl_len {L : List Sh} {s : ByteArray} (h : 0 < L.length) : (owl L s).length = L.length := by unfold owl; rw [ord_len]; omega
theorem owl_best {L : List Sh} {s : ByteArray} (h : 0 < L.length) {q : Nat} (hq : q < L.length) : IsBest (sc L s) (fun x => x ∉ (owl L s).take q) L.length ((owl L s).getD q 0) := by
  have k := ord_chain (m := L.length - 1) (sc L s) q (by rw [ord_len]; omega)
  rwa [show L.length - 1 + 1 = L.length by omega] at k
theorem owl_next {L : List Sh} {s : ByteArray} (h : 0 < L.length) {q : Nat} (hq : q < L.length) : zs ((owl L s).take (q + 1)) = zs ((owl L s).take q) ++ [(((owl L s).getD q 0 : Nat) : Int)] := by
  unfold zs
  rw [List.take_add_one, List.getElem?_eq_getElem (by rw [owl_len h]; exact hq), List.map_append, List.getD_eq_getElem?_getD, List.getElem?_eq_getElem (by rw [owl_len h]; exact hq)]
  rfl
theorem mem_zs {X : List Nat} {i : Nat} : decide ((i : Int) ∈ zs X) = decide (i ∈ X) := by
  have : (i : Int) ∈ zs X ↔ i ∈ X := by
    unfold zs
    rw [List.mem_map]
    exact ⟨fun ⟨j, hj, e⟩ => by obtain rfl : j = i := by omega
                                exact hj, fun h => ⟨i, h, rfl⟩⟩
  by_cases h : i ∈ X
  · rw [decide_eq_true h, decide_eq_true (this.2 h)]
  · rw [decide_eq_false h, decide_eq_false (fun e => h (this.1 e))]

set_option maxHeartbeats 8000000 in
theorem refOwners_any (A : Option Addr) (c : Nat) (L : List Sh) (s : ByteArray) (many : Nat) (w : World) (h : ShA w A c L) (he : err L s = 0) (hm : many ≤ L.length) :
    Calls Try.prog 10 #[.slice A L.length c, .string s, .int .i64 (many : Int)] w fun e w' => ∃ v, e = .returned v ∧ OwnI w' w.heap.size v (zs ((owl L s).take many)) ∧ Below w.heap.size w w' := by
  obtain ⟨hO, hk, h0⟩ := err_zero.1 he
  have HO := Lib.hid hO
  have hlen := hO.few
  have HF := Lib.hid h.sh
  have HSC : Hid (∀ i, sc L s i = scH (gs L i) (fnv s.data.toList)) := Lib.hid (fun i => rfl)
  have HBEST := Lib.hid (fun q (hq : q < L.length) => owl_best (s := s) h0 hq)
  have HNEXT := Lib.hid (fun q (hq : q < L.length) => owl_next (s := s) h0 hq)
  have HOLEN := Lib.hid (owl_len (s := s) h0)
  have HRS := Lib.hid (fun (W : World) (i : Nat) (hi : i < L.length) => refScore_any (gs L i) s W (hO.wt i hi) (hO.name i hi) hk)
  generalize sc L s = f at *
  generalize owl L s = OW at *
  clear h hO hk he
  obtain ⟨ln, hln⟩ : ∃ ln, L.length = ln := ⟨_, rfl⟩
  have HLN := Lib.hid hln
  rw [hln] at HBEST HNEXT HOLEN HRS h0 hlen hm ⊢
  have H0 := Lib.hid h0
  have HMY := Lib.hid hm
  clear hln h0 hm
  go_enter Try.func10, Try.ntmps10
  go_wp2
  go_loopw [7] (fun v wr => ∃ q : Nat, q ≤ many ∧ Hid (OwnI wr w.heap.size v (zs (OW.take q))) ∧ Hid (Below w.heap.size w wr)) (fun v _ => many - (match v with | .slice _ n _ => n | _ => 0))
  case atStart => exact ⟨0, by omega, Lib.hid (own_none _ _), Lib.hid (Below.refl _ _)⟩
  case round =>
    obtain ⟨q, hq, HX, HB⟩ := hrel
    obtain ⟨C, d, rfl, hI⟩ := ints_of_own HX.out
    have hzl : (zs (OW.take q)).length = q := by unfold zs; rw [List.length_map, List.length_take, HOLEN.out]; have := HMY.out; omega
    have HZL := Lib.hid hzl
    have HI := Lib.hid hI
    clear hI
    rw [hzl]
    have HX' : Hid (OwnI wr w.heap.size (.slice C q d) (zs (OW.take q))) := Lib.hid (by have := HX.out; rwa [hzl] at this)
    clear hzl HX
    by_cases hlt : q < many
    · have hin : (q : Int) < (many : Int) := by omega
      have hin' : decide ((q : Int) < (many : Int)) = true := by simpa using hlt
      have HQ : Hid (q < ln) := Lib.hid (by have := HMY.out; omega)
      have HBq := Lib.hid (HBEST.out q HQ.out)
      have HNq := Lib.hid (HNEXT.out q HQ.out)
      generalize OW.take q = X at *
      go_wp2
      go_loopw [8, 9] (fun b i wi => ∃ k : Nat, k ≤ ln ∧ i = .int .i64 (k : Int) ∧ ((b = .int .i64 (-1) ∧ Hid (∀ j, j < k → ¬ j ∉ X)) ∨ ∃ j : Nat, b = .int .i64 (j : Int) ∧ Hid (IsBest f (fun x => x ∉ X) k j)) ∧ Hid (Below wr.heap.size wr wi)) (fun _ i _ => ln - (intOf i).toNat)
      case atStart => exact ⟨0, by omega, rfl, .inl ⟨rfl, Lib.hid (fun j hj => by omega)⟩, Lib.hid (Below.refl _ _)⟩
      case round =>
        rename World => wi
        obtain ⟨k, hk, rfl, hcase, HBi⟩ := hrel
        clear hin hin'
        by_cases hkl : k < ln
        · have hin : (k : Int) < (ln : Int) := by omega
          have hiB : (0 : Int) ≤ (k : Int) := by omega
          have HIi := Lib.hid (HI.out.below HBi.out)
          have HH : Hid (∀ W, Below wi.heap.size wi W → Calls Try.prog 19 #[.slice C q d, .int .i64 (k : Int)] W fun e w' => e = .returned (.bool (decide (k ∈ X))) ∧ Below W.heap.size W w') := Lib.hid (fun W hW => by
            have h := hasInt_any C d (zs X) (k : Int) W (HIi.out.below hW)
            rw [HZL.out, mem_zs] at h
            exact h.mono (fun e w' ⟨h1, h2⟩ => ⟨h1, by rw [h2]; exact Below.refl _ _⟩))
          have HFi := Lib.hid (HF.out.below (HB.out.trans (HBi.out.mono HB.out.size)))
          by_cases q1 : k ∈ X
          · -- it has been named
            have HHt : Hid (∀ u : Bw wi, Calls Try.prog 19 #[.slice C q d, .int .i64 (k : Int)] u.w fun e w' => e = .returned (.bool true) ∧ Below u.w.heap.size u.w w') := Lib.hid (fun u => by have h := HH.out u.w u.h; rwa [decide_eq_true q1] at h)
            rcases hcase with ⟨rfl, HC⟩ | ⟨j, rfl, HC⟩
            · have HC2 : Hid (∀ j, j < k + 1 → ¬ j ∉ X) := Lib.hid (fun j hj => by
                by_cases e : j = k
                · rw [e]; exact fun hh => hh q1
                · exact HC.out j (by omega))
              clear q1 HC
              go_wp2_with fail
              refine wp_region_below (by kernel_rfl) (by kernel_rfl) ?_
              repeat (go_big_quiet_step ((first | (go_at_call 19; (with_reducible exact calls_bw (HHt.out _))))))
              refine wpQuiet_nil ?_
              intro _ hw'
              obtain ⟨u9, hw''⟩ := hw'
              subst hw''
              have HB9 := Lib.hid (HBi.out.trans (u9.h.mono HBi.out.size))
              generalize u9.w = w9 at *
              clear u9
              go_wp2
              go_roundw
              case rel => exact ⟨k + 1, by omega, by go_num, .inl ⟨rfl, HC2⟩, HB9⟩
              case measure => simp [intOf]; omega
            · have HC2 : Hid (IsBest f (fun x => x ∉ X) (k + 1) j) := Lib.hid (best_skip HC.out (fun hh => hh q1))
              clear q1 HC
              go_wp2_with fail
              refine wp_region_below (by kernel_rfl) (by kernel_rfl) ?_
              repeat (go_big_quiet_step ((first | (go_at_call 19; (with_reducible exact calls_bw (HHt.out _))))))
              refine wpQuiet_nil ?_
              intro _ hw'
              obtain ⟨u9, hw''⟩ := hw'
              subst hw''
              have HB9 := Lib.hid (HBi.out.trans (u9.h.mono HBi.out.size))
              generalize u9.w = w9 at *
              clear u9
              go_wp2
              go_roundw
              case rel => exact ⟨k + 1, by omega, by go_num, .inr ⟨j, rfl, HC2⟩, HB9⟩
              case measure => simp [intOf]; omega
          · have HHf : Hid (∀ u : Bw wi, Calls Try.prog 19 #[.slice C q d, .int .i64 (k : Int)] u.w fun e w' => e = .returned (.bool false) ∧ Below u.w.heap.size u.w w') := Lib.hid (fun u => by have h := HH.out u.w u.h; rwa [decide_eq_false q1] at h)
            rcases hcase with ⟨rfl, HC⟩ | ⟨j, rfl, HC⟩
            · have HC2 : Hid (IsBest f (fun x => x ∉ X) (k + 1) k) := Lib.hid (best_first HC.out q1)
              clear q1 HC
              go_wp2_with fail
              refine wp_region_below (by kernel_rfl) (by kernel_rfl) ?_
              repeat (go_big_quiet_step ((first | (go_at_call 19; (with_reducible exact calls_bw (HHf.out _))))))
              refine wpQuiet_nil ?_
              intro _ hw'
              obtain ⟨u9, hw''⟩ := hw'
              subst hw''
              have HB9 := Lib.hid (HBi.out.trans (u9.h.mono HBi.out.size))
              generalize u9.w = w9 at *
              clear u9
              go_wp2
              go_roundw
              case rel => exact ⟨k + 1, by omega, by go_num, .inr ⟨k, rfl, HC2⟩, HB9⟩
              case measure => simp [intOf]; omega
            · have hjk : j < ln := by have := HC.out.1; omega
              have dj : decide ((j : Int) < 0) = false := by simp
              have hj0 : (0 : Int) ≤ (j : Int) := by omega
              have hjn : (j : Int) < (ln : Int) := by omega
              have HT1 : Hid (∀ u : Bw wi, Calls Try.prog 13 #[fv (gs L k), .string s] u.w fun e w' => e = .returned (.int .u64 ((f k : Nat) : Int)) ∧ Below u.w.heap.size u.w w') := Lib.hid (fun u => by have h := HRS.out u.w k hkl; rwa [← HSC.out k] at h)
              have HT2 : Hid (∀ u : Bw wi, Calls Try.prog 13 #[fv (gs L j), .string s] u.w fun e w' => e = .returned (.int .u64 ((f j : Nat) : Int)) ∧ Below u.w.heap.size u.w w') := Lib.hid (fun u => by have h := HRS.out u.w j hjk; rwa [← HSC.out j] at h)
              obtain ⟨b, o, hA, -, -⟩ := HFi.out.sh (k := k) (by rw [HLN.out]; exact hkl)
              subst hA
              have hS0 : ∀ v : Bw wi, v.w.cell? ⟨b, o + k * 2, none⟩ = some (.string (gs L k).name) := fun v => by
                obtain ⟨b', o', e, c1, c2⟩ := (HFi.out.below v.h).sh (k := k) (by rw [HLN.out]; exact hkl)
                cases e; exact c1
              have hS1 : ∀ v : Bw wi, v.w.cell? ⟨b, o + k * 2 + 1, none⟩ = some (.int .i64 (gs L k).wt) := fun v => by
                obtain ⟨b', o', e, c1, c2⟩ := (HFi.out.below v.h).sh (k := k) (by rw [HLN.out]; exact hkl)
                cases e; exact c2
              have hS2 : ∀ v : Bw wi, v.w.cell? ⟨b, o + j * 2, none⟩ = some (.string (gs L j).name) := fun v => by
                obtain ⟨b', o', e, c1, c2⟩ := (HFi.out.below v.h).sh (k := j) (by rw [HLN.out]; exact hjk)
                cases e; exact c1
              have hS3 : ∀ v : Bw wi, v.w.cell? ⟨b, o + j * 2 + 1, none⟩ = some (.int .i64 (gs L j).wt) := fun v => by
                obtain ⟨b', o', e, c1, c2⟩ := (HFi.out.below v.h).sh (k := j) (by rw [HLN.out]; exact hjk)
                cases e; exact c2
              generalize gs L k = gk at *
              generalize gs L j = gj at *
              obtain ⟨nk, wk⟩ := gk
              obtain ⟨nj, wj⟩ := gj
              dsimp only at hS0 hS1 hS2 hS3
              by_cases q2 : f j < f k
              · have HC2 : Hid (IsBest f (fun x => x ∉ X) (k + 1) k) := Lib.hid (best_take HC.out q1 q2)
                have d2 : decide (((f j : Nat) : Int) < ((f k : Nat) : Int)) = true := by simpa using q2
                have d2' : decide (f j < f k) = true := by simpa using q2
                clear q1 q2 HC
                generalize f k = fk at *
                generalize f j = fj at *
                go_wp2_with fail
                refine wp_region_below (by kernel_rfl) (by kernel_rfl) ?_
                repeat (go_big_quiet_step ((first | (go_at_call 19; (with_reducible exact calls_bw (HHf.out _))) | (go_at_call 13; (with_reducible exact calls_bw (HT1.out _))) | (go_at_call 13; (with_reducible exact calls_bw (HT2.out _))))))
                refine wpQuiet_nil ?_
                intro _ hw'
                obtain ⟨u9, hw''⟩ := hw'
                subst hw''
                clear hS0 hS1 hS2 hS3
                have HB9 := Lib.hid (HBi.out.trans (u9.h.mono HBi.out.size))
                generalize u9.w = w9 at *
                clear u9
                go_wp2
                go_roundw
                case rel => exact ⟨k + 1, by omega, by go_num, .inr ⟨k, rfl, HC2⟩, HB9⟩
                case measure => simp [intOf]; omega
              · have HC2 : Hid (IsBest f (fun x => x ∉ X) (k + 1) j) := Lib.hid (best_keep HC.out q2)
                have d2 : decide (((f j : Nat) : Int) < ((f k : Nat) : Int)) = false := by simpa using q2
                have d2' : decide (f j < f k) = false := by simpa using q2
                clear q1 q2 HC
                generalize f k = fk at *
                generalize f j = fj at *
                go_wp2_with fail
                refine wp_region_below (by kernel_rfl) (by kernel_rfl) ?_
                repeat (go_big_quiet_step ((first | (go_at_call 19; (with_reducible exact calls_bw (HHf.out _))) | (go_at_call 13; (with_reducible exact calls_bw (HT1.out _))) | (go_at_call 13; (with_reducible exact calls_bw (HT2.out _))))))
                refine wpQuiet_nil ?_
                intro _ hw'
                obtain ⟨u9, hw''⟩ := hw'
                subst hw''
                clear hS0 hS1 hS2 hS3
                have HB9 := Lib.hid (HBi.out.trans (u9.h.mono HBi.out.size))
                generalize u9.w = w9 at *
                clear u9
                go_wp2
                go_roundw
                case rel => exact ⟨k + 1, by omega, by go_num, .inr ⟨j, rfl, HC2⟩, HB9⟩
                case measure => simp [intOf]; omega
        · obtain rfl : k = ln := by omega
          -- the best one is the next
          obtain ⟨j, rfl, HJ⟩ : ∃ j : Nat, u8 = .int .i64 (j : Int) ∧ Hid (zs (OW.take (q + 1)) = zs X ++ [(j : Int)]) := by
            rcases hcase with ⟨rfl, HC⟩ | ⟨j, rfl, HC⟩
            · exact absurd HBq.out.2.1 (HC.out _ HBq.out.1)
            · exact ⟨j, rfl, Lib.hid (by rw [HNq.out, best_uniq HC.out HBq.out])⟩
          clear hcase
          have HXi : Hid (OwnI wi w.heap.size (.slice C q d) (zs X)) := Lib.hid (own_bel HX'.out HBi.out)
          have HBw : Hid (Below w.heap.size w wi) := Lib.hid (HB.out.trans (HBi.out.mono HB.out.size))
          have HLX : Hid ((zs X).length ≤ 1048576) := Lib.hid (by rw [HZL.out]; have := HQ.out; omega)
          go_wp2_with (first | (at_builtin; refine append_one rfl _ _ rfl w.heap.size _ _ rfl HXi.out (j : Int) _ rfl HLX.out HBw.out.size ?_; intro v6 w6 ho6 hg6; rw [← HJ.out] at ho6; have HO6 := Lib.hid ho6; have HB6 := Lib.hid (own_grow HXi.out HBw.out HBw.out.size (Nat.le_refl _) hg6); clear ho6 hg6))
          go_roundw
          case rel => exact ⟨q + 1, by omega, HO6, HB6⟩
          case measure =>
            obtain ⟨C6, d6, e6, -⟩ := ints_of_own HO6.out
            subst e6
            have h6 : (zs (OW.take (q + 1))).length = q + 1 := by unfold zs; rw [List.length_map, List.length_take, HOLEN.out]; have := HQ.out; omega
            show many - (zs (OW.take (q + 1))).length < many - q
            rw [h6]; omega
    · obtain rfl : q = many := by omega
      have hin' : decide ((q : Int) < (q : Int)) = false := by simp
      go_wp2
      go_ret
      exact ⟨_, rfl, HX'.out, HB.out⟩

end Go.Proofs.Ytgecmgldamdpgaa.Shd
