/-
  The reference of package ring: RingAdd.
-/
import Derived.Test.YtjmhemkbfephpaaRgRef
import Derived.Test.YtjmhemkbfephpaaRgRemove
import Derived.Test.YtjmhemkbfephpaaRgSeen
namespace Go.Proofs.Ytjmhemkbfephpaa.Rng
open Go.RowKit
set_option linter.unusedVariables false
set_option maxRecDepth 100000

theorem free_next {L : List Pt} {P : List Int} {i : Nat} (h : i < P.length) (hF : Free L (P.take i)) (h1 : ∀ k, k < i → gi P k ≠ gi P i) (h2 : ∀ k, k < L.length → (gp L k).at_ ≠ gi P i) : Free L (P.take (i + 1)) := by
  refine ⟨nd_new h hF.1 (fun hm => ?_), fun q hq hm => ?_⟩
  · obtain ⟨k, hk, e⟩ := List.mem_take_iff_getElem.1 hm
    exact h1 k (by omega) (by rw [gi_get (by omega)]; exact e)
  · rw [take_one h, List.mem_append] at hm
    rcases hm with hm | hm
    · exact hF.2 q hq hm
    · obtain ⟨k, hk, rfl⟩ := List.getElem_of_mem hq
      exact h2 k hk (by rw [gp_get hk]; simpa using hm)
theorem free_two {L : List Pt} {P : List Int} {i k : Nat} (h : i < P.length) (hk : k < i) (e : gi P k = gi P i) : ¬ Free L P := fun hF =>
  nd_in h (List.mem_take_iff_getElem.2 ⟨k, by omega, by rw [← gi_get (by omega)]; exact e⟩) hF.1
theorem free_pt {L : List Pt} {P : List Int} {i k : Nat} (h : i < P.length) (hk : k < L.length) (e : (gp L k).at_ = gi P i) : ¬ Free L P := fun hF =>
  hF.2 _ (gp_mem hk) (by rw [e, gi_get h]; exact List.getElem_mem h)


set_option maxHeartbeats 8000000 in
theorem refAdd_any (A B : Option Addr) (c d : Nat) (F : List Pt) (s : Int) (P : List Int) (w : World) (hF : Pts w A c F) (hP : Ints w B d P) (hG : Good F) (hpl : P.length ≤ 1000) :
    Calls Try.prog 14 #[.slice A F.length c, .int .i64 s, .slice B P.length d] w (RP (adL F s P) (adE F s P) w) := by
  have hl1 := hF.len
  have hl2 := hP.len
  have hfew := hG.few
  have h1 : checkR F = 0 := check_zero.2 hG
  have HFE := Lib.hid hfew
  have HF := Lib.hid hF
  have HP := Lib.hid hP
  have HG := Lib.hid hG
  have HBT := Lib.hid (fun (x a b : Int) (W : World) => between_any x a b W)
  have HBS := Lib.hid (between_any s 0 19 w)
  have HE3 : Hid (¬ isS s → adE F s P = 3 ∧ adL F s P = []) := Lib.hid (fun h => ⟨adE_sh h1 h, adL_bad (by rw [adE_sh h1 h]; decide)⟩)
  have HE3b : Hid (isS s → allP P = false → adE F s P = 3 ∧ adL F s P = []) := Lib.hid (fun h h2 => ⟨adE_pl h1 h h2, adL_bad (by rw [adE_pl h1 h h2]; decide)⟩)
  have HE6 : Hid (isS s → allP P = true → ¬ Free F P → adE F s P = 6 ∧ adL F s P = []) := Lib.hid (fun h h2 h3 => ⟨adE_twice h1 h h2 h3, adL_bad (by rw [adE_twice h1 h h2 h3]; decide)⟩)
  have HE2 : Hid (isS s → allP P = true → Free F P → 60 < F.length + P.length → adE F s P = 2 ∧ adL F s P = []) := Lib.hid (fun h h2 h3 h4 => ⟨adE_many h1 h h2 h3 h4, adL_bad (by rw [adE_many h1 h h2 h3 h4]; decide)⟩)
  have HE0 : Hid (isS s → allP P = true → Free F P → ¬ 60 < F.length + P.length → adE F s P = 0) := Lib.hid (fun h h2 h3 h4 => adE_ok h1 h h2 h3 h4)
  obtain ⟨ln, hln⟩ : ∃ ln, F.length = ln := ⟨_, rfl⟩
  have HLN := Lib.hid hln
  obtain ⟨lp, hlp⟩ : ∃ lp, P.length = lp := ⟨_, rfl⟩
  have HLP := Lib.hid hlp
  rw [hln] at hl1 hfew HE2 HE0 ⊢
  rw [hlp] at hl2 hpl HE2 HE0 ⊢
  clear hF hP hG h1 hln hlp
  have HE0' := Lib.hid (fun (h : adE F s P = 0) => adL_ok h)
  have HGS := Lib.hid (fun (h : adE F s P = 0) => add_good h)
  generalize adL F s P = R at *
  generalize adE F s P = r at *
  by_cases q1 : isS s
  · have q1' : decide (0 ≤ s ∧ s ≤ 19) = true := decide_eq_true q1
    rw [q1'] at HBS
    have HZ : Hid (allP P = allP (P.drop 0)) := Lib.hid rfl
    have HS := Lib.hid q1
    clear q1 q1'
    go_enter Try.func14, Try.ntmps14
    go_wp2_with fail
    refine HBS.out.mono ?_
    rintro e w1 ⟨rfl, rfl⟩
    go_wp2
    go_loopw [8] (fun i wr => ∃ k : Nat, k ≤ lp ∧ i = .int .i64 (k : Int) ∧ Hid (allP P = allP (P.drop k)) ∧ Hid (Below w.heap.size w wr)) (fun i _ => lp - (intOf i).toNat)
    case atStart => exact ⟨0, by omega, rfl, HZ, Lib.hid (Below.refl _ _)⟩
    case round =>
      obtain ⟨k, hk, rfl, HA, HBr⟩ := hrel
      by_cases hlt : k < lp
      · have hin : (k : Int) < (lp : Int) := by omega
        have hiB : (0 : Int) ≤ (k : Int) := by omega
        have hkl : k < P.length := by rw [HLP.out]; exact hlt
        obtain ⟨b, o, rfl, ht⟩ := (HP.out.below HBr.out).2.2.2 (by omega)
        have e1 := ht.2 k hkl
        have HD := Lib.hid (allP_drop hkl)
        clear ht hkl
        generalize gi P k = x at *
        have HC := Lib.hid (HBT.out x 0 65535 wr)
        by_cases q : isP x
        · have q1 : decide (isP x) = true := decide_eq_true q
          have HA' : Hid (allP P = allP (P.drop (k + 1))) := Lib.hid (by rw [HA.out, HD.out, q1]; rfl)
          rw [show decide (0 ≤ x ∧ x ≤ 65535) = true from q1] at HC
          clear q q1
          go_wp2_with fail
          refine HC.out.mono ?_
          rintro e w5 ⟨rfl, rfl⟩
          go_wp2
          go_roundw
          case rel => exact ⟨k + 1, by omega, by go_num, HA', HBr⟩
          case measure => simp [intOf]; omega
        · have q1 : decide (isP x) = false := decide_eq_false q
          obtain ⟨r1, r2⟩ := HE3b.out HS.out (by rw [HA.out, HD.out, q1]; rfl)
          rw [show decide (0 ≤ x ∧ x ≤ 65535) = false from q1] at HC
          clear q q1
          subst r1 r2
          go_wp2_with fail
          refine HC.out.mono ?_
          rintro e w5 ⟨rfl, rfl⟩
          go_wp2
          go_ret2
          exact ⟨_, rfl, OwnP.nil _ _, HBr.out⟩
      · obtain rfl : k = lp := by omega
        have HAP : Hid (allP P = true) := Lib.hid (by rw [HA.out, ← HLP.out, List.drop_length]; rfl)
        clear HA HE3 HE3b hlt hk
        go_wp2
        go_loopw [9] (fun i wi => ∃ i' : Nat, i' ≤ k ∧ i = .int .i64 (i' : Int) ∧ Hid (Free F (P.take i')) ∧ Hid (Below w.heap.size w wi)) (fun i _ => k - (intOf i).toNat)
        case atStart => exact ⟨0, by omega, rfl, Lib.hid ⟨List.nodup_nil, fun q hq h => by simp at h⟩, HBr⟩
        case round =>
          rename World => wi
          obtain ⟨i, hi, rfl, HFr, HBi⟩ := hrel
          clear HBr
          by_cases hlt : i < k
          · have hin : (i : Int) < (k : Int) := by omega
            have hiB : (0 : Int) ≤ (i : Int) := by omega
            have HIL : Hid (i < P.length) := Lib.hid (by rw [HLP.out]; exact hlt)
            have HNX := Lib.hid (fun h1 h2 => free_next HIL.out HFr.out h1 h2)
            have HTW : Hid (∀ j, j < i → gi P j = gi P i → r = 6 ∧ R = []) := Lib.hid (fun j hj e => HE6.out HS.out HAP.out (free_two HIL.out hj e))
            have HPT : Hid (∀ j, j < ln → (gp F j).at_ = gi P i → r = 6 ∧ R = []) := Lib.hid (fun j hj e => HE6.out HS.out HAP.out (free_pt HIL.out (by rw [HLN.out]; exact hj) e))
            go_wp2
            go_loopw [10] (fun i' wj => ∃ j : Nat, j ≤ i ∧ i' = .int .i64 (j : Int) ∧ Hid (∀ q, q < j → gi P q ≠ gi P i) ∧ Hid (Below w.heap.size w wj)) (fun i' _ => i - (intOf i').toNat)
            case atStart => exact ⟨0, by omega, rfl, Lib.hid (fun q hq => by omega), HBi⟩
            case round =>
              rename World => wj
              obtain ⟨j, hj, rfl, HJ, HBj⟩ := hrel
              clear HBi
              by_cases hjl : j < i
              · have hjn : (j : Int) < (i : Int) := by omega
                have hj0 : (0 : Int) ≤ (j : Int) := by omega
                have hjn' : (j : Int) < (k : Int) := by omega
                obtain ⟨b, o, rfl, ht⟩ := (HP.out.below HBj.out).2.2.2 (by have := HIL.out; omega)
                have e1 := ht.2 i HIL.out
                have e2 := ht.2 j (by have := HIL.out; omega)
                have HQ := Lib.hid (HTW.out j hjl)
                have HJ2 : Hid (gi P j ≠ gi P i → ∀ q, q < j + 1 → gi P q ≠ gi P i) := Lib.hid (fun h q hq => by
                  by_cases e : q = j
                  · rw [e]; exact h
                  · exact HJ.out q (by omega))
                clear ht
                obtain ⟨x, hx⟩ : ∃ x, gi P i = x := ⟨_, rfl⟩
                obtain ⟨y, hy⟩ : ∃ y, gi P j = y := ⟨_, rfl⟩
                rw [hx] at e1
                rw [hy] at e2
                by_cases q : y = x
                · have t1 : decide (y = x) = true := by simpa using q
                  have t2 : (y == x) = true := by simpa using q
                  obtain ⟨r1, r2⟩ := HQ.out (by rw [hx, hy, q])
                  clear q hx hy
                  subst r1 r2
                  go_wp2_with fail
                  go_quiet (fail)
                  have HB9 := Lib.hid (bel_drewN HBj.out nq)
                  generalize wj.drewN nq = w9 at *
                  go_wp2
                  go_ret2
                  exact ⟨_, rfl, OwnP.nil _ _, HB9.out⟩
                · have t1 : decide (y = x) = false := by simpa using q
                  have t2 : (y == x) = false := by simpa using q
                  have HJ3 := Lib.hid (HJ2.out (by rw [hx, hy]; exact q))
                  clear q hx hy
                  go_wp2_with fail
                  go_quiet (fail)
                  have HB9 := Lib.hid (bel_drewN HBj.out nq)
                  generalize wj.drewN nq = w9 at *
                  go_wp2
                  go_roundw
                  case rel => exact ⟨j + 1, by omega, by go_num, HJ3, HB9⟩
                  case measure => simp [intOf]; omega
              · obtain rfl : j = i := by omega
                clear hjl hj
                go_wp2
                go_loopw [11] (fun i' wm => ∃ m : Nat, m ≤ ln ∧ i' = .int .i64 (m : Int) ∧ Hid (∀ q, q < m → (gp F q).at_ ≠ gi P j) ∧ Hid (Below w.heap.size w wm)) (fun i' _ => ln - (intOf i').toNat)
                case atStart => exact ⟨0, by omega, rfl, Lib.hid (fun q hq => by omega), HBj⟩
                case round =>
                  rename World => wm
                  obtain ⟨m, hm, rfl, HM, HBm⟩ := hrel
                  clear HBj
                  by_cases hml : m < ln
                  · have hmn : (m : Int) < (ln : Int) := by omega
                    have hm0 : (0 : Int) ≤ (m : Int) := by omega
                    obtain ⟨b, o, rfl, ht⟩ := (HP.out.below HBm.out).2.2.2 (by have := HIL.out; omega)
                    have e1 := ht.2 j HIL.out
                    obtain ⟨b2, o2, rfl, e2, -⟩ := (HF.out.below HBm.out).pt (k := m) (by rw [HLN.out]; exact hml)
                    have HQ := Lib.hid (HPT.out m hml)
                    have HM2 : Hid ((gp F m).at_ ≠ gi P j → ∀ q, q < m + 1 → (gp F q).at_ ≠ gi P j) := Lib.hid (fun h q hq => by
                      by_cases e : q = m
                      · rw [e]; exact h
                      · exact HM.out q (by omega))
                    clear ht
                    obtain ⟨x, hx⟩ : ∃ x, gi P j = x := ⟨_, rfl⟩
                    obtain ⟨y, hy⟩ : ∃ y, (gp F m).at_ = y := ⟨_, rfl⟩
                    rw [hx] at e1
                    rw [hy] at e2
                    by_cases q : y = x
                    · have t1 : decide (y = x) = true := by simpa using q
                      have t2 : (y == x) = true := by simpa using q
                      obtain ⟨r1, r2⟩ := HQ.out (by rw [hx, hy, q])
                      clear q hx hy
                      subst r1 r2
                      go_wp2_with fail
                      go_quiet (fail)
                      have HB9 := Lib.hid (bel_drewN HBm.out nq)
                      generalize wm.drewN nq = w9 at *
                      go_wp2
                      go_ret2
                      exact ⟨_, rfl, OwnP.nil _ _, HB9.out⟩
                    · have t1 : decide (y = x) = false := by simpa using q
                      have t2 : (y == x) = false := by simpa using q
                      have HM3 := Lib.hid (HM2.out (by rw [hx, hy]; exact q))
                      clear q hx hy
                      go_wp2_with fail
                      go_quiet (fail)
                      have HB9 := Lib.hid (bel_drewN HBm.out nq)
                      generalize wm.drewN nq = w9 at *
                      go_wp2
                      go_roundw
                      case rel => exact ⟨m + 1, by omega, by go_num, HM3, HB9⟩
                      case measure => simp [intOf]; omega
                  · obtain rfl : m = ln := by omega
                    have HF2 := Lib.hid (HNX.out HJ.out (fun q hq => HM.out q (by rw [← HLN.out]; exact hq)))
                    go_wp2
                    go_roundw
                    case rel => exact ⟨j + 1, by omega, by go_num, HF2, HBm⟩
                    case measure => simp [intOf]; omega
          · obtain rfl : i = k := by omega
            have HFR : Hid (Free F P) := Lib.hid (by have := HFr.out; rwa [← HLP.out, List.take_length] at this)
            clear HFr HE6 hlt hi
            have HFi := Lib.hid (HF.out.below HBi.out)
            have hwr : IntKind.i64.wrap ((ln : Int) + (i : Int)) = (ln : Int) + (i : Int) := by rw [IntKind.wrap_i64]; omega
            by_cases q5 : 60 < ln + i
            · have d5 : decide ((60 : Int) < (ln : Int) + (i : Int)) = true := by simp; omega
              have d5' : decide ((60 : Int) < ((ln + i : Nat) : Int)) = true := by simp; omega
              have d5'' : decide (60 < ln + i) = true := by simp; omega
              obtain ⟨r1, r2⟩ := HE2.out HS.out HAP.out HFR.out q5
              subst r1 r2
              clear q5
              go_wp2
              go_ret2
              exact ⟨_, rfl, OwnP.nil _ _, HBi.out⟩
            · have d5 : decide ((60 : Int) < (ln : Int) + (i : Int)) = false := by simp; omega
              have d5' : decide ((60 : Int) < ((ln + i : Nat) : Int)) = false := by simp; omega
              have d5'' : decide (60 < ln + i) = false := by simp; omega
              obtain rfl := HE0.out HS.out HAP.out HFR.out q5
              have hR := HE0'.out rfl
              have hGR := HGS.out rfl
              rw [← hR] at hGR
              have hmem : ∀ p, p ∈ rawA F s P ↔ p ∈ R := fun p => by rw [hR, rawA_mem, addP_mem]
              have h0 : ∀ p ∈ R, 0 ≤ p.at_ := fun p hp => (hGR.ok p hp).2.1
              have hRl : R.length = ln + i := by rw [hR, addP_len, HLN.out, HLP.out]
              have hXl : (rawA F s P).length = ln + i := by rw [rawA_len, HLN.out, HLP.out]
              have HNEXT : Hid (∀ q j, q < ln + i → Least (rawA F s P) (befAt R q) (ln + i) j → gp (rawA F s P) j = gp R q) := Lib.hid (fun q j hq h => least_next hGR.asc hmem h0 (by rw [hRl]; exact hq) (by rw [hXl]; exact h))
              have HSOME : Hid (∀ q, q < ln + i → ¬ ∀ k, k < ln + i → ¬ befAt R q < (gp (rawA F s P) k).at_) := Lib.hid (fun q hq h => least_some hGR.asc hmem h0 (q := q) (by rw [hRl]; exact hq) (by rw [hXl]; exact h))
              have HTAKE : Hid (∀ q, q < ln + i → R.take (q + 1) = R.take q ++ [gp R q]) := Lib.hid (fun q hq => by rw [List.take_add_one, List.getElem?_eq_getElem (by rw [hRl]; exact hq), gp_get (by rw [hRl]; exact hq)]; rfl)
              have HTL : Hid (∀ q, q ≤ ln + i → (R.take q).length = q) := Lib.hid (fun q hq => by rw [List.length_take, hRl]; omega)
              have HTE : Hid (R.take (ln + i) = R) := Lib.hid (by rw [← hRl, List.take_length])
              have HRK : Hid (∀ k, k < i → rawA F s (P.take (k + 1)) = rawA F s (P.take k) ++ [⟨gi P k, s⟩]) := Lib.hid (fun k hk => rawA_succ (by rw [HLP.out]; exact hk))
              have HR0 : Hid (rawA F s (P.take 0) = F) := Lib.hid (by simp [rawA])
              have HRL : Hid (∀ k, (rawA F s (P.take k)).length ≤ 60) := Lib.hid (fun k => by rw [rawA_len]; have := List.length_take_le' k P; have := HLN.out; have := HLP.out; omega)
              have HRP : Hid (rawA F s (P.take i) = rawA F s P) := Lib.hid (by rw [← HLP.out, List.take_length])
              have HXL := Lib.hid hXl
              have HSZ := Lib.hid (show ln + i ≤ 60 by omega)
              clear hR hGR hmem h0 hRl hXl q5 HE0 HE0' HE2 HGS HG HFE HFR HAP HS
              have HO0 := Lib.hid (own_lit wi w.heap.size HBi.out.size)
              have HB0 : Hid (Below w.heap.size w (wi.alloc (.cells #[] 35))) := Lib.hid (bel_al HBi.out HBi.out.size _)
              have HFa := Lib.hid (HFi.out.alloc (.cells #[] 35))
              go_wp2_with (first | (at_builtin; refine wpList_append_pts rfl _ _ rfl w.heap.size _ [] rfl HO0.out A c _ F HLN.out.symm rfl HFa.out (by simp; omega) HB0.out.size ?_; intro v6 w6 ho6 hg6; have HO6 : Hid (OwnP w6 w.heap.size v6 (rawA F s (P.take 0))) := Lib.hid (by rw [HR0.out]; exact ho6); have HB6 := Lib.hid (own_grow0 HO0.out HB0.out HB0.out.size (Nat.le_refl _) hg6); clear ho6 hg6))
              clear HO0 HB0 HFa HR0 HFi hwr d5 d5' d5''
              go_loopw [12, 13] (fun v i' wr => ∃ k : Nat, k ≤ i ∧ i' = .int .i64 (k : Int) ∧ Hid (OwnP wr w.heap.size v (rawA F s (P.take k))) ∧ Hid (Below w.heap.size w wr)) (fun _ i' _ => i - (intOf i').toNat)
              case atStart => exact ⟨0, by omega, rfl, HO6, HB6⟩
              case round =>
                rename World => wr
                obtain ⟨k, hk, rfl, HO, HBr⟩ := hrel
                clear HO6 HB6 HBi
                by_cases hlt : k < i
                · have hin : (k : Int) < (i : Int) := by omega
                  have hiB : (0 : Int) ≤ (k : Int) := by omega
                  have HPr := Lib.hid (HP.out.below HBr.out)
                  have hkl : k < P.length := by rw [HLP.out]; exact hlt
                  obtain ⟨b, o, rfl, ht⟩ := HPr.out.2.2.2 (by omega)
                  have e1 := ht.2 k hkl
                  have HRk := Lib.hid (HRK.out k hlt)
                  have HL1 : Hid ((rawA F s (P.take k)).length ≤ 1048576) := Lib.hid (by have := HRL.out k; omega)
                  clear ht hkl
                  generalize gi P k = x at *
                  go_wp2_with (first | (at_builtin; refine append_pt rfl _ _ rfl w.heap.size _ _ rfl HO.out ⟨x, s⟩ rfl HL1.out HBr.out.size ?_; intro v6 w6 ho6 hg6; have HO6 := Lib.hid ho6; have HB6 := Lib.hid (own_grow HO.out HBr.out HBr.out.size (Nat.le_refl _) hg6); clear ho6 hg6))
                  go_roundw
                  case rel => exact ⟨k + 1, by omega, by go_num, by rw [HRk.out]; exact HO6, HB6⟩
                  case measure => simp [intOf]; omega
                · obtain rfl : k = i := by omega
                  rw [HRP.out] at HO
                  clear HRP HRK HRL HLP hlt hk HP HF HLN
                  generalize rawA F s P = X at *
                  obtain ⟨n, hn⟩ : ∃ n, ln + k = n := ⟨_, rfl⟩
                  rw [hn] at HNEXT HSOME HTAKE HTL HTE HXL HSZ
                  clear hn
                  obtain ⟨A7, c7, rfl, hI7, -⟩ := pts_of_own HO.out
                  rw [HXL.out]
                  have HI := Lib.hid hI7
                  have hsz := HSZ.out
                  clear hI7 HO
                  go_wp2
                  go_loopw [14, 15] (fun v l wq => ∃ (q : Nat) (C : Option Addr) (e : Nat), q ≤ n ∧ v = .slice C q e ∧ l = .int .i64 (befAt R q) ∧ Hid (OwnP wq wr.heap.size (.slice C q e) (R.take q)) ∧ Hid (Below wr.heap.size wr wq)) (fun v _ _ => n - (match v with | .slice _ q _ => q | _ => 0))
                  case atStart => exact ⟨0, none, 0, by omega, rfl, rfl, Lib.hid (OwnP.nil _ _), Lib.hid (Below.refl _ _)⟩
                  case round =>
                    rename World => wq
                    obtain ⟨q, C, e, hq, rfl, rfl, HOq, HBq⟩ := hrel
                    by_cases hql : q < n
                    · have hqn : (q : Int) < (n : Int) := by omega
                      have HNX := Lib.hid (fun j h => HNEXT.out q j hql h)
                      have HSM := Lib.hid (HSOME.out q hql)
                      have HTK := Lib.hid (HTAKE.out q hql)
                      have HBE : Hid (befAt R (q + 1) = (gp R q).at_) := Lib.hid (befAt_succ R q)
                      generalize befAt R q = la at *
                      go_wp2
                      go_loopw [16, 17] (fun b i' wm => ∃ k : Nat, k ≤ n ∧ i' = .int .i64 (k : Int) ∧ ((b = .int .i64 (-1) ∧ Hid (∀ j, j < k → ¬ la < (gp X j).at_)) ∨ ∃ j : Nat, b = .int .i64 (j : Int) ∧ Hid (Least X la k j)) ∧ Hid (Below wq.heap.size wq wm)) (fun _ i' _ => n - (intOf i').toNat)
                      case atStart => exact ⟨0, by omega, rfl, .inl ⟨rfl, Lib.hid (fun j hj => by omega)⟩, Lib.hid (Below.refl _ _)⟩
                      case round =>
                        rename World => wm
                        obtain ⟨m, hm, rfl, hcase, HBm⟩ := hrel
                        have HIm := Lib.hid (HI.out.below (HBq.out.trans (HBm.out.mono HBq.out.size)))
                        by_cases hml : m < n
                        · have hmn : (m : Int) < (n : Int) := by omega
                          have hm0 : (0 : Int) ≤ (m : Int) := by omega
                          rcases hcase with ⟨rfl, HC⟩ | ⟨j, rfl, HC⟩
                          · obtain ⟨b, o, rfl, e1, -⟩ := HIm.out.pt (k := m) (by rw [HXL.out]; exact hml)
                            have HFI := Lib.hid (fun h => least_first (i := m) HC.out h)
                            have HC2 : Hid (¬ la < (gp X m).at_ → ∀ j, j < m + 1 → ¬ la < (gp X j).at_) := Lib.hid (fun h j hj => by
                              by_cases e : j = m
                              · rw [e]; exact h
                              · exact HC.out j (by omega))
                            generalize hx : (gp X m).at_ = x at *
                            have d0 : decide ((-1 : Int) < 0) = true := rfl
                            by_cases h1 : la < x
                            · have d1 : decide (la < x) = true := by simpa using h1
                              have HC3 := Lib.hid (HFI.out h1)
                              clear h1 hx
                              go_wp2_with fail
                              go_quiet (fail)
                              have HB9 := Lib.hid (bel_drewN HBm.out nq)
                              generalize wm.drewN nq = w9 at *
                              go_wp2
                              go_roundw
                              case rel => exact ⟨m + 1, by omega, by go_num, .inr ⟨m, rfl, HC3⟩, HB9⟩
                              case measure => simp [intOf]; omega
                            · have d1 : decide (la < x) = false := by simpa using h1
                              have HC3 := Lib.hid (HC2.out h1)
                              clear h1 hx
                              go_wp2_with fail
                              go_quiet (fail)
                              have HB9 := Lib.hid (bel_drewN HBm.out nq)
                              generalize wm.drewN nq = w9 at *
                              go_wp2
                              go_roundw
                              case rel => exact ⟨m + 1, by omega, by go_num, .inl ⟨rfl, Lib.hid (fun j hj => by have := HC3.out j hj; omega)⟩, HB9⟩
                              case measure => simp [intOf]; omega
                          · have hjn : j < n := by have := HC.out.1; omega
                            have hjn' : (j : Int) < (n : Int) := by omega
                            have hj0 : (0 : Int) ≤ (j : Int) := by omega
                            have d0 : decide ((j : Int) < 0) = false := by simp
                            obtain ⟨b, o, rfl, ⟨e1, -⟩, e2, -⟩ := HIm.out.two (k := m) (j := j) (by rw [HXL.out]; exact hml) (by rw [HXL.out]; exact hjn)
                            have HSK := Lib.hid (fun h => least_skip (i := m) HC.out h)
                            have HKE := Lib.hid (fun h => least_keep (i := m) HC.out h)
                            have HTA := Lib.hid (fun h1 h2 => least_take (i := m) HC.out h1 h2)
                            generalize hx : (gp X m).at_ = x at *
                            generalize hy : (gp X j).at_ = y at *
                            by_cases h1 : la < x
                            · have d1 : decide (la < x) = true := by simpa using h1
                              by_cases h2 : x < y
                              · have d2 : decide (x < y) = true := by simpa using h2
                                have HC3 := Lib.hid (HTA.out h1 h2)
                                clear h1 h2 hx hy
                                go_wp2_with fail
                                go_quiet (fail)
                                have HB9 := Lib.hid (bel_drewN HBm.out nq)
                                generalize wm.drewN nq = w9 at *
                                go_wp2
                                go_roundw
                                case rel => exact ⟨m + 1, by omega, by go_num, .inr ⟨m, rfl, HC3⟩, HB9⟩
                                case measure => simp [intOf]; omega
                              · have d2 : decide (x < y) = false := by simpa using h2
                                have HC3 := Lib.hid (HKE.out h2)
                                clear h1 h2 hx hy
                                go_wp2_with fail
                                go_quiet (fail)
                                have HB9 := Lib.hid (bel_drewN HBm.out nq)
                                generalize wm.drewN nq = w9 at *
                                go_wp2
                                go_roundw
                                case rel => exact ⟨m + 1, by omega, by go_num, .inr ⟨j, rfl, HC3⟩, HB9⟩
                                case measure => simp [intOf]; omega
                            · have d1 : decide (la < x) = false := by simpa using h1
                              have HC3 := Lib.hid (HSK.out h1)
                              clear h1 hx hy
                              go_wp2_with fail
                              go_quiet (fail)
                              have HB9 := Lib.hid (bel_drewN HBm.out nq)
                              generalize wm.drewN nq = w9 at *
                              go_wp2
                              go_roundw
                              case rel => exact ⟨m + 1, by omega, by go_num, .inr ⟨j, rfl, HC3⟩, HB9⟩
                              case measure => simp [intOf]; omega
                        · obtain rfl : m = n := by omega
                          rcases hcase with ⟨rfl, HC⟩ | ⟨j, rfl, HC⟩
                          · exact absurd (fun j hj => by have := HC.out j hj; omega) HSM.out
                          · have hjn : j < m := HC.out.1
                            have hjn' : (j : Int) < (m : Int) := by omega
                            have hj0 : (0 : Int) ≤ (j : Int) := by omega
                            have hG := HNX.out j HC.out
                            have HBM := Lib.hid (HBq.out.trans (HBm.out.mono HBq.out.size))
                            have HCE : Hid (∀ W, Below wr.heap.size wr W → ∃ b o, A7 = some ⟨b, o, none⟩ ∧ W.cell? ⟨b, o + j * 2, none⟩ = some (.int .i64 (gp R q).at_) ∧ W.cell? ⟨b, o + j * 2 + 1, none⟩ = some (.int .i64 (gp R q).sh)) := Lib.hid (fun W hW => by
                              have h := (HI.out.below hW).pt (k := j) (by rw [HXL.out]; exact hjn)
                              rwa [hG] at h)
                            have HOm := Lib.hid (HOq.out.below HBm.out)
                            have HL1 : Hid ((R.take q).length ≤ 1048576) := Lib.hid (by rw [HTL.out q (by omega)]; have := HSZ.out; omega)
                            have HT1 := Lib.hid (HTL.out (q + 1) (by omega))
                            clear HNX HSM HC hG HNEXT HSOME
                            generalize gp R q = f at *
                            obtain ⟨at0, sh0⟩ := f
                            obtain ⟨b, o, rfl, e1, e2⟩ := HCE.out wm HBM.out
                            dsimp only at e1 e2 HBE
                            go_wp2_with (first | (at_builtin; refine append_pt rfl _ _ rfl wr.heap.size _ _ rfl HOm.out ⟨at0, sh0⟩ rfl HL1.out HBM.out.size ?_; intro v6 w6 ho6 hg6; have HB6 := Lib.hid (own_grow HOm.out HBM.out HBM.out.size (Nat.le_refl _) hg6); have ho7 : OwnP w6 wr.heap.size v6 (R.take (q + 1)) := by { rw [HTK.out]; exact ho6 }; obtain ⟨C6, e6, hv6, -, -⟩ := pts_of_own ho7; rw [HT1.out] at hv6; subst hv6; have HO7 := Lib.hid ho7; have c1 : w6.cell? ⟨b, o + j * 2, none⟩ = some (.int .i64 at0) := (by { obtain ⟨b', o', e', c1, -⟩ := HCE.out w6 HB6.out; cases e'; exact c1 }); clear ho6 hg6 ho7))
                            go_roundw
                            case rel => exact ⟨q + 1, C6, e6, by omega, rfl, by rw [HBE.out], HO7, HB6⟩
                            case measure => simp; omega
                    · obtain rfl : q = n := by omega
                      rw [HTE.out] at HOq
                      have HO9 := Lib.hid (HOq.out.base_le HBr.out.size)
                      have HB9 := Lib.hid (HBr.out.trans (HBq.out.mono HBr.out.size))
                      go_wp2
                      go_ret2
                      exact ⟨_, rfl, HO9.out, HB9.out⟩
  · have q1' : decide (0 ≤ s ∧ s ≤ 19) = false := decide_eq_false q1
    rw [q1'] at HBS
    obtain ⟨r1, r2⟩ := HE3.out q1
    subst r1 r2
    clear q1 q1'
    go_enter Try.func14, Try.ntmps14
    go_wp2_with fail
    refine HBS.out.mono ?_
    rintro e w1 ⟨rfl, rfl⟩
    go_wp2
    go_ret2
    exact ⟨_, rfl, OwnP.nil _ _, Below.refl _ _⟩

end Go.Proofs.Ytjmhemkbfephpaa.Rng
