/-
  Package segment: isRoom, isKey, Check.
-/
import Derived.Test.YtpjgfehhhgcjnaaSegMem
import Derived.Test.YtpjgfehhhgcjnaaIntsLib2
namespace Go.Proofs.Ytpjgfehhhgcjnaa.Seg
open Go.RowKit
open Lru (isRm isK keysE keysE_zero traceE trace_zero touch keysE_at contains_any slice_upto)
set_option linter.unusedVariables false
set_option maxRecDepth 100000

theorem isRoom_any (n : Int) (w : World) : Calls Try.prog 27 #[.int .i64 n] w fun e w' => e = .returned (.bool (decide (isRm n))) ∧ w = w' := by
  by_cases h : 1 ≤ n
  · have hd : decide (1 ≤ n) = true := by simpa using h
    have HE : Hid (decide (isRm n) = decide (n ≤ 40)) := Lib.hid (by simp [isRm, h])
    clear h
    go_enter Try.func27, Try.ntmps27
    go_wp2
    go_ret
    exact ⟨ret_bool HE.out.symm, rfl⟩
  · have hd : decide (1 ≤ n) = false := by simpa using h
    have HE : Hid (decide (isRm n) = false) := Lib.hid (decide_eq_false (fun hh => h hh.1))
    clear h
    go_enter Try.func27, Try.ntmps27
    go_wp2
    go_ret
    exact ⟨ret_bool HE.out.symm, rfl⟩

theorem isKey_any (n : Int) (w : World) : Calls Try.prog 19 #[.int .i64 n] w fun e w' => e = .returned (.bool (decide (isK n))) ∧ w = w' := by
  by_cases h : 0 ≤ n
  · have hd : decide (0 ≤ n) = true := by simpa using h
    have HE : Hid (decide (isK n) = decide (n ≤ 1048576)) := Lib.hid (by simp [isK, h])
    clear h
    go_enter Try.func19, Try.ntmps19
    go_wp2
    go_ret
    exact ⟨ret_bool HE.out.symm, rfl⟩
  · have hd : decide (0 ≤ n) = false := by simpa using h
    have HE : Hid (decide (isK n) = false) := Lib.hid (decide_eq_false (fun hh => h hh.1))
    clear h
    go_enter Try.func19, Try.ntmps19
    go_wp2
    go_ret
    exact ⟨ret_bool HE.out.symm, rfl⟩

/-- What Concat gives where its two rows have just been put together. -/
theorem concat_new (A B : Option Addr) (c d n m q : Nat) (N O : List Int) (w : World) (hq : q = w.heap.size) (hn : N.length = n) (hm : O.length = m) (hN : Ints w A c N) (hO : Ints w B d O) (hl : n ≤ 4096) (hk : m ≤ 4096) :
    Calls Try.prog 23 #[.slice (some ⟨q, 0, none⟩) 2 2] (w.alloc (.cells #[.slice A n c, .slice B m d] 22)) fun e w' => ∃ E k, e = .returned (.slice E (n + m) k) ∧ OwnI w' w.heap.size (.slice E (n + m) k) (N ++ O) ∧ Below w.heap.size w w' := by
  subst hq hn hm
  refine (concat_any w.heap.size A B c d N O _ (by simp) (by simp [go_sem]) (by simp [go_sem]) (hN.alloc _) (hO.alloc _) hl hk).mono ?_
  rintro e w' ⟨v, rfl, h1, h2⟩
  have h1 := own_le h1 (base' := w.heap.size) (by simp)
  obtain ⟨E, k, rfl, -⟩ := ints_of_own h1
  rw [List.length_append] at h1 ⊢
  exact ⟨E, k, rfl, h1, (bel_al (Below.refl _ _) (Nat.le_refl _) _).trans (h2.mono (by simp))⟩

set_option maxHeartbeats 4000000 in
theorem check_any (f s : Int) (A B : Option Addr) (c d : Nat) (N O : List Int) (w : World) (hN : Ints w A c N) (hO : Ints w B d O) :
    Calls Try.prog 15 #[kv f s (.slice A N.length c) (.slice B O.length d)] w fun e w' => e = .returned (.int .i64 (checkS f s N O)) ∧ Below w.heap.size w w' := by
  have HK := Lib.hid (Kb.new w f s (.slice A N.length c) (.slice B O.length d))
  have HB : Hid (Below w.heap.size w (w.alloc (ko f s (.slice A N.length c) (.slice B O.length d)))) := Lib.hid (bel_al (Below.refl _ _) (Nat.le_refl _) _)
  have HN := Lib.hid (hN.alloc (ko f s (.slice A N.length c) (.slice B O.length d)))
  have HO := Lib.hid (hO.alloc (ko f s (.slice A N.length c) (.slice B O.length d)))
  have hlenN := hN.len
  have hlenO := hO.len
  clear hN hO
  obtain ⟨x1, x2, x3, x4⟩ := HK.out.cells
  by_cases h1 : isRm f
  · have p1 : decide (isRm f) = true := by simpa using h1
    by_cases h2 : isRm s
    · have p2 : decide (isRm s) = true := by simpa using h2
      by_cases h3 : f < (N.length : Int)
      · have HE : Hid (checkS f s N O = 2) := Lib.hid (by unfold checkS; rw [if_pos ⟨h1, h2⟩, if_pos (.inl h3)])
        have p3 : decide (f < (N.length : Int)) = true := by simpa using h3
        clear h1 h2 h3
        go_enter Try.func15, Try.ntmps15
        go_wp2_with fail
        refine (isRoom_any _ _).mono ?_
        rintro e w' ⟨rfl, rfl⟩
        rw [p1]
        go_wp2_with fail
        refine (isRoom_any _ _).mono ?_
        rintro e w' ⟨rfl, rfl⟩
        rw [p2]
        go_wp2
        go_ret
        exact ⟨ret_int HE.out.symm, HB.out⟩
      · have p3 : decide (f < (N.length : Int)) = false := by simpa using h3
        by_cases h4 : s < (O.length : Int)
        · have HE : Hid (checkS f s N O = 2) := Lib.hid (by unfold checkS; rw [if_pos ⟨h1, h2⟩, if_pos (.inr h4)])
          have p4 : decide (s < (O.length : Int)) = true := by simpa using h4
          clear h1 h2 h3 h4
          go_enter Try.func15, Try.ntmps15
          go_wp2_with fail
          refine (isRoom_any _ _).mono ?_
          rintro e w' ⟨rfl, rfl⟩
          rw [p1]
          go_wp2_with fail
          refine (isRoom_any _ _).mono ?_
          rintro e w' ⟨rfl, rfl⟩
          rw [p2]
          go_wp2
          go_ret
          exact ⟨ret_int HE.out.symm, HB.out⟩
        · have p4 : decide (s < (O.length : Int)) = false := by simpa using h4
          have HE : Hid (checkS f s N O = keysE ((N ++ O).take 0) ((N ++ O).drop 0)) := Lib.hid (by unfold checkS; rw [if_pos ⟨h1, h2⟩, if_neg (by omega)]; rfl)
          have HLn : Hid (N.length ≤ 40) := Lib.hid (by have := h1.2; omega)
          have HLo : Hid (O.length ≤ 40) := Lib.hid (by have := h2.2; omega)
          obtain ⟨n, hn⟩ : ∃ n, N.length = n := ⟨_, rfl⟩
          obtain ⟨m, hm⟩ : ∃ m, O.length = m := ⟨_, rfl⟩
          obtain ⟨K, hK⟩ : ∃ K, N ++ O = K := ⟨_, rfl⟩
          have HLK : Hid (K.length = n + m) := Lib.hid (by rw [← hK, List.length_append, hn, hm])
          have HCc := Lib.hid (fun (q : Nat) (W : World) (hq : q = W.heap.size) (a : Ints W A c N) (b : Ints W B d O) => concat_new A B c d n m q N O W hq hn hm a b (by have := HLn.out; omega) (by have := HLo.out; omega))
          simp only [hn, hm] at HK HB HN HO HLn HLo p3 p4 hlenN hlenO x1 x2 x3 x4 ⊢
          rw [hK] at HE
          simp only [hK] at HCc
          have hnm : n + m ≤ 80 := by have := HLn.out; have := HLo.out; omega
          clear h1 h2 h3 h4 hn hm hK
          go_enter Try.func15, Try.ntmps15
          go_wp2_with fail
          refine (isRoom_any _ _).mono ?_
          rintro e w' ⟨rfl, rfl⟩
          rw [p1]
          go_wp2_with fail
          refine (isRoom_any _ _).mono ?_
          rintro e w' ⟨rfl, rfl⟩
          rw [p2]
          generalize w.alloc (ko f s (.slice A n c) (.slice B m d)) = w1 at *
          go_wp2_with fail
          refine (HCc.out _ w1 rfl HN.out HO.out).mono ?_
          rintro e w2 ⟨E, k2, rfl, ho2, hb2⟩
          have HB2 : Hid (Below w.heap.size w w2) := Lib.hid (HB.out.trans (hb2.mono HB.out.size))
          have HI : Hid (Ints w2 E k2 K) := Lib.hid (by
            obtain ⟨E', k', e1, hI⟩ := ints_of_own ho2
            rw [HLK.out] at e1
            cases e1
            exact hI)
          clear ho2 hb2 x1 x2 x3 x4
          obtain ⟨ln, hln⟩ : ∃ ln, n + m = ln := ⟨_, rfl⟩
          rw [hln] at HLK hnm ⊢
          clear hln
          go_wp2
          go_loop [38] (fun i => ∃ k : Nat, k ≤ ln ∧ i = .int .i64 (k : Int) ∧ Hid (checkS f s N O = keysE (K.take k) (K.drop k))) (fun i => ln - (intOf i).toNat)
          case atStart => exact ⟨0, by omega, rfl, HE⟩
          case round =>
            obtain ⟨k, hk, rfl, HA⟩ := hrel
            by_cases hlt : k < ln
            · have hin : (k : Int) < (ln : Int) := by omega
              have hiB : (0 : Int) ≤ (k : Int) := by omega
              have HKL : Hid (k < K.length) := Lib.hid (by rw [HLK.out]; exact hlt)
              have HAt := Lib.hid (keysE_at HKL.out)
              have hX2 := HI.out
              obtain ⟨A', hsl, hT', -⟩ := slice_upto hX2 (k := k) (by rw [HLK.out]; omega)
              have htl : (K.take k).length = k := by rw [List.length_take, HLK.out]; omega
              have HC := Lib.hid (contains_any A' k2 (K.take k) (gi K k) _ hT')
              rw [htl] at HC hsl
              rw [HLK.out] at hsl
              clear hT' htl
              obtain ⟨b, o, rfl, ht⟩ := hX2.2.2.2 (by rw [HLK.out]; omega)
              have e1 := ht.2 k HKL.out
              clear ht hX2
              have HIs : ∀ W, Calls Try.prog 19 #[.int .i64 (gi K k)] W fun e w' => e = .returned (.bool (decide (isK (gi K k)))) ∧ W = w' := fun W => isKey_any _ _
              have HIs := Lib.hid HIs
              by_cases q1 : isK (gi K k)
              · have d1 : decide (isK (gi K k)) = true := by simpa using q1
                rw [if_pos q1] at HAt
                rw [d1] at HIs
                by_cases q2 : gi K k ∈ K.take k
                · have d2 : decide (gi K k ∈ K.take k) = true := by simpa using q2
                  rw [if_pos q2] at HAt
                  rw [d2] at HC
                  clear q1 q2 d1 d2
                  generalize gi K k = x at *
                  go_wp2_with fail
                  refine (HIs.out _).mono ?_
                  rintro e w' ⟨rfl, rfl⟩
                  go_wp2_with fail
                  refine HC.out.mono ?_
                  rintro e w' ⟨rfl, rfl⟩
                  go_wp2
                  go_ret
                  exact ⟨ret_int (by rw [HA.out, HAt.out]), HB2.out⟩
                · have d2 : decide (gi K k ∈ K.take k) = false := by simpa using q2
                  rw [if_neg q2] at HAt
                  rw [d2] at HC
                  clear q1 q2 d1 d2
                  generalize gi K k = x at *
                  go_wp2_with fail
                  refine (HIs.out _).mono ?_
                  rintro e w' ⟨rfl, rfl⟩
                  go_wp2_with fail
                  refine HC.out.mono ?_
                  rintro e w' ⟨rfl, rfl⟩
                  go_wp2
                  go_round
                  case rel => exact ⟨k + 1, by omega, by go_num, Lib.hid (by rw [HA.out, HAt.out])⟩
                  case measure => simp [intOf]; omega
              · have d1 : decide (isK (gi K k)) = false := by simpa using q1
                rw [if_neg q1] at HAt
                rw [d1] at HIs
                clear q1 d1
                generalize gi K k = x at *
                go_wp2_with fail
                refine (HIs.out _).mono ?_
                rintro e w' ⟨rfl, rfl⟩
                go_wp2
                go_ret
                exact ⟨ret_int (by rw [HA.out, HAt.out]), HB2.out⟩
            · obtain rfl : k = ln := by omega
              have HZ : Hid (checkS f s N O = 0) := Lib.hid (by rw [HA.out, List.drop_of_length_le (by rw [HLK.out]; exact Nat.le_refl _)]; cases K.take k <;> rfl)
              go_wp2
              go_ret
              exact ⟨ret_int HZ.out.symm, HB2.out⟩
    · have HE : Hid (checkS f s N O = 3) := Lib.hid (by unfold checkS; rw [if_neg (fun h => h2 h.2)])
      have p2 : decide (isRm s) = false := by simpa using h2
      clear h1 h2
      go_enter Try.func15, Try.ntmps15
      go_wp2_with fail
      refine (isRoom_any _ _).mono ?_
      rintro e w' ⟨rfl, rfl⟩
      rw [p1]
      go_wp2_with fail
      refine (isRoom_any _ _).mono ?_
      rintro e w' ⟨rfl, rfl⟩
      rw [p2]
      go_wp2
      go_ret
      exact ⟨ret_int HE.out.symm, HB.out⟩
  · have p1 : decide (isRm f) = false := by simpa using h1
    have HE : Hid (checkS f s N O = 3) := Lib.hid (by unfold checkS; rw [if_neg (fun h => h1 h.1)])
    clear h1
    go_enter Try.func15, Try.ntmps15
    go_wp2_with fail
    refine (isRoom_any _ _).mono ?_
    rintro e w' ⟨rfl, rfl⟩
    rw [p1]
    go_wp2
    go_ret
    exact ⟨ret_int HE.out.symm, HB.out⟩

end Go.Proofs.Ytpjgfehhhgcjnaa.Seg
