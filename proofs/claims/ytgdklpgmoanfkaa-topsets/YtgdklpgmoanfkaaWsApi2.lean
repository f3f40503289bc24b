/-
  Package workset: Set, Sizes, Faults, Phases.
-/
import Derived.Test.YtgdklpgmoanfkaaWsApi
import Derived.StillTailTactics
namespace Go.Proofs.Ytgdklpgmoanfkaa.Wst
open Go.RowKit
open Lru (isRm isK traceE trace_zero slice_upto slice_from)
open Dst (win fltK row)
open Two
set_option linter.unusedVariables false
set_option maxRecDepth 100000

theorem nat_of {x : Int} (h : 0 ≤ x) : ∃ n : Nat, x = (n : Int) := ⟨x.toNat, by omega⟩

set_option maxHeartbeats 2000000 in
theorem Set_any (A : Option Addr) (c : Nat) (L : List Int) (i x : Int) (w : World) (hI : Ints w A c L) :
    Calls Try.prog 8 #[.slice A L.length c, .int .i64 i, .int .i64 x] w (RE (stV L i x) (stE L i x) w) := by
  have HC := Lib.hid (check_any A c L x w hI)
  by_cases h0 : wkE L x = 0
  · have hl200 := (trace_zero.1 (wkE_zero.1 h0).1).1
    have hx := (wkE_zero.1 h0).2
    have hw0 := h0
    rw [h0] at HC
    by_cases h1 : 0 ≤ i ∧ i < (L.length : Int)
    · have hE := stE_zero.2 ⟨h0, h1⟩
      obtain ⟨j, rfl⟩ := nat_of h1.1
      obtain ⟨n, rfl⟩ := nat_of (show 0 ≤ x by have := hx.1; omega)
      have hn1 := hx.1
      have hn2 := hx.2
      have HV : Hid (stV L (j : Int) (n : Int) = wset L n j) := Lib.hid (by unfold stV; rw [if_pos hE]; rfl)
      have HS := Lib.hid (set_any A c L j n w hI (by omega) (by omega) (by omega) (by omega))
      have q1 : decide ((j : Int) < 0) = false := by simp
      have q2 : decide ((L.length : Int) ≤ (j : Int)) = false := by have := h1.2; simp; omega
      have q3 : decide (L.length ≤ j) = false := by have := h1.2; simp; omega
      rw [hE, HV.out]
      unfold RE
      clear hI h0 h1 hE hx hw0 hl200 hn1 hn2 HV
      generalize wset L n j = W at *
      generalize W.length = wl at *
      generalize L.length = ln at *
      go_enter Try.func8, Try.ntmps8
      go_wp2_with fail
      refine HC.out.mono ?_
      rintro e w1 ⟨rfl, rfl⟩
      go_wp2_with fail
      refine HS.out.mono ?_
      rintro e w2 ⟨A2, c2, rfl, hI2, hb2⟩
      have HI2 := Lib.hid hI2
      have HB2 := Lib.hid hb2
      clear hI2 hb2
      go_wp2
      refine bodyPost_ret (v := .tuple #[.slice A2 wl c2, .int .i64 0]) (by simp [results, Try.results8, go_sem]) rfl ?_
      exact ⟨A2, c2, rfl, HI2.out, HB2.out⟩
    · have hE : stE L i x = 3 := by unfold stE; rw [if_pos h0, if_neg h1]
      have HV : Hid (stV L i x = []) := Lib.hid (by unfold stV; rw [if_neg (by omega)])
      rw [hE, HV.out]
      by_cases h2 : i < 0
      · have q1 : decide (i < 0) = true := by simpa using h2
        clear hI h0 h1 h2 hE hx hw0 hl200 HV
        generalize L.length = ln at *
        go_enter Try.func8, Try.ntmps8
        go_wp2_with fail
        refine HC.out.mono ?_
        rintro e w1 ⟨rfl, rfl⟩
        go_wp2
        refine bodyPost_ret (v := .tuple #[.slice none 0 0, .int .i64 3]) (by simp [results, Try.results8, go_sem]) rfl ?_
        exact (REO.bad (Below.refl _ _)).re
      · have q1 : decide (i < 0) = false := by simpa using h2
        have q2 : decide ((L.length : Int) ≤ i) = true := by simp; omega
        clear hI h0 h1 h2 hE hx hw0 hl200 HV
        generalize L.length = ln at *
        go_enter Try.func8, Try.ntmps8
        go_wp2_with fail
        refine HC.out.mono ?_
        rintro e w1 ⟨rfl, rfl⟩
        go_wp2
        refine bodyPost_ret (v := .tuple #[.slice none 0 0, .int .i64 3]) (by simp [results, Try.results8, go_sem]) rfl ?_
        exact (REO.bad (Below.refl _ _)).re
  · have hE : stE L i x = wkE L x := by unfold stE; rw [if_neg h0]
    have HV : Hid (stV L i x = []) := Lib.hid (by unfold stV; rw [if_neg (by omega)])
    have q : (wkE L x != 0) = true := by simpa using h0
    rw [hE, HV.out]
    clear hI h0 hE HV
    generalize wkE L x = t at *
    generalize L.length = ln at *
    go_enter Try.func8, Try.ntmps8
    go_wp2_with fail
    refine HC.out.mono ?_
    rintro e w1 ⟨rfl, rfl⟩
    go_wp2
    refine bodyPost_ret (v := .tuple #[.slice none 0 0, .int .i64 t]) (by simp [results, Try.results8, go_sem]) rfl ?_
    exact (REO.bad (Below.refl _ _)).re

set_option maxHeartbeats 4000000 in
theorem Sizes_any (A : Option Addr) (c : Nat) (L : List Int) (x : Int) (w : World) (hI : Ints w A c L) :
    Calls Try.prog 9 #[.slice A L.length c, .int .i64 x] w (REO (zsV L x) (wkE L x) w) := by
  have HC := Lib.hid (check_any A c L x w hI)
  have HI := Lib.hid hI
  clear hI
  by_cases h0 : wkE L x = 0
  · have hl200 := (trace_zero.1 (wkE_zero.1 h0).1).1
    have hx := (wkE_zero.1 h0).2
    obtain ⟨m, rfl⟩ := nat_of (show 0 ≤ x by have := hx.1; omega)
    have hn1 := hx.1
    have hn2 := hx.2
    have HL : Hid (zsV L (m : Int) = zsI L m) := Lib.hid (by unfold zsV; rw [if_pos h0]; rfl)
    have HSe := Lib.hid (fun (j : Nat) (W : World) (h : Below w.heap.size w W) (hj : j < L.length) => set_any A c L j m W (HI.out.below h) hj (by omega) (by omega) (by omega))
    rw [h0] at HC ⊢
    rw [HL.out]
    obtain ⟨n, hn⟩ : ∃ n, L.length = n := ⟨_, rfl⟩
    have HN := Lib.hid hn
    rw [hn] at HC hl200 ⊢
    simp only [hn] at HSe
    clear h0 hn HL hx hn1 hn2
    have hmk : ∀ W : World, (Instr.makeSlice 22 (.int .i64 (n : Int)) (.int .i64 (n : Int))).run Try.prog W = .ok (.slice (some ⟨W.heap.size, 0, none⟩) n n) (W.alloc (.cells (Array.replicate n (Value.int .i64 0)) 3)) := fun W => run_make_ints n (by omega) W
    have HRo : Hid (RowI (w.alloc (.cells (Array.replicate n (Value.int .i64 0)) 3)) w.heap.size (zsK L m 0)) := Lib.hid (by
      rw [zsK_zero, HN.out]; exact RowI.new w n)
    have HB0 : Hid (Below w.heap.size w (w.alloc (.cells (Array.replicate n (Value.int .i64 0)) 3))) := Lib.hid (bel_al (Below.refl _ _) (Nat.le_refl _) _)
    have HS0 : Hid (w.heap.size + 1 ≤ (w.alloc (.cells (Array.replicate n (Value.int .i64 0)) 3)).heap.size) := Lib.hid (by simp)
    go_enter Try.func9, Try.ntmps9
    go_wp2_with fail
    refine HC.out.mono ?_
    rintro e w2 ⟨rfl, rfl⟩
    go_wp2
    generalize w.alloc (.cells (Array.replicate n (Value.int .i64 0)) 3) = w1 at *
    obtain ⟨g, hg⟩ : ∃ g, w.heap.size = g := ⟨_, rfl⟩
    have HG := Lib.hid hg
    rw [hg] at HRo HB0 HS0 HSe ⊢
    clear hg
    go_loopw [20] (fun s20 wr => ∃ k : Nat, k ≤ n ∧ s20 = .int .i64 (k : Int) ∧ RowI wr g (zsK L m k) ∧ Below g w wr ∧ g + 1 ≤ wr.heap.size) (fun i _ => n - (intOf i).toNat)
    case atStart => exact ⟨0, by omega, rfl, HRo.out, HB0.out, HS0.out⟩
    case round =>
      obtain ⟨k, hk, rfl, hr, hb, hs⟩ := hrel
      by_cases hlt : k < n
      · have hin : (k : Int) < (n : Int) := by omega
        have hiB : (0 : Int) ≤ (k : Int) := by omega
        have hkL : k < L.length := by rw [HN.out]; exact hlt
        have HS := Lib.hid (HSe.out k wr hb hlt)
        have HD1 : Hid ((zsK L m k).set k ((wset L m k).length : Int) = zsK L m (k + 1)) := Lib.hid (zsK_set hkL)
        have HKl : Hid (k < (zsK L m k).length) := Lib.hid (by rw [zsK_len]; exact hkL)
        have HR := Lib.hid hr
        have HB := Lib.hid hb
        have HSz := Lib.hid hs
        clear hr hb hs hkL
        generalize wset L m k = W at *
        generalize W.length = wl at *
        go_wp2_with fail
        refine HS.out.mono ?_
        rintro e w4 ⟨A4, c4, rfl, -, hb4⟩
        have HR4 := Lib.hid (HR.out.below hb4 (by have := HSz.out; omega))
        have HB4 : Hid (Below g w w4) := Lib.hid (HB.out.trans (hb4.mono (by have := HSz.out; omega)))
        have HS4 : Hid (g + 1 ≤ w4.heap.size) := Lib.hid (Nat.le_trans HSz.out hb4.size)
        have c4' := HR4.out.cell HKl.out
        have f4 := HR4.out.frozen k
        clear hb4
        generalize gi (zsK L m k) k = u1 at *
        go_wp2
        have HR5 : Hid (RowI (w4.setCell ⟨g, k, none⟩ (.int .i64 (wl : Int))) g (zsK L m (k + 1))) := Lib.hid (by rw [← HD1.out]; exact HR4.out.set k _)
        have HB5 : Hid (Below g w (w4.setCell ⟨g, k, none⟩ (.int .i64 (wl : Int)))) := Lib.hid (bel_set HB4.out (a := ⟨g, k, none⟩) (Nat.le_refl _) _)
        have HS5 : Hid (g + 1 ≤ (w4.setCell ⟨g, k, none⟩ (.int .i64 (wl : Int))).heap.size) := Lib.hid (by simpa [World.setCell] using HS4.out)
        generalize w4.setCell ⟨g, k, none⟩ (.int .i64 (wl : Int)) = w5 at *
        go_roundw
        case rel => exact ⟨k + 1, by omega, by go_num, HR5.out, HB5.out, HS5.out⟩
        case measure => simp [intOf]; omega
      · obtain rfl : k = n := by omega
        have hln : (zsK L m k).length = k := by rw [zsK_len, HN.out]
        have HD : Hid (zsK L m k = zsI L m) := Lib.hid (by rw [← HN.out, zsK_all])
        have HOe := hr.own g (Nat.le_refl _) (by rw [hln]; omega)
        rw [hln, HD.out] at HOe
        have HOe := Lib.hid HOe
        have HBr := Lib.hid hb
        clear hr hb hs hln hlt
        go_wp2
        refine bodyPost_ret (v := .tuple #[.slice (some ⟨g, 0, none⟩) k k, .int .i64 0]) (by simp [results, Try.results9, go_sem]) rfl ?_
        exact ⟨_, rfl, by rw [HG.out]; exact HOe.out, by rw [HG.out]; exact HBr.out⟩
  · have HL : Hid (zsV L x = []) := Lib.hid (by unfold zsV; rw [if_neg h0])
    have q : (wkE L x != 0) = true := by simpa using h0
    rw [HL.out]
    clear h0 HL HI
    generalize wkE L x = t at *
    generalize L.length = n at *
    go_enter Try.func9, Try.ntmps9
    go_wp2_with fail
    refine HC.out.mono ?_
    rintro e w2 ⟨rfl, rfl⟩
    go_wp2
    refine bodyPost_ret (v := .tuple #[.slice none 0 0, .int .i64 t]) (by simp [results, Try.results9, go_sem]) rfl ?_
    exact REO.bad (Below.refl _ _)

set_option maxHeartbeats 4000000 in
theorem Faults_any (A : Option Addr) (c : Nat) (L : List Int) (x : Int) (w : World) (hI : Ints w A c L) :
    Calls Try.prog 10 #[.slice A L.length c, .int .i64 x] w fun e w' => e = .returned (.tuple #[.int .i64 (flV L x : Int), .int .i64 (wkE L x)]) ∧ w = w' := by
  have HC := Lib.hid (check_any A c L x w hI)
  have HI := Lib.hid hI
  clear hI
  by_cases h0 : wkE L x = 0
  · have hl200 := (trace_zero.1 (wkE_zero.1 h0).1).1
    have hx := (wkE_zero.1 h0).2
    obtain ⟨m, rfl⟩ := nat_of (show 0 ≤ x by have := hx.1; omega)
    have hn1 := hx.1
    have hn2 := hx.2
    have HL : Hid (flV L (m : Int) = fltK L m L.length) := Lib.hid (by unfold flV; rw [if_pos h0]; rfl)
    rw [h0] at HC ⊢
    rw [HL.out]
    have HLa := Lib.hid (fun (k : Nat) (hk : k ≤ L.length) => by
      obtain ⟨A1, hs1, hI1, -⟩ := slice_upto HI.out hk
      have hla := last_any A1 c (L.take k) m w hI1 (by rw [List.length_take]; omega) (by omega)
      rw [drop_win hk] at hla
      rw [show (L.take k).length = k by rw [List.length_take]; omega] at hs1 hla
      exact (⟨A1, hs1, hla⟩ : ∃ A1, (∀ W : World, (Instr.slice 22 (.slice A L.length c) none (some (.int .i64 (k : Int))) none).run Try.prog W = .ok (.slice A1 k c) W) ∧ Calls Try.prog 25 #[.slice A1 k c, .int .i64 (m : Int)] w fun e w' => (∃ A' c', e = .returned (.slice A' (win L m k).length c') ∧ Ints w A' c' (win L m k)) ∧ w' = w))
    obtain ⟨n, hn⟩ : ∃ n, L.length = n := ⟨_, rfl⟩
    have HN := Lib.hid hn
    rw [hn] at HC hl200 ⊢
    simp only [hn] at HLa
    clear h0 hn HL hx hn1 hn2
    go_enter Try.func10, Try.ntmps10
    go_wp2_with fail
    refine HC.out.mono ?_
    rintro e w2 ⟨rfl, rfl⟩
    go_wp2
    go_loop [7, 18] (fun s7 s18 => ∃ k : Nat, k ≤ n ∧ s18 = .int .i64 (k : Int) ∧ s7 = .int .i64 (fltK L m k : Int)) (fun _ i => n - (intOf i).toNat)
    case atStart => exact ⟨0, by omega, rfl, rfl⟩
    case round =>
      obtain ⟨k, hk, rfl, rfl⟩ := hrel
      by_cases hlt : k < n
      · have hin : (k : Int) < (n : Int) := by omega
        have hiB : (0 : Int) ≤ (k : Int) := by omega
        have hkL : k < L.length := by rw [HN.out]; exact hlt
        obtain ⟨b, o, rfl, ht⟩ := HI.out.2.2.2 (by omega)
        have e1 := ht.2 k hkL
        obtain ⟨A1, hs1, hla⟩ := HLa.out k hk
        have HLk := Lib.hid hla
        have HCo := Lib.hid (fun (A' : Option Addr) (c' : Nat) (h : Ints w A' c' (win L m k)) => Lru.contains_any A' c' (win L m k) (gi L k) w h)
        have HS := Lib.hid (flt_succ L m k)
        have hfl := flt_le L m k
        have hw1 : IntKind.i64.wrap ((fltK L m k : Int) + 1) = (fltK L m k : Int) + 1 := by rw [IntKind.wrap_i64]; omega
        clear ht hla hkL hfl
        by_cases hm : gi L k ∈ win L m k
        · rw [if_pos hm] at HS
          rw [decide_eq_true hm] at HCo
          clear hm
          generalize gi L k = y at *
          generalize win L m k = W at *
          generalize W.length = wl at *
          generalize fltK L m k = f at *
          go_wp2_with fail
          refine HLk.out.mono ?_
          rintro e w3 ⟨⟨A2, c2, rfl, hI2⟩, rfl⟩
          have HC2 := Lib.hid (HCo.out A2 c2 hI2)
          clear hI2
          go_wp2_with fail
          refine HC2.out.mono ?_
          rintro e w4 ⟨rfl, rfl⟩
          go_wp2
          go_round
          case rel => exact ⟨k + 1, by omega, by go_num, by rw [HS.out]; rfl⟩
          case measure => simp [intOf]; omega
        · rw [if_neg hm] at HS
          rw [decide_eq_false hm] at HCo
          clear hm
          generalize gi L k = y at *
          generalize win L m k = W at *
          generalize W.length = wl at *
          generalize fltK L m k = f at *
          go_wp2_with fail
          refine HLk.out.mono ?_
          rintro e w3 ⟨⟨A2, c2, rfl, hI2⟩, rfl⟩
          have HC2 := Lib.hid (HCo.out A2 c2 hI2)
          clear hI2
          go_wp2_with fail
          refine HC2.out.mono ?_
          rintro e w4 ⟨rfl, rfl⟩
          go_wp2
          go_round
          case rel => exact ⟨k + 1, by omega, by go_num, by rw [HS.out]; go_num⟩
          case measure => simp [intOf]; omega
      · obtain rfl : k = n := by omega
        clear hlt
        go_wp2
        refine bodyPost_ret (v := .tuple #[.int .i64 (fltK L m k : Int), .int .i64 0]) (by simp [results, Try.results10, go_sem]) rfl ?_
        exact ⟨rfl, rfl⟩
  · have HL : Hid (flV L x = 0) := Lib.hid (by unfold flV; rw [if_neg h0])
    have q : (wkE L x != 0) = true := by simpa using h0
    rw [HL.out]
    clear h0 HL HI
    generalize wkE L x = t at *
    generalize L.length = n at *
    go_enter Try.func10, Try.ntmps10
    go_wp2_with fail
    refine HC.out.mono ?_
    rintro e w2 ⟨rfl, rfl⟩
    go_wp2
    refine bodyPost_ret (v := .tuple #[.int .i64 0, .int .i64 t]) (by simp [results, Try.results10, go_sem]) rfl ?_
    exact ⟨rfl, rfl⟩

end Go.Proofs.Ytgdklpgmoanfkaa.Wst
