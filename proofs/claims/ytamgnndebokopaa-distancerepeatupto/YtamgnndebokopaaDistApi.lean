/-
  Package distance: use, Distances, Hits, Misses, Room.
-/
import Derived.Test.YtamgnndebokopaaDistM2
import Derived.Test.YtamgnndebokopaaRowInts
import Derived.BigQuiet
namespace Go.Proofs.Ytamgnndebokopaa.Dst
open Go.RowKit
open Lru (isRm isK traceE trace_zero)
open Two
set_option linter.unusedVariables false
set_option maxRecDepth 100000

set_option maxHeartbeats 2000000 in
theorem use_any (base : Nat) (v : Value) (L : List Int) (x : Int) (w : World) (hown : OwnI w base v L) (hB : base ≤ w.heap.size) (hl : L.length ≤ 4000) :
    Calls Try.prog 19 #[v, .int .i64 x] w fun e w' => ∃ v', e = .returned (.tuple #[v', .int .i64 (dep L x : Int)]) ∧ OwnI w' base v' (x :: L.erase x) ∧ Below base w w' := by
  obtain ⟨A, c, rfl, hI⟩ := ints_of_own hown
  have HO := Lib.hid hown
  have HB := Lib.hid hB
  have HX := Lib.hid (Lru.index_any A c L x w hI)
  have HL : Hid (L.length ≤ 4000) := Lib.hid hl
  clear hown hI hB hl
  by_cases hx : x ∈ L
  · obtain ⟨k, hk, he, hd⟩ := Lru.idx_in hx
    have HE : Hid (x :: L.erase x = x :: (L.take k ++ L.drop (k + 1))) := Lib.hid (by rw [hd])
    have HP : Hid ((k : Int) + 1 = (dep L x : Int)) := Lib.hid (by rw [← dep_idx, he])
    have HLd : Hid ((L.take k ++ L.drop (k + 1)).length ≤ 4096) := Lib.hid (by rw [hd]; have := List.length_erase_le (a := x) (l := L); have := HL.out; omega)
    have HD := Lib.hid (Lru.delete_own base (.slice A L.length c) L k w HO.out hk HB.out)
    have hkk : k < 4000 := by have := HL.out; omega
    rw [he] at HX
    rw [HE.out]
    have q1 : decide ((0 : Int) ≤ (k : Int)) = true := by simp
    have hk9 : IntKind.i64.wrap ((k : Int) + 1) = (k : Int) + 1 := by rw [IntKind.wrap_i64]; omega
    clear hx he hd hk
    generalize L.take k ++ L.drop (k + 1) = M at *
    generalize dep L x = dd at *
    generalize L.length = ln at *
    go_enter Try.func19, Try.ntmps19
    go_wp2_with fail
    refine HX.out.mono ?_
    rintro e w' ⟨rfl, rfl⟩
    go_wp2_with fail
    refine HD.out.mono ?_
    rintro e w1 ⟨v1, rfl, ho1, hb1⟩
    have HN := Lib.hid (Lru.insert_new base v1 M x w1 ho1 (Nat.le_trans HB.out hb1.size) HLd.out)
    have HB1 := Lib.hid hb1
    clear ho1 hb1
    go_wp2_with fail
    refine HN.out.mono ?_
    rintro e w2 ⟨v2, rfl, ho2, hb2⟩
    have HO2 := Lib.hid ho2
    have HB2 := Lib.hid (HB1.out.trans hb2)
    clear ho2 hb2
    go_wp2
    refine bodyPost_ret (v := .tuple #[v2, .int .i64 ((k : Int) + 1)]) (by simp [results, Try.results19, go_sem]) rfl ?_
    exact ⟨v2, by rw [HP.out], HO2.out, HB2.out⟩
  · have HE : Hid (x :: L.erase x = x :: L) := Lib.hid (by rw [List.erase_of_not_mem hx])
    have hd0 : dep L x = 0 := by unfold dep; rw [if_neg hx]
    have he : Lib.idxOf L x = -1 := by have := dep_idx L x; rw [hd0] at this; simp only [Int.natCast_zero] at this; omega
    have HN := Lib.hid (Lru.insert_new base (.slice A L.length c) L x w HO.out HB.out (by have := HL.out; omega))
    rw [he] at HX
    rw [HE.out, hd0]
    have q1 : decide ((0 : Int) ≤ (-1 : Int)) = false := by decide
    clear hx he hd0
    generalize L.length = ln at *
    go_enter Try.func19, Try.ntmps19
    go_wp2_with fail
    refine HX.out.mono ?_
    rintro e w' ⟨rfl, rfl⟩
    go_wp2_with fail
    refine HN.out.mono ?_
    rintro e w2 ⟨v2, rfl, ho2, hb2⟩
    have HO2 := Lib.hid ho2
    have HB2 := Lib.hid hb2
    clear ho2 hb2
    go_wp2
    refine bodyPost_ret (v := .tuple #[v2, .int .i64 0]) (by simp [results, Try.results19, go_sem]) rfl ?_
    exact ⟨v2, rfl, HO2.out, HB2.out⟩

set_option maxHeartbeats 4000000 in
theorem Distances_any (A : Option Addr) (c : Nat) (L : List Int) (w : World) (hI : Ints w A c L) :
    Calls Try.prog 7 #[.slice A L.length c] w (REO (dsL L) (traceE L) w) := by
  have HC := Lib.hid (Lru.checkTrace_any A c L w hI)
  have HI := Lib.hid hI
  clear hI
  by_cases h0 : traceE L = 0
  · have HL : Hid (dsL L = dI L) := Lib.hid (by unfold dsL; rw [if_pos h0])
    have hl200 := (trace_zero.1 h0).1
    rw [h0] at HC ⊢
    rw [HL.out]
    obtain ⟨n, hn⟩ : ∃ n, L.length = n := ⟨_, rfl⟩
    have HN := Lib.hid hn
    rw [hn] at HC hl200 ⊢
    clear h0 hn HL
    have hmk : ∀ W : World, (Instr.makeSlice 22 (.int .i64 (n : Int)) (.int .i64 (n : Int))).run Try.prog W = .ok (.slice (some ⟨W.heap.size, 0, none⟩) n n) (W.alloc (.cells (Array.replicate n (Value.int .i64 0)) 3)) := fun W => run_make_ints n (by omega) W
    have HRo : Hid (RowI (w.alloc (.cells (Array.replicate n (Value.int .i64 0)) 3)) w.heap.size (dK L 0)) := Lib.hid (by
      rw [dK_zero, HN.out]; exact RowI.new w n)
    have HB0 : Hid (Below w.heap.size w (w.alloc (.cells (Array.replicate n (Value.int .i64 0)) 3))) := Lib.hid (bel_al (Below.refl _ _) (Nat.le_refl _) _)
    have HS0 : Hid (w.heap.size + 1 ≤ (w.alloc (.cells (Array.replicate n (Value.int .i64 0)) 3)).heap.size) := Lib.hid (by simp)
    go_enter Try.func7, Try.ntmps7
    go_wp2_with fail
    refine HC.out.mono ?_
    rintro e w2 ⟨rfl, rfl⟩
    go_wp2
    generalize w.alloc (.cells (Array.replicate n (Value.int .i64 0)) 3) = w1 at *
    obtain ⟨g, hg⟩ : ∃ g, w.heap.size = g := ⟨_, rfl⟩
    have HG := Lib.hid hg
    rw [hg] at HRo HB0 HS0 ⊢
    clear hg
    go_loopw [6, 19] (fun s6 s19 wr => ∃ k : Nat, k ≤ n ∧ s19 = .int .i64 (k : Int) ∧ OwnI wr (g + 1) s6 (stk L k) ∧ RowI wr g (dK L k) ∧ Below g w wr ∧ g + 1 ≤ wr.heap.size) (fun _ i _ => n - (intOf i).toNat)
    case atStart => exact ⟨0, by omega, rfl, own_none _ _, HRo.out, HB0.out, HS0.out⟩
    case round =>
      obtain ⟨k, hk, rfl, ho, hr, hb, hs⟩ := hrel
      by_cases hlt : k < n
      · have hin : (k : Int) < (n : Int) := by omega
        have hiB : (0 : Int) ≤ (k : Int) := by omega
        have hkL : k < L.length := by rw [HN.out]; exact hlt
        obtain ⟨b, o, rfl, ht⟩ := (HI.out.below (w' := wr) (by rw [HG.out]; exact hb)).2.2.2 (by omega)
        have e1 := ht.2 k hkL
        have HU := Lib.hid (use_any (g + 1) u6 (stk L k) (gi L k) wr ho hs (by have := stk_len L k; omega))
        have HS1 : Hid (stk L (k + 1) = gi L k :: (stk L k).erase (gi L k)) := Lib.hid (stk_succ hkL)
        have HD1 : Hid ((dK L k).set k (dst L k : Int) = dK L (k + 1)) := Lib.hid (dK_set hkL)
        have hKl : k < (dK L k).length := by rw [dK_len]; exact hkL
        have HKl := Lib.hid hKl
        have HR := Lib.hid hr
        have HB := Lib.hid hb
        have HS := Lib.hid hs
        rw [← dst_stk hkL, ← HS1.out] at HU
        clear ho hr hb hs ht hkL hKl
        generalize gi L k = x at *
        generalize dst L k = dd at *
        generalize u6 = v at *
        go_wp2_with fail
        refine HU.out.mono ?_
        rintro e w4 ⟨v4, rfl, ho4, hb4⟩
        have HR4 := Lib.hid (HR.out.below hb4 (Nat.lt_succ_self g))
        have HB4 : Hid (Below g w w4) := Lib.hid (HB.out.trans (hb4.mono (Nat.le_succ g)))
        have HS4 : Hid (g + 1 ≤ w4.heap.size) := Lib.hid (Nat.le_trans HS.out hb4.size)
        have HO4 := Lib.hid ho4
        have c4 := HR4.out.cell HKl.out
        have f4 := HR4.out.frozen k
        clear ho4 hb4 e1
        generalize gi (dK L k) k = u1 at *
        go_wp2
        have HR5 : Hid (RowI (w4.setCell ⟨g, k, none⟩ (.int .i64 (dd : Int))) g (dK L (k + 1))) := Lib.hid (by rw [← HD1.out]; exact HR4.out.set k _)
        have HO5 : Hid (OwnI (w4.setCell ⟨g, k, none⟩ (.int .i64 (dd : Int))) (g + 1) v4 (stk L (k + 1))) := Lib.hid (own_set HO4.out (own_off HO4.out (Nat.lt_succ_self g)) k _)
        have HB5 : Hid (Below g w (w4.setCell ⟨g, k, none⟩ (.int .i64 (dd : Int)))) := Lib.hid (bel_set HB4.out (a := ⟨g, k, none⟩) (Nat.le_refl _) _)
        have HS5 : Hid (g + 1 ≤ (w4.setCell ⟨g, k, none⟩ (.int .i64 (dd : Int))).heap.size) := Lib.hid (by simpa [World.setCell] using HS4.out)
        generalize w4.setCell ⟨g, k, none⟩ (.int .i64 (dd : Int)) = w5 at *
        go_roundw
        case rel => exact ⟨k + 1, by omega, by go_num, HO5.out, HR5.out, HB5.out, HS5.out⟩
        case measure => simp [intOf]; omega
      · obtain rfl : k = n := by omega
        have hln : (dK L k).length = k := by rw [dK_len, HN.out]
        have HD : Hid (dK L k = dI L) := Lib.hid (by rw [← HN.out, dK_all])
        have HOe := hr.own g (Nat.le_refl _) (by rw [hln]; omega)
        rw [hln, HD.out] at HOe
        have HOe := Lib.hid HOe
        have HBr := Lib.hid hb
        clear ho hr hb hs hln hlt
        go_wp2
        refine bodyPost_ret (v := .tuple #[.slice (some ⟨g, 0, none⟩) k k, .int .i64 0]) (by simp [results, Try.results7, go_sem]) rfl ?_
        exact ⟨_, rfl, by rw [HG.out]; exact HOe.out, by rw [HG.out]; exact HBr.out⟩
  · have HL : Hid (dsL L = []) := Lib.hid (by unfold dsL; rw [if_neg h0])
    have q : (traceE L != 0) = true := by simpa using h0
    rw [HL.out]
    clear h0 HL
    generalize traceE L = t at *
    generalize L.length = n at *
    go_enter Try.func7, Try.ntmps7
    go_wp2_with fail
    refine HC.out.mono ?_
    rintro e w2 ⟨rfl, rfl⟩
    go_wp2
    refine bodyPost_ret (v := .tuple #[.slice none 0 0, .int .i64 t]) (by simp [results, Try.results7, go_sem]) rfl ?_
    exact REO.bad (Below.refl _ _)

end Go.Proofs.Ytamgnndebokopaa.Dst
