/-
  Package distance: Hits, Misses, Room.
-/
import Derived.Test.YtamgnndebokopaaDistApi
import Derived.StillTailTactics
namespace Go.Proofs.Ytamgnndebokopaa.Dst
open Go.RowKit
open Lru (isRm isK traceE trace_zero)
open Two
set_option linter.unusedVariables false
set_option maxRecDepth 100000

set_option maxHeartbeats 4000000 in
theorem Hits_any (A : Option Addr) (c : Nat) (L : List Int) (w : World) (hI : Ints w A c L) :
    Calls Try.prog 8 #[.slice A L.length c] w (REO (hsL L) (traceE L) w) := by
  have HC := Lib.hid (Distances_any A c L w hI)
  unfold REO at HC
  clear hI
  by_cases h0 : traceE L = 0
  · have HL : Hid (hsL L = hI L) := Lib.hid (by unfold hsL; rw [if_pos h0])
    have HD : Hid (dsL L = dI L) := Lib.hid (by unfold dsL; rw [if_pos h0])
    have hl200 := (trace_zero.1 h0).1
    rw [h0] at HC ⊢
    rw [HL.out]
    rw [HD.out] at HC
    obtain ⟨n, hn⟩ : ∃ n, L.length = n := ⟨_, rfl⟩
    have HN := Lib.hid hn
    have HDn : Hid ((dI L).length = n) := Lib.hid (by rw [dI_len, hn])
    rw [hn] at HC hl200 ⊢
    clear h0 hn HL HD
    have hmk : ∀ W : World, (Instr.makeSlice 22 (.int .i64 40) (.int .i64 40)).run Try.prog W = .ok (.slice (some ⟨W.heap.size, 0, none⟩) 40 40) (W.alloc (.cells (Array.replicate 40 (Value.int .i64 0)) 3)) := fun W => run_make_ints 40 (by omega) W
    go_enter Try.func8, Try.ntmps8
    go_wp2_with fail
    refine HC.out.mono ?_
    rintro e w2 ⟨v2, rfl, ho2, hb2⟩
    obtain ⟨B, d, rfl, hI2⟩ := ints_of_own ho2
    have HI2 := Lib.hid hI2
    have HB2 := Lib.hid hb2
    have HRo : Hid (RowI (w2.alloc (.cells (Array.replicate 40 (Value.int .i64 0)) 3)) w2.heap.size (bK L 0)) := Lib.hid (by
      rw [bK_zero]; exact RowI.new w2 40)
    have HB0 : Hid (Below w2.heap.size w2 (w2.alloc (.cells (Array.replicate 40 (Value.int .i64 0)) 3))) := Lib.hid (bel_al (Below.refl _ _) (Nat.le_refl _) _)
    clear hI2 hb2 ho2
    rw [HDn.out]
    go_wp2
    generalize w2.alloc (.cells (Array.replicate 40 (Value.int .i64 0)) 3) = w1 at *
    obtain ⟨g, hg⟩ : ∃ g, w2.heap.size = g := ⟨_, rfl⟩
    have HG := Lib.hid hg
    rw [hg] at HRo HB0 ⊢
    clear hg
    go_loopw [21] (fun s21 wr => ∃ k : Nat, k ≤ n ∧ s21 = .int .i64 (k : Int) ∧ RowI wr g (bK L k) ∧ Below g w2 wr) (fun i _ => n - (intOf i).toNat)
    case atStart => exact ⟨0, by omega, rfl, HRo.out, HB0.out⟩
    case round =>
      obtain ⟨k, hk, rfl, hr, hb⟩ := hrel
      by_cases hlt : k < n
      · have hin : (k : Int) < (n : Int) := by omega
        have hiB : (0 : Int) ≤ (k : Int) := by omega
        have hkL : k < L.length := by rw [HN.out]; exact hlt
        obtain ⟨b, o, rfl, ht⟩ := (HI2.out.below (w' := wr) (by rw [HG.out]; exact hb)).2.2.2 (by rw [HDn.out]; omega)
        have e1 := ht.2 k (by rw [HDn.out]; exact hlt)
        rw [dI_get hkL] at e1
        have HR := Lib.hid hr
        have HB := Lib.hid hb
        clear hr hb ht
        by_cases q : 1 ≤ dst L k ∧ dst L k ≤ 40
        · obtain ⟨d1, hd1⟩ : ∃ d1, dst L k = d1 + 1 := ⟨dst L k - 1, by omega⟩
          have h40 : d1 < 40 := by omega
          have HE : Hid (bK L (k + 1) = (bK L k).set d1 (gi (bK L k) d1 + 1)) := Lib.hid (bK_in hd1 h40)
          have hle := bK_le (l := L) (k := k) h40
          have c4 := HR.out.cell (j := d1) (by rw [bK_len]; exact h40)
          have f4 := HR.out.frozen d1
          have p1 : decide ((1 : Int) ≤ (d1 : Int) + 1) = true := by simp; omega
          have p2 : decide ((d1 : Int) + 1 ≤ 40) = true := by simp; omega
          have wr1 : IntKind.i64.wrap ((d1 : Int) + 1 - 1) = (d1 : Int) := by rw [IntKind.wrap_i64]; omega
          have wr2 : IntKind.i64.wrap (gi (bK L k) d1 + 1) = gi (bK L k) d1 + 1 := by rw [IntKind.wrap_i64]; omega
          have i1 : (d1 : Int) < 40 := by omega
          have i2 : (0 : Int) ≤ (d1 : Int) := by omega
          rw [hd1, show ((d1 + 1 : Nat) : Int) = (d1 : Int) + 1 from rfl] at e1
          clear hkL q hd1 hle
          generalize gi (bK L k) d1 = x at *
          go_wp2
          have HR5 : Hid (RowI (wr.setCell ⟨g, d1, none⟩ (.int .i64 (x + 1))) g (bK L (k + 1))) := Lib.hid (by rw [HE.out]; exact HR.out.set d1 _)
          have HB5 : Hid (Below g w2 (wr.setCell ⟨g, d1, none⟩ (.int .i64 (x + 1)))) := Lib.hid (bel_set HB.out (a := ⟨g, d1, none⟩) (Nat.le_refl _) _)
          generalize wr.setCell ⟨g, d1, none⟩ (.int .i64 (x + 1)) = w5 at *
          go_roundw
          case rel => exact ⟨k + 1, by omega, by go_num, HR5.out, HB5.out⟩
          case measure => simp [intOf]; omega
        · have HE : Hid (bK L (k + 1) = bK L k) := Lib.hid (bK_out q)
          by_cases q1 : 1 ≤ dst L k
          · have p1 : decide ((1 : Int) ≤ (dst L k : Int)) = true := by simp; omega
            have p2 : decide ((dst L k : Int) ≤ 40) = false := by simp; omega
            have p3 : decide (1 ≤ dst L k) = true := by simp; omega
            have p4 : decide (dst L k ≤ 40) = false := by simp; omega
            clear hkL q q1
            generalize dst L k = dd at *
            go_wp2
            go_roundw
            case rel => exact ⟨k + 1, by omega, by go_num, by rw [HE.out]; exact HR.out, HB.out⟩
            case measure => simp [intOf]; omega
          · have p1 : decide ((1 : Int) ≤ (dst L k : Int)) = false := by simp; omega
            have p3 : decide (1 ≤ dst L k) = false := by simp; omega
            clear hkL q q1
            generalize dst L k = dd at *
            go_wp2
            go_roundw
            case rel => exact ⟨k + 1, by omega, by go_num, by rw [HE.out]; exact HR.out, HB.out⟩
            case measure => simp [intOf]; omega
      · obtain rfl : k = n := by omega
        have HR : Hid (RowI wr g (hK L 1)) := Lib.hid (by rw [← hK_one, HN.out]; exact hr)
        have HB := Lib.hid hb
        clear hr hb hlt
        go_wp2
        generalize wr = wq at *
        go_loopw [9] (fun s9 wr => ∃ i : Nat, 1 ≤ i ∧ i ≤ 40 ∧ s9 = .int .i64 (i : Int) ∧ RowI wr g (hK L i) ∧ Below g w2 wr) (fun i _ => 40 - (intOf i).toNat)
        case atStart => exact ⟨1, by omega, by omega, rfl, HR.out, HB.out⟩
        case round =>
          obtain ⟨i, hi1, hi, rfl, hr, hb⟩ := hrel
          by_cases hlt : i < 40
          · have HE : Hid ((hK L i).set i (gi (hK L i) i + gi (hK L i) (i - 1)) = hK L (i + 1)) := Lib.hid (hK_set hi1 hlt)
            have hle1 := hK_le (l := L) (i := i) hlt
            have hle2 := hK_le (l := L) (i := i) (j := i - 1) (by omega)
            rw [HN.out] at hle1 hle2
            obtain ⟨m, hm⟩ : ∃ m, i = m + 1 := ⟨i - 1, by omega⟩
            subst hm
            rw [show m + 1 - 1 = m from rfl] at HE hle2
            have HR2 := Lib.hid hr
            have HB2 := Lib.hid hb
            have c4 := hr.cell (j := m + 1) (by rw [hK_len]; exact hlt)
            have c5 := hr.cell (j := m) (by rw [hK_len]; omega)
            have f4 := hr.frozen (m + 1)
            have wr1 : IntKind.i64.wrap (((m + 1 : Nat) : Int) - 1) = (m : Int) := by rw [IntKind.wrap_i64]; omega
            have wr2 : IntKind.i64.wrap (gi (hK L (m + 1)) (m + 1) + gi (hK L (m + 1)) m) = gi (hK L (m + 1)) (m + 1) + gi (hK L (m + 1)) m := by rw [IntKind.wrap_i64]; omega
            have i1 : ((m + 1 : Nat) : Int) < 40 := by omega
            have i2 : (0 : Int) ≤ ((m + 1 : Nat) : Int) := by omega
            have i3 : (m : Int) < 40 := by omega
            have i4 : (0 : Int) ≤ (m : Int) := by omega
            clear hr hb hle1 hle2
            generalize gi (hK L (m + 1)) (m + 1) = x at *
            generalize gi (hK L (m + 1)) m = y at *
            generalize hmi : m + 1 = mi at *
            go_wp2
            go_still_tail 11, (by kernel_rfl)
            change wpList _ _ _ _ _ wr.drew
            have HR3 : Hid (RowI wr.drew g (hK L mi)) := Lib.hid HR2.out
            have HB3 : Hid (Below g w2 wr.drew) := Lib.hid HB2.out.drew
            have c6 : wr.drew.cell? ⟨g, mi, none⟩ = some (.int .i64 x) := c4
            have f6 : wr.drew.frozen? ⟨g, mi, none⟩ = false := f4
            clear HR2 HB2 c4 c5 f4
            generalize wr.drew = w4 at *
            go_wp2
            have HR5 : Hid (RowI (w4.setCell ⟨g, mi, none⟩ (.int .i64 (x + y))) g (hK L (mi + 1))) := Lib.hid (by rw [← HE.out]; exact HR3.out.set mi _)
            have HB5 : Hid (Below g w2 (w4.setCell ⟨g, mi, none⟩ (.int .i64 (x + y)))) := Lib.hid (bel_set HB3.out (a := ⟨g, mi, none⟩) (Nat.le_refl _) _)
            generalize w4.setCell ⟨g, mi, none⟩ (.int .i64 (x + y)) = w5 at *
            go_roundw
            case rel => exact ⟨mi + 1, by omega, by omega, by go_num, HR5.out, HB5.out⟩
            case measure => simp [intOf]; omega
          · obtain rfl : i = 40 := by omega
            rw [hK_all] at hr
            have HOe := Lib.hid (hr.own g (Nat.le_refl _) (by rw [hI_len]; omega))
            rw [hI_len] at HOe
            have HBr := Lib.hid hb
            clear hr hb
            go_wp2
            refine bodyPost_ret (v := .tuple #[.slice (some ⟨g, 0, none⟩) 40 40, .int .i64 0]) (by simp [results, Try.results8, go_sem]) rfl ?_
            have hgw : w.heap.size ≤ g := by rw [← HG.out]; exact HB2.out.size
            exact ⟨_, rfl, own_le HOe.out hgw, HB2.out.trans (HBr.out.mono hgw)⟩
  · have HL : Hid (hsL L = []) := Lib.hid (by unfold hsL; rw [if_neg h0])
    have q : (traceE L != 0) = true := by simpa using h0
    rw [HL.out]
    clear h0 HL
    generalize traceE L = t at *
    generalize L.length = n at *
    go_enter Try.func8, Try.ntmps8
    go_wp2_with fail
    refine HC.out.mono ?_
    rintro e w2 ⟨v2, rfl, -, hb2⟩
    have HB2 := Lib.hid hb2
    clear hb2
    go_wp2
    refine bodyPost_ret (v := .tuple #[.slice none 0 0, .int .i64 t]) (by simp [results, Try.results8, go_sem]) rfl ?_
    exact REO.bad HB2.out

end Go.Proofs.Ytamgnndebokopaa.Dst
