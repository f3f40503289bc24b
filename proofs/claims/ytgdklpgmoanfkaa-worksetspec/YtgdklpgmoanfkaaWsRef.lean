/-
  The reference: WorkErr, WorkSet.
-/
import Derived.Test.YtgdklpgmoanfkaaWsMath
import Derived.Test.YtgdklpgmoanfkaaTwoRows
import Derived.Test.YtgdklpgmoanfkaaKeysRef
import Derived.BigQuiet
namespace Go.Proofs.Ytgdklpgmoanfkaa.Wst
open Go.RowKit
open Lru (isRm isK traceE trace_zero)
open Dst (win fltK row)
open Two
set_option linter.unusedVariables false
set_option maxRecDepth 100000

theorem betweenN (x : Int) (b : Bool) (w : World) (hb : decide (isN x) = b) : Calls Try.prog 29 #[.int .i64 x, .int .i64 1, .int .i64 200] w fun e w' => e = .returned (.bool b) ∧ w = w' := by
  subst hb
  exact between_any x 1 200 w

theorem workErr_any (A : Option Addr) (c : Nat) (L : List Int) (x : Int) (w : World) (hI : Ints w A c L) :
    Calls Try.prog 12 #[.slice A L.length c, .int .i64 x] w fun e w' => e = .returned (.int .i64 (wkE L x)) ∧ w = w' := by
  have HC := Lib.hid (Kr.traceCheck_any A c L w hI)
  clear hI
  by_cases h0 : traceE L = 0
  · rw [h0] at HC
    by_cases hx : isN x
    · have HN := Lib.hid (betweenN x true w (decide_eq_true hx))
      have HE : Hid (wkE L x = 0) := Lib.hid (wkE_zero.2 ⟨h0, hx⟩)
      rw [HE.out]
      clear h0 hx HE
      generalize L.length = n at *
      go_enter Try.func12, Try.ntmps12
      go_wp2_with fail
      refine HC.out.mono ?_
      rintro e w2 ⟨rfl, rfl⟩
      go_wp2_with fail
      refine HN.out.mono ?_
      rintro e w2 ⟨rfl, rfl⟩
      go_wp2
      go_ret
      exact ⟨rfl, rfl⟩
    · have HN := Lib.hid (betweenN x false w (decide_eq_false hx))
      have HE : Hid (wkE L x = 3) := Lib.hid (by unfold wkE; rw [if_pos h0, if_neg hx])
      rw [HE.out]
      clear h0 hx HE
      generalize L.length = n at *
      go_enter Try.func12, Try.ntmps12
      go_wp2_with fail
      refine HC.out.mono ?_
      rintro e w2 ⟨rfl, rfl⟩
      go_wp2_with fail
      refine HN.out.mono ?_
      rintro e w2 ⟨rfl, rfl⟩
      go_wp2
      go_ret
      exact ⟨rfl, rfl⟩
  · have HE : Hid (wkE L x = traceE L) := Lib.hid (by unfold wkE; rw [if_neg h0])
    have q : (traceE L == 0) = false := by simpa using h0
    rw [HE.out]
    clear h0 HE
    generalize traceE L = t at *
    generalize L.length = n at *
    go_enter Try.func12, Try.ntmps12
    go_wp2_with fail
    refine HC.out.mono ?_
    rintro e w2 ⟨rfl, rfl⟩
    go_wp2
    go_ret
    exact ⟨rfl, rfl⟩

def slen : Value → Nat
  | .slice _ n _ => n
  | _ => 0

set_option maxHeartbeats 8000000 in
theorem workSet_any (A : Option Addr) (c : Nat) (L : List Int) (i n : Nat) (w : World) (hI : Ints w A c L) (hk : ∀ x ∈ L, isK x) (hi : i < L.length) (hl : L.length ≤ 400) (hn1 : 1 ≤ n) (hn2 : n ≤ 400) :
    Calls Try.prog 13 #[.slice A L.length c, .int .i64 (i : Int), .int .i64 (n : Int)] w fun e w' => ∃ v, e = .returned v ∧ OwnI w' w.heap.size v (wset L n i) ∧ Below w.heap.size w w' := by
  have HI := Lib.hid hI
  obtain ⟨b, o, rfl, ht0⟩ := hI.2.2.2 (by omega)
  have HCell : Hid (∀ (m : Nat) (W : World), m < L.length → Below w.heap.size w W → W.cell? ⟨b, o + m, none⟩ = some (.int .i64 (gi L m))) := Lib.hid (fun m W hm hW => (hW.cell (p := ⟨b, o + m, none⟩) ht0.1).trans (ht0.2 m hm))
  obtain ⟨lo, hlo⟩ : ∃ lo, i + 1 - n = lo := ⟨_, rfl⟩
  have HLo := Lib.hid hlo
  have HSl : Hid ((wset L n i).length ≤ 400) := Lib.hid (Nat.le_trans (wset_len _ _ _) hn2)
  have HGe := Lib.hid (fun (k : Nat) (h : k ≤ (wset L n i).length) => lasts_ge hi hk h)
  have HDone := Lib.hid (fun (k : Nat) (h : k ≤ (wset L n i).length) (hx : Nx L (lasts (wset L n i) k) (i + 1 - n) (i + 1) (-1)) => nx_done hi hk h hx)
  have HMore := Lib.hid (fun (k : Nat) (x : Int) (h : k ≤ (wset L n i).length) (hx : Nx L (lasts (wset L n i) k) (i + 1 - n) (i + 1) x) (h0 : 0 ≤ x) => nx_more hi hk h hx h0)
  rw [hlo] at HDone HMore
  have HTk := Lib.hid (fun (k : Nat) (h : k < (wset L n i).length) => take_succ_gi h)
  generalize wset L n i = S at *
  obtain ⟨ln, hln⟩ : ∃ ln, L.length = ln := ⟨_, rfl⟩
  rw [hln] at hi hl ⊢
  simp only [hln] at HCell
  have hw1 : IntKind.i64.wrap ((i : Int) - (n : Int)) = (i : Int) - (n : Int) := by rw [IntKind.wrap_i64]; omega
  clear hI hk ht0 hln
  go_enter Try.func13, Try.ntmps13
  go_wp2
  go_loopw [7, 8] (fun s7 s8 wr => ∃ k : Nat, k ≤ S.length ∧ s8 = .int .i64 (lasts S k) ∧ slen s7 = k ∧ OwnI wr w.heap.size s7 (S.take k) ∧ Below w.heap.size w wr) (fun s7 _ _ => S.length - slen s7)
  case atStart => exact ⟨0, by omega, rfl, rfl, own_none _ _, Below.refl _ _⟩
  case round =>
    obtain ⟨k, hk, rfl, hsl, ho, hb⟩ := hrel
    have HO := Lib.hid ho
    have HB := Lib.hid hb
    have HSn := Lib.hid hsl
    have hge := HGe.out k hk
    obtain ⟨last, hlast⟩ : ∃ last, lasts S k = last := ⟨_, rfl⟩
    have HLast := Lib.hid hlast
    rw [hlast] at hge ⊢
    obtain ⟨Ag, cg, rfl, -⟩ := ints_of_own ho
    have hGl : (S.take k).length = k := by rw [List.length_take]; omega
    clear ho hb hsl hlast
    rw [hGl] at HO HSn ⊢
    clear hGl
    go_wp2
    go_loop [9, 10] (fun s9 s10 => ∃ (j : Nat) (x : Int), lo ≤ j ∧ j ≤ i + 1 ∧ s10 = .int .i64 ((j : Int) - 1) ∧ s9 = .int .i64 x ∧ Hid (Nx L last j (i + 1) x)) (fun _ s10 => (intOf s10 + 1).toNat)
    case atStart => exact ⟨i + 1, -1, by omega, by omega, by go_num, rfl, Lib.hid (nx_start _ _ _)⟩
    case round =>
      obtain ⟨j, x, hj1, hj2, rfl, rfl, HNx⟩ := hrel
      by_cases hlt : lo < j
      · obtain ⟨m, rfl⟩ : ∃ m, j = m + 1 := ⟨j - 1, by omega⟩
        have hml : m < ln := by omega
        have e1 := HCell.out m wr hml HB.out
        rw [show ((m + 1 : Nat) : Int) - 1 = (m : Int) by omega]
        have d0 : decide ((0 : Int) ≤ (m : Int)) = true := by simp
        have d1 : decide ((i : Int) - (n : Int) < (m : Int)) = true := by simp; omega
        have i1 : (m : Int) < (ln : Int) := by omega
        have i2 : (0 : Int) ≤ (m : Int) := by omega
        have hw2 : IntKind.i64.wrap ((m : Int) - 1) = (m : Int) - 1 := by rw [IntKind.wrap_i64]; omega
        have hsg := nx_sign HNx.out hge
        have HKeep := Lib.hid (fun h => nx_keep (lo := m) HNx.out h hsg)
        have HTake := Lib.hid (fun h => nx_take (lo := m) HNx.out (by omega) hge h)
        clear hsg
        generalize gi L m = y at *
        by_cases c1 : last < y
        · have d2 : decide (last < y) = true := by simpa using c1
          by_cases c2 : x < 0
          · have d3 : decide (x < 0) = true := by simpa using c2
            have HN2 := Lib.hid (HTake.out ⟨c1, .inl c2⟩)
            clear c1 c2
            go_wp2
            go_round
            case rel => exact ⟨m, y, by omega, by omega, rfl, rfl, HN2⟩
            case measure => simp only [intOf]; omega
          · have d3 : decide (x < 0) = false := by simpa using c2
            by_cases c3 : y < x
            · have d4 : decide (y < x) = true := by simpa using c3
              have HN2 := Lib.hid (HTake.out ⟨c1, .inr c3⟩)
              clear c1 c2 c3
              go_wp2
              go_round
              case rel => exact ⟨m, y, by omega, by omega, rfl, rfl, HN2⟩
              case measure => simp only [intOf]; omega
            · have d4 : decide (y < x) = false := by simpa using c3
              have HN2 := Lib.hid (HKeep.out (fun h => by rcases h.2 with h | h <;> omega))
              clear c1 c2 c3
              go_wp2
              go_round
              case rel => exact ⟨m, x, by omega, by omega, rfl, rfl, HN2⟩
              case measure => simp only [intOf]; omega
        · have d2 : decide (last < y) = false := by simpa using c1
          have HN2 := Lib.hid (HKeep.out (fun h => c1 h.1))
          clear c1
          go_wp2
          go_round
          case rel => exact ⟨m, x, by omega, by omega, rfl, rfl, HN2⟩
          case measure => simp only [intOf]; omega
      · obtain rfl : j = lo := by omega
        have hsg := nx_sign HNx.out hge
        have HX : Hid (x = -1 → k = S.length) := Lib.hid (fun e => HDone.out k hk (by rw [HLast.out, ← e]; exact HNx.out))
        have HX2 : Hid (0 ≤ x → k < S.length ∧ x = gi S k) := Lib.hid (fun h => HMore.out k x hk (by rw [HLast.out]; exact HNx.out) h)
        by_cases hj0 : j = 0
        · have d0 : decide ((0 : Int) ≤ (j : Int) - 1) = false := by simp; omega
          generalize (j : Int) - 1 = jm at *
          rcases hsg with hx | hx
          · have d5 : decide (x < 0) = true := by simp; omega
            have HKS := Lib.hid (HX.out hx)
            clear hx hj0
            go_wp2
            go_ret
            refine ⟨_, rfl, ?_, HB.out⟩
            have h1 := HO.out
            rwa [List.take_of_length_le (by have := HKS.out; omega)] at h1
          · have d5 : decide (x < 0) = false := by simp; omega
            obtain ⟨h1, h2⟩ := HX2.out hx
            have HSucc : Hid (S.take (k + 1) = S.take k ++ [x]) := Lib.hid (by rw [HTk.out k h1, h2])
            have HLs : Hid (lasts S (k + 1) = x) := Lib.hid (by rw [lasts_succ, h2])
            have HGl : Hid ((S.take k).length = k) := Lib.hid (by rw [List.length_take]; omega)
            have hk400 : k ≤ 1000 := by have := HSl.out; omega
            clear hx hj0 h2
            go_wp2_with (first
              | (at_builtin; refine wpList_append_lies1 rfl _ _ rfl w.heap.size _ (S.take k) rfl HO.out x _ rfl (by rw [HGl.out]; exact hk400) HB.out.size ?_)
              | go_in)
            intro g cap w8 h3 h4 h5
            have HB8 := Lib.hid ((bel_al HB.out HB.out.size _).grown h4 (Nat.le_trans HB.out.size (by simp)) (fun q hq => (HO.out.lt q hq).1))
            have HO8 : Hid (OwnI w8 w.heap.size (.slice (some ⟨g, 0, none⟩) (k + 1) cap) (S.take (k + 1))) := Lib.hid (by rw [HSucc.out]; exact h3)
            clear h3 h4 h5
            go_wp2
            go_roundw
            case rel => exact ⟨k + 1, by omega, by rw [HLs.out], rfl, HO8.out, HB8.out⟩
            case measure => simp only [slen]; omega
        · have d0 : decide ((0 : Int) ≤ (j : Int) - 1) = true := by simp; omega
          have d1 : decide ((i : Int) - (n : Int) < (j : Int) - 1) = false := by have := HLo.out; simp; omega
          generalize (j : Int) - 1 = jm at *
          rcases hsg with hx | hx
          · have d5 : decide (x < 0) = true := by simp; omega
            have HKS := Lib.hid (HX.out hx)
            clear hx hj0
            go_wp2
            go_ret
            refine ⟨_, rfl, ?_, HB.out⟩
            have h1 := HO.out
            rwa [List.take_of_length_le (by have := HKS.out; omega)] at h1
          · have d5 : decide (x < 0) = false := by simp; omega
            obtain ⟨h1, h2⟩ := HX2.out hx
            have HSucc : Hid (S.take (k + 1) = S.take k ++ [x]) := Lib.hid (by rw [HTk.out k h1, h2])
            have HLs : Hid (lasts S (k + 1) = x) := Lib.hid (by rw [lasts_succ, h2])
            have HGl : Hid ((S.take k).length = k) := Lib.hid (by rw [List.length_take]; omega)
            have hk400 : k ≤ 1000 := by have := HSl.out; omega
            clear hx hj0 h2
            go_wp2_with (first
              | (at_builtin; refine wpList_append_lies1 rfl _ _ rfl w.heap.size _ (S.take k) rfl HO.out x _ rfl (by rw [HGl.out]; exact hk400) HB.out.size ?_)
              | go_in)
            intro g cap w8 h3 h4 h5
            have HB8 := Lib.hid ((bel_al HB.out HB.out.size _).grown h4 (Nat.le_trans HB.out.size (by simp)) (fun q hq => (HO.out.lt q hq).1))
            have HO8 : Hid (OwnI w8 w.heap.size (.slice (some ⟨g, 0, none⟩) (k + 1) cap) (S.take (k + 1))) := Lib.hid (by rw [HSucc.out]; exact h3)
            clear h3 h4 h5
            go_wp2
            go_roundw
            case rel => exact ⟨k + 1, by omega, by rw [HLs.out], rfl, HO8.out, HB8.out⟩
            case measure => simp only [slen]; omega

end Go.Proofs.Ytgdklpgmoanfkaa.Wst
