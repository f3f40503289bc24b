/-
  The reference of package lfu: LfuCheck, LfuLeast.
-/
import Derived.Test.YtdliacdmoeogcaaLfuInts
import Derived.Test.YtdliacdmoeogcaaKeysRef
namespace Go.Proofs.Ytdliacdmoeogcaa.Lfu
open Go.RowKit Go.Maps
open Lru (isRm isK keysE keysE_zero traceE trace_zero)
open Kr (betweenR betweenK keysOnce_any traceCheck_any)
set_option linter.unusedVariables false
set_option maxRecDepth 100000

theorem keys_take_one {F : List Us} {k : Nat} (hk : k < F.length) : keys (F.take (k + 1)) = keys (F.take k) ++ [(gu F k).key] := by
  rw [keys_take, keys_take, List.take_add_one, List.getElem?_eq_getElem (by rw [keys_len]; exact hk), keys_get hk]
  rfl
theorem betweenC (x : Int) (b : Bool) (w : World) (hb : decide (okC x) = b) : Calls Try.prog 25 #[.int .i64 x, .int .i64 1, .int .i64 1099511627776] w fun e w' => e = .returned (.bool b) ∧ w = w' := by
  subst hb
  exact between_any x 1 1099511627776 w

set_option maxHeartbeats 4000000 in
theorem lfuCheck_any (r : Int) (A : Option Addr) (c : Nat) (F : List Us) (w : World) (hF : Uss w A c F) :
    Calls Try.prog 11 #[kv r (.slice A F.length c)] w fun e w' => e = .returned (.int .i64 (checkK r F)) ∧ Below w.heap.size w w' := by
  have HK0 : Hid (Kb (w.alloc (ko r (.slice A F.length c))) w.heap.size r (.slice A F.length c)) := Lib.hid (Kb.new w r _)
  have HB0 : Hid (Below w.heap.size w (w.alloc (ko r (.slice A F.length c)))) := Lib.hid (bel_al (Below.refl _ _) (Nat.le_refl _) _)
  have HF1 : Hid (Uss (w.alloc (ko r (.slice A F.length c))) A c F) := Lib.hid (hF.alloc _)
  have hlen := hF.len
  obtain ⟨x1, x2, -, -⟩ := HK0.out.cells
  clear hF
  by_cases h1 : isRm r
  · have HBt := Lib.hid (fun W => betweenR r true W (by simpa using h1))
    by_cases h3 : r < (F.length : Int)
    · have p3 : decide (r < (F.length : Int)) = true := by simpa using h3
      have HE : Hid (checkK r F = 2) := Lib.hid (by unfold checkK; rw [if_pos h1, if_pos h3])
      clear h1 h3
      go_enter Try.func11, Try.ntmps11
      go_wp2_with fail
      refine (HBt.out _).mono ?_
      rintro e w' ⟨rfl, rfl⟩
      go_wp2
      go_ret
      exact ⟨ret_int HE.out.symm, HB0.out⟩
    · have p3 : decide (r < (F.length : Int)) = false := by simpa using h3
      have HE : Hid (checkK r F = if keysE [] (keys F) = 0 then (if (∀ u ∈ F, okC u.cnt) then 0 else 3) else keysE [] (keys F)) := Lib.hid (by unfold checkK; rw [if_pos h1, if_neg h3])
      have h40 : F.length ≤ 40 := by have := h1.2; omega
      clear h1 h3
      obtain ⟨ln, hln⟩ : ∃ ln, F.length = ln := ⟨_, rfl⟩
      have HLN := Lib.hid hln
      rw [hln] at HK0 HB0 HF1 x1 x2 p3 hlen h40
      rw [hln]
      clear hln
      go_enter Try.func11, Try.ntmps11
      go_wp2_with fail
      refine (HBt.out _).mono ?_
      rintro e w' ⟨rfl, rfl⟩
      generalize w.alloc (ko r (.slice A ln c)) = w1 at *
      go_wp2
      clear x1 x2
      go_loopw [3, 4] (fun v i wr => ∃ k : Nat, k ≤ ln ∧ i = .int .i64 (k : Int) ∧ OwnI wr w1.heap.size v (keys (F.take k)) ∧ Below w1.heap.size w1 wr) (fun _ i _ => ln - (intOf i).toNat)
      case atStart => exact ⟨0, by omega, rfl, World.ownsRow_nil _ _ _ _, Below.refl _ _⟩
      case round =>
        obtain ⟨k, hk, rfl, ho, hb⟩ := hrel
        have HO := Lib.hid ho
        have HB := Lib.hid hb
        clear ho hb
        obtain ⟨x1, x2, -, -⟩ := (HK0.out.below HB.out).cells
        by_cases hlt : k < ln
        · have hkn : (k : Int) < (ln : Int) := by omega
          have HKL : Hid (k < F.length) := Lib.hid (by rw [HLN.out]; exact hlt)
          obtain ⟨b, o, rfl, e1, e2⟩ := (HF1.out.below HB.out).us HKL.out
          have HT := Lib.hid (keys_take_one HKL.out)
          have HLk : Hid ((keys (F.take k)).length ≤ 17592186043904) := Lib.hid (by rw [keys_len, List.length_take]; omega)
          generalize (gu F k).key = x at *
          generalize keys (F.take k) = M at *
          have HBs : Hid (w1.heap.size ≤ wr.heap.size) := Lib.hid HB.out.size
          go_wp2_with (first
            | (at_builtin; refine wpList_append_oneL rfl _ _ rfl w1.heap.size _ _ rfl HO.out x _ rfl HLk.out HBs.out ?_)
            | go_in)
          intro v4 w4 hown4 hg4
          have HO4 := Lib.hid hown4
          have HB4 : Hid (Below w1.heap.size w1 w4) := Lib.hid ((bel_al HB.out HB.out.size _).grown hg4 (Nat.le_trans HB.out.size (by simp)) (fun k hk => (HO.out.lt k hk).1))
          clear hown4 hg4 e1 e2 x1 x2
          go_wp2
          go_roundw
          case rel => exact ⟨k + 1, by omega, by go_num, by rw [HT.out]; exact HO4.out, HB4.out⟩
          case measure => simp [intOf]; omega
        · obtain rfl : k = ln := by omega
          have HtL : Hid (F.take k = F) := Lib.hid (by rw [← HLN.out]; exact List.take_length)
          rw [HtL.out] at HO
          obtain ⟨A5, c5, rfl, hI5⟩ := ints_of_own HO.out
          have HKo := Lib.hid (keysOnce_any A5 c5 (keys F) wr hI5)
          clear hI5 hlt
          go_wp2_with fail
          refine HKo.out.mono ?_
          rintro e w3 ⟨rfl, hb3⟩
          have HB3 : Hid (Below w1.heap.size w1 w3) := Lib.hid (HB.out.trans (hb3.mono HB.out.size))
          have HK3 := Lib.hid (HK0.out.below HB3.out)
          have HF3 := Lib.hid (HF1.out.below HB3.out)
          have HBw : Hid (Below w.heap.size w w3) := Lib.hid (HB0.out.trans (HB3.out.mono HB0.out.size))
          clear hb3 x1 x2 HKo HO
          by_cases q0 : keysE [] (keys F) = 0
          · rw [if_pos q0] at HE
            rw [q0]
            clear q0
            go_wp2
            go_loopw [5, 6] (fun e i wr => ∃ j : Nat, j ≤ k ∧ i = .int .i64 (j : Int) ∧ Hid ((e = .int .i64 0 ∧ ∀ m, m < j → okC (gu F m).cnt) ∨ (e = .int .i64 3 ∧ ¬ ∀ u ∈ F, okC u.cnt)) ∧ Hid (Below w3.heap.size w3 wr)) (fun _ i _ => k - (intOf i).toNat)
            case atStart => exact ⟨0, by omega, rfl, Lib.hid (.inl ⟨rfl, fun m hm => by omega⟩), Lib.hid (Below.refl _ _)⟩
            case round =>
              obtain ⟨j, hj, rfl, HD, HBq⟩ := hrel
              obtain ⟨x1, x2, -, -⟩ := (HK3.out.below HBq.out).cells
              have HBf : Hid (Below w.heap.size w wr) := Lib.hid (HBw.out.trans (HBq.out.mono HBw.out.size))
              by_cases hlt : j < k
              · have hjn : (j : Int) < (k : Int) := by omega
                have hj0 : (0 : Int) ≤ (j : Int) := by omega
                rcases HD.out with ⟨rfl, hA⟩ | ⟨rfl, hN⟩
                · have HA := Lib.hid hA
                  have HJL : Hid (j < F.length) := Lib.hid (by rw [HLN.out]; exact hlt)
                  obtain ⟨b, o, rfl, e1, e2⟩ := (HF3.out.below HBq.out).us HJL.out
                  have HFa : Hid (gu F j ∈ F) := Lib.hid (gu_mem HJL.out)
                  have HCj : Hid (okC (gu F j).cnt → ∀ m, m < j + 1 → okC (gu F m).cnt) := Lib.hid (fun hc m hm => by
                    rcases Nat.lt_or_ge m j with e | e
                    · exact HA.out m e
                    · obtain rfl : m = j := by omega
                      exact hc)
                  clear hA HD
                  generalize gu F j = f at *
                  obtain ⟨x, u⟩ := f
                  dsimp only at e1 e2 HCj
                  by_cases q1 : okC u
                  · have HBc := Lib.hid (fun W => betweenC u true W (by simpa using q1))
                    have HC2 := Lib.hid (HCj.out q1)
                    clear q1
                    go_wp2_with fail
                    refine (HBc.out _).mono ?_
                    rintro e w' ⟨rfl, rfl⟩
                    go_wp2
                    go_roundw
                    case rel => exact ⟨j + 1, by omega, by go_num, Lib.hid (.inl ⟨rfl, HC2.out⟩), HBq⟩
                    case measure => simp [intOf]; omega
                  · have HBc := Lib.hid (fun W => betweenC u false W (by simpa using q1))
                    have HN : Hid (¬ ∀ v ∈ F, okC v.cnt) := Lib.hid (fun hh => q1 (hh _ HFa.out))
                    clear q1
                    go_wp2_with fail
                    refine (HBc.out _).mono ?_
                    rintro e w' ⟨rfl, rfl⟩
                    go_wp2
                    go_roundw
                    case rel => exact ⟨j + 1, by omega, by go_num, Lib.hid (.inr ⟨rfl, HN.out⟩), HBq⟩
                    case measure => simp [intOf]; omega
                · have HR : Hid (checkK r F = 3) := Lib.hid (by rw [HE.out, if_neg hN])
                  clear hN HD
                  go_wp2
                  go_ret
                  exact ⟨ret_int HR.out.symm, HBf.out⟩
              · obtain rfl : j = k := by omega
                rcases HD.out with ⟨rfl, hA⟩ | ⟨rfl, hN⟩
                · have HR : Hid (checkK r F = 0) := Lib.hid (by
                    rw [HE.out, if_pos]
                    intro v hv
                    obtain ⟨m, hm, e⟩ := List.getElem_of_mem hv
                    have := hA m (by rw [← HLN.out]; exact hm)
                    rwa [gu_get hm, e] at this)
                  clear hA HD
                  go_wp2
                  go_ret
                  exact ⟨ret_int HR.out.symm, HBf.out⟩
                · have HR : Hid (checkK r F = 3) := Lib.hid (by rw [HE.out, if_neg hN])
                  clear hN HD
                  go_wp2
                  go_ret
                  exact ⟨ret_int HR.out.symm, HBf.out⟩
          · rw [if_neg q0] at HE
            have d0 : (keysE [] (keys F) == 0) = false := by simpa using q0
            clear q0
            generalize keysE [] (keys F) = E at *
            go_wp2
            go_loopw [5, 6] (fun e i wr => e = .int .i64 E ∧ i = .int .i64 0 ∧ Hid (Below w3.heap.size w3 wr)) (fun _ i _ => 0)
            case atStart => exact ⟨rfl, rfl, Lib.hid (Below.refl _ _)⟩
            case round =>
              obtain ⟨rfl, rfl, HBq⟩ := hrel
              obtain ⟨x1, x2, -, -⟩ := (HK3.out.below HBq.out).cells
              have HBf : Hid (Below w.heap.size w wr) := Lib.hid (HBw.out.trans (HBq.out.mono HBw.out.size))
              rcases Nat.eq_zero_or_pos k with hz | hp
              · subst hz
                go_wp2
                go_ret
                exact ⟨ret_int HE.out.symm, HBf.out⟩
              · have hjn : decide ((0 : Int) < (k : Int)) = true := by simp; omega
                have hjn2 : 0 < k := hp
                go_wp2
                go_ret
                exact ⟨ret_int HE.out.symm, HBf.out⟩
  · have HBt := Lib.hid (fun W => betweenR r false W (by simpa using h1))
    have HE : Hid (checkK r F = 3) := Lib.hid (by unfold checkK; rw [if_neg h1])
    clear h1
    go_enter Try.func11, Try.ntmps11
    go_wp2_with fail
    refine (HBt.out _).mono ?_
    rintro e w' ⟨rfl, rfl⟩
    go_wp2
    go_ret
    exact ⟨ret_int HE.out.symm, HB0.out⟩

/-! ### LfuLeast -/
/-- Is there a lesser one among the first k? -/
def lss (L : List Us) (c : Int) : Nat → Bool
  | 0 => false
  | k + 1 => lss L c k || decide ((gu L k).cnt < c)
theorem lss_true {L : List Us} {c : Int} : ∀ {n : Nat}, lss L c n = true ↔ ∃ j, j < n ∧ (gu L j).cnt < c
  | 0 => ⟨fun h => (by cases h), fun ⟨j, h, _⟩ => (by omega)⟩
  | n + 1 => by
    unfold lss
    rw [Bool.or_eq_true, lss_true, decide_eq_true_eq]
    constructor
    · rintro (⟨j, h1, h2⟩ | h)
      · exact ⟨j, by omega, h2⟩
      · exact ⟨n, by omega, h⟩
    · rintro ⟨j, h1, h2⟩
      rcases Nat.lt_or_ge j n with e | e
      · exact .inl ⟨j, e, h2⟩
      · obtain rfl : j = n := by omega
        exact .inr h2
theorem lss_above {L : List Us} {i : Nat} (hi : i < L.length) (h : vicN L < i) : lss L (gu L i).cnt L.length = true :=
  lss_true.2 ⟨vicN L, by omega, vic_last L L.length i hi h⟩
theorem lss_at {L : List Us} (h : 0 < L.length) : lss L (gu L (vicN L)).cnt L.length = false := by
  cases e : lss L (gu L (vicN L)).cnt L.length with
  | false => rfl
  | true =>
    obtain ⟨j, h1, h2⟩ := lss_true.1 e
    have : (gu L (vicN L)).cnt ≤ (gu L j).cnt := vic_le L L.length j h1
    omega

set_option maxHeartbeats 4000000 in
theorem least_any (A : Option Addr) (c : Nat) (F : List Us) (w : World) (hF : Uss w A c F) (h0 : 0 < F.length) (h40 : F.length ≤ 1048576) :
    Calls Try.prog 15 #[.slice A F.length c] w fun e w' => e = .returned (.int .i64 (gu F (vicN F)).key) ∧ Below w.heap.size w w' := by
  have HF := Lib.hid hF
  obtain ⟨b, o, rfl, ht⟩ := hF.2.2.2 h0
  have HAt : Hid (∀ W, Below w.heap.size w W → ∀ i, i < F.length → W.cell? ⟨b, o + i * 2, none⟩ = some (.int .i64 (gu F i).key) ∧ W.cell? ⟨b, o + i * 2 + 1, none⟩ = some (.int .i64 (gu F i).cnt)) := Lib.hid (fun W hW => (ht.below ht.1 hW).2)
  clear hF ht
  have hv := vicN_lt h0
  have HAb := Lib.hid (fun (i : Nat) (hi : i < F.length) (h : vicN F < i) => lss_above hi h)
  have HVt := Lib.hid (lss_at h0)
  generalize vicN F = v at *
  obtain ⟨n, hn⟩ : ∃ n, F.length = n := ⟨_, rfl⟩
  have HN := Lib.hid hn
  rw [hn] at hv h0 h40 HVt ⊢
  simp only [hn] at HAb HAt
  clear hn
  have hw1 : IntKind.i64.wrap ((n : Int) - 1) = (n : Int) - 1 := by rw [IntKind.wrap_i64]; omega
  have hm : (n : Int) - 1 = ((n - 1 : Nat) : Int) := by omega
  go_enter Try.func15, Try.ntmps15
  go_wp2
  go_loopw [3] (fun s3 wr => ∃ i : Nat, v ≤ i ∧ i < n ∧ s3 = .int .i64 (i : Int) ∧ Hid (Below w.heap.size w wr)) (fun s3 _ => (intOf s3).toNat)
  case atStart => exact ⟨n - 1, by omega, by omega, rfl, Lib.hid (Below.refl _ _)⟩
  case round =>
    obtain ⟨i, hvi, hin, rfl, HBr⟩ := hrel
    by_cases hi0 : 0 < i
    · have hi1 : (0 : Int) < (i : Int) := by omega
      have hi2 : (i : Int) < (n : Int) := by omega
      have hi3 : (0 : Int) ≤ (i : Int) := by omega
      have HL : Hid ((lss F (gu F i).cnt n = true ∧ v < i) ∨ (lss F (gu F i).cnt n = false ∧ i = v)) := Lib.hid (by
        rcases Nat.lt_or_ge v i with e | e
        · exact .inl ⟨HAb.out i hin e, e⟩
        · obtain rfl : i = v := by omega
          exact .inr ⟨HVt.out, rfl⟩)
      go_wp2
      generalize wr = w5 at *
      go_loopw [4, 5] (fun s4 s5 wr => ∃ k : Nat, k ≤ n ∧ s5 = .int .i64 (k : Int) ∧ s4 = .bool (lss F (gu F i).cnt k) ∧ Hid (Below w.heap.size w wr)) (fun _ s5 _ => n - (intOf s5).toNat)
      case atStart => exact ⟨0, by omega, rfl, rfl, HBr⟩
      case round =>
        obtain ⟨k, hk, rfl, rfl, HBq⟩ := hrel
        by_cases hkn : k < n
        · have hkn1 : (k : Int) < (n : Int) := by omega
          have hk0 : (0 : Int) ≤ (k : Int) := by omega
          obtain ⟨-, e2⟩ := HAt.out _ HBq.out k hkn
          obtain ⟨-, e4⟩ := HAt.out _ HBq.out i hin
          have HS : Hid (lss F (gu F i).cnt (k + 1) = (lss F (gu F i).cnt k || decide ((gu F k).cnt < (gu F i).cnt))) := Lib.hid rfl
          generalize lss F (gu F i).cnt k = bb at *
          generalize (gu F k).cnt = ck at *
          generalize hci : (gu F i).cnt = ci at *
          have HCI := Lib.hid hci
          clear hci
          cases bb
          · go_wp2_with fail
            go_quiet (fail)
            have HB2 : Hid (Below w.heap.size w (wr.drewN nq)) := Lib.hid (bel_drewN HBq.out _)
            clear e2 e4
            generalize wr.drewN nq = w9 at *
            go_wp2
            go_roundw
            case rel => exact ⟨k + 1, by omega, by go_num, by rw [HS.out]; simp, HB2⟩
            case measure => simp [intOf]; omega
          · go_wp2_with fail
            go_quiet (fail)
            have HB2 : Hid (Below w.heap.size w (wr.drewN nq)) := Lib.hid (bel_drewN HBq.out _)
            clear e2 e4
            generalize wr.drewN nq = w9 at *
            go_wp2
            go_roundw
            case rel => exact ⟨k + 1, by omega, by go_num, by rw [HS.out]; simp, HB2⟩
            case measure => simp [intOf]; omega
        · obtain rfl : k = n := by omega
          obtain ⟨e1, -⟩ := HAt.out _ HBq.out i hin
          rcases HL.out with ⟨q, hvi2⟩ | ⟨q, rfl⟩
          · rw [q]
            have hw2 : IntKind.i64.wrap ((i : Int) - 1) = (i : Int) - 1 := by rw [IntKind.wrap_i64]; omega
            clear q e1
            go_wp2
            go_roundw
            case rel => exact ⟨i - 1, by omega, by omega, by rw [show ((i - 1 : Nat) : Int) = (i : Int) - 1 by omega], HBq⟩
            case measure => simp [intOf]; omega
          · rw [q]
            clear q
            go_wp2
            go_ret
            exact ⟨rfl, HBq.out⟩
    · obtain rfl : i = 0 := by omega
      obtain rfl : v = 0 := by omega
      obtain ⟨e1, -⟩ := HAt.out _ HBr.out 0 (by omega)
      rw [show o + 0 * 2 = o by omega] at e1
      have h01 : (0 : Int) < (n : Int) := by omega
      go_wp2
      go_ret
      exact ⟨rfl, HBr.out⟩

end Go.Proofs.Ytdliacdmoeogcaa.Lfu
