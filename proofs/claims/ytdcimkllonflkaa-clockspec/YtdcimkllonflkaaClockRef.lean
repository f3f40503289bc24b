/-
  The reference of package clock: frameKeys, ClockCheck, FramesCopy.
-/
import Derived.Test.YtdcimkllonflkaaClockBegun
import Derived.Test.YtdcimkllonflkaaLruRef
import Derived.Test.YtdcimkllonflkaaIntsLib2
namespace Go.Proofs.Ytdcimkllonflkaa.Clk
open Go.RowKit Go.Maps
open Lru (isRm isK keysE keysE_zero traceE trace_zero ints_lit betweenR own_alloc)
set_option linter.unusedVariables false
set_option maxRecDepth 100000

theorem copy_any (A : Option Addr) (c : Nat) (F : List Fr) (w : World) (h : Frs w A c F) (hs : F.length ≤ 1048576) :
    Calls Try.prog 15 #[.slice A F.length c] w fun e w' => ∃ v, e = .returned v ∧ OwnF w' w.heap.size v F ∧ Below w.heap.size w w' := by
  have HO : Hid (OwnF (w.alloc (.cells #[] 41)) w.heap.size (.slice (some ⟨w.heap.size, 0, none⟩) 0 0) []) := Lib.hid (World.ownsRow_made (e := 41) (size := 2) w #[] 0 (Nat.le_refl w.heap.size) (Nat.zero_le _) (by simp))
  have HF := Lib.hid (h.alloc (.cells #[] 41))
  have HS := Lib.hid hs
  clear h hs
  obtain ⟨n, hn⟩ : ∃ n, F.length = n := ⟨_, rfl⟩
  have HN := Lib.hid hn
  rw [hn]
  clear hn
  go_enter Try.func15, Try.ntmps15
  go_wp2_with (at_builtin; refine wpList_append_frs (by rfl) _ _ (by rfl) w.heap.size _ [] (by rfl) HO.out A c n F HN.out.symm (by rfl) HF.out (by have := HS.out; have := HN.out; simp; omega) (by simp) ?_; intro v4 w4 hown4 hg4)
  have HOw := Lib.hid hown4
  have HB : Hid (Below w.heap.size w w4) := Lib.hid (((Below.refl _ w).alloc (Nat.le_refl _) _).grown hg4 (by simp) (fun k hk => (HO.out.lt k hk).1))
  clear hown4 hg4
  go_wp2
  go_ret
  exact ⟨v4, rfl, HOw.out, HB.out⟩

theorem keys_take_one {F : List Fr} {k : Nat} (hk : k < F.length) : keys (F.take (k + 1)) = keys (F.take k) ++ [(gf F k).key] := by
  rw [keys_take, keys_take, List.take_add_one, List.getElem?_eq_getElem (by rw [keys_len]; exact hk), keys_get hk]
  rfl
set_option maxHeartbeats 2000000 in
theorem frameKeys_any (A : Option Addr) (c : Nat) (F : List Fr) (w : World) (h : Frs w A c F) (hs : F.length ≤ 1048576) :
    Calls Try.prog 28 #[.slice A F.length c] w fun e w' => ∃ A' c', e = .returned (.slice A' (keys F).length c') ∧ Ints w' A' c' (keys F) ∧ Below w.heap.size w w' := by
  have HF := Lib.hid h
  clear h
  obtain ⟨n, hn⟩ : ∃ n, F.length = n := ⟨_, rfl⟩
  have HN := Lib.hid hn
  rw [hn] at hs ⊢
  clear hn
  go_enter Try.func28, Try.ntmps28
  go_wp2
  go_loopw [3, 4] (fun v i wr => ∃ k : Nat, k ≤ n ∧ i = .int .i64 (k : Int) ∧ OwnI wr w.heap.size v (keys (F.take k)) ∧ Below w.heap.size w wr) (fun _ i _ => n - (intOf i).toNat)
  case atStart => exact ⟨0, by omega, rfl, World.ownsRow_nil _ _ _ _, Below.refl _ _⟩
  case round =>
    obtain ⟨k, hk, rfl, ho, hb⟩ := hrel
    have HO := Lib.hid ho
    have HB := Lib.hid hb
    clear ho hb
    by_cases hlt : k < n
    · have hkn : (k : Int) < (n : Int) := by omega
      have HKL : Hid (k < F.length) := Lib.hid (by rw [HN.out]; exact hlt)
      obtain ⟨b, o, rfl, e1, e2⟩ := (HF.out.below HB.out).fr HKL.out
      have HT := Lib.hid (keys_take_one HKL.out)
      have HLk : Hid ((keys (F.take k)).length ≤ 1048576) := Lib.hid (by rw [keys_len, List.length_take]; omega)
      generalize (gf F k).key = x at *
      have HOa := Lib.hid (own_alloc HO.out (.cells #[.int .i64 x] 3))
      have HIa := Lib.hid (ints_lit wr [x] (by unfold maxLen; simp))
      generalize keys (F.take k) = M at *
      go_wp2_with (at_builtin; refine wpList_append_ints (by rfl) _ _ (by rfl) w.heap.size _ M (by rfl) HOa.out (some ⟨wr.heap.size, 0, none⟩) 1 [x] (by rfl) HIa.out (by have := HLk.out; simp; omega) (Nat.le_trans HB.out.size (by simp)) ?_; intro v4 w4 hown4 hg4)
      have HO4 := Lib.hid hown4
      have HB4 : Hid (Below w.heap.size w w4) := Lib.hid ((bel_al HB.out HB.out.size _).grown hg4 (Nat.le_trans HB.out.size (by simp)) (fun k hk => (HOa.out.lt k hk).1))
      clear hown4 hg4 e1 e2
      go_wp2
      go_roundw
      case rel => exact ⟨k + 1, by omega, by go_num, by rw [HT.out]; exact HO4.out, HB4.out⟩
      case measure => simp [intOf]; omega
    · obtain rfl : k = n := by omega
      have HtL : Hid (F.take k = F) := Lib.hid (by rw [← HN.out]; exact List.take_length)
      rw [HtL.out] at HO
      obtain ⟨A5, c5, rfl, hI5⟩ := ints_of_own HO.out
      have HI5 := Lib.hid hI5
      clear hI5
      go_wp2
      go_ret
      exact ⟨A5, c5, rfl, HI5.out, HB.out⟩

theorem btw (x a b : Int) (q : Bool) (w : World) (hb : decide (a ≤ x ∧ x ≤ b) = q) : Calls Try.prog 26 #[.int .i64 x, .int .i64 a, .int .i64 b] w fun e w' => e = .returned (.bool q) ∧ w = w' := by
  subst hb
  exact between_any x a b w
set_option maxHeartbeats 4000000 in
theorem clockCheck_any (r h : Int) (A : Option Addr) (c : Nat) (F : List Fr) (w : World) (hF : Frs w A c F) :
    Calls Try.prog 11 #[kv r h (.slice A F.length c)] w fun e w' => e = .returned (.int .i64 (checkK r h F)) ∧ Below w.heap.size w w' := by
  have HK0 : Hid (Kb (w.alloc (ko r h (.slice A F.length c))) w.heap.size r h (.slice A F.length c)) := Lib.hid (Kb.new w r h _)
  have HB0 : Hid (Below w.heap.size w (w.alloc (ko r h (.slice A F.length c)))) := Lib.hid (bel_al (Below.refl _ _) (Nat.le_refl _) _)
  have HF1 : Hid (Frs (w.alloc (ko r h (.slice A F.length c))) A c F) := Lib.hid (hF.alloc _)
  have hlen := hF.len
  obtain ⟨x1, x2, x3, -, -, -⟩ := HK0.out.cells
  clear hF
  by_cases h1 : isRm r
  · have HBt := Lib.hid (fun W => betweenR r true W (by simpa using h1))
    by_cases h3 : r < (F.length : Int)
    · have p3 : decide (r < (F.length : Int)) = true := by simpa using h3
      have HE : Hid (checkK r h F = 2) := Lib.hid (by unfold checkK; rw [if_pos h1, if_pos h3])
      clear h1 h3
      go_enter Try.func11, Try.ntmps11
      go_wp2_with fail
      refine (HBt.out _).mono ?_
      rintro e w' ⟨rfl, rfl⟩
      go_wp2
      go_ret
      exact ⟨ret_int HE.out.symm, HB0.out⟩
    · have p3 : decide (r < (F.length : Int)) = false := by simpa using h3
      have HE : Hid (checkK r h F = if keysE [] (keys F) = 0 then (if handOk h F.length then 0 else 4) else keysE [] (keys F)) := Lib.hid (by unfold checkK; rw [if_pos h1, if_neg h3])
      have h40 : F.length ≤ 40 := by have := h1.2; omega
      have HFk := Lib.hid (frameKeys_any A c F _ HF1.out (by omega))
      clear h1 h3
      obtain ⟨ln, hln⟩ : ∃ ln, F.length = ln := ⟨_, rfl⟩
      have HLN := Lib.hid hln
      rw [hln] at HK0 HB0 HF1 x1 x2 x3 p3 hlen HE h40 HFk
      rw [hln]
      clear hln
      go_enter Try.func11, Try.ntmps11
      go_wp2_with fail
      refine (HBt.out _).mono ?_
      rintro e w' ⟨rfl, rfl⟩
      go_wp2_with fail
      refine HFk.out.mono ?_
      rintro e w2 ⟨A2, c2, rfl, hI2, hb2⟩
      have HK2 := Lib.hid (HK0.out.below hb2)
      have HB2 : Hid (Below w.heap.size w w2) := Lib.hid (HB0.out.trans (hb2.mono HB0.out.size))
      have HKo := Lib.hid (Lru.keysOnce_any A2 c2 (keys F) w2 hI2)
      clear hb2 hI2 x1 x2 x3
      go_wp2_with fail
      refine HKo.out.mono ?_
      rintro e w3 ⟨rfl, hb3⟩
      have HK3 := Lib.hid (HK2.out.below hb3)
      have HB3 : Hid (Below w.heap.size w w3) := Lib.hid (HB2.out.trans (hb3.mono HB2.out.size))
      clear hb3
      obtain ⟨x1, x2, x3, -, -, -⟩ := HK3.out.cells
      by_cases q0 : keysE [] (keys F) = 0
      · rw [if_pos q0] at HE
        rw [q0]
        by_cases q1 : ln = 0
        · subst q1
          by_cases q2 : h = 0
          · have d2 : (h != 0) = false := by simpa using q2
            have HR : Hid (checkK r h F = 0) := Lib.hid (by rw [HE.out, if_pos ⟨by omega, by rw [q2]; decide⟩])
            clear q2 q0
            go_wp2
            go_ret
            exact ⟨ret_int HR.out.symm, HB3.out⟩
          · have d2 : (h != 0) = true := by simpa using q2
            have HR : Hid (checkK r h F = 4) := Lib.hid (by rw [HE.out, if_neg (fun hh => by have h1 := hh.1; have h2 := hh.2; simp at h2; omega)])
            clear q2 q0
            go_wp2
            go_ret
            exact ⟨ret_int HR.out.symm, HB3.out⟩
        · have d1 : ((ln : Int) == 0) = false := by simp; omega
          have d2 : decide (0 < (ln : Int)) = true := by simp; omega
          have hpos : 0 < ln := by omega
          have hw : IntKind.i64.wrap ((ln : Int) - 1) = (ln : Int) - 1 := by rw [IntKind.wrap_i64]; omega
          by_cases q2 : handOk h ln
          · have HBw := Lib.hid (fun W => btw h 0 ((ln : Int) - 1) true W (by unfold handOk at q2; simp; omega))
            have HR : Hid (checkK r h F = 0) := Lib.hid (by rw [HE.out, if_pos q2])
            clear q2 q0 q1
            go_wp2_with fail
            refine (HBw.out _).mono ?_
            rintro e w' ⟨rfl, rfl⟩
            go_wp2
            go_ret
            exact ⟨ret_int HR.out.symm, HB3.out⟩
          · have HBw := Lib.hid (fun W => btw h 0 ((ln : Int) - 1) false W (by unfold handOk at q2; simp; omega))
            have HR : Hid (checkK r h F = 4) := Lib.hid (by rw [HE.out, if_neg q2])
            clear q2 q0 q1
            go_wp2_with fail
            refine (HBw.out _).mono ?_
            rintro e w' ⟨rfl, rfl⟩
            go_wp2
            go_ret
            exact ⟨ret_int HR.out.symm, HB3.out⟩
      · rw [if_neg q0] at HE
        have d0 : (keysE [] (keys F) != 0) = true := by simpa using q0
        clear q0
        go_wp2
        go_ret
        exact ⟨ret_int HE.out.symm, HB3.out⟩
  · have HBt := Lib.hid (fun W => betweenR r false W (by simpa using h1))
    have HE : Hid (checkK r h F = 3) := Lib.hid (by unfold checkK; rw [if_neg h1])
    clear h1
    go_enter Try.func11, Try.ntmps11
    go_wp2_with fail
    refine (HBt.out _).mono ?_
    rintro e w' ⟨rfl, rfl⟩
    go_wp2
    go_ret
    exact ⟨ret_int HE.out.symm, HB0.out⟩

end Go.Proofs.Ytdcimkllonflkaa.Clk
