/-
  slices.Grow and slices.Concat at timers; timers of package wheel.
-/
import Derived.Test.YteldnohdijcbpaaWheelFind
import Derived.Laws.AppendOwnNone
import Derived.Laws.MakeOwn
import Derived.OwnWalk
namespace Go.Proofs.Yteldnohdijcbpaa.Whl
open Go.RowKit
set_option linter.unusedVariables false

/-- A row of the call's own, from block base on. -/
abbrev OwnT (w : World) (base : Nat) (v : Value) (L : List Tm) : Prop := w.ownsRow base 26 2 v L.length (encTs L)

theorem grow_any (n : Nat) (w : World) (hn : n ≤ 1048576) :
    Calls Try.prog 43 #[.slice none 0 0, .int .i64 (n : Int)] w fun e w' => ∃ v, e = .returned v ∧ OwnT w' w.heap.size v [] ∧ Below w.heap.size w w' := by
  by_cases h0 : 0 < n
  · obtain ⟨i0, hi0, hz0, hz1, hz2⟩ := info_parts timer_info
    refine (Any8.slices_Grow_grow Try.growT i0 _ hi0 hz0 (by omega) none 0 0 n [] w (by omega) (by omega) (by rw [hz2]; omega) (by omega) (by simp) (fun _ => rfl) (fun a h => by cases h)).mono ?_
    rintro e w' ⟨rfl, rfl⟩
    have hG := grownCap_le_maxLen w (0 + n) 0 26 (by unfold maxLen; omega)
    have hG2 := grownCap_ge w (0 + n) 0 26
    refine ⟨_, rfl, ?_, ?_⟩
    · refine World.ownsRow_made w.drew _ _ (Nat.le_refl _) hG ?_
      simp only [Array.size_append, size_zeroCells, List.size_toArray, List.length_nil, Value.cells]
      show 0 + (0 + n - 0) * 2 + (grownCap w (0 + n) 0 26 - (0 + n)) * 2 = grownCap w (0 + n) 0 26 * 2
      omega
    · exact ((Below.refl _ w).drew).alloc (Nat.le_refl _) _
  · obtain rfl : n = 0 := by omega
    refine (Any8.slices_Grow_room Try.growT none 0 0 0 w (by omega) (by omega) (by omega) (by omega)).mono ?_
    rintro e w' ⟨rfl, rfl⟩
    exact ⟨_, rfl, World.ownsRow_nil _ _ _ _, Below.refl _ _⟩

/-- 'append(v, xs...)': v of the call's own, xs any slice of timers. -/
theorem wpList_append_tms {w : World} {ops : Array Oper} {rest : List Oper} {o : Oper} {a : Act} {Q : Exit → Act → World → Prop} (hgd : o.guard = none) (s x : Operand)
    (ho : o.op = .call { callee := .builtin .append, args := #[s, x], argTypes := #[32, 32] })
    (base : Nat) (v : Value) (L : List Tm) (hs : a.eval s = v) (hown : OwnT w base v L) (B : Option Addr) (d : Nat) (M : List Tm) (hx : a.eval x = .slice B M.length d) (hM : Tms w B d M)
    (hn : L.length + M.length ≤ 1048576) (hbase : base ≤ w.heap.size)
    (h : ∀ v' w', OwnT w' base v' (L ++ M) → w.grownBy w' v.ownBlock → wpList Try.prog ops Q rest (a.put o.dst v') w') : wpList Try.prog ops Q (o :: rest) a w := by
  obtain ⟨i0, hi0, hz0, hz1, hz2⟩ := info_parts timer_info
  cases B with
  | none =>
    have hd := hM.2.2.1 rfl
    subst hd
    have e : M = [] := List.length_eq_zero_iff.1 (by have := hM.1; omega)
    subst e
    refine wpList_append_own_none hgd s x _ ho base 26 i0 2 Try.underlying32 hi0 v L.length (encTs L) hs hown hx (h v w (by simpa using hown) ⟨rfl, rfl, rfl, Nat.le_refl _, fun _ _ _ => rfl⟩)
  | some ad =>
    refine wpList_append_own w hgd s x _ ho base 26 i0 _ 2 16 Try.underlying32 hi0 hz0 hz1 hz2 rfl (by decide) v L.length (encTs L) hs hown ad M.length d (encTs M) hx (encTs_len M) ?_ (encTs_one M) (by unfold maxLen; omega) (by omega) hbase ?_
    · intro j u hj
      have hl : j < M.length * 2 := by rw [← encTs_len]; exact (List.getElem?_eq_some_iff.1 hj).1
      obtain ⟨b, o, e, ht⟩ := hM.2.2.2 (by omega)
      cases e
      rw [Addr.add_lit]
      exact tms_cells ht j u hj
    · intro v' w' h1 h2 _
      exact h v' w' (by unfold OwnT; rw [List.length_append, encTs_app]; exact h1) h2

theorem flat_take {LL : List (List Tm)} {k : Nat} (h : k < LL.length) : (LL.take (k + 1)).flatten = (LL.take k).flatten ++ gr LL k := by
  rw [List.take_succ_eq_append_getElem h, List.flatten_append, gr_get h]; simp
theorem flat_le (LL : List (List Tm)) (k : Nat) : (LL.take k).flatten.length ≤ LL.flatten.length := by
  conv => rhs; rw [← List.take_append_drop k LL, List.flatten_append, List.length_append]
  omega
theorem row_le {LL : List (List Tm)} {k : Nat} (h : k < LL.length) : (LL.take k).flatten.length + (gr LL k).length ≤ LL.flatten.length := by
  have := flat_le LL (k + 1)
  rw [flat_take h, List.length_append] at this
  exact this

set_option maxHeartbeats 4000000 in
theorem concat_any (A : Option Addr) (c : Nat) (LL : List (List Tm)) (w : World) (hG : Grid 0 w A c LL) (h0 : 0 < LL.length) (hl : LL.length ≤ 1048576) (hT : LL.flatten.length ≤ 1048576) :
    Calls Try.prog 34 #[.slice A LL.length c] w fun e w' => ∃ v, e = .returned v ∧ OwnT w' w.heap.size v LL.flatten ∧ Below w.heap.size w w' := by
  obtain ⟨b, o, rfl, hb, -, hr⟩ := hG.2.2.2 h0
  have HR := Lib.hid hr
  have HT := Lib.hid hT
  clear hr hG hT
  generalize hn : LL.length = n at *
  have HN := Lib.hid hn
  clear hn
  go_enter Try.func34, Try.ntmps34
  go_wp2
  go_loopw [3, 11] (fun s i wr => ∃ k : Nat, k ≤ n ∧ i = .int .i64 (k : Int) ∧ s = .int .i64 (((LL.take k).flatten.length : Nat) : Int) ∧ w = wr) (fun s i _ => n - (intOf i).toNat)
  case atStart => exact ⟨0, by omega, rfl, by simp, rfl⟩
  case round =>
    obtain ⟨k, hk, rfl, rfl, rfl⟩ := hrel
    by_cases hlt : k < n
    · obtain ⟨A1, c1, e1, -, -⟩ := HR.out k hlt
      have hkn : (k : Int) < (n : Int) := by omega
      have hf := row_le (LL := LL) (k := k) (by rw [HN.out]; exact hlt)
      have hT := HT.out
      have HF : Hid ((LL.take (k + 1)).flatten.length = (LL.take k).flatten.length + (gr LL k).length) := Lib.hid (by rw [flat_take (by rw [HN.out]; exact hlt), List.length_append])
      generalize (LL.take k).flatten.length = s at *
      generalize LL.flatten.length = t at *
      generalize (gr LL k).length = r at *
      go_wp2
      go_roundw
      case rel => exact ⟨k + 1, by omega, by go_num, by rw [HF.out]; go_num, trivial⟩
      case measure => simp [intOf]; omega
    · obtain rfl : k = n := by omega
      have HS : Hid ((LL.take k).flatten.length = LL.flatten.length) := Lib.hid (by rw [← HN.out, List.take_length])
      obtain ⟨z, hz⟩ : ∃ z, LL.flatten.length = z := ⟨_, rfl⟩
      have hz2 : z ≤ 1048576 := hz ▸ HT.out
      rw [HS.out, hz]
      have HGr := Lib.hid (grow_any z w hz2)
      clear hz hz2
      go_wp2_with fail
      refine HGr.out.mono ?_
      rintro e w1 ⟨v, rfl, hown, hb1⟩
      have HO := Lib.hid hown
      have HB1 := Lib.hid hb1
      clear hown hb1
      go_wp2
      go_loopw [6, 27] (fun v i wr => ∃ j : Nat, j ≤ k ∧ i = .int .i64 (j : Int) ∧ OwnT wr w.heap.size v (LL.take j).flatten ∧ Below w.heap.size w wr) (fun v i _ => k - (intOf i).toNat)
      case atStart => exact ⟨0, by omega, rfl, by simpa using HO.out, HB1.out⟩
      case round =>
        obtain ⟨j, hj, rfl, hown, hbr⟩ := hrel
        by_cases hlt2 : j < k
        · obtain ⟨A1, c1, e1, i1, -⟩ := HR.out j hlt2
          have hkn2 : (j : Int) < (k : Int) := by omega
          have e1' := (hbr.cell (p := ⟨b, o + j, none⟩) hb).trans e1
          have I1 := Lib.hid (i1.below hbr)
          have hf := row_le (LL := LL) (k := j) (by rw [HN.out]; exact hlt2)
          have HF := Lib.hid (flat_take (LL := LL) (k := j) (by rw [HN.out]; exact hlt2))
          have HO2 := Lib.hid hown
          have HB2 := Lib.hid hbr
          have HL : Hid ((LL.take j).flatten.length + (gr LL j).length ≤ 1048576) := Lib.hid (Nat.le_trans hf HT.out)
          clear hown hbr i1 e1 hf
          go_wp2_with (at_builtin; refine wpList_append_tms (by rfl) _ _ (by rfl) w.heap.size _ _ (by rfl) HO2.out A1 c1 (gr LL j) (by rfl) I1.out HL.out HB2.out.size ?_; intro v3 w3 hown3 hg3)
          have HO3 := Lib.hid hown3
          have HB3 := Lib.hid (HB2.out.grown hg3 HB2.out.size (fun q hq => (HO2.out.lt q hq).1))
          clear hown3 hg3
          go_wp2
          go_roundw
          case rel => exact ⟨j + 1, by omega, by go_num, by rw [HF.out]; exact HO3.out, HB3.out⟩
          case measure => simp [intOf]; omega
        · obtain rfl : j = k := by omega
          have HS2 : Hid ((LL.take j).flatten = LL.flatten) := Lib.hid (by rw [← HN.out, List.take_length])
          rw [HS2.out] at hown
          have HO2 := Lib.hid hown
          have HB2 := Lib.hid hbr
          clear hown hbr
          go_wp2
          go_ret
          exact ⟨_, rfl, HO2.out, HB2.out⟩

theorem ownsRow_mono {w : World} {base base' : Nat} {e : TypeId} {size : Nat} {v : Value} {n : Nat} {xs : List Value} (h : w.ownsRow base e size v n xs) (hb : base' ≤ base) : w.ownsRow base' e size v n xs := by
  refine ⟨h.1, ?_⟩
  rcases h.2 with h0 | ⟨g, cap, cur, h1, h2, h3⟩
  · exact .inl h0
  · exact .inr ⟨g, cap, cur, h1, Nat.le_trans hb h2, h3⟩

theorem timers_any (W : Whl) (A : Option Addr) (c : Nat) (w : World) (hG : Grid 0 w A c W.slots) (h0 : 0 < W.slots.length) (hl : W.slots.length ≤ 1048576) (hT : W.slots.flatten.length ≤ 1048576) :
    Calls Try.prog 22 #[wv W A c] w fun e w' => ∃ v, e = .returned v ∧ OwnT w' w.heap.size v W.slots.flatten ∧ Below w.heap.size w w' := by
  have X := Bx.new (W := W) hG
  have HX := Lib.hid X
  obtain ⟨-, x1, x2, -⟩ := X
  go_enter Try.func22, Try.ntmps22
  go_wp2_with fail
  refine (concat_any A c W.slots _ HX.out.grid h0 hl hT).mono ?_
  rintro e w1 ⟨v, rfl, hown, hb1⟩
  have HO : Hid (OwnT w1 w.heap.size v W.slots.flatten) := Lib.hid (ownsRow_mono hown (by simp))
  have HB : Hid (Below w.heap.size w w1) := Lib.hid (fromAlloc (hb1.mono (by simp)))
  clear hown hb1 x1 x2
  go_wp2
  go_ret
  exact ⟨_, rfl, HO.out, HB.out⟩

end Go.Proofs.Yteldnohdijcbpaa.Whl
