/-
  The reference of package wheel: WheelAll, TimersSorted.
-/
import Derived.Test.YteldnohdijcbpaaWheelRef2
import Derived.Test.YteldnohdijcbpaaWheelSlice
namespace Go.Proofs.Yteldnohdijcbpaa.Whl
open Go.RowKit Go.Maps
set_option linter.unusedVariables false

/-- One timer in a block of its own. -/
theorem tms_one (w : World) (t : Tm) : Tms (w.alloc (tbo t)) (some ⟨w.heap.size, 0, none⟩) 1 [t] := by
  refine ⟨Nat.le_refl _, by unfold maxLen; decide, fun e => (by cases e), fun _ => ⟨w.heap.size, 0, rfl, by simp, fun i hi => ?_⟩⟩
  obtain rfl : i = 0 := by simp at hi; omega
  exact ⟨by simp [go_sem, gt], by simp [go_sem, gt]⟩
/-- 'append(v, xs...)' with a wider bound. -/
theorem wpList_append_wide {w : World} {ops : Array Oper} {rest : List Oper} {o : Oper} {a : Act} {Q : Exit → Act → World → Prop} (hgd : o.guard = none) (s x : Operand)
    (ho : o.op = .call { callee := .builtin .append, args := #[s, x], argTypes := #[32, 32] })
    (base : Nat) (v : Value) (L : List Tm) (hs : a.eval s = v) (hown : OwnT w base v L) (B : Option Addr) (d m : Nat) (M : List Tm) (hm : m = M.length) (hx : a.eval x = .slice B m d) (hM : Tms w B d M)
    (hn : L.length + m ≤ 16777216) (hbase : base ≤ w.heap.size)
    (h : ∀ v' w', OwnT w' base v' (L ++ M) → w.grownBy w' v.ownBlock → wpList Try.prog ops Q rest (a.put o.dst v') w') : wpList Try.prog ops Q (o :: rest) a w := by
  subst hm
  obtain ⟨i0, hi0, hz0, hz1, hz2⟩ := info_parts timer_info
  cases B with
  | none =>
    have hd := hM.2.2.1 rfl
    subst hd
    have e : M = [] := List.length_eq_zero_iff.1 (by have := hM.1; omega)
    subst e
    refine wpList_append_own_none hgd s x _ ho base 26 i0 2 Try.underlying32 hi0 v L.length (encTs L) hs hown hx (h v w (by simpa using hown) ⟨rfl, rfl, rfl, Nat.le_refl _, fun _ _ _ => rfl⟩)
  | some ad =>
    refine wpList_append_own w hgd s x _ ho base 26 i0 _ 2 16 Try.underlying32 hi0 hz0 hz1 hz2 rfl (by decide) v L.length (encTs L) hs hown ad M.length d (encTs M) hx (encTs_len M) ?_ (encTs_one M) (by unfold maxLen; omega) (by omega) hbase ?_
    · intro j u hj
      have hl : j < M.length * 2 := by rw [← encTs_len]; exact (List.getElem?_eq_some_iff.1 hj).1
      obtain ⟨b, o, e, ht⟩ := hM.2.2.2 (by omega)
      cases e
      rw [Addr.add_lit]
      exact tms_cells ht j u hj
    · intro v' w' h1 h2 _
      exact h v' w' (by unfold OwnT; rw [List.length_append, encTs_app]; exact h1) h2

set_option maxHeartbeats 4000000 in
theorem all_any (W : Whl) (A : Option Addr) (c : Nat) (w : World) (hG : Grid 0 w A c W.slots) (h0 : 0 < W.slots.length) (hT : W.slots.flatten.length ≤ 1048576) :
    Calls Try.prog 11 #[wv W A c] w fun e w' => ∃ v, e = .returned v ∧ OwnT w' (w.heap.size + 1) v W.slots.flatten ∧ Below w.heap.size w w' := by
  obtain ⟨now, LL⟩ := W
  have X := Lib.hid (Bx.new (W := ⟨now, LL⟩) hG)
  have HB0 : Hid (Below w.heap.size w (w.alloc (wo ⟨now, LL⟩ A c))) := Lib.hid ((Below.refl _ _).alloc (Nat.le_refl _) _)
  have hlen := hG.len
  simp only at hlen h0 hT
  have HT := Lib.hid hT
  obtain ⟨bg, og, rfl, hbg, -, hr⟩ := X.out.grid.2.2.2 h0
  have HR := Lib.hid hr
  have hz : (w.alloc (wo ⟨now, LL⟩ (some ⟨bg, og, none⟩) c)).heap.size = w.heap.size + 1 := by simp
  have HZ := Lib.hid hz
  rw [hz] at hbg
  obtain ⟨-, -, x2, -⟩ := X.out
  simp only at x2
  have HX2 := Lib.hid x2
  clear hG hr hz hT x2
  go_enter Try.func11, Try.ntmps11
  go_wp2
  show Code.wp _ _ _ { tmps := #[.agg #[.int .i64 now, .slice (some ⟨bg, og, none⟩) LL.length c], _, _, _, _, _, _, _, _, _, _, _, _, _, _, _, _, _, _, _], defers := [] } _
  generalize (w.alloc (wo ⟨now, LL⟩ (some ⟨bg, og, none⟩) c)) = w0 at *
  generalize hn : w.heap.size = n at *
  have HN := Lib.hid hn
  clear hn
  generalize hl : LL.length = ln at *
  have HL := Lib.hid hl
  clear hl
  go_loopw [3, 4] (fun v x wr => ∃ k : Nat, k ≤ ln ∧ x = .int .i64 (k : Int) ∧ OwnT wr (n + 1) v (LL.take k).flatten ∧ Below (n + 1) w0 wr) (fun _ x _ => ln - (intOf x).toNat)
  case atStart => exact ⟨0, by omega, rfl, World.ownsRow_nil _ _ _ _, Below.refl _ _⟩
  case round =>
    obtain ⟨k, hk, rfl, hown, hb⟩ := hrel
    have x2 := (hb.cell (p := ⟨n, 1, none⟩) (Nat.lt_succ_self _)).trans HX2.out
    have HO := Lib.hid hown
    have HBr := Lib.hid hb
    clear hown hb
    by_cases hlt : k < ln
    · have hkn : (k : Int) < (ln : Int) := by omega
      obtain ⟨A1, c1, e1, i1, -⟩ := HR.out k hlt
      have e1' := (HBr.out.cell (p := ⟨bg, og + k, none⟩) hbg).trans e1
      have I1 := Lib.hid (i1.below (w' := wr) (by rw [HZ.out]; exact HBr.out))
      have hf := row_le (LL := LL) (k := k) (by rw [HL.out]; exact hlt)
      have HF := Lib.hid (flat_take (LL := LL) (k := k) (by rw [HL.out]; exact hlt))
      have HLn : Hid ((LL.take k).flatten.length + (gr LL k).length ≤ 16777216) := Lib.hid (by have := HT.out; omega)
      have HS : Hid (n + 1 ≤ wr.heap.size) := Lib.hid (by rw [← HZ.out]; exact HBr.out.size)
      clear i1 e1 hf
      generalize gr LL k = Lk at *
      go_wp2_with (at_builtin; refine wpList_append_wide (by rfl) _ _ (by rfl) (n + 1) _ _ (by rfl) HO.out A1 c1 _ Lk rfl (by rfl) I1.out HLn.out HS.out ?_; intro v3 w3 hown3 hg3)
      have HO3 := Lib.hid hown3
      have HB3 := Lib.hid (HBr.out.grown hg3 HS.out (fun q hq => (HO.out.lt q hq).1))
      clear hown3 hg3 x2 e1'
      go_wp2
      go_roundw
      case rel => exact ⟨k + 1, by omega, by go_num, by rw [HF.out]; exact HO3.out, HB3.out⟩
      case measure => simp [intOf]; omega
    · obtain rfl : k = ln := by omega
      have HS2 : Hid ((LL.take k).flatten = LL.flatten) := Lib.hid (by rw [← HL.out, List.take_length])
      rw [HS2.out] at HO
      have HBe : Hid (Below n w wr) := Lib.hid (HB0.out.trans (HBr.out.mono (Nat.le_succ _)))
      go_wp2
      go_ret
      exact ⟨_, rfl, by rw [HN.out]; exact HO.out, by rw [HN.out]; exact HBe.out⟩

end Go.Proofs.Yteldnohdijcbpaa.Whl
