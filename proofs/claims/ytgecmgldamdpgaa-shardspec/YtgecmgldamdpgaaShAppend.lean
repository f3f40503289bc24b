/-
  Package shard: append to a row of shards of the call's own; list[k:].
-/
import Derived.Test.YtgecmgldamdpgaaShBegun
import Derived.Laws.AppendOwn
import Derived.Laws.AppendOwnNone
import Derived.Deep.RegionLaw
namespace Go.Proofs.Ytgecmgldamdpgaa.Shd
open Go.RowKit
set_option linter.unusedVariables false
set_option maxRecDepth 100000

theorem shard_info : (Try.prog.info? 35).map (fun i => (i.zero, i.size, i.bytes)) = some (some (.agg #[.string ⟨#[]⟩, .int .i64 0]), 2, 24) := by kernel_rfl
/-- One shard in a block of its own. -/
theorem shs_one (w : World) (f : Sh) : Shs (w.alloc (fo f)) (some ⟨w.heap.size, 0, none⟩) 1 [f] := by
  refine ⟨Nat.le_refl _, by unfold maxLen; decide, fun e => (by cases e), fun _ => ⟨w.heap.size, 0, rfl, by simp, fun i hi => ?_⟩⟩
  obtain rfl : i = 0 := by simp at hi; omega
  exact ⟨by simp [go_sem, gs], by simp [go_sem, gs]⟩
theorem wpList_append_shs {w : World} {ops : Array Oper} {rest : List Oper} {o : Oper} {a : Act} {Q : Exit → Act → World → Prop} (hgd : o.guard = none) (s x : Operand)
    (ho : o.op = .call { callee := .builtin .append, args := #[s, x], argTypes := #[22, 22] })
    (base : Nat) (v : Value) (L : List Sh) (hs : a.eval s = v) (hown : OwnS w base v L) (B : Option Addr) (d m : Nat) (M : List Sh) (hm : m = M.length) (hx : a.eval x = .slice B m d) (hM : Shs w B d M)
    (hn : L.length + m ≤ 5864062014700) (hbase : base ≤ w.heap.size)
    (h : ∀ v' w', OwnS w' base v' (L ++ M) → w.grownBy w' v.ownBlock → wpList Try.prog ops Q rest (a.put o.dst v') w') : wpList Try.prog ops Q (o :: rest) a w := by
  subst hm
  obtain ⟨i0, hi0, hz0, hz1, hz2⟩ := info_parts shard_info
  cases B with
  | none =>
    have hd := hM.2.2.1 rfl
    subst hd
    have e : M = [] := List.length_eq_zero_iff.1 (by have := hM.1; omega)
    subst e
    refine wpList_append_own_none hgd s x _ ho base 35 i0 2 Try.underlying22 hi0 v L.length (encSs L) hs hown hx (h v w (by simpa using hown) ⟨rfl, rfl, rfl, Nat.le_refl _, fun _ _ _ => rfl⟩)
  | some ad =>
    refine wpList_append_own w hgd s x _ ho base 35 i0 _ 2 24 Try.underlying22 hi0 hz0 hz1 hz2 rfl (by decide) v L.length (encSs L) hs hown ad M.length d (encSs M) hx (encSs_len M) ?_ (encSs_one M) (by unfold maxLen; omega) (by omega) hbase ?_
    · intro j u hj
      have hl : j < M.length * 2 := by rw [← encSs_len]; exact (List.getElem?_eq_some_iff.1 hj).1
      obtain ⟨b, o, e, ht⟩ := hM.2.2.2 (by omega)
      cases e
      rw [Addr.add_lit]
      exact shs_cells ht j u hj
    · intro v' w' h1 h2 _
      refine h v' w' ?_ h2
      unfold OwnS
      rw [encSs_app, List.length_append]
      exact h1

theorem step_append_shs {W : World} {ops : Array Oper} {o : Oper} {a : Act} {K : Act → World → Prop} {Q : Exit → Act → World → Prop} {E : Prop} (hgd : o.guard = none) (s x : Operand)
    (ho : o.op = .call { callee := .builtin .append, args := #[s, x], argTypes := #[22, 22] })
    (base : Nat) (v : Value) (L : List Sh) (hs : a.eval s = v) (hown : OwnS W base v L) (B : Option Addr) (d m : Nat) (M : List Sh) (hm : m = M.length) (hx : a.eval x = .slice B m d) (hM : Shs W B d M)
    (hn : L.length + m ≤ 5864062014700) (hbase : base ≤ W.heap.size)
    (h : ∀ v' w', OwnS w' base v' (L ++ M) → W.grownBy w' v.ownBlock → K (a.put o.dst v') w') :
    if Region.wanted o (yielded ops a.tmps) = true then Oper.wp Try.prog o a W K Q else E := by
  subst hm
  rw [if_pos (by simp [Region.wanted, hgd])]
  obtain ⟨i0, hi0, hz0, hz1, hz2⟩ := info_parts shard_info
  cases B with
  | none =>
    have hd := hM.2.2.1 rfl
    subst hd
    have e : M = [] := List.length_eq_zero_iff.1 (by have := hM.1; omega)
    subst e
    have hrun := run_append_owned_none (P := Try.prog) (w := W) base 22 o.type 35 i0 2 Try.underlying22 hi0 v L.length (encSs L) hown
    unfold Oper.wp
    simp only [List.length_nil] at hx
    simp [execOp, ho, resolve, invoke, builtin, hs, hx, hrun, Result.andThen]
    exact h v W (by simpa using hown) ⟨rfl, rfl, rfl, Nat.le_refl _, fun _ _ _ => rfl⟩
  | some ad =>
    refine wp_append_own W s x _ ho base 35 i0 _ 2 24 Try.underlying22 hi0 hz0 hz1 hz2 rfl (by decide) v L.length (encSs L) hs hown ad M.length d (encSs M) hx (encSs_len M) ?_ (encSs_one M) (by unfold maxLen; omega) (by omega) hbase ?_
    · intro j u hj
      have hl : j < M.length * 2 := by rw [← encSs_len]; exact (List.getElem?_eq_some_iff.1 hj).1
      obtain ⟨b, o, e, ht⟩ := hM.2.2.2 (by omega)
      cases e
      rw [Addr.add_lit]
      exact shs_cells ht j u hj
    · intro v' w' h1 h2 _
      refine h v' w' ?_ h2
      unfold OwnS
      rw [encSs_app, List.length_append]
      exact h1


/-- An empty literal. -/
theorem own_lit (w : World) (base : Nat) (h : base ≤ w.heap.size) : OwnS (w.alloc (.cells #[] 35)) base (.slice (some ⟨w.heap.size, 0, none⟩) 0 0) [] :=
  ⟨by simp [encSs], .inr ⟨w.heap.size, 0, #[], rfl, h, Array.getElem?_push_size, Nat.le_refl _, Nat.zero_le _, by simp, rfl⟩⟩
theorem gs_drop {L : List Sh} {i k : Nat} : gs (L.drop k) i = gs L (k + i) := by unfold gs; rw [List.getD_eq_getElem?_getD, List.getElem?_drop, ← List.getD_eq_getElem?_getD]
/-- list[k:] -/
theorem shs_from {A : Option Addr} {c : Nat} {F : List Sh} {k : Nat} {w : World} (hT : Shs w A c F) (hk : k ≤ F.length) :
    ∃ A' c', (∀ W : World, (Instr.slice 22 (.slice A F.length c) (some (.int .i64 (k : Int))) none none).run Try.prog W = .ok (.slice A' (F.drop k).length c') W) ∧ Shs w A' c' (F.drop k) := by
  have hc := hT.1
  refine ⟨if c = k then A else A.map (·.add (k * 2)), c - k, fun W => ?_, ?_⟩
  · rw [run_slice_l W _ A F.length c elemS .i64 (k : Int) (by omega) (by omega), sizeS]
    simp [sliced]
  · refine ⟨by rw [List.length_drop]; omega, by have := hT.2.1; omega, fun e => ?_, fun h0 => ?_⟩
    · split at e
      · omega
      · cases A with
        | none => have := hT.2.2.1 rfl; omega
        | some a => simp at e
    · rw [List.length_drop] at h0
      obtain ⟨b, o, rfl, ht⟩ := hT.2.2.2 (by omega)
      rw [if_neg (by omega)]
      refine ⟨b, o + k * 2, by simp [Addr.add_lit], ht.1, fun i hi => ?_⟩
      rw [List.length_drop] at hi
      rw [gs_drop, Nat.add_assoc, ← Nat.add_mul]
      exact ht.2 (k + i) (by omega)
theorem elemStr : Try.prog.underlying 42 = some (.slice (Try.prog.elem 42)) := by kernel_rfl
theorem sizeStr (w : World) : (sizeOf (Try.prog.elem 42)).run Try.prog w = .ok 1 w := by kernel_rfl
theorem ky_take {K : List ByteArray} {i k : Nat} (h : i < k) : (K.take k).getD i ByteArray.empty = K.getD i ByteArray.empty := by rw [List.getD_eq_getElem?_getD, List.getElem?_take, if_pos h, ← List.getD_eq_getElem?_getD]
/-- keys[:k] -/
theorem strs_upto {A : Option Addr} {c : Nat} {K : List ByteArray} {k : Nat} {w : World} (hT : Strs w A c K) (hk : k ≤ K.length) :
    ∃ A', (∀ W : World, (Instr.slice 42 (.slice A K.length c) none (some (.int .i64 (k : Int))) none).run Try.prog W = .ok (.slice A' k c) W) ∧ Strs w A' c (K.take k) := by
  have hc := hT.1
  have hl : (K.take k).length = k := by rw [List.length_take]; omega
  refine ⟨if c = 0 then A else A.map (·.add 0), fun W => ?_, ?_⟩
  · rw [run_slice_h W _ A K.length c elemStr .i64 (k : Int) (by omega) (by omega), sizeStr]
    simp [sliced]
  · refine ⟨by omega, hT.2.1, fun h0 => ?_⟩
    obtain ⟨b, o, rfl, h1, ht⟩ := hT.2.2 (by omega)
    rw [if_neg (by omega)]
    refine ⟨b, o, by simp [Addr.add_lit], h1, fun i hi => ?_⟩
    rw [ky_take (by omega)]
    exact ht i (by omega)

end Go.Proofs.Ytgecmgldamdpgaa.Shd
