/-
  Package ring: clone of a list of points; append to a row of points of the call's own; parts of a row.
-/
import Derived.Test.YtjmhemkbfephpaaRgMem
import Derived.Test.YtjmhemkbfephpaaHashWalks
import Derived.Test.YtjmhemkbfephpaaShelf
import Derived.Deep.RegionHeld3
import Derived.StillTailTactics
import Derived.Laws.AppendOwn
import Derived.Laws.AppendOwnNone
import Derived.BigQuiet
import Derived.Deep.RegionLaw
namespace Go.Proofs.Ytjmhemkbfephpaa.Rng
open Go.RowKit
set_option linter.unusedVariables false
set_option maxRecDepth 100000

theorem info_parts {P : Program} {t : TypeId} {z : Option Value} {s b : Nat} (h : (P.info? t).map (fun i => (i.zero, i.size, i.bytes)) = some (z, s, b)) :
    ∃ i, P.info? t = some i ∧ i.zero = z ∧ i.size = s ∧ i.bytes = b := by
  cases hi : P.info? t with
  | none => rw [hi] at h; cases h
  | some i => rw [hi] at h; simp only [Option.map_some, Option.some.injEq, Prod.mk.injEq] at h; exact ⟨i, rfl, h.1, h.2.1, h.2.2⟩
theorem point_info : (Try.prog.info? 35).map (fun i => (i.zero, i.size, i.bytes)) = some (some (.agg #[.int .i64 0, .int .i64 0]), 2, 16) := by kernel_rfl
theorem sclone_any (A : Option Addr) (c : Nat) (F : List Pt) (w : World) (h : Pts w A c F) (hs : F.length ≤ 1048576) :
    Calls Try.prog 29 #[.slice A F.length c] w fun e w' => ∃ v, e = .returned v ∧ OwnP w' w.heap.size v F ∧ Below w.heap.size w w' := by
  cases A with
  | none =>
    have e0 : F = [] := List.length_eq_zero_iff.1 (by have := h.1; have := h.2.2.1 rfl; omega)
    subst e0
    exact (AnyE.slices_Clone_nil Try.cloneP 0 c w).mono (fun e w' ⟨h1, h2⟩ => ⟨_, h1, World.ownsRow_nil _ _ _ _, by rw [h2]; exact Below.refl _ _⟩)
  | some a =>
    obtain ⟨i0, hi0, hz0, hz1, hz2⟩ := info_parts point_info
    by_cases h0 : 0 < F.length
    · obtain ⟨b, o, e, ht⟩ := h.2.2.2 h0
      obtain rfl := Option.some.inj e
      have hc := pts_cells ht
      have k := AnyE.slices_Clone Try.cloneP i0 _ 2 16 hi0 hz0 hz1 hz2 rfl (by omega) Try.sizeOf35 b o F.length c (encPs F) w (encPs_len F) h.len' (by omega) hc (encPs_one F)
      refine k.mono ?_
      rintro e w' ⟨v, rfl, h1, -, h3⟩
      exact ⟨v, rfl, h1, h3⟩
    · have e0 : F = [] := List.length_eq_zero_iff.1 (by omega)
      subst e0
      clear h hs h0
      show Calls _ _ #[.slice (some a) 0 c] _ _
      have q22 : ∀ (w : World) (a : Option Addr) (n c n' c' : Nat), (binOp .eql 22 (.slice a n c) (.slice none n' c')).run Try.prog w = .ok (.bool a.isNone) w := fun w a n c n' c' => Lib.run_eql_slice_nil w _ _ a n c n' c' Try.underlying22
      have HO := Lib.hid (World.ownsRow_made (e := 35) (size := 2) w #[] 0 (Nat.le_refl w.heap.size) (Nat.zero_le _) (by simp))
      go_enter Try.func29, Try.ntmps29
      go_wp2_with (at_builtin; refine wpList_append_own _ rfl _ _ 22 rfl w.heap.size 35 i0 _ 2 16 Try.underlying22 hi0 hz0 hz1 hz2 rfl (by decide) _ 0 [] rfl HO.out a 0 c [] rfl rfl (fun j u hj => by simp at hj) (fun u hu => by simp at hu) (by unfold maxLen; omega) (by omega) (by simp) ?_; intro v' w1 hown hgrow hnil)
      have hb : Below w.heap.size w w1 := ((Below.refl _ w).alloc (Nat.le_refl _) _).grown hgrow (by simp) (fun k hk => (HO.out.lt k hk).1)
      have HOw := Lib.hid hown
      have HB := Lib.hid hb
      clear hown hgrow hnil hb
      go_wp2
      go_ret
      exact ⟨v', rfl, HOw.out, HB.out⟩

/-- One point in a block of its own. -/
theorem pts_one (w : World) (f : Pt) : Pts (w.alloc (fo f)) (some ⟨w.heap.size, 0, none⟩) 1 [f] := by
  refine ⟨Nat.le_refl _, by unfold maxLen; decide, fun e => (by cases e), fun _ => ⟨w.heap.size, 0, rfl, by simp, fun i hi => ?_⟩⟩
  obtain rfl : i = 0 := by simp at hi; omega
  exact ⟨by simp [go_sem, gp], by simp [go_sem, gp]⟩
theorem wpList_append_pts {w : World} {ops : Array Oper} {rest : List Oper} {o : Oper} {a : Act} {Q : Exit → Act → World → Prop} (hgd : o.guard = none) (s x : Operand)
    (ho : o.op = .call { callee := .builtin .append, args := #[s, x], argTypes := #[22, 22] })
    (base : Nat) (v : Value) (L : List Pt) (hs : a.eval s = v) (hown : OwnP w base v L) (B : Option Addr) (d m : Nat) (M : List Pt) (hm : m = M.length) (hx : a.eval x = .slice B m d) (hM : Pts w B d M)
    (hn : L.length + m ≤ 16777216) (hbase : base ≤ w.heap.size)
    (h : ∀ v' w', OwnP w' base v' (L ++ M) → w.grownBy w' v.ownBlock → wpList Try.prog ops Q rest (a.put o.dst v') w') : wpList Try.prog ops Q (o :: rest) a w := by
  subst hm
  obtain ⟨i0, hi0, hz0, hz1, hz2⟩ := info_parts point_info
  cases B with
  | none =>
    have hd := hM.2.2.1 rfl
    subst hd
    have e : M = [] := List.length_eq_zero_iff.1 (by have := hM.1; omega)
    subst e
    refine wpList_append_own_none hgd s x _ ho base 35 i0 2 Try.underlying22 hi0 v L.length (encPs L) hs hown hx (h v w (by simpa using hown) ⟨rfl, rfl, rfl, Nat.le_refl _, fun _ _ _ => rfl⟩)
  | some ad =>
    refine wpList_append_own w hgd s x _ ho base 35 i0 _ 2 16 Try.underlying22 hi0 hz0 hz1 hz2 rfl (by decide) v L.length (encPs L) hs hown ad M.length d (encPs M) hx (encPs_len M) ?_ (encPs_one M) (by unfold maxLen; omega) (by omega) hbase ?_
    · intro j u hj
      have hl : j < M.length * 2 := by rw [← encPs_len]; exact (List.getElem?_eq_some_iff.1 hj).1
      obtain ⟨b, o, e, ht⟩ := hM.2.2.2 (by omega)
      cases e
      rw [Addr.add_lit]
      exact pts_cells ht j u hj
    · intro v' w' h1 h2 _
      refine h v' w' ?_ h2
      unfold OwnP
      rw [encPs_app, List.length_append]
      exact h1

/-! ### Parts of a row -/
theorem elemP : Try.prog.underlying 22 = some (.slice (Try.prog.elem 22)) := by kernel_rfl
theorem sizeP (w : World) : (sizeOf (Try.prog.elem 22)).run Try.prog w = .ok 2 w := by kernel_rfl
theorem pts_upto {A : Option Addr} {c : Nat} {F : List Pt} {k : Nat} {w : World} (hT : Pts w A c F) (hk : k ≤ F.length) :
    ∃ A', (∀ W : World, (Instr.slice 22 (.slice A F.length c) none (some (.int .i64 (k : Int))) none).run Try.prog W = .ok (.slice A' k c) W) ∧ Pts w A' c (F.take k) := by
  have hc := hT.1
  have hl : (F.take k).length = k := by rw [List.length_take]; omega
  refine ⟨if c = 0 then A else A.map (·.add 0), fun W => ?_, ?_⟩
  · rw [run_slice_h W _ A F.length c elemP .i64 (k : Int) (by omega) (by omega), sizeP]
    simp [sliced]
  · refine ⟨by omega, hT.2.1, fun e => ?_, fun h0 => ?_⟩
    · split at e
      · assumption
      · exact hT.2.2.1 (by cases A with | none => rfl | some a => simp at e)
    · obtain ⟨b, o, rfl, ht⟩ := (hT.take k).2.2.2 h0
      rw [if_neg (by omega)]
      exact ⟨b, o, by simp [Addr.add_lit], ht⟩
theorem step_append_pts {W : World} {ops : Array Oper} {o : Oper} {a : Act} {K : Act → World → Prop} {Q : Exit → Act → World → Prop} {E : Prop} (hgd : o.guard = none) (s x : Operand)
    (ho : o.op = .call { callee := .builtin .append, args := #[s, x], argTypes := #[22, 22] })
    (base : Nat) (v : Value) (L : List Pt) (hs : a.eval s = v) (hown : OwnP W base v L) (B : Option Addr) (d m : Nat) (M : List Pt) (hm : m = M.length) (hx : a.eval x = .slice B m d) (hM : Pts W B d M)
    (hn : L.length + m ≤ 16777216) (hbase : base ≤ W.heap.size)
    (h : ∀ v' w', OwnP w' base v' (L ++ M) → W.grownBy w' v.ownBlock → K (a.put o.dst v') w') :
    if Region.wanted o (yielded ops a.tmps) = true then Oper.wp Try.prog o a W K Q else E := by
  subst hm
  rw [if_pos (by simp [Region.wanted, hgd])]
  obtain ⟨i0, hi0, hz0, hz1, hz2⟩ := info_parts point_info
  cases B with
  | none =>
    have hd := hM.2.2.1 rfl
    subst hd
    have e : M = [] := List.length_eq_zero_iff.1 (by have := hM.1; omega)
    subst e
    have hrun := run_append_owned_none (P := Try.prog) (w := W) base 22 o.type 35 i0 2 Try.underlying22 hi0 v L.length (encPs L) hown
    unfold Oper.wp
    simp only [List.length_nil] at hx
    simp [execOp, ho, resolve, invoke, builtin, hs, hx, hrun, Result.andThen]
    exact h v W (by simpa using hown) ⟨rfl, rfl, rfl, Nat.le_refl _, fun _ _ _ => rfl⟩
  | some ad =>
    refine wp_append_own W s x _ ho base 35 i0 _ 2 16 Try.underlying22 hi0 hz0 hz1 hz2 rfl (by decide) v L.length (encPs L) hs hown ad M.length d (encPs M) hx (encPs_len M) ?_ (encPs_one M) (by unfold maxLen; omega) (by omega) hbase ?_
    · intro j u hj
      have hl : j < M.length * 2 := by rw [← encPs_len]; exact (List.getElem?_eq_some_iff.1 hj).1
      obtain ⟨b, o, e, ht⟩ := hM.2.2.2 (by omega)
      cases e
      rw [Addr.add_lit]
      exact pts_cells ht j u hj
    · intro v' w' h1 h2 _
      refine h v' w' ?_ h2
      unfold OwnP
      rw [encPs_app, List.length_append]
      exact h1


theorem own_bel {w w' : World} {base : Nat} {v : Value} {L : List Pt} (h : OwnP w base v L) (hb : Below w.heap.size w w') : OwnP w' base v L := h.below hb
theorem own_some_lt {w : World} {base : Nat} {v : Value} {L : List Pt} (h : OwnP w base v L) : ∀ k, v.ownBlock = some k → base ≤ k := fun k hk => (World.ownsRow.lt h k hk).1
/-- An empty literal. -/
theorem own_lit (w : World) (base : Nat) (h : base ≤ w.heap.size) : OwnP (w.alloc (.cells #[] 35)) base (.slice (some ⟨w.heap.size, 0, none⟩) 0 0) [] :=
  ⟨by simp [encPs], .inr ⟨w.heap.size, 0, #[], rfl, h, Array.getElem?_push_size, Nat.le_refl _, Nat.zero_le _, by simp, rfl⟩⟩
/-- append of one point that lies in a new block. -/
theorem append_pt {w : World} {ops : Array Oper} {rest : List Oper} {o : Oper} {a : Act} {Q : Exit → Act → World → Prop} (hgd : o.guard = none) (s x : Operand)
    (ho : o.op = .call { callee := .builtin .append, args := #[s, x], argTypes := #[22, 22] })
    (base : Nat) (v : Value) (L : List Pt) (hs : a.eval s = v) (hown : OwnP w base v L) (f : Pt)
    (hx : a.eval x = .slice (some ⟨w.heap.size, 0, none⟩) 1 1)
    (hn : L.length ≤ 1048576) (hbase : base ≤ w.heap.size)
    (h : ∀ v' w', OwnP w' base v' (L ++ [f]) → (w.alloc (fo f)).grownBy w' v.ownBlock → wpList Try.prog ops Q rest (a.put o.dst v') w') : wpList Try.prog ops Q (o :: rest) a (w.alloc (fo f)) :=
  wpList_append_pts hgd s x ho base v L hs (hown.alloc _) (some ⟨w.heap.size, 0, none⟩) 1 1 [f] rfl hx (pts_one w f) (by omega) (by simp; omega) h
theorem append_at {w : World} {p : Nat} {ops : Array Oper} {rest : List Oper} {o : Oper} {a : Act} {Q : Exit → Act → World → Prop} (hgd : o.guard = none) (s x : Operand)
    (ho : o.op = .call { callee := .builtin .append, args := #[s, x], argTypes := #[22, 22] })
    (base : Nat) (v : Value) (L : List Pt) (hs : a.eval s = v) (hown : OwnP w base v L) (f : Pt)
    (hx : a.eval x = .slice (some ⟨p, 0, none⟩) 1 1) (hp : w.heap.size = p)
    (hn : L.length ≤ 1048576) (hbase : base ≤ w.heap.size)
    (h : ∀ v' w', OwnP w' base v' (L ++ [f]) → (w.alloc (fo f)).grownBy w' v.ownBlock → wpList Try.prog ops Q rest (a.put o.dst v') w') : wpList Try.prog ops Q (o :: rest) a (w.alloc (fo f)) := by
  subst hp
  exact append_pt hgd s x ho base v L hs hown f hx hn hbase h
theorem own_grow {w w' : World} {base : Nat} {v : Value} {L : List Pt} {o : Obj} {B : Nat} {w0 : World} (hown : OwnP w base v L) (h0 : Below B w0 w) (hB : B ≤ w.heap.size) (hb : B ≤ base) (hg : (w.alloc o).grownBy w' v.ownBlock) : Below B w0 w' :=
  (bel_al h0 hB o).grown hg (by simp; omega) (fun k hk => Nat.le_trans hb (World.ownsRow.lt hown k hk).1)
theorem own_grow0 {w w' : World} {base : Nat} {v : Value} {L : List Pt} {B : Nat} {w0 : World} (hown : OwnP w base v L) (h0 : Below B w0 w) (hB : B ≤ w.heap.size) (hb : B ≤ base) (hg : w.grownBy w' v.ownBlock) : Below B w0 w' :=
  h0.grown hg hB (fun k hk => Nat.le_trans hb (World.ownsRow.lt hown k hk).1)

end Go.Proofs.Ytjmhemkbfephpaa.Rng
