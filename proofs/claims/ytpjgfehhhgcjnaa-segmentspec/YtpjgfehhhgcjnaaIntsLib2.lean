/-
  What slices.Grow and slices.Concat do to slices of ints.
-/
import Derived.Test.YtpjgfehhhgcjnaaIntsLib
namespace Go.Proofs.Ytpjgfehhhgcjnaa
open Go.RowKit Go.Shelf
set_option linter.unusedVariables false

theorem info_parts {P : Program} {t : TypeId} {z : Option Value} {s b : Nat} (h : (P.info? t).map (fun i => (i.zero, i.size, i.bytes)) = some (z, s, b)) :
    ∃ i, P.info? t = some i ∧ i.zero = z ∧ i.size = s ∧ i.bytes = b := by
  cases hi : P.info? t with
  | none => rw [hi] at h; cases h
  | some i => rw [hi] at h; simp only [Option.map_some, Option.some.injEq, Prod.mk.injEq] at h; exact ⟨i, rfl, h.1, h.2.1, h.2.2⟩
theorem int_info : (Try.prog.info? 3).map (fun i => (i.zero, i.size, i.bytes)) = some (some (.int .i64 0), 1, 8) := by kernel_rfl

theorem grow_any (n : Nat) (w : World) (hn : n ≤ 1048576) :
    Calls Try.prog 34 #[.slice none 0 0, .int .i64 (n : Int)] w fun e w' => ∃ v, e = .returned v ∧ OwnI w' w.heap.size v [] ∧ Below w.heap.size w w' := by
  by_cases h0 : 0 < n
  · obtain ⟨i0, hi0, hz0, hz1, hz2⟩ := info_parts int_info
    refine (Any8.slices_Grow_grow Try.growI i0 (.int .i64 0) hi0 hz0 (by omega) none 0 0 n [] w (by omega) (by omega) (by rw [hz2]; omega) (by omega) (by simp) (fun _ => rfl) (fun a h => by cases h)).mono ?_
    rintro e w' ⟨rfl, rfl⟩
    have hG := grownCap_le_maxLen w (0 + n) 0 3 (by unfold maxLen; omega)
    have hG2 := grownCap_ge w (0 + n) 0 3
    refine ⟨_, rfl, ?_, ?_⟩
    · refine World.ownsRow_made w.drew _ _ (Nat.le_refl _) hG ?_
      simp only [Array.size_append, size_zeroCells, List.size_toArray, List.length_nil, Value.cells]
      show 0 + (0 + n - 0) * 1 + (grownCap w (0 + n) 0 3 - (0 + n)) * 1 = grownCap w (0 + n) 0 3 * 1
      omega
    · exact ((Below.refl _ w).drew).alloc (Nat.le_refl _) _
  · obtain rfl : n = 0 := by omega
    refine (Any8.slices_Grow_room Try.growI none 0 0 0 w (by omega) (by omega) (by omega) (by omega)).mono ?_
    rintro e w' ⟨rfl, rfl⟩
    exact ⟨_, rfl, World.ownsRow_nil _ _ _ _, Below.refl _ _⟩

/-- 'append(v, xs...)': v of the call's own, xs any slice of ints. -/
theorem wpList_append_ints {w : World} {ops : Array Oper} {rest : List Oper} {o : Oper} {a : Act} {Q : Exit → Act → World → Prop} (hgd : o.guard = none) (s x : Operand)
    (ho : o.op = .call { callee := .builtin .append, args := #[s, x], argTypes := #[22, 22] })
    (base : Nat) (v : Value) (L : List Int) (hs : a.eval s = v) (hown : OwnI w base v L) (B : Option Addr) (d : Nat) (M : List Int) (hx : a.eval x = .slice B M.length d) (hM : Ints w B d M)
    (hn : L.length + M.length ≤ 1099511627776) (hbase : base ≤ w.heap.size)
    (h : ∀ v' w', OwnI w' base v' (L ++ M) → w.grownBy w' v.ownBlock → wpList Try.prog ops Q rest (a.put o.dst v') w') : wpList Try.prog ops Q (o :: rest) a w := by
  obtain ⟨i0, hi0, hz0, hz1, hz2⟩ := info_parts int_info
  cases B with
  | none =>
    have hd := hM.2.2.1 rfl
    subst hd
    have e : M = [] := List.length_eq_zero_iff.1 (by have := hM.1; omega)
    subst e
    refine wpList_append_own_none hgd s x _ ho base 3 i0 1 Try.underlying22 hi0 v L.length (L.map encI) hs hown hx (h v w (by simpa using hown) ⟨rfl, rfl, rfl, Nat.le_refl _, fun _ _ _ => rfl⟩)
  | some ad =>
    refine wpList_append_own w hgd s x _ ho base 3 i0 (.int .i64 0) 1 8 Try.underlying22 hi0 hz0 hz1 hz2 rfl (by decide) v L.length (L.map encI) hs hown ad M.length d (M.map encI) hx (by simp) ?_ ?_ (by unfold maxLen; omega) (by omega) hbase ?_
    · intro j u hj
      rw [List.getElem?_map] at hj
      by_cases hlt : j < M.length
      · obtain ⟨b, o, e, ht⟩ := hM.2.2.2 (by omega)
        cases e
        rw [List.getElem?_eq_getElem hlt] at hj
        simp only [Option.map_some, Option.some.injEq] at hj
        rw [add_none, ht.2 j hlt, gi_get hlt, ← hj]
      · rw [List.getElem?_eq_none (by omega)] at hj; cases hj
    · intro u hu
      obtain ⟨n, _, rfl⟩ := List.mem_map.1 hu
      rfl
    · intro v' w' h1 h2 _
      exact h v' w' (by unfold OwnI; rw [List.length_append, List.map_append]; exact h1) h2

def cat2 (L M : List Int) (k : Nat) : List Int := if k = 0 then [] else if k = 1 then L else L ++ M

set_option maxHeartbeats 4000000 in
set_option maxRecDepth 100000 in
theorem concat_any (g : Nat) (A B : Option Addr) (c d : Nat) (L M : List Int) (w : World) (hg : g < w.heap.size) (h0 : w.cell? ⟨g, 0, none⟩ = some (.slice A L.length c)) (h1 : w.cell? ⟨g, 1, none⟩ = some (.slice B M.length d))
    (ha : Ints w A c L) (hb : Ints w B d M) (hl : L.length ≤ 4096) (hm : M.length ≤ 4096) :
    Calls Try.prog 23 #[.slice (some ⟨g, 0, none⟩) 2 2] w fun e w' => ∃ v, e = .returned v ∧ OwnI w' w.heap.size v (L ++ M) ∧ Below w.heap.size w w' := by
  obtain ⟨i0, hi0, hz0, hz1, hz2⟩ := info_parts int_info
  have HI := Lib.hid hi0
  have HZ0 := Lib.hid hz0
  have HZ1 := Lib.hid hz1
  have HZ2 := Lib.hid hz2
  clear hi0 hz0 hz1 hz2
  go_enter Try.func23, Try.ntmps23
  go_wp2
  go_loop [3, 11] (fun s i => (i = .int .i64 0 ∧ s = .int .i64 0) ∨ (i = .int .i64 1 ∧ s = .int .i64 (L.length : Int)) ∨ (i = .int .i64 2 ∧ s = .int .i64 ((L.length + M.length : Nat) : Int))) (fun _ i => 2 - (intOf i).toNat)
  case atStart => exact .inl ⟨rfl, rfl⟩
  case round =>
    rcases hrel with ⟨rfl, rfl⟩ | ⟨rfl, rfl⟩ | ⟨rfl, rfl⟩
    · go_wp2
      go_round
      case rel => exact .inr (.inl ⟨rfl, by go_num⟩)
      case measure => simp [intOf]
    · go_wp2
      go_round
      case rel => exact .inr (.inr ⟨rfl, by go_num⟩)
      case measure => simp [intOf]
    · go_wp2_with fail
      refine (grow_any _ w (by omega)).mono ?_
      rintro e w1 ⟨v1, rfl, ho1, hb1⟩
      go_wp2
      go_loopw [6, 27] (fun v i wr => ∃ k : Nat, k ≤ 2 ∧ i = .int .i64 (k : Int) ∧ OwnI wr w.heap.size v (cat2 L M k) ∧ Below w.heap.size w wr) (fun _ i _ => 2 - (intOf i).toNat)
      case atStart => exact ⟨0, by omega, rfl, ho1, hb1⟩
      case round =>
        clear ho1 hb1
        obtain ⟨k, hk, rfl, ho, HB⟩ := hrel
        have hsz := HB.size
        have d0 := (HB.cell (p := ⟨g, 0, none⟩) hg).trans h0
        have d1 := (HB.cell (p := ⟨g, 1, none⟩) hg).trans h1
        have ha2 := ha.below HB
        have hb2 := hb.below HB
        have hbo := ho.lt
        match k, hk with
        | 0, _ =>
          go_wp2_with (first
            | (at_builtin; refine wpList_append_ints rfl _ _ rfl w.heap.size _ _ rfl ho A c L rfl ha2 (by simp [cat2]; omega) hsz ?_)
            | go_in)
          intro v' w' h3 h4
          have HB' := HB.grown h4 hsz (fun j hj => (hbo j hj).1)
          clear h4
          go_wp2
          go_roundw
          case rel => exact ⟨1, by omega, rfl, h3, HB'⟩
          case measure => simp [intOf]
        | 1, _ =>
          go_wp2_with (first
            | (at_builtin; refine wpList_append_ints rfl _ _ rfl w.heap.size _ _ rfl ho B d M rfl hb2 (by simp [cat2]; omega) hsz ?_)
            | go_in)
          intro v' w' h3 h4
          have HB' := HB.grown h4 hsz (fun j hj => (hbo j hj).1)
          clear h4
          go_wp2
          go_roundw
          case rel => exact ⟨2, by omega, rfl, h3, HB'⟩
          case measure => simp [intOf]
        | 2, _ =>
          go_wp2
          go_ret
          exact ⟨_, rfl, ho, HB⟩

end Go.Proofs.Ytpjgfehhhgcjnaa
