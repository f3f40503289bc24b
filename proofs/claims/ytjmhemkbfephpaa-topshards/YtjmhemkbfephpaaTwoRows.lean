/-
  Two rows of ints of the call's own side by side.
-/
import Derived.Test.YtjmhemkbfephpaaLruLib
import Derived.Test.YtjmhemkbfephpaaIntsLib2
import Derived.Test.YtjmhemkbfephpaaLruUse
import Derived.Deep.AppendLies
namespace Go.Proofs.Ytjmhemkbfephpaa.Two
open Go.RowKit
set_option linter.unusedVariables false
set_option maxRecDepth 100000

theorem bel_al {B : Nat} {w w' : World} (h : Below B w w') (hB : B ≤ w'.heap.size) (o : Obj) : Below B w (w'.alloc o) := h.alloc hB o
theorem bel_set {B : Nat} {w w' : World} (h : Below B w w') {a : Addr} (ha : B ≤ a.block) (u : Value) : Below B w (w'.setCell a u) :=
  h.trans ⟨rfl, rfl, rfl, by simp [World.setCell], fun k hk => Below.heap_setCell w' a u k (by omega)⟩
theorem bel_drewN {B : Nat} {w w' : World} (h : Below B w w') (n : Nat) : Below B w (w'.drewN n) := h.trans ⟨rfl, rfl, rfl, Nat.le_refl _, fun _ _ => rfl⟩
theorem dnI {w : World} {A : Option Addr} {c : Nat} {L : List Int} (h : Ints w A c L) (n : Nat) : Ints (w.drewN n) A c L := h.below (bel_drewN (Below.refl _ _) n)
/-! ### Rows of the call's own -/
section
variable {w w' : World} {base p : Nat} {v u : Value} {L M : List Int}
theorem own_set (h : OwnI w base v L) (hp : v.ownBlock ≠ some p) (j : Nat) (x : Value) : OwnI (w.setCell ⟨p, j, none⟩ x) base v L :=
  World.ownsRow.kept (row := some p) h ⟨rfl, rfl, rfl, by simp [World.setCell], fun k hk hne => Below.heap_setCell w ⟨p, j, none⟩ x k (fun e => hne (by rw [e]))⟩ (.inr hp)
theorem own_al (h : OwnI w base v L) (o : Obj) : OwnI (w.alloc o) base v L := World.ownsRow.alloc h o
theorem own_bel (h : OwnI w base v L) (hb : Below w.heap.size w w') : OwnI w' base v L :=
  h.kept (row := none) ⟨hb.os, hb.tape, hb.output, hb.size, fun k hk _ => hb.block k hk⟩ (by cases hv : v.ownBlock <;> simp)
theorem own_le {base' : Nat} (h : OwnI w base v L) (hb : base' ≤ base) : OwnI w base' v L :=
  ⟨h.1, h.2.elim .inl (fun ⟨g, cap, cur, e, h1, h2⟩ => .inr ⟨g, cap, cur, e, Nat.le_trans hb h1, h2⟩)⟩
theorem own_grown (h : OwnI w base v L) (hg : w.grownBy w' u.ownBlock) (hne : ∀ g, v.ownBlock = some g → u.ownBlock ≠ some g) : OwnI w' base v L :=
  h.kept (row := u.ownBlock) hg (by
    cases hv : v.ownBlock with
    | none => exact .inl rfl
    | some g => exact .inr (fun e => hne g hv e.symm))
/-- Two rows that do not lie in one block. -/
def Apart (v u : Value) : Prop := ∀ g, v.ownBlock = some g → u.ownBlock ≠ some g
theorem Apart.symm (h : Apart v u) : Apart u v := fun g hg e => h g e hg
theorem apart_new {B : Nat} (h : OwnI w' B v L) (k : OwnI w base u M) (hB : w.heap.size ≤ B) : Apart v u := fun g hg e => by
  have a := (h.lt g hg).1
  have b := (k.lt g e).2
  omega
theorem own_one1 (w : World) (x : Int) (base : Nat) (hb : base ≤ w.heap.size) : OwnI (w.alloc (.cells #[.int .i64 x] 3)) base (.slice (some ⟨w.heap.size, 0, none⟩) 1 1) [x] :=
  Lru.own_of_cells (L := [x]) (show (w.alloc (.cells #[encI x] 3)).heap[w.heap.size]? = some (.cells #[encI x] 3 (0, 0)) from Array.getElem?_push_size) rfl hb (by simp) (by unfold maxLen; decide) (fun j hj => by
    obtain rfl : j = 0 := by simp at hj; omega
    simp [go_sem, gi])
theorem own_none (w : World) (base : Nat) : OwnI w base (.slice none 0 0) [] := World.ownsRow_nil _ _ _ _
end
/-- 'append(v, n)': the row lies where it lay, or at a new block. -/
theorem wpList_append_lies1 {w : World} {ops : Array Oper} {rest : List Oper} {o : Oper} {a : Act} {Q : Exit → Act → World → Prop} (hgd : o.guard = none) (s x : Operand)
    (ho : o.op = .call { callee := .builtin .append, args := #[s, x], argTypes := #[23, 23] })
    (base : Nat) (v : Value) (L : List Int) (hs : a.eval s = v) (hown : OwnI w base v L) (n : Int) (t : TypeId) (hx : a.eval x = .slice (some ⟨w.heap.size, 0, none⟩) 1 1)
    (hn : L.length ≤ 1000) (hbase : base ≤ w.heap.size)
    (h : ∀ g cap w', OwnI w' base (.slice (some ⟨g, 0, none⟩) (L.length + 1) cap) (L ++ [n]) → (w.alloc (.cells #[.int .i64 n] t)).grownBy w' v.ownBlock → (v.ownBlock = some g ∨ g = w.heap.size + 1) → wpList Try.prog ops Q rest (a.put o.dst (.slice (some ⟨g, 0, none⟩) (L.length + 1) cap)) w') : wpList Try.prog ops Q (o :: rest) a (w.alloc (.cells #[.int .i64 n] t)) := by
  obtain ⟨i0, hi0, hz0, hz1, hz2⟩ := info_parts int_info
  refine wpList_step fun K hK => ?_
  refine step_append_lies (w.alloc (.cells #[.int .i64 n] t)) hgd s x 23 ho base 3 i0 _ 1 8 Try.underlying23 hi0 hz0 hz1 hz2 rfl (by omega) v L.length (L.map encI) hs (own_al hown _) ⟨w.heap.size, 0, none⟩ 1 1 [encI n] hx (by rfl) ?_ ?_ (by omega) (by unfold maxLen; omega) (by omega) (by simp; omega) (w.heap.size + 1) (by simp) ?_
  · intro j u hj
    rw [Addr.add_lit, Nat.zero_add]
    cases j with
    | zero => simp at hj; rw [← hj]; simp [go_sem]
    | succ j => simp at hj
  · intro u hu
    simp only [List.mem_cons, List.not_mem_nil, or_false] at hu
    subst hu
    rfl
  · intro g cap w1 hown1 hgr hat _
    have e : L.map encI ++ [encI n] = (L ++ [n]).map encI := by simp
    rw [e] at hown1
    refine hK _ _ (h g cap w1 ?_ hgr hat)
    show World.ownsRow _ _ _ _ _ (L ++ [n]).length _
    rw [show (L ++ [n]).length = L.length + 1 by simp]
    exact hown1

theorem apart_step {w w' : World} {base g n c : Nat} {v u : Value} {M : List Int} (hA : Apart v u) (hu : OwnI w base u M) (h : v.ownBlock = some g ∨ g = w.heap.size + 1) : Apart (.slice (some ⟨g, 0, none⟩) n c) u := by
  intro g' e e2
  have e : g = g' := by cases e; rfl
  subst e
  rcases h with h | h
  · exact hA g h e2
  · have := (hu.lt _ e2).2; omega
section
variable {w w' : World} {base g c n i : Nat} {v : Value} {L : List Int}
theorem own_form (h : OwnI w base v L) (h0 : 0 < L.length) : ∃ g c, v = .slice (some ⟨g, 0, none⟩) L.length c ∧ base ≤ g ∧ g < w.heap.size := by
  have hlt := h.lt
  rcases h.2 with ⟨rfl, h1⟩ | ⟨g, cap, cur, rfl, hb, hg, -⟩
  · omega
  · exact ⟨g, cap, rfl, hb, (hlt g rfl).2⟩
theorem own_cells (h : OwnI w base (.slice (some ⟨g, 0, none⟩) n c) L) (hn : n = L.length) (hi : i < L.length) :
    w.cell? ⟨g, i, none⟩ = some (.int .i64 (gi L i)) ∧ w.frozen? ⟨g, i, none⟩ = false := by
  subst hn
  refine ⟨(World.ownsRow.cellAt h i (by omega)).trans ?_, World.ownsRow.frozenAt h _⟩
  rw [List.getElem?_map, List.getElem?_eq_getElem hi, gi_get hi]; rfl
theorem own_put (h : OwnI w base (.slice (some ⟨g, 0, none⟩) n c) L) (hn : n = L.length) (i : Nat) (x : Int) : OwnI (w.setCell ⟨g, i, none⟩ (.int .i64 x)) base (.slice (some ⟨g, 0, none⟩) n c) (L.set i x) := by
  subst hn
  have k := (World.ownsRow.stored h i (encI x)).1
  rw [← List.map_set] at k
  unfold OwnI
  rw [List.length_set]
  exact k
theorem ints_belowB {A : Option Addr} {c B : Nat} (h : Ints w A c L) (hb : Below B w w') (hB : ∀ a, A = some a → a.block < B) : Ints w' A c L :=
  ⟨h.1, h.2.1, h.2.2.1, fun hl => by obtain ⟨b, o, e, ht⟩ := h.2.2.2 hl; exact ⟨b, o, e, ht.below (hB _ e) hb⟩⟩
end

end Go.Proofs.Ytjmhemkbfephpaa.Two
