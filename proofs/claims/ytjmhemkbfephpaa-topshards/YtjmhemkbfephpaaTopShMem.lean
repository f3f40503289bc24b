/-
  TopShards: the lists that are dealt out and the caches, each in an array of the call's own.
-/
import Derived.Test.YtjmhemkbfephpaaTwoRows
import Derived.Test.YtjmhemkbfephpaaLruApi
namespace Go.Proofs.Ytjmhemkbfephpaa.Tsh
open Go.RowKit
set_option linter.unusedVariables false
set_option maxRecDepth 100000

/-- A function changed at one place. -/
def upd {α : Type} (f : Nat → α) (o : Nat) (x : α) : Nat → α := fun k => if k = o then x else f k
theorem upd_self {α : Type} (f : Nat → α) (o : Nat) (x : α) : upd f o x o = x := if_pos rfl
theorem upd_ne {α : Type} {f : Nat → α} {o k : Nat} {x : α} (h : k ≠ o) : upd f o x k = f k := if_neg h

/-- An array of twenty slices. -/
def PB (w : World) (p : Nat) (V : Nat → Value) : Prop :=
  ∃ cur : Array Value, w.heap[p]? = some (.cells cur 44 (0, 0)) ∧ cur.size = 20 ∧ ∀ o, o < 20 → cur[o]? = some (V o)
/-- An array of twenty caches. -/
def QB (w : World) (q : Nat) (X : Nat → Value) : Prop :=
  ∃ cur : Array Value, w.heap[q]? = some (.cells cur 47 (0, 0)) ∧ cur.size = 40 ∧ ∀ o, o < 20 → (∃ r, cur[o * 2]? = some (.int .i64 r)) ∧ cur[o * 2 + 1]? = some (X o)
section
variable {w w' : World} {p q : Nat} {V X : Nat → Value} {o : Nat}
theorem PB.lt (h : PB w p V) : p < w.heap.size := by obtain ⟨cur, h1, _⟩ := h; exact (Array.getElem?_eq_some_iff.1 h1).1
theorem PB.kept (h : PB w p V) (hb : w'.heap[p]? = w.heap[p]?) : PB w' p V := by obtain ⟨cur, h1, h2⟩ := h; exact ⟨cur, hb.trans h1, h2⟩
theorem PB.cell (h : PB w p V) (ho : o < 20) : w.cell? ⟨p, o, none⟩ = some (V o) := by
  obtain ⟨cur, h1, h2, h3⟩ := h
  rw [cell_of_row w p o _ _ (0, 0) h1]; exact h3 o ho
theorem PB.frozen (h : PB w p V) (j : Nat) : w.frozen? ⟨p, j, none⟩ = false := by obtain ⟨cur, h1, _⟩ := h; simp [World.frozen?, h1]
theorem PB.set (h : PB w p V) (ho : o < 20) (v : Value) : PB (w.setCell ⟨p, o, none⟩ v) p (upd V o v) := by
  obtain ⟨cur, h1, h2, h3⟩ := h
  refine ⟨cur.setIfInBounds o v, heap_setCell_same w p o _ _ _ h1, by simpa using h2, fun i hi => ?_⟩
  rw [Array.getElem?_setIfInBounds]
  by_cases e : o = i
  · subst e; rw [if_pos rfl, if_pos (by omega), upd_self]
  · rw [if_neg e, upd_ne (fun h => e h.symm)]; exact h3 i hi
theorem QB.lt (h : QB w q X) : q < w.heap.size := by obtain ⟨cur, h1, _⟩ := h; exact (Array.getElem?_eq_some_iff.1 h1).1
theorem QB.kept (h : QB w q X) (hb : w'.heap[q]? = w.heap[q]?) : QB w' q X := by obtain ⟨cur, h1, h2⟩ := h; exact ⟨cur, hb.trans h1, h2⟩
theorem QB.cell (h : QB w q X) (ho : o < 20) : (∃ r, w.cell? ⟨q, o * 2, none⟩ = some (.int .i64 r)) ∧ w.cell? ⟨q, o * 2 + 1, none⟩ = some (X o) := by
  obtain ⟨cur, h1, h2, h3⟩ := h
  rw [cell_of_row w q _ _ _ (0, 0) h1, cell_of_row w q _ _ _ (0, 0) h1]; exact h3 o ho
theorem QB.frozen (h : QB w q X) (j : Nat) : w.frozen? ⟨q, j, none⟩ = false := by obtain ⟨cur, h1, _⟩ := h; simp [World.frozen?, h1]
theorem QB.room (h : QB w q X) (ho : o < 20) (r : Int) : QB (w.setCell ⟨q, o * 2, none⟩ (.int .i64 r)) q X ∧ (w.setCell ⟨q, o * 2, none⟩ (.int .i64 r)).cell? ⟨q, o * 2, none⟩ = some (.int .i64 r) := by
  obtain ⟨cur, h1, h2, h3⟩ := h
  have hs := heap_setCell_same w q (o * 2) _ _ (.int .i64 r) h1
  refine ⟨⟨cur.setIfInBounds (o * 2) (.int .i64 r), hs, by simpa using h2, fun i hi => ?_⟩, ?_⟩
  · rw [Array.getElem?_setIfInBounds, Array.getElem?_setIfInBounds, if_neg (show ¬ o * 2 = i * 2 + 1 by omega)]
    refine ⟨?_, (h3 i hi).2⟩
    by_cases e : o = i
    · subst e; exact ⟨r, by rw [if_pos rfl, if_pos (by omega)]⟩
    · rw [if_neg (by omega)]; exact (h3 i hi).1
  · rw [cell_of_row _ q _ _ _ (0, 0) hs, Array.getElem?_setIfInBounds, if_pos rfl, if_pos (by omega)]
theorem QB.set (h : QB w q X) (ho : o < 20) (r : Int) (v : Value) : QB ((w.setCell ⟨q, o * 2, none⟩ (.int .i64 r)).setCell ⟨q, o * 2 + 1, none⟩ v) q (upd X o v) := by
  obtain ⟨cur, h1, h2, h3⟩ := (h.room ho r).1
  refine ⟨cur.setIfInBounds (o * 2 + 1) v, heap_setCell_same _ q _ _ _ _ h1, by simpa using h2, fun i hi => ?_⟩
  rw [Array.getElem?_setIfInBounds, Array.getElem?_setIfInBounds, if_neg (show ¬ o * 2 + 1 = i * 2 by omega)]
  refine ⟨(h3 i hi).1, ?_⟩
  by_cases e : o = i
  · subst e; rw [if_pos rfl, if_pos (by omega), upd_self]
  · rw [if_neg (by omega), upd_ne (fun h => e h.symm)]; exact (h3 i hi).2
end

/-- A slice of keys that reads as L and lies behind B. -/
def Ks (w : World) (B : Nat) (v : Value) (L : List Int) : Prop := ∃ A c, v = .slice A L.length c ∧ Ints w A c L ∧ (0 < L.length → ∀ a, A = some a → B ≤ a.block)
theorem Ks.nil (w : World) (B : Nat) : Ks w B (.slice none 0 0) [] := ⟨none, 0, rfl, Ints.none_ _, fun _ a e => by cases e⟩
theorem Ks.kept {w w' : World} {B : Nat} {v : Value} {L : List Int} {row : Option Nat} (h : Ks w B v L) (hg : w.grownBy w' row) (hne : 0 < L.length → ∀ b, v.ownBlock = some b → row ≠ some b) : Ks w' B v L := by
  obtain ⟨A, c, rfl, hI, hA⟩ := h
  refine ⟨A, c, rfl, ⟨hI.1, hI.2.1, hI.2.2.1, fun h0 => ?_⟩, hA⟩
  obtain ⟨b, o, rfl, ht⟩ := hI.2.2.2 h0
  refine ⟨b, o, rfl, Nat.lt_of_lt_of_le ht.1 hg.size, fun i hi => ?_⟩
  rw [World.cell?_of_block (w := w) (hg.block b ht.1 (fun e => hne h0 b rfl e.symm))]
  exact ht.2 i hi

/-- The state: the lists R that have been dealt out (values V), the caches' keys K (values X). -/
structure TS (w : World) (p q B : Nat) (V X : Nat → Value) (R K : Nat → List Int) : Prop where
  pq : p ≠ q
  pB : p < B
  qB : q < B
  sz : B ≤ w.heap.size
  pb : PB w p V
  qb : QB w q X
  own : ∀ o, o < 20 → OwnI w B (V o) (R o)
  dis : ∀ o j, o < 20 → j < 20 → o ≠ j → Two.Apart (V o) (V j)
  ks : ∀ o, o < 20 → Ks w B (X o) (K o)
  dk : ∀ o j, o < 20 → j < 20 → 0 < (K j).length → ∀ b, (X j).ownBlock = some b → (V o).ownBlock ≠ some b
section
variable {w w' : World} {p q B : Nat} {V X : Nat → Value} {R K : Nat → List Int} {o : Nat}
theorem TS.below (h : TS w p q B V X R K) (hb : Below w.heap.size w w') : TS w' p q B V X R K :=
  have hg : w.grownBy w' none := ⟨hb.os, hb.tape, hb.output, hb.size, fun k hk _ => hb.block k hk⟩
  ⟨h.pq, h.pB, h.qB, Nat.le_trans h.sz hb.size, h.pb.kept (hb.block p h.pb.lt), h.qb.kept (hb.block q h.qb.lt), fun o ho => Two.own_bel (h.own o ho) hb, h.dis, fun o ho => (h.ks o ho).kept hg (fun _ b _ e => by cases e), h.dk⟩
theorem TS.congr {R' K' : Nat → List Int} (h : TS w p q B V X R K) (hR : ∀ o, o < 20 → R' o = R o) (hK : ∀ o, o < 20 → K' o = K o) : TS w p q B V X R' K' :=
  ⟨h.pq, h.pB, h.qB, h.sz, h.pb, h.qb, fun o ho => by rw [hR o ho]; exact h.own o ho, h.dis, fun o ho => by rw [hK o ho]; exact h.ks o ho, fun o j ho hj h0 => h.dk o j ho hj (by rwa [hK j hj] at h0)⟩
theorem TS.ne_p (h : TS w p q B V X R K) (ho : o < 20) : (V o).ownBlock ≠ some p := fun e => by have := ((h.own o ho).lt _ e).1; have := h.pB; omega
theorem TS.ne_q (h : TS w p q B V X R K) (ho : o < 20) : (V o).ownBlock ≠ some q := fun e => by have := ((h.own o ho).lt _ e).1; have := h.qB; omega
theorem TS.fresh (h : TS w p q B V X R K) {b : Nat} (hb : w.heap.size ≤ b) : B ≤ b ∧ ∀ j, j < 20 → (V j).ownBlock ≠ some b :=
  ⟨Nat.le_trans h.sz hb, fun j hj e => by have := ((h.own j hj).lt _ e).2; omega⟩
theorem Ks.blk {v : Value} {L : List Int} {b : Nat} (h : Ks w B v L) (h0 : 0 < L.length) (e : v.ownBlock = some b) : B ≤ b ∧ b < w.heap.size := by
  obtain ⟨A, c, rfl, hI, hA⟩ := h
  obtain ⟨b', o', rfl, ht⟩ := hI.2.2.2 h0
  cases e
  exact ⟨hA h0 _ rfl, ht.1⟩
/-- One more key in a list. -/
theorem TS.app (h : TS w p q B V X R K) (ho : o < 20) {ob : Obj} {x : Int} {g n cap : Nat} (hn : n = (R o).length + 1) (h1 : OwnI w' B (.slice (some ⟨g, 0, none⟩) n cap) (R o ++ [x])) (hg : (w.alloc ob).grownBy w' (V o).ownBlock) (hat : (V o).ownBlock = some g ∨ g = w.heap.size + 1) :
    TS (w'.setCell ⟨p, o, none⟩ (.slice (some ⟨g, 0, none⟩) n cap)) p q B (upd V o (.slice (some ⟨g, 0, none⟩) n cap)) X (upd R o (R o ++ [x])) K := by
  have ha := h.below ((Below.refl _ w).alloc (Nat.le_refl _) ob)
  have hs : (w.alloc ob).heap.size = w.heap.size + 1 := by simp
  have hpp : PB w' p V := ha.pb.kept (hg.block p ha.pb.lt (fun e => ha.ne_p ho e.symm))
  have hqq : QB w' q X := ha.qb.kept (hg.block q ha.qb.lt (fun e => ha.ne_q ho e.symm))
  have hgB : B ≤ g := (h1.lt g rfl).1
  have hset : ∀ {v : Value}, w'.grownBy (w'.setCell ⟨p, o, none⟩ v) (some p) := fun {v} => ⟨rfl, rfl, rfl, by simp [World.setCell], fun k hk hne => Below.heap_setCell w' ⟨p, o, none⟩ v k (fun e => hne (by rw [e]))⟩
  refine ⟨h.pq, h.pB, h.qB, Nat.le_trans ha.sz (Nat.le_trans hg.size hset.size), hpp.set ho _, hqq.kept (Below.heap_setCell w' _ _ q (fun e => h.pq e.symm)), fun j hj => ?_, fun i j hi hj hij => ?_, fun j hj => ?_, fun i j hi hj h0 b hb => ?_⟩
  · by_cases e : j = o
    · subst e
      rw [upd_self, upd_self]
      exact Two.own_set h1 (fun e => by have e' : g = p := Option.some.inj e; have := h.pB; omega) _ _
    · rw [upd_ne e, upd_ne e]
      exact Two.own_set (Two.own_grown (ha.own j hj) hg (ha.dis j o hj ho e)) (ha.ne_p hj) _ _
  · by_cases ei : i = o
    · subst ei
      rw [upd_self, upd_ne (fun e => hij e.symm)]
      exact Two.apart_step (w := w) (w' := w) (h.dis i j hi hj hij) (h.own j hj) hat
    · rw [upd_ne ei]
      by_cases ej : j = o
      · subst ej
        rw [upd_self]
        exact (Two.apart_step (w := w) (w' := w) (h.dis j i hj hi (fun e => hij e.symm)) (h.own i hi) hat).symm
      · rw [upd_ne ej]; exact h.dis i j hi hj hij
  · exact ((ha.ks j hj).kept hg (fun h0 b hb => ha.dk o j ho hj h0 b hb)).kept hset (fun h0 b hb e => by cases e; have := ((h.ks j hj).blk h0 hb).1; have := h.pB; omega)
  · by_cases ei : i = o
    · subst ei
      rw [upd_self]
      intro e
      have hgb : g = b := Option.some.inj e
      subst hgb
      rcases hat with hat | hat
      · exact h.dk i j hi hj h0 g hb hat
      · have := ((h.ks j hj).blk h0 hb).2; omega
    · rw [upd_ne ei]; exact h.dk i j hi hj h0 b hb
theorem TS.app_pre (h : TS w p q B V X R K) (ho : o < 20) {ob : Obj} (hg : (w.alloc ob).grownBy w' (V o).ownBlock) : PB w' p V :=
  have ha := h.below ((Below.refl _ w).alloc (Nat.le_refl _) ob)
  ha.pb.kept (hg.block p ha.pb.lt (fun e => ha.ne_p ho e.symm))
theorem TS.app_bel (h : TS w p q B V X R K) (ho : o < 20) {ob : Obj} {v : Value} (hg : (w.alloc ob).grownBy w' (V o).ownBlock) {N : Nat} (hp : N ≤ p) (hN : N ≤ B) : Below N w (w'.setCell ⟨p, o, none⟩ v) :=
  Two.bel_set ((((Below.refl N w).alloc (Nat.le_trans hN h.sz) ob)).grown hg (by simp; have := h.sz; omega) (fun k hk => by have := ((h.own o ho).lt k hk).1; omega)) hp _
/-- A cache's room. -/
theorem TS.room (h : TS w p q B V X R K) (ho : o < 20) (r : Int) : TS (w.setCell ⟨q, o * 2, none⟩ (.int .i64 r)) p q B V X R K ∧ (w.setCell ⟨q, o * 2, none⟩ (.int .i64 r)).cell? ⟨q, o * 2, none⟩ = some (.int .i64 r) := by
  have hset : w.grownBy (w.setCell ⟨q, o * 2, none⟩ (.int .i64 r)) (some q) := ⟨rfl, rfl, rfl, by simp [World.setCell], fun k hk hne => Below.heap_setCell w _ _ k (fun e => hne (by rw [e]))⟩
  obtain ⟨k1, k2⟩ := h.qb.room ho r
  exact ⟨⟨h.pq, h.pB, h.qB, Nat.le_trans h.sz hset.size, h.pb.kept (Below.heap_setCell w _ _ p h.pq), k1, fun j hj => Two.own_set (h.own j hj) (h.ne_q hj) _ _, h.dis, fun j hj => (h.ks j hj).kept hset (fun h0 b hb e => by cases e; have := ((h.ks j hj).blk h0 hb).1; have := h.qB; omega), h.dk⟩, k2⟩
/-- A cache stored. -/
theorem TS.put (h : TS w p q B V X R K) (ho : o < 20) (r : Int) {A : Option Addr} {c n : Nat} {L : List Int} (hn : n = L.length) (hI : Ints w A c L) (hf : ∀ a, A = some a → B ≤ a.block ∧ ∀ j, j < 20 → (V j).ownBlock ≠ some a.block) :
    TS ((w.setCell ⟨q, o * 2, none⟩ (.int .i64 r)).setCell ⟨q, o * 2 + 1, none⟩ (.slice A n c)) p q B V (upd X o (.slice A n c)) R (upd K o L) := by
  subst hn
  have h1 := (h.room ho r).1
  have hset : ∀ {v : Value}, (w.setCell ⟨q, o * 2, none⟩ (.int .i64 r)).grownBy ((w.setCell ⟨q, o * 2, none⟩ (.int .i64 r)).setCell ⟨q, o * 2 + 1, none⟩ v) (some q) := fun {v} => ⟨rfl, rfl, rfl, by simp [World.setCell], fun k hk hne => Below.heap_setCell _ _ _ k (fun e => hne (by rw [e]))⟩
  have hI2 : Ints ((w.setCell ⟨q, o * 2, none⟩ (.int .i64 r)).setCell ⟨q, o * 2 + 1, none⟩ (.slice A L.length c)) A c L :=
    (hI.setCell (fun a ha e => by have := (hf a ha).1; have := h.qB; have : a.block = q := e; omega) _).setCell (fun a ha e => by have := (hf a ha).1; have := h.qB; have : a.block = q := e; omega) _
  refine ⟨h.pq, h.pB, h.qB, Nat.le_trans h1.sz hset.size, h1.pb.kept (Below.heap_setCell _ _ _ p h.pq), h.qb.set ho r _, fun j hj => Two.own_set (h1.own j hj) (h1.ne_q hj) _ _, h.dis, fun j hj => ?_, fun i j hi hj h0 b hb => ?_⟩
  · by_cases e : j = o
    · subst e
      rw [upd_self, upd_self]
      exact ⟨A, c, rfl, hI2, fun _ a ha => (hf a ha).1⟩
    · rw [upd_ne e, upd_ne e]
      exact (h1.ks j hj).kept hset (fun h0 b hb e => by cases e; have := ((h.ks j hj).blk h0 hb).1; have := h.qB; omega)
  · by_cases e : j = o
    · subst e
      rw [upd_self] at hb
      cases A with
      | none => cases hb
      | some a => cases hb; exact (hf a rfl).2 i hi
    · rw [upd_ne e] at hb h0
      exact h.dk i j hi hj h0 b hb
/-- The arrays as they are made. -/
theorem TS.new (w : World) : TS ((w.alloc (.cells (List.replicate 20 (.slice none 0 0)).toArray 44)).alloc (.cells (List.replicate 20 [Value.int .i64 0, Value.slice none 0 0]).flatten.toArray 47)) w.heap.size (w.heap.size + 1) (w.heap.size + 2) (fun _ => .slice none 0 0) (fun _ => .slice none 0 0) (fun _ => []) (fun _ => []) := by
  have e1 : (w.alloc (.cells (List.replicate 20 (.slice none 0 0)).toArray 44)).heap[w.heap.size]? = some (.cells (List.replicate 20 (.slice none 0 0)).toArray 44 (0, 0)) := heap_alloc_new w _
  have e2 := heap_alloc_new (w.alloc (.cells (List.replicate 20 (.slice none 0 0)).toArray 44)) (.cells (List.replicate 20 [Value.int .i64 0, Value.slice none 0 0]).flatten.toArray 47)
  rw [show (w.alloc (.cells (List.replicate 20 (.slice none 0 0)).toArray 44)).heap.size = w.heap.size + 1 by simp] at e2
  refine ⟨by omega, by omega, by omega, by simp, ?_, ⟨_, e2, by simp, fun o ho => ?_⟩, fun o ho => Two.own_none _ _, fun o j _ _ _ g hg => (by cases hg), fun o ho => Ks.nil _ _, fun o j _ _ h0 => absurd h0 (by simp)⟩
  · refine PB.kept (w := w.alloc (.cells (List.replicate 20 (.slice none 0 0)).toArray 44)) ⟨_, e1, by simp, fun o ho => ?_⟩ (((Below.refl _ _).alloc (Nat.le_refl _) _).block _ (by simp))
    rw [List.getElem?_toArray, List.getElem?_replicate, if_pos ho]
  · have : ∀ o, o < 20 → ((List.replicate 20 [Value.int .i64 0, Value.slice none 0 0]).flatten.toArray)[o * 2]? = some (.int .i64 0) ∧ ((List.replicate 20 [Value.int .i64 0, Value.slice none 0 0]).flatten.toArray)[o * 2 + 1]? = some (.slice none 0 0) := by
      intro o ho
      simp only [List.replicate, List.flatten_cons, List.flatten_nil, List.cons_append, List.nil_append]
      rcases o with _ | _ | _ | _ | _ | _ | _ | _ | _ | _ | _ | _ | _ | _ | _ | _ | _ | _ | _ | _ | o
      all_goals first | exact ⟨rfl, rfl⟩ | omega
    exact ⟨⟨0, (this o ho).1⟩, (this o ho).2⟩
end

end Go.Proofs.Ytjmhemkbfephpaa.Tsh
