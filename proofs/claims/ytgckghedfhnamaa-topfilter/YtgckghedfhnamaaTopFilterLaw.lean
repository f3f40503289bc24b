/-
  The walk of the law on a filter and a cache.
-/
import Derived.Test.YtgckghedfhnamaaTopBase
import Derived.Test.YtgckghedfhnamaaBloomOpen
import Derived.Deep.CutRange
import Derived.BigQuiet
namespace Go.Proofs.Ytgckghedfhnamaa.Top
open Go.RowKit Go.Maps
open Lru (isRm isK keysE keysE_zero traceE trace_zero ints_lit own_alloc)
set_option linter.unusedVariables false
set_option maxRecDepth 100000

/-! ### Rows of strings -/
def encS (s : ByteArray) : Value := .string s
/-- A row of strings of the call's own. -/
def OwnS (w : World) (base : Nat) (v : Value) (S : List ByteArray) : Prop := w.ownsRow base 9 1 v S.length (S.map encS)
abbrev gs (S : List ByteArray) (i : Nat) : ByteArray := S.getD i ByteArray.empty
theorem gs_mem {S : List ByteArray} {i : Nat} (h : i < S.length) : gs S i ∈ S := by
  unfold gs; rw [List.getD_eq_getElem?_getD, List.getElem?_eq_getElem h]; exact List.getElem_mem h
theorem str_info : (Try.prog.info? 9).map (fun i => (i.zero, i.size, i.bytes)) = some (some (.string ByteArray.empty), 1, 16) := by kernel_rfl
section
variable {w w' : World} {base p : Nat} {v : Value} {S : List ByteArray}
theorem OwnS.form (h : OwnS w base v S) : ∃ A c, v = .slice A S.length c ∧ (0 < S.length → ∃ g, A = some ⟨g, 0, none⟩ ∧ base ≤ g ∧ g < w.heap.size ∧ ∀ i, i < S.length → w.cell? ⟨g, i, none⟩ = some (.string (gs S i))) := by
  rcases h.2 with ⟨rfl, h0⟩ | ⟨g, cap, cur, rfl, hb, hg, hn, hm, hs, ht⟩
  · have : S = [] := List.length_eq_zero_iff.1 h0
    subst this
    exact ⟨none, 0, rfl, fun h => absurd h (by simp)⟩
  · refine ⟨_, cap, rfl, fun hl => ⟨g, rfl, hb, (Array.getElem?_eq_some_iff.1 hg).1, fun i hi => ?_⟩⟩
    have e : (S.map encS)[i]? = some (.string (gs S i)) := by
      rw [List.getElem?_map, List.getElem?_eq_getElem hi]; unfold gs; rw [List.getD_eq_getElem?_getD, List.getElem?_eq_getElem hi]; rfl
    rw [← ht, List.getElem?_take, if_pos (by omega)] at e
    rw [cell_of_row w g _ _ _ (0, 0) hg]
    simpa using e
theorem OwnS.alloc (h : OwnS w base v S) (o : Obj) : OwnS (w.alloc o) base v S := World.ownsRow.alloc h o
theorem OwnS.below (h : OwnS w base v S) (hb : Below w.heap.size w w') : OwnS w' base v S :=
  World.ownsRow.kept (row := none) h ⟨hb.os, hb.tape, hb.output, hb.size, fun k hk _ => hb.block k hk⟩ (by cases v.ownBlock with | none => exact .inl rfl | some k => exact .inr (by simp))
theorem OwnS.set (h : OwnS w base v S) (hp : v.ownBlock ≠ some p) (j : Nat) (u : Value) : OwnS (w.setCell ⟨p, j, none⟩ u) base v S :=
  World.ownsRow.kept (row := some p) h ⟨rfl, rfl, rfl, by simp [World.setCell], fun k hk hne => Below.heap_setCell w ⟨p, j, none⟩ u k (fun e => hne (by rw [e]))⟩ (.inr hp)
theorem OwnS.set3 (h : OwnS w base v S) (hp : v.ownBlock ≠ some p) (a b c : Value) : OwnS (((w.setCell ⟨p, 0, none⟩ a).setCell ⟨p, 1, none⟩ b).setCell ⟨p, 2, none⟩ c) base v S := ((h.set hp 0 a).set hp 1 b).set hp 2 c
theorem OwnS.cells {g c n i : Nat} (h : OwnS w base (.slice (some ⟨g, 0, none⟩) n c) S) (hn : n = S.length) (hi : i < S.length) : w.cell? ⟨g, i, none⟩ = some (.string (gs S i)) := by
  subst hn
  have e : (S.map encS)[i]? = some (.string (gs S i)) := by
    rw [List.getElem?_map, List.getElem?_eq_getElem hi]; unfold gs; rw [List.getD_eq_getElem?_getD, List.getElem?_eq_getElem hi]; rfl
  exact (World.ownsRow.cellAt h _ (by omega)).trans e
/-- A row of ints and one of strings are two blocks. -/
theorem own_two {v' : Value} {L : List Int} (h : OwnS w base v S) (h' : OwnI w base v' L) : ∀ g, v.ownBlock = some g → v'.ownBlock ≠ some g := by
  intro g e e'
  rcases h.2 with ⟨rfl, -⟩ | ⟨g1, cap, cur, rfl, -, hg, -⟩
  · cases e
  · cases e
    rcases h'.2 with ⟨rfl, -⟩ | ⟨g2, cap2, cur2, rfl, -, hg2, -⟩
    · cases e'
    · cases e'
      rw [hg] at hg2
      simp at hg2
theorem OwnS.grown {v' : Value} {L : List Int} (h : OwnS w base v S) (h' : OwnI w base v' L) (hg : w.grownBy w' v'.ownBlock) : OwnS w' base v S :=
  World.ownsRow.kept (row := v'.ownBlock) h hg (by
    cases hv : v.ownBlock with
    | none => exact .inl rfl
    | some k => exact .inr (fun e => own_two h h' k hv e.symm))
theorem ownI_grown {v' : Value} {L : List Int} (h : OwnS w base v S) (h' : OwnI w base v' L) (hg : w.grownBy w' v.ownBlock) : OwnI w' base v' L :=
  World.ownsRow.kept (row := v.ownBlock) h' hg (by
    cases hv : v'.ownBlock with
    | none => exact .inl rfl
    | some k => exact .inr (fun e => own_two h h' k e.symm hv))
end
theorem wpList_append_str {w : World} {ops : Array Oper} {rest : List Oper} {o : Oper} {a : Act} {Q : Exit → Act → World → Prop} (hgd : o.guard = none) (s x : Operand)
    (ho : o.op = .call { callee := .builtin .append, args := #[s, x], argTypes := #[22, 22] })
    (base : Nat) (v : Value) (S : List ByteArray) (hs : a.eval s = v) (hown : OwnS w base v S) (t : ByteArray) (g : Nat) (hx : a.eval x = .slice (some ⟨g, 0, none⟩) 1 1) (hM : w.cell? ⟨g, 0, none⟩ = some (.string t))
    (hn : S.length ≤ 1048576) (hbase : base ≤ w.heap.size)
    (h : ∀ v' w', OwnS w' base v' (S ++ [t]) → w.grownBy w' v.ownBlock → wpList Try.prog ops Q rest (a.put o.dst v') w') : wpList Try.prog ops Q (o :: rest) a w := by
  obtain ⟨i0, hi0, hz0, hz1, hz2⟩ := info_parts str_info
  refine wpList_append_own w hgd s x _ ho base 9 i0 _ 1 16 Try.underlying22 hi0 hz0 hz1 hz2 rfl (by decide) v S.length (S.map encS) hs hown ⟨g, 0, none⟩ 1 1 [.string t] hx (by simp) ?_ (by simp [Value.oneCell']) (by unfold maxLen; omega) (by omega) hbase ?_
  · intro j u hj
    cases j with
    | zero => simp at hj; subst hj; rw [Addr.add_lit]; exact hM
    | succ j => simp at hj
  · intro v' w' h1 h2 _
    refine h v' w' ?_ h2
    unfold OwnS
    rw [List.length_append, List.map_append]
    exact h1

/-! ### A variable of type Filter -/
def Kf (w : World) (p : Nat) (F : Fl) (A : Option Addr) (c : Nat) : Prop := w.heap[p]? = some (.cells #[.int .i64 F.size, .int .i64 F.hashes, .slice A F.set.length c] 26 (0, 0))
section
variable {w w' : World} {p base : Nat} {F : Fl} {A : Option Addr} {c : Nat} {v : Value} {S : List ByteArray} {L : List Int}
theorem Kf.lt (k : Kf w p F A c) : p < w.heap.size := (Array.getElem?_eq_some_iff.1 k).1
theorem Kf.cells (k : Kf w p F A c) : w.cell? ⟨p, 0, none⟩ = some (.int .i64 F.size) ∧ w.cell? ⟨p, 1, none⟩ = some (.int .i64 F.hashes) ∧ w.cell? ⟨p, 2, none⟩ = some (.slice A F.set.length c) ∧ w.frozen? ⟨p, 0, none⟩ = false ∧ w.frozen? ⟨p, 1, none⟩ = false ∧ w.frozen? ⟨p, 2, none⟩ = false := by
  have k : w.heap[p]? = some (.cells #[.int .i64 F.size, .int .i64 F.hashes, .slice A F.set.length c] 26 (0, 0)) := k
  exact ⟨by rw [cell_of_row w p 0 _ _ (0, 0) k]; rfl, by rw [cell_of_row w p 1 _ _ (0, 0) k]; rfl, by rw [cell_of_row w p 2 _ _ (0, 0) k]; rfl, by simp [World.frozen?, k], by simp [World.frozen?, k], by simp [World.frozen?, k]⟩
theorem Kf.below (k : Kf w p F A c) (hb : Below w.heap.size w w') : Kf w' p F A c := (hb.block p k.lt).trans k
theorem Kf.alloc (k : Kf w p F A c) (o : Obj) : Kf (w.alloc o) p F A c := k.below ((Below.refl _ _).alloc (Nat.le_refl _) o)
theorem Kf.new (w : World) (F : Fl) (A : Option Addr) (c : Nat) : Kf (w.alloc (fo F A c)) w.heap.size F A c := Array.getElem?_push_size
theorem Kf.put3 {G : Fl} {B : Option Addr} {d : Nat} (k : Kf w p F A c) : Kf (((w.setCell ⟨p, 0, none⟩ (.int .i64 G.size)).setCell ⟨p, 1, none⟩ (.int .i64 G.hashes)).setCell ⟨p, 2, none⟩ (.slice B G.set.length d)) p G B d := by
  have k : w.heap[p]? = some (.cells #[.int .i64 F.size, .int .i64 F.hashes, .slice A F.set.length c] 26 (0, 0)) := k
  show (((w.setCell ⟨p, 0, none⟩ _).setCell ⟨p, 1, none⟩ _).setCell ⟨p, 2, none⟩ _).heap[p]? = _
  simp [World.setCell, Array.getElem?_modify, k]
theorem Kf.ownS (k : Kf w p F A c) (ho : OwnS w base v S) : v.ownBlock ≠ some p := by
  intro e
  rcases ho.2 with ⟨rfl, -⟩ | ⟨g, cap, cur, rfl, -, hg, -⟩
  · cases e
  · cases e
    have k : w.heap[g]? = some (.cells #[.int .i64 F.size, .int .i64 F.hashes, .slice A F.set.length c] 26 (0, 0)) := k
    rw [hg] at k
    simp at k
theorem Kf.ownI (k : Kf w p F A c) (ho : OwnI w base v L) : v.ownBlock ≠ some p := by
  intro e
  rcases ho.2 with ⟨rfl, -⟩ | ⟨g, cap, cur, rfl, -, hg, -⟩
  · cases e
  · cases e
    have k : w.heap[g]? = some (.cells #[.int .i64 F.size, .int .i64 F.hashes, .slice A F.set.length c] 26 (0, 0)) := k
    rw [hg] at k
    simp at k
theorem Kf.grownS (k : Kf w p F A c) (ho : OwnS w base v S) (hg : w.grownBy w' v.ownBlock) : Kf w' p F A c := (hg.block p k.lt (fun e => k.ownS ho e.symm)).trans k
theorem Kf.grownI (k : Kf w p F A c) (ho : OwnI w base v L) (hg : w.grownBy w' v.ownBlock) : Kf w' p F A c := (hg.block p k.lt (fun e => k.ownI ho e.symm)).trans k
end
theorem bel_al {B : Nat} {w w' : World} (h : Below B w w') (hB : B ≤ w'.heap.size) (o : Obj) : Below B w (w'.alloc o) := h.alloc hB o
theorem bel_set {B : Nat} {w w' : World} (h : Below B w w') {a : Addr} (ha : B ≤ a.block) (u : Value) : Below B w (w'.setCell a u) :=
  h.trans ⟨rfl, rfl, rfl, by simp [World.setCell], fun k hk => Below.heap_setCell w' a u k (by omega)⟩
theorem bel_set3 {B : Nat} {w w' : World} (h : Below B w w') {p : Nat} (hp : B ≤ p) (a b c : Value) : Below B w (((w'.setCell ⟨p, 0, none⟩ a).setCell ⟨p, 1, none⟩ b).setCell ⟨p, 2, none⟩ c) :=
  bel_set (bel_set (bel_set h (a := ⟨p, 0, none⟩) hp a) (a := ⟨p, 1, none⟩) hp b) (a := ⟨p, 2, none⟩) hp c
theorem ints_set3 {w : World} {A : Option Addr} {c p : Nat} {L : List Int} (h : Ints w A c L) (hp : ∀ a, A = some a → a.block ≠ p) (a b d : Value) : Ints (((w.setCell ⟨p, 0, none⟩ a).setCell ⟨p, 1, none⟩ b).setCell ⟨p, 2, none⟩ d) A c L :=
  ((h.setCell (p := ⟨p, 0, none⟩) hp a).setCell (p := ⟨p, 1, none⟩) hp b).setCell (p := ⟨p, 2, none⟩) hp d
theorem ownI_set3 {w : World} {base p : Nat} {v : Value} {L : List Int} (h : OwnI w base v L) (hp : v.ownBlock ≠ some p) (a b c : Value) : OwnI (((w.setCell ⟨p, 0, none⟩ a).setCell ⟨p, 1, none⟩ b).setCell ⟨p, 2, none⟩ c) base v L := by
  have st : ∀ (w : World) (j : Nat) (u : Value), OwnI w base v L → OwnI (w.setCell ⟨p, j, none⟩ u) base v L := fun w j u h => World.ownsRow.kept (row := some p) h ⟨rfl, rfl, rfl, by simp [World.setCell], fun k hk hne => Below.heap_setCell w ⟨p, j, none⟩ u k (fun e => hne (by rw [e]))⟩ (.inr hp)
  exact st _ _ _ (st _ _ _ (st _ _ _ h))
theorem ints_grown {w w' : World} {A : Option Addr} {c : Nat} {L : List Int} {q : Option Nat} (h : Ints w A c L) (hg : w.grownBy w' q) (hq : ∀ a, A = some a → q ≠ some a.block) : Ints w' A c L :=
  ⟨h.1, h.2.1, h.2.2.1, fun hl => by
    obtain ⟨b, o, e, h1, h2⟩ := h.2.2.2 hl
    exact ⟨b, o, e, Nat.lt_of_lt_of_le h1 hg.size, fun i hi => (World.cell?_of_block (w := w) (a := ⟨b, _, none⟩) (hg.block b h1 (fun e2 => hq _ e e2.symm))).trans (h2 i hi)⟩⟩
theorem ownI_below {w w' : World} {base : Nat} {v : Value} {L : List Int} (h : OwnI w base v L) (hb : Below w.heap.size w w') : OwnI w' base v L :=
  World.ownsRow.kept (row := none) h ⟨hb.os, hb.tape, hb.output, hb.size, fun k hk _ => hb.block k hk⟩ (by cases v.ownBlock with | none => exact .inl rfl | some k => exact .inr (by simp))

/-! ### The facts -/
/-- What is known of the filter, the names and the keys behind i strings. -/
structure IV (i : Nat) (G : Fl) (N : List ByteArray) (K : List Int) : Prop where
  may : ∀ n ∈ N, errS G n = 0 ∧ mayM G n = true
  keys : ∀ k ∈ K, 0 ≤ k ∧ k < (N.length : Int)
  klen : K.length = i
  nlen : N.length ≤ i
  size : ∀ n ∈ N, n.size ≤ maxLen
theorem iv_add {i : Nat} {G : Fl} {N : List ByteArray} {K : List Int} {s : ByteArray} (h : IV i G N K) (he : errS G s = 0) (hs : s.size ≤ maxLen) (kk : Nat) (hk : kk ≤ N.length) :
    addM G s = addL G s ∧ (kk = N.length → IV (i + 1) (addL G s) (N ++ [s]) (K ++ [(kk : Int)])) ∧ (kk < N.length → IV (i + 1) (addL G s) N (K ++ [(kk : Int)])) := by
  obtain ⟨gG, hsz⟩ := errS_ok he
  have ga := good_add gG s
  have hN : ∀ n ∈ N, errS (addL G s) n = 0 ∧ mayM (addL G s) n = true := fun n hn => by
    obtain ⟨e1, e2⟩ := h.may n hn
    have e := errS_of ga (errS_ok e1).2
    refine ⟨e, ?_⟩
    unfold mayM at e2 ⊢
    rw [if_pos e1] at e2
    rw [if_pos e]
    exact may_later e2
  have hS : errS (addL G s) s = 0 ∧ mayM (addL G s) s = true := by
    have e := errS_of ga hsz
    exact ⟨e, by unfold mayM; rw [if_pos e]; exact may_added _ _⟩
  refine ⟨by unfold addM; rw [if_pos he], fun e => ⟨fun n hn => ?_, fun k hk' => ?_, by rw [List.length_append, h.klen]; rfl, by rw [List.length_append]; have := h.nlen; simp; omega, fun n hn => ?_⟩, fun e => ⟨hN, fun k hk' => ?_, by rw [List.length_append, h.klen]; rfl, by have := h.nlen; omega, h.size⟩⟩
  · rcases List.mem_append.1 hn with m | m
    · exact hN n m
    · simp only [List.mem_singleton] at m; subst m; exact hS
  · rw [List.length_append, List.length_singleton]
    rcases List.mem_append.1 hk' with m | m
    · have := h.keys k m; omega
    · simp only [List.mem_singleton] at m; omega
  · rcases List.mem_append.1 hn with m | m
    · exact h.size n m
    · simp only [List.mem_singleton] at m; subst m; exact hs
  · rcases List.mem_append.1 hk' with m | m
    · exact h.keys k m
    · simp only [List.mem_singleton] at m; omega
theorem rnL_mem {r y : Int} {K : List Int} (h : y ∈ Lru.rnL r [] K) : y ∈ K := by
  unfold Lru.rnL at h
  split at h
  · rcases Lru.runL_mem h with m | m
    · simp at m
    · exact m
  · simp at h

theorem beq_no {a b : ByteArray} (h : a ≠ b) : (a.toList == b.toList) = false := by
  rw [Bool.eq_false_iff]; intro hx; rw [beq_iff_eq, ByteArray.toList_eq, ByteArray.toList_eq] at hx; exact h (ByteArray.ext (Array.toList_inj.mp hx))
abbrev z3' : Obj := .cells #[.int .i64 0, .int .i64 0, .slice none 0 0] 26
theorem own_lt {w : World} {base : Nat} {v : Value} {S : List ByteArray} (h : OwnS w base v S) : ∀ g, v.ownBlock = some g → g < w.heap.size := fun g e => (h.lt g e).2
theorem ownI_lt {w : World} {base : Nat} {v : Value} {L : List Int} (h : OwnI w base v L) : ∀ g, v.ownBlock = some g → g < w.heap.size := fun g e => (h.lt g e).2

set_option maxHeartbeats 20000000 in
theorem topFilter_walk (room size hashes : Int) (A : Option Addr) (c : Nat) (S : List ByteArray) (other : ByteArray) (w : World) (hS : Strs w A c S) (ho : other.size ≤ maxLen) :
    Calls Try.prog 3 #[.int .i64 room, .int .i64 size, .int .i64 hashes, .slice A S.length c, .string other] w fun e w' => e = .returned (.bool true) ∧ Below w.heap.size w w' := by
  have hlen : S.length ≤ 9223372036854775807 := hS.1
  have HS := Lib.hid hS
  have HO := Lib.hid ho
  clear hS ho
  obtain ⟨ln, hln⟩ : ∃ ln, S.length = ln := ⟨_, rfl⟩
  have HLN := Lib.hid hln
  rw [hln] at hlen ⊢
  clear hln
  go_enter Try.func3, Try.ntmps3
  go_wp2_with fail
  refine (begun_any _).mono ?_
  rintro e w0 ⟨rfl, hb0⟩
  have HB0 := Lib.hid hb0
  clear hb0
  have HK0 := Lib.hid (Kf.new w0 ⟨size, hashes, []⟩ none 0)
  have HB1 : Hid (Below w0.heap.size w0 (w0.alloc (fo ⟨size, hashes, []⟩ none 0))) := Lib.hid (bel_al (Below.refl _ _) (Nat.le_refl _) _)
  have HI0 : Hid (Ints (w0.alloc (fo ⟨size, hashes, []⟩ none 0)) none 0 (Fl.mk size hashes []).set) := Lib.hid (Ints.none_ _)
  go_wp2
  go_loopw [12, 13, 14] (fun vk vn i wr => ∃ (k : Nat) (G : Fl) (N : List ByteArray) (K : List Int) (A' : Option Addr) (c' : Nat), k ≤ ln ∧ k ≤ 60 ∧ i = .int .i64 (k : Int) ∧ Hid (IV k G N K) ∧ Hid (OwnI wr w0.heap.size vk K) ∧ Hid (OwnS wr w0.heap.size vn N) ∧ Hid (Kf wr w0.heap.size G A' c') ∧ Hid (Ints wr A' c' G.set) ∧ Hid (Below w0.heap.size w0 wr)) (fun _ _ i _ => ln - (intOf i).toNat)
  case atStart => exact ⟨0, ⟨size, hashes, []⟩, [], [], none, 0, by omega, by omega, rfl, Lib.hid ⟨fun n hn => by simp at hn, fun k hk => by simp at hk, rfl, Nat.le_refl _, fun n hn => by simp at hn⟩, Lib.hid (World.ownsRow_nil _ _ _ _), Lib.hid (World.ownsRow_nil _ _ _ _), HK0, HI0, HB1⟩
  case round =>
    clear HK0 HI0 HB1
    obtain ⟨k, G, N, K, A', c', hk, hk60, rfl, HIV, HOk, HOn, HKf, HI, HBr⟩ := hrel
    have HBw : Hid (Below w.heap.size w wr) := Lib.hid (HB0.out.trans (HBr.out.mono HB0.out.size))
    have HSr := Lib.hid (HS.out.below HBw.out)
    obtain ⟨An, cn, rfl, hNs⟩ := HOn.out.form
    have HNs := Lib.hid hNs
    obtain ⟨Ak, ck, rfl, hIk⟩ := ints_of_own HOk.out
    have HIk := Lib.hid hIk
    have HKl := Lib.hid HIV.out.klen
    have HNl := Lib.hid HIV.out.nlen
    clear hNs hIk
    obtain ⟨m, hm⟩ : ∃ m, N.length = m := ⟨_, rfl⟩
    obtain ⟨lk, hlk⟩ : ∃ lk, K.length = lk := ⟨_, rfl⟩
    have HM := Lib.hid hm
    have HLK := Lib.hid hlk
    have hm60 : m ≤ 60 := by have := HNl.out; omega
    rw [hm] at HOn HNs
    rw [hlk] at HOk
    rw [hm, hlk]
    clear hm hlk
    have hb0 : ¬ (k < ln ∧ k < 60) ∨ (k < ln ∧ k < 60) := by omega
    rcases hb0 with hexit | ⟨hlt, hlt60⟩
    · have HRn := Lib.hid (Lru.run_any room none Ak 0 ck [] K wr (Ints.none_ _) HIk.out)
      unfold Lru.NR at HRn
      rw [HLK.out] at HRn
      have HMem : Hid (∀ y ∈ Lru.rnL room [] K, 0 ≤ y ∧ y < (m : Int)) := Lib.hid (fun y hy => by have := HIV.out.keys y (rnL_mem hy); rw [HM.out] at this; exact this)
      generalize Lru.rnL room [] K = L9 at *
      generalize Lru.rnR room [] K = R9 at *
      generalize Lru.rnH room [] K = H9 at *
      generalize Lru.rnE room [] K = E9 at *
      obtain ⟨l9, hl9⟩ : ∃ l9, L9.length = l9 := ⟨_, rfl⟩
      have HL9 := Lib.hid hl9
      simp only [Lru.cv, hl9] at HRn
      clear hl9
      have hd : (k < ln ∧ ¬ k < 60) ∨ ¬ k < ln := by omega
      clear hexit
      rcases hd with ⟨hd1, hd2⟩ | hd1
      all_goals
        go_wp2_with fail
        refine HRn.out.mono ?_
        rintro e w9 ⟨A9, c9, rfl, hI9, -, hb9⟩
        have hl9m : l9 ≤ maxLen := by rw [← HL9.out]; exact Nat.le_trans hI9.1 hI9.2.1
        have hb10 := bel_al hb9 hb9.size (.cells #[.int .i64 R9, .slice A9 l9 c9] 31)
        have C10 : Hid ((w9.alloc (.cells #[.int .i64 R9, .slice A9 l9 c9] 31)).cell? ⟨w9.heap.size, 1, none⟩ = some (.slice A9 l9 c9)) := Lib.hid (by simp [go_sem])
        have Z10 : Hid (w9.heap.size < (w9.alloc (.cells #[.int .i64 R9, .slice A9 l9 c9] 31)).heap.size) := Lib.hid (by simp)
        have J10 := Lib.hid (hI9.alloc (.cells #[.int .i64 R9, .slice A9 l9 c9] 31))
        have K10 := Lib.hid (HKf.out.below hb10)
        have I10 := Lib.hid (HI.out.below hb10)
        have N10 := Lib.hid (OwnS.below HOn.out hb10)
        have B10 : Hid (Below w.heap.size w (w9.alloc (.cells #[.int .i64 R9, .slice A9 l9 c9] 31))) := Lib.hid (HBw.out.trans (hb10.mono HBw.out.size))
        clear hI9 hb9 hb10
        by_cases hE : E9 = 0
        · subst hE
          unfold maxLen at hl9m
          go_wp2
          generalize w9.heap.size = p9 at *
          generalize w9.alloc (.cells #[.int .i64 R9, .slice A9 l9 c9] 31) = w10 at *
          go_loopw [22] (fun i ws => ∃ j : Nat, j ≤ l9 ∧ i = .int .i64 (j : Int) ∧ Hid (Below w10.heap.size w10 ws)) (fun i _ => l9 - (intOf i).toNat)
          case atStart => exact ⟨0, by omega, rfl, Lib.hid (Below.refl _ _)⟩
          case round =>
            obtain ⟨j, hj, rfl, HBs⟩ := hrel
            rename World => ws
            have HBws : Hid (Below w.heap.size w ws) := Lib.hid (B10.out.trans (HBs.out.mono B10.out.size))
            have Ks := Lib.hid (K10.out.below HBs.out)
            have Is := Lib.hid (I10.out.below HBs.out)
            have Ns := Lib.hid (N10.out.below HBs.out)
            have c1 : ws.cell? ⟨p9, 1, none⟩ = some (.slice A9 l9 c9) := (HBs.out.cell (p := ⟨p9, 1, none⟩) Z10.out).trans C10.out
            by_cases hlt : j < l9
            · have hjn : (j : Int) < (l9 : Int) := by omega
              have HJL : Hid (j < L9.length) := Lib.hid (by rw [HL9.out]; exact hlt)
              obtain ⟨b9, o9, rfl, ht⟩ := (J10.out.below HBs.out).2.2.2 (by have := HJL.out; omega)
              have e1 := ht.2 j HJL.out
              have hbl := ht.1
              clear ht
              obtain ⟨q1, q2⟩ := HMem.out _ (gi_mem HJL.out)
              obtain ⟨x, hx⟩ : ∃ x : Nat, gi L9 j = (x : Int) := ⟨(gi L9 j).toNat, by omega⟩
              rw [hx] at e1 q1 q2
              have hxm : x < m := by omega
              obtain ⟨g, rfl, -, -, -⟩ := HNs.out (by omega)
              have HXN : Hid (x < N.length) := Lib.hid (by rw [HM.out]; exact hxm)
              have e2 := Ns.out.cells HM.out.symm (i := x) HXN.out
              obtain ⟨m1, m2⟩ := HIV.out.may _ (gs_mem HXN.out)
              have HMy := Lib.hid (may_any G A' c' (gs N x) ws.drew (Is.out.below (Below.refl _ _).drew) (HIV.out.size _ (gs_mem HXN.out)))
              rw [m1, m2] at HMy
              have hgl : g < ws.heap.size := (cell_spot e2).2
              clear m1 m2 hx
              generalize gs N x = t at *
              have d1 : decide ((x : Int) < 0) = false := by simp
              have d2 : decide ((m : Int) ≤ (x : Int)) = false := by simp; omega
              have HSS : Hid (∀ W, Below ws.heap.size ws W → W.cell? ⟨w0.heap.size, 0, none⟩ = some (.int .i64 G.size) ∧ W.cell? ⟨w0.heap.size, 1, none⟩ = some (.int .i64 G.hashes) ∧ W.cell? ⟨w0.heap.size, 2, none⟩ = some (.slice A' G.set.length c') ∧ W.cell? ⟨p9, 1, none⟩ = some (.slice (some ⟨b9, o9, none⟩) l9 c9) ∧ W.cell? ⟨b9, o9 + j, none⟩ = some (.int .i64 (x : Int)) ∧ W.cell? ⟨g, x, none⟩ = some (.string t)) := Lib.hid (fun W hW => by
                obtain ⟨z1, z2, z3, -⟩ := (Ks.out.below hW).cells
                exact ⟨z1, z2, z3, (hW.cell (p := ⟨p9, 1, none⟩) (Nat.lt_of_lt_of_le Z10.out HBs.out.size)).trans c1, (hW.cell (p := ⟨b9, _, none⟩) hbl).trans e1, (hW.cell (p := ⟨g, _, none⟩) hgl).trans e2⟩)
              go_wp2
              clear c1 e1 e2
              go_region_held3 (fun w' => w'.cell? ⟨w0.heap.size, 0, none⟩ = some (.int .i64 G.size) ∧ w'.cell? ⟨w0.heap.size, 1, none⟩ = some (.int .i64 G.hashes) ∧ w'.cell? ⟨w0.heap.size, 2, none⟩ = some (.slice A' G.set.length c') ∧ w'.cell? ⟨p9, 1, none⟩ = some (.slice (some ⟨b9, o9, none⟩) l9 c9) ∧ w'.cell? ⟨b9, o9 + j, none⟩ = some (.int .i64 (x : Int)) ∧ w'.cell? ⟨g, x, none⟩ = some (.string t))
                (first | exact HSS.out _ hbb | exact HSS.out _ (Below.refl _ _).drew)
                (first | (go_at_call 7; refine HMy.out.mono ?_; rintro e wd ⟨rfl, hbd⟩; have hbb : Below ws.heap.size ws wd := (Below.refl _ _).drew.trans hbd))
              rename_i hHH
              have HB5 : Hid (Below w10.heap.size w10 wd) := Lib.hid (HBs.out.trans (hbb.mono HBs.out.size))
              clear hHH hbb hbd
              go_wp2
              go_roundw
              case rel => exact ⟨j + 1, by omega, by go_num, HB5⟩
              case measure => simp [intOf]; omega
            · obtain rfl : j = l9 := by omega
              have HMo := Lib.hid (may_any G A' c' other ws Is.out HO.out)
              obtain ⟨z1, z2, z3, -, -, -⟩ := Ks.out.cells
              clear hlt
              by_cases hg : errS G other = 0
              · by_cases hm : mayM G other = true
                · rw [hg, hm] at HMo
                  clear hg hm
                  go_wp2_with fail
                  refine HMo.out.mono ?_
                  rintro e wd ⟨rfl, hbd⟩
                  have HB5 : Hid (Below w.heap.size w wd) := Lib.hid (HBws.out.trans (hbd.mono HBws.out.size))
                  clear hbd c1 z1 z2 z3
                  go_wp2
                  go_ret
                  exact ⟨rfl, HB5.out⟩
                · have hm2 : mayM G other = false := by simpa using hm
                  have HNo : Hid (∀ n ∈ N, n ≠ other) := Lib.hid (fun n hn e => by have := (HIV.out.may n hn).2; rw [e, hm2] at this; cases this)
                  rw [hg, hm2] at HMo
                  clear hg hm hm2
                  go_wp2_with fail
                  refine HMo.out.mono ?_
                  rintro e wd ⟨rfl, hbd⟩
                  have HB5 : Hid (Below w.heap.size w wd) := Lib.hid (HBws.out.trans (hbd.mono HBws.out.size))
                  have Nd := Lib.hid (Ns.out.below hbd)
                  clear hbd c1 z1 z2 z3
                  go_wp2
                  go_loop [27] (fun i => ∃ q : Nat, q ≤ m ∧ i = .int .i64 (q : Int)) (fun i => m - (intOf i).toNat)
                  case atStart => exact ⟨0, by omega, rfl⟩
                  case round =>
                    obtain ⟨q, hq, rfl⟩ := hrel
                    by_cases hlt2 : q < m
                    · have hqn : (q : Int) < (m : Int) := by omega
                      have HQN : Hid (q < N.length) := Lib.hid (by rw [HM.out]; exact hlt2)
                      obtain ⟨g, rfl, -, -, -⟩ := HNs.out (by omega)
                      have e2 := Nd.out.cells HM.out.symm (i := q) HQN.out
                      have d4 := beq_no (HNo.out _ (gs_mem HQN.out))
                      generalize gs N q = t at *
                      go_wp2
                      go_round
                      case rel => exact ⟨q + 1, by omega, by go_num⟩
                      case measure => simp [intOf]; omega
                    · obtain rfl : q = m := by omega
                      go_wp2
                      go_ret
                      exact ⟨rfl, HB5.out⟩
              · have d1 : (errS G other != 0) = true := by simpa using hg
                clear hg
                go_wp2_with fail
                refine HMo.out.mono ?_
                rintro e wd ⟨rfl, hbd⟩
                have HB5 : Hid (Below w.heap.size w wd) := Lib.hid (HBws.out.trans (hbd.mono HBws.out.size))
                clear hbd c1 z1 z2 z3
                go_wp2
                go_ret
                exact ⟨rfl, HB5.out⟩
        · have d1 : (E9 != 0) = true := by simpa using hE
          clear hE
          go_wp2
          go_ret
          exact ⟨rfl, B10.out⟩
    · have hkn : (k : Int) < (ln : Int) := by omega
      have hk6 : (k : Int) < 60 := by omega
      have HKX : Hid (k < S.length) := Lib.hid (by rw [HLN.out]; exact hlt)
      obtain ⟨b, o, rfl, hbl, hcs⟩ := HS.out.2.2 (by have := HKX.out; omega)
      have HCe : Hid (∀ W, Below w.heap.size w W → W.cell? ⟨b, o + k, none⟩ = some (.string (gs S k))) := Lib.hid (fun W hW => (hW.cell (p := ⟨b, _, none⟩) hbl).trans (hcs k HKX.out))
      have HSk : Hid ((gs S k).size ≤ maxLen) := Lib.hid (HS.out.2.1 _ (gs_mem HKX.out))
      clear hcs
      have HAd := Lib.hid (fun (W : World) (hW : Ints W A' c' G.set) => add_any G A' c' (gs S k) W hW HSk.out)
      unfold FltR at HAd
      generalize gs S k = s at *
      go_upto_region 9 with fail
      go_cut [15, 16] from 33 to 93 (fun s15 s16 wx => ∃ p A1 c1, s15 = .pointer (some ⟨p, 0, none⟩) ∧ s16 = .int .i64 (errS G s) ∧ Kf wx p (addM G s) A1 c1 ∧ Ints wx A1 c1 (addM G s).set ∧ (∀ a, A1 = some a → wr.heap.size ≤ a.block) ∧ wr.heap.size ≤ p ∧ Below wr.heap.size wr wx)
      case first =>
        as_aux_lemma =>
          have HSS : Hid (∀ W, Below wr.heap.size wr W → W.cell? ⟨w0.heap.size, 0, none⟩ = some (.int .i64 G.size) ∧ W.cell? ⟨w0.heap.size, 1, none⟩ = some (.int .i64 G.hashes) ∧ W.cell? ⟨w0.heap.size, 2, none⟩ = some (.slice A' G.set.length c') ∧ W.cell? ⟨b, o + k, none⟩ = some (.string s)) := Lib.hid (fun W hW => by
            obtain ⟨z1, z2, z3, -⟩ := (HKf.out.below hW).cells
            exact ⟨z1, z2, z3, HCe.out W (HBw.out.trans (hW.mono HBw.out.size))⟩)
          go_region_held3 (fun w' => w'.cell? ⟨w0.heap.size, 0, none⟩ = some (.int .i64 G.size) ∧ w'.cell? ⟨w0.heap.size, 1, none⟩ = some (.int .i64 G.hashes) ∧ w'.cell? ⟨w0.heap.size, 2, none⟩ = some (.slice A' G.set.length c') ∧ w'.cell? ⟨b, o + k, none⟩ = some (.string s))
            (first | exact HSS.out _ hb9 | exact HSS.out _ (Below.refl _ _).drew | exact HSS.out _ (bel_al (Below.refl _ _) (Nat.le_refl _) _).drew | exact HSS.out _ (bel_al hb9 hb9.size _) | exact HSS.out _ (bel_set3 hb9 (Nat.le_refl _) _ _ _))
            (first
              | (go_at_call 5; refine (HAd.out wr.drew (HI.out.below (Below.refl _ _).drew)).mono ?_; rintro e w9 ⟨A9, c9, rfl, hi9, hf9, hb9'⟩; have hb9 : Below wr.heap.size wr w9 := (Below.refl _ _).drew.trans hb9')
              | (go_at_call 5; refine (HAd.out (wr.alloc z3').drew (HI.out.below (bel_al (Below.refl _ _) (Nat.le_refl _) _).drew)).mono ?_; rintro e w9 ⟨A9, c9, rfl, hi9, hf9, hb9'⟩; have hb8 : Below (wr.alloc z3').heap.size (wr.alloc z3') w9 := (Below.refl _ _).drew.trans hb9'; have hb9 : Below wr.heap.size wr w9 := (bel_al (Below.refl _ _) (Nat.le_refl _) _).trans (hb8.mono (by simp)); have hzd := (Kf.new wr Fl.no none 0).below hb8; obtain ⟨r0, r1, r2, f0, f1, f2⟩ := hzd.cells))
          · rename_i hHH
            clear hHH
            have HP := Lib.hid (Kf.new w9 (addM G s) A9 c9)
            have HQ := Lib.hid (bel_al hb9 hb9.size (fo (addM G s) A9 c9))
            go_wp2
            go_meet
            exact ⟨_, A9, c9, rfl, rfl, HP.out, hi9.alloc _, fun a ha => hf9 a ha, hb9.size, HQ.out⟩
          · rename_i hHH
            clear hHH
            have HP := Lib.hid (hzd.put3 (G := addM G s) (B := A9) (d := c9))
            have HQ := Lib.hid (bel_set3 hb9 (p := wr.heap.size) (Nat.le_refl _) (.int .i64 (addM G s).size) (.int .i64 (addM G s).hashes) (.slice A9 (addM G s).set.length c9))
            go_wp2
            go_meet
            exact ⟨_, A9, c9, rfl, rfl, HP.out, ints_set3 hi9 (fun a ha => by have := hf9 a ha; simp at this; omega) _ _ _, fun a ha => by have := hf9 a ha; simp at this; omega, Nat.le_refl _, HQ.out⟩
      case rest =>
        obtain ⟨p8, B8, d8, rfl, rfl, hk8, hi8, ha8, hp8, hb8⟩ := hcut
        rename World => wc
        have HBc : Hid (Below w.heap.size w wc) := Lib.hid (HBw.out.trans (hb8.mono HBw.out.size))
        by_cases he : errS G s = 0
        · have HAd2 := Lib.hid (fun kk hk => iv_add HIV.out he HSk.out kk hk)
          have hM : addM G s = addL G s := by unfold addM; rw [if_pos he]
          rw [hM] at hk8 hi8
          rw [he]
          have HNx : Hid (∀ kk, kk ≤ m → (kk = m → IV (k + 1) (addL G s) (N ++ [s]) (K ++ [(kk : Int)])) ∧ (kk < m → IV (k + 1) (addL G s) N (K ++ [(kk : Int)]))) := Lib.hid (fun kk hk => by have := HAd2.out kk (by rw [HM.out]; exact hk); rw [HM.out] at this; exact this.2)
          clear HAd2 he hM
          generalize addL G s = G2 at *
          have hpf : w0.heap.size < wr.heap.size := HKf.out.lt
          have hKc := HKf.out.below hb8
          have K2 := Lib.hid (hKc.put3 (G := G2) (B := B8) (d := d8))
          have I2 := Lib.hid (ints_set3 hi8 (p := w0.heap.size) (fun a ha => by have := ha8 a ha; omega) (.int .i64 G2.size) (.int .i64 G2.hashes) (.slice B8 G2.set.length d8))
          have hOkc := ownI_below HOk.out hb8
          have hOnc := OwnS.below HOn.out hb8
          have Ok2 := Lib.hid (ownI_set3 hOkc (hKc.ownI hOkc) (.int .i64 G2.size) (.int .i64 G2.hashes) (.slice B8 G2.set.length d8))
          have On2 := Lib.hid (hOnc.set3 (hKc.ownS hOnc) (.int .i64 G2.size) (.int .i64 G2.hashes) (.slice B8 G2.set.length d8))
          have B2 := Lib.hid (bel_set3 (HBr.out.trans (hb8.mono HBr.out.size)) (p := w0.heap.size) (Nat.le_refl _) (.int .i64 G2.size) (.int .i64 G2.hashes) (.slice B8 G2.set.length d8))
          have Lk : Hid (∀ a, B8 = some a → Value.ownBlock (.slice Ak lk ck) ≠ some a.block) := Lib.hid (fun a ha e => by have := ownI_lt HOk.out _ e; have := ha8 a ha; omega)
          have Lnn : Hid (∀ a, B8 = some a → Value.ownBlock (.slice An m cn) ≠ some a.block) := Lib.hid (fun a ha e => by have := own_lt HOn.out _ e; have := ha8 a ha; omega)
          obtain ⟨x1, x2, x3, y1, y2, y3⟩ := hKc.cells
          obtain ⟨v1, v2, v3, -, -, -⟩ := hk8.cells
          have HZ2 : Hid (∀ a, B8 = some a → w0.heap.size < a.block) := Lib.hid (fun a ha => by have := ha8 a ha; omega)
          clear hk8 hi8 ha8 hp8 hb8 hKc hOkc hOnc hpf HI HKf HOk HOn HIk
          go_wp2
          clear x1 x2 x3 y1 y2 y3 v1 v2 v3
          generalize (((wc.setCell ⟨w0.heap.size, 0, none⟩ (.int .i64 G2.size)).setCell ⟨w0.heap.size, 1, none⟩ (.int .i64 G2.hashes)).setCell ⟨w0.heap.size, 2, none⟩ (.slice B8 G2.set.length d8)) = w2 at *
          have HBw2 : Hid (Below w.heap.size w w2) := Lib.hid (HB0.out.trans (B2.out.mono HB0.out.size))
          go_loopw [17, 18] (fun q j ws => ∃ (kk jj : Nat), kk ≤ m ∧ jj ≤ m ∧ q = .int .i64 (kk : Int) ∧ j = .int .i64 (jj : Int) ∧ Hid (Below w2.heap.size w2 ws)) (fun _ j _ => m - (intOf j).toNat)
          case atStart => exact ⟨m, 0, by omega, by omega, rfl, rfl, Lib.hid (Below.refl _ _)⟩
          case round =>
            obtain ⟨kk, jj, hkk, hjj, rfl, rfl, HBs⟩ := hrel
            rename World => ws
            have HBws : Hid (Below w.heap.size w ws) := Lib.hid (HBw2.out.trans (HBs.out.mono HBw2.out.size))
            by_cases hlt2 : jj < m
            · have hjn : (jj : Int) < (m : Int) := by omega
              obtain ⟨g, rfl, -⟩ := HNs.out (by omega)
              have e2 := (On2.out.below HBs.out).cells HM.out.symm (i := jj) (by rw [HM.out]; exact hlt2)
              have e3 := HCe.out ws HBws.out
              generalize gs N jj = t at *
              obtain ⟨bb, hbb⟩ : ∃ bb : Bool, (t.toList == s.toList) = bb := ⟨_, rfl⟩
              by_cases hkm : kk = m
              · have d1 : ((kk : Int) == (m : Int)) = true := by simp [hkm]
                cases bb
                all_goals
                  go_wp2
                  go_quiet (fail)
                  have HB5 : Hid (Below w2.heap.size w2 (ws.drewN nq)) := Lib.hid (HBs.out.trans ⟨rfl, rfl, rfl, Nat.le_refl _, fun _ _ => rfl⟩)
                  clear e2 e3
                  generalize ws.drewN nq = w5 at *
                  go_wp2
                  go_roundw
                  case rel => first | exact ⟨kk, jj + 1, hkk, by omega, rfl, by go_num, HB5⟩ | exact ⟨jj, jj + 1, by omega, by omega, rfl, by go_num, HB5⟩
                  case measure => simp [intOf]; omega
              · have d1 : ((kk : Int) == (m : Int)) = false := by simp; omega
                cases bb
                all_goals
                  go_wp2
                  go_quiet (fail)
                  have HB5 : Hid (Below w2.heap.size w2 (ws.drewN nq)) := Lib.hid (HBs.out.trans ⟨rfl, rfl, rfl, Nat.le_refl _, fun _ _ => rfl⟩)
                  clear e2 e3
                  generalize ws.drewN nq = w5 at *
                  go_wp2
                  go_roundw
                  case rel => first | exact ⟨kk, jj + 1, hkk, by omega, rfl, by go_num, HB5⟩ | exact ⟨jj, jj + 1, by omega, by omega, rfl, by go_num, HB5⟩
                  case measure => simp [intOf]; omega
            · obtain rfl : jj = m := by omega
              have On3 := Lib.hid (On2.out.below HBs.out)
              have Ok3 := Lib.hid (ownI_below Ok2.out HBs.out)
              have K3 := Lib.hid (K2.out.below HBs.out)
              have I3 := Lib.hid (I2.out.below HBs.out)
              have B3 : Hid (Below w0.heap.size w0 ws) := Lib.hid (B2.out.trans (HBs.out.mono B2.out.size))
              have Z3 : Hid (w0.heap.size ≤ ws.heap.size) := Lib.hid B3.out.size
              have hlk60 : lk ≤ 60 := by have := HLK.out; have := HKl.out; omega
              clear hlt2 On2 Ok2 K2 I2 B2
              by_cases hkm : kk = jj
              · have d1 : ((kk : Int) == (jj : Int)) = true := by simp [hkm]
                have HIn := Lib.hid ((HNx.out kk hkk).1 hkm)
                have HOa := Lib.hid (On3.out.alloc (.cells #[.string s] 9))
                have HMa : Hid ((ws.alloc (.cells #[.string s] 9)).cell? ⟨ws.heap.size, 0, none⟩ = some (.string s)) := Lib.hid (by simp [go_sem])
                have HKa := Lib.hid (K3.out.alloc (.cells #[.string s] 9))
                have HOk := Lib.hid (own_alloc Ok3.out (.cells #[.string s] 9))
                have HIa := Lib.hid (I3.out.alloc (.cells #[.string s] 9))
                have HBa := Lib.hid (bel_al B3.out Z3.out (.cells #[.string s] 9))
                have HZa : Hid (w0.heap.size ≤ (ws.alloc (.cells #[.string s] 9)).heap.size) := Lib.hid HBa.out.size
                have HNn : Hid (N.length ≤ 1048576) := Lib.hid (by rw [HM.out]; omega)
                have HKn : Hid (K.length + [((kk : Nat) : Int)].length ≤ 1099511627776) := Lib.hid (by rw [HLK.out]; simp; omega)
                have e3 := HCe.out ws HBws.out
                clear hkm
                go_wp2_with (first
                  | (at_builtin; refine wpList_append_str (by rfl) _ _ (by rfl) w0.heap.size _ N (by rfl) HOa.out s _ (by rfl) HMa.out HNn.out HZa.out ?_; intro v4 w4 hown4 hg4; have hK4 := HKa.out.grownS HOa.out hg4; have hOk4 := ownI_grown HOa.out HOk.out hg4; have hI4 := ints_grown HIa.out hg4 (fun a ha e => Lnn.out a ha e); have hB4 := HBa.out.grown hg4 HZa.out (fun q hq => (HOa.out.lt q hq).1); have hOka := own_alloc hOk4 (.cells #[.int .i64 (kk : Int)] 3); have hOna := hown4.alloc (.cells #[.int .i64 (kk : Int)] 3); have hKa := hK4.alloc (.cells #[.int .i64 (kk : Int)] 3); have hIa := hI4.alloc (.cells #[.int .i64 (kk : Int)] 3); have hBa := bel_al hB4 hB4.size (.cells #[.int .i64 (kk : Int)] 3); have hla := ints_lit w4 [(kk : Int)] (by unfold maxLen; simp))
                  | (at_builtin; refine wpList_append_ints (by rfl) _ _ (by rfl) w0.heap.size _ K (by rfl) hOka (some ⟨w4.heap.size, 0, none⟩) 1 [(kk : Int)] (by rfl) hla HKn.out hBa.size ?_; intro v5 w5 hown5 hg5))
                have O5 := Lib.hid hown5
                have N5 := Lib.hid (hOna.grown hOka hg5)
                have K5 := Lib.hid (hKa.grownI hOka hg5)
                have I5 := Lib.hid (ints_grown hIa hg5 (fun a ha e => Lk.out a ha e))
                have B5 := Lib.hid (hBa.grown hg5 hBa.size (fun q hq => (hOka.lt q hq).1))
                clear hown4 hg4 hK4 hOk4 hI4 hB4 hOka hOna hKa hIa hBa hla hown5 hg5 e3
                go_wp2
                go_roundw
                case rel => exact ⟨k + 1, G2, N ++ [s], K ++ [(kk : Int)], B8, d8, by omega, by omega, by go_num, HIn, O5, N5, K5, I5, B5⟩
                case measure => simp [intOf]; omega
              · have d1 : ((kk : Int) == (jj : Int)) = false := by simp; omega
                have HIn := Lib.hid ((HNx.out kk hkk).2 (by omega))
                have HKn : Hid (K.length + [((kk : Nat) : Int)].length ≤ 1099511627776) := Lib.hid (by rw [HLK.out]; simp; omega)
                have hOka := Lib.hid (own_alloc Ok3.out (.cells #[.int .i64 (kk : Int)] 3))
                have hOna := Lib.hid (On3.out.alloc (.cells #[.int .i64 (kk : Int)] 3))
                have hKa := Lib.hid (K3.out.alloc (.cells #[.int .i64 (kk : Int)] 3))
                have hIa := Lib.hid (I3.out.alloc (.cells #[.int .i64 (kk : Int)] 3))
                have hBa := Lib.hid (bel_al B3.out Z3.out (.cells #[.int .i64 (kk : Int)] 3))
                have hla := Lib.hid (ints_lit ws [(kk : Int)] (by unfold maxLen; simp))
                clear hkm
                go_wp2_with (at_builtin; refine wpList_append_ints (by rfl) _ _ (by rfl) w0.heap.size _ K (by rfl) hOka.out (some ⟨ws.heap.size, 0, none⟩) 1 [(kk : Int)] (by rfl) hla.out HKn.out hBa.out.size ?_; intro v5 w5 hown5 hg5)
                have O5 := Lib.hid hown5
                have N5 := Lib.hid (hOna.out.grown hOka.out hg5)
                have K5 := Lib.hid (hKa.out.grownI hOka.out hg5)
                have I5 := Lib.hid (ints_grown hIa.out hg5 (fun a ha e => Lk.out a ha e))
                have B5 := Lib.hid (hBa.out.grown hg5 hBa.out.size (fun q hq => (hOka.out.lt q hq).1))
                clear hown5 hg5
                go_wp2
                go_roundw
                case rel => exact ⟨k + 1, G2, N, K ++ [(kk : Int)], B8, d8, by omega, by omega, by go_num, HIn, O5, N5, K5, I5, B5⟩
                case measure => simp [intOf]; omega
        · have d1 : (errS G s != 0) = true := by simpa using he
          clear hk8 hi8 ha8 hp8 hb8 he
          go_wp2
          go_ret
          exact ⟨rfl, HBc.out⟩

end Go.Proofs.Ytgckghedfhnamaa.Top
