/-
  What changed of package sketch returns, whatever the function value that it is given computes.
-/
import Derived.Test.YtmldjfbnljdamaaSketchWalks2
import Derived.Shelf.Abstract
namespace Go.Proofs.Ytmldjfbnljdamaa.Skt
open Go.RowKit
set_option linter.unusedVariables false

/-- What a cell holds. -/
def rd (w : World) (b o : Nat) : Value := (w.cell? ⟨b, o, none⟩).getD undef
theorem rd_of {w : World} {b o : Nat} (h : ∃ v, w.cell? ⟨b, o, none⟩ = some v) : w.cell? ⟨b, o, none⟩ = some (rd w b o) := by
  obtain ⟨v, h⟩ := h; unfold rd; rw [h]; rfl
theorem rd_set {w : World} {b o : Nat} (h : w.cell? ⟨b, o, none⟩ = some (rd w b o)) (p : Addr) (u : Value) : (w.setCell p u).cell? ⟨b, o, none⟩ = some (rd (w.setCell p u) b o) :=
  rd_of (cell?_setCell_some h)
theorem rd_below {w w' : World} {b o N : Nat} (h : w.cell? ⟨b, o, none⟩ = some (rd w b o)) (hb : Below N w w') (hN : b < N) : w'.cell? ⟨b, o, none⟩ = some (rd w' b o) :=
  rd_of ⟨_, (hb.cell (p := ⟨b, o, none⟩) hN).trans h⟩

/-- A sketch and an error come back. -/
def SkR (T : Sk) (n : Int) (w : World) (e : Ending) (w' : World) : Prop :=
  ∃ A c, e = .returned (.tuple #[sv T A c, .int .i64 n]) ∧ Grid w.heap.size w' A c T.rows ∧ Below w.heap.size w w'

/-- What the function value returns at the sketch's counters. -/
def ChgAt (g : Nat) (lb : Array Value) (F : Nat → Nat → Int → Int) (S : Sk) (w : World) : Prop :=
  ∀ (W : World) (r j : Nat), Below w.heap.size w W → r < S.rows.length → j < (gl S.rows r).length →
    Calls Try.prog g (#[.int .i64 (r : Int), .int .i64 (j : Int), .int .i64 (gi (gl S.rows r) j)] ++ lb) W fun e w' => e = .returned (.int .i64 (F r j (gi (gl S.rows r) j))) ∧ W = w'

def chgE (F : Nat → Nat → Int → Int) (S : Sk) : Int := if fits (chg F S.rows) then 0 else 8
def chgM (F : Nat → Nat → Int → Int) (S : Sk) : Sk := if fits (chg F S.rows) then ⟨S.wide, chg F S.rows⟩ else Sk.no

theorem ints_gb {w w' : World} {A : Option Addr} {c p : Nat} {L : List Int} (h : Ints w A c L) (hg : w.grownBy w' (some p)) (hp : ∀ a, A = some a → a.block ≠ p) : Ints w' A c L :=
  ⟨h.1, h.2.1, h.2.2.1, fun hl => by
    obtain ⟨b, o, e, ht⟩ := h.2.2.2 hl
    have hne : b ≠ p := hp _ e
    exact ⟨b, o, e, Nat.lt_of_lt_of_le ht.1 hg.size, fun i hi => (World.cell?_of_block (w := w) (hg.block b ht.1 (fun e => hne (by cases e; rfl)))).trans (ht.2 i hi)⟩⟩

/-- Block g is a row of m slices of the call's own, of which the first k read as the first k rows of LL. -/
def Og (w : World) (g m : Nat) (LL : List (List Int)) (k : Nat) : Prop :=
  ∃ vs : List Value, w.heap[g]? = some (.cells vs.toArray 22 (0, 0)) ∧ vs.length = m ∧
    ∀ i, i < k → ∃ A c, vs[i]? = some (.slice A (gl LL i).length c) ∧ Ints w A c (gl LL i) ∧ ∀ a, A = some a → g < a.block
section
variable {w w' : World} {g m k : Nat} {LL : List (List Int)}
theorem Og.new (w : World) (m : Nat) (LL : List (List Int)) : Og (w.alloc (.cells (Array.replicate m (.slice none 0 0)) 22)) w.heap.size m LL 0 := by
  rw [← List.toArray_replicate]
  exact ⟨_, heap_alloc_new w _, by simp, fun i hi => by omega⟩
theorem Og.lt (h : Og w g m LL k) : g < w.heap.size := by
  obtain ⟨vs, h1, _⟩ := h; exact (Array.getElem?_eq_some_iff.1 h1).1
theorem Og.cell (h : Og w g m LL k) {j : Nat} (hj : j < m) : ∃ v, w.cell? ⟨g, j, none⟩ = some v := by
  obtain ⟨vs, h1, h2, _⟩ := h
  rw [cell_of_row w g j _ _ (0, 0) h1, List.getElem?_toArray]
  exact ⟨_, List.getElem?_eq_getElem (by omega)⟩
theorem Og.frozen (h : Og w g m LL k) (j : Nat) : w.frozen? ⟨g, j, none⟩ = false := by
  obtain ⟨vs, h1, _⟩ := h; simp [World.frozen?, h1]
theorem Og.below (h : Og w g m LL k) (hb : Below w.heap.size w w') : Og w' g m LL k := by
  have hg := h.lt
  obtain ⟨vs, h1, h2, h3⟩ := h
  refine ⟨vs, (hb.block g hg).trans h1, h2, fun i hi => ?_⟩
  obtain ⟨A, c, a1, a2, a3⟩ := h3 i hi
  exact ⟨A, c, a1, a2.below hb, a3⟩
/-- A cell of the row of slices is written. -/
theorem Og.put (h : Og w g m LL k) (v : Value) : Og (w.setCell ⟨g, k, none⟩ v) g m LL k := by
  have hg := h.lt
  obtain ⟨vs, h1, h2, h3⟩ := h
  refine ⟨vs.set k v, by rw [heap_setCell_same w g k _ _ _ h1, List.setIfInBounds_toArray], by simpa using h2, fun i hi => ?_⟩
  obtain ⟨A, c, a1, a2, a3⟩ := h3 i hi
  refine ⟨A, c, by rw [List.getElem?_set_ne (by omega)]; exact a1, ints_gb (p := g) a2 ⟨rfl, rfl, rfl, by simp [World.setCell], fun j hj hr => Below.heap_setCell _ _ _ _ (fun e => hr (by rw [e]))⟩ (fun a ha => by have := a3 a ha; omega), a3⟩
/-- The next row is finished. -/
theorem Og.step (h : Og w g m LL k) {A : Option Addr} {c : Nat} (hc : w.cell? ⟨g, k, none⟩ = some (.slice A (gl LL k).length c)) (hi : Ints w A c (gl LL k)) (ha : ∀ a, A = some a → g < a.block) : Og w g m LL (k + 1) := by
  obtain ⟨vs, h1, h2, h3⟩ := h
  refine ⟨vs, h1, h2, fun i hik => ?_⟩
  by_cases e : i = k
  · subst e
    rw [cell_of_row w g i _ _ (0, 0) h1, List.getElem?_toArray] at hc
    exact ⟨A, c, hc, hi, ha⟩
  · exact h3 i (by omega)
theorem Og.grid (h : Og w g LL.length LL LL.length) (hl : LL.length ≤ 1048576) : Grid g w (some ⟨g, 0, none⟩) LL.length LL :=
  ⟨Nat.le_refl _, by unfold maxLen; omega, fun e => (by cases e), fun _ => ⟨g, 0, rfl, h.lt, Nat.le_refl _, fun i hi => by
    obtain ⟨vs, h1, h2, h3⟩ := h
    obtain ⟨A, c, a1, a2, a3⟩ := h3 i hi
    exact ⟨A, c, by rw [cell_of_row w g _ _ _ (0, 0) h1, List.getElem?_toArray, Nat.zero_add]; exact a1, a2, fun a ha => Nat.le_of_lt (a3 a ha)⟩⟩⟩
end

/-- A result of the sketch's type (block p) can be written. -/
def Wr (w : World) (p : Nat) : Prop :=
  w.cell? ⟨p, 0, none⟩ = some (rd w p 0) ∧ w.cell? ⟨p, 1, none⟩ = some (rd w p 1) ∧ w.frozen? ⟨p, 0, none⟩ = false ∧ w.frozen? ⟨p, 1, none⟩ = false
theorem Wr.below {w w' : World} {p N : Nat} (h : Wr w p) (hb : Below N w w') (hp : p < N) : Wr w' p :=
  ⟨rd_below h.1 hb hp, rd_below h.2.1 hb hp, (hb.frozen (p := ⟨p, 0, none⟩) hp).trans h.2.2.1, (hb.frozen (p := ⟨p, 1, none⟩) hp).trans h.2.2.2⟩
theorem Wr.new (w : World) (o : Obj) (ho : o = .cells #[.int .i64 0, .slice none 0 0] 26) : Wr (w.alloc o) w.heap.size := by
  subst ho
  exact ⟨rd_of ⟨.int .i64 0, by simp [go_sem]⟩, rd_of ⟨.slice none 0 0, by simp [go_sem]⟩, by simp [go_sem], by simp [go_sem]⟩

/-- A row's slice stands in block q, cell j of the row (block p) can be written, and all below p stands. -/
abbrev SC (q k p j : Nat) (V : Value) (w0 w' : World) : Prop :=
  w'.cell? ⟨q, k, none⟩ = some V ∧ w'.cell? ⟨p, j, none⟩ = some (rd w' p j) ∧ w'.frozen? ⟨p, j, none⟩ = false ∧ Below p w0 w'
theorem SC.set1 {q k p j : Nat} {V : Value} {w0 w' : World} (h : SC q k p j V w0 w') (hq : q < p) (u : Value) : SC q k p j V w0 (w'.setCell ⟨p, j, none⟩ u) := by
  obtain ⟨h1, h2, h3, h4⟩ := h
  have hb : Below p w' (w'.setCell ⟨p, j, none⟩ u) := (Below.refl _ _).setCell (p := ⟨p, j, none⟩) (Nat.le_refl _) u
  exact ⟨(hb.cell (by show q < p; exact hq)).trans h1, rd_set h2 _ u, by simpa [go_sem] using h3, h4.trans hb⟩

set_option maxHeartbeats 8000000 in
theorem changed_any (B : Nat) (S : Sk) (A : Option Addr) (c : Nat) (w : World) (ha : Grid B w A c S.rows) (hf : Fine S) (g : Nat) (lb : Array Value) (F : Nat → Nat → Int → Int)
    (eg : ∀ args w, (callFunc g args).run Try.prog w = .ok (.enter g args) w) (hc : ChgAt g lb F S w) :
    Calls Try.prog 13 #[sv S A c, .func (.func g) #[] lb] w (SkR (chgM F S) (chgE F S) w) := by
  have l1 := hf.l1
  have l2 := hf.l2
  obtain ⟨m, hm⟩ : ∃ m : Nat, S.wide = (m : Int) := ⟨S.wide.toNat, by have := hf.w1; omega⟩
  have m1 : 1 ≤ m := by have := hf.w1; omega
  have m2 : m ≤ 64 := by have := hf.w2; omega
  have HM := Lib.hid hm
  have HF := Lib.hid hf
  have HC := Lib.hid hc
  have HLen : Hid (∀ r, r < S.rows.length → (gl S.rows r).length = m) := Lib.hid (fun r hr => by have := hf.len r hr; omega)
  have h1 : Below w.heap.size w (((w.alloc (so S A c)).alloc (.cells #[.int .i64 0, .slice none 0 0] 26)).alloc (.cells (Array.replicate S.rows.length (.slice none 0 0)) 22)) :=
    (((Below.refl _ w).alloc (Nat.le_refl _) (so S A c)).alloc (by simp) _).alloc (by simp; omega) _
  have HGr := Lib.hid ha
  have H1 := Lib.hid h1
  have HO : Hid (Og (((w.alloc (so S A c)).alloc (.cells #[.int .i64 0, .slice none 0 0] 26)).alloc (.cells (Array.replicate S.rows.length (.slice none 0 0)) 22)) (w.heap.size + 1 + 1) S.rows.length (chg F S.rows) 0) := Lib.hid (by
    have := Og.new ((w.alloc (so S A c)).alloc (.cells #[.int .i64 0, .slice none 0 0] 26)) S.rows.length (chg F S.rows)
    simpa using this)
  have HX : Hid (Wr (((w.alloc (so S A c)).alloc (.cells #[.int .i64 0, .slice none 0 0] 26)).alloc (.cells (Array.replicate S.rows.length (.slice none 0 0)) 22)) (w.heap.size + 1)) := Lib.hid (by
    have := (Wr.new (w.alloc (so S A c)) _ rfl).below (N := w.heap.size + 2) ((Below.refl _ _).alloc (by simp) (.cells (Array.replicate S.rows.length (.slice none 0 0)) 22)) (by simp)
    simpa using this)
  have b0 : (((w.alloc (so S A c)).alloc (.cells #[.int .i64 0, .slice none 0 0] 26)).alloc (.cells (Array.replicate S.rows.length (.slice none 0 0)) 22)).cell? ⟨w.heap.size, 0, none⟩ = some (.int .i64 (m : Int)) := by rw [← hm]; simp [go_sem]
  have b1 : (((w.alloc (so S A c)).alloc (.cells #[.int .i64 0, .slice none 0 0] 26)).alloc (.cells (Array.replicate S.rows.length (.slice none 0 0)) 22)).cell? ⟨w.heap.size, 1, none⟩ = some (.slice A S.rows.length c) := by simp [go_sem]
  have hmkr : ∀ W : World, (Instr.makeSlice 24 (.int .i64 (S.rows.length : Int)) (.int .i64 (S.rows.length : Int))).run Try.prog W = .ok (.slice (some ⟨W.heap.size, 0, none⟩) S.rows.length S.rows.length) (W.alloc (.cells (Array.replicate S.rows.length (.slice none 0 0)) 22)) := fun W => by rw [run_make_rows S.rows.length (by omega) W, List.toArray_replicate]
  have hmki : ∀ W : World, (Instr.makeSlice 22 (.int .i64 (m : Int)) (.int .i64 (m : Int))).run Try.prog W = .ok (.slice (some ⟨W.heap.size, 0, none⟩) m m) (W.alloc (.cells (Array.replicate m (encI 0)) 3)) := fun W => by rw [run_make_ints m (by omega) W, List.toArray_replicate]
  clear ha hf hm h1 hc
  go_enter Try.func13, Try.ntmps13
  go_wp2
  generalize (((w.alloc (so S A c)).alloc (.cells #[.int .i64 0, .slice none 0 0] 26)).alloc (.cells (Array.replicate S.rows.length (.slice none 0 0)) 22)) = w2 at *
  generalize hn : w.heap.size = n at *
  have HN := Lib.hid hn
  clear hn
  generalize hq : n + 1 + 1 = q at *
  have HQ := Lib.hid hq
  have hq1 : n + 1 < q := by omega
  clear hq
  have hz2 : q < w2.heap.size := HO.out.lt
  generalize hh : S.rows.length = h at *
  have HH := Lib.hid hh
  clear hh
  go_loopw [16] (fun i wr => ∃ k : Nat, k ≤ h ∧ i = .int .i64 (k : Int) ∧ Og wr (q) h (chg F S.rows) k ∧ Hid (∀ r, r < k → ∀ j, j < m → gi (gl (chg F S.rows) r) j ≤ 1099511627776) ∧ Below (q) w2 wr) (fun i _ => h - (intOf i).toNat)
  case atStart => exact ⟨0, by omega, rfl, HO.out, Lib.hid (fun r hr => by omega), Below.refl _ _⟩
  case round =>
    obtain ⟨k, hk, rfl, HOk, HA, HB⟩ := hrel
    have d0 := (HB.cell (p := ⟨n, 0, none⟩) (by show n < q; omega)).trans b0
    have d1 := (HB.cell (p := ⟨n, 1, none⟩) (by show n < q; omega)).trans b1
    have hzr : q < wr.heap.size := HOk.lt
    by_cases hlt : k < h
    · obtain ⟨b, o, rfl, hb, _, hr⟩ := HGr.out.2.2.2 (by rw [HH.out]; omega)
      obtain ⟨A1, c1, e1, i1, _⟩ := hr k (by rw [HH.out]; exact hlt)
      have hlk := HLen.out k hlt
      rw [HN.out] at hb
      rw [hlk] at e1
      clear hr
      obtain ⟨b1', o1, rfl, t1⟩ := i1.2.2.2 (by omega)
      have hb1 := t1.1
      rw [HN.out] at hb1
      obtain ⟨v0, e0⟩ := HOk.cell hlt
      have f0 := HOk.frozen k
      have hBw : Below n w wr := H1.out.trans (HB.mono (by omega))
      have HBw := Lib.hid hBw
      have e1r := (hBw.cell (p := ⟨b, o + k, none⟩) hb).trans e1
      clear hBw e1 hlk
      have hbne : ¬ b = q := by omega
      have hb1ne : ¬ b1' = q := by omega
      have hset : Below q wr (wr.setCell ⟨q, k, none⟩ (.slice (some ⟨wr.heap.size, 0, none⟩) m m)) := (Below.refl _ _).setCell (p := ⟨q, k, none⟩) (Nat.le_refl _) _
      have hsz : (wr.setCell ⟨q, k, none⟩ (.slice (some ⟨wr.heap.size, 0, none⟩) m m)).heap.size = wr.heap.size := by simp
      have hal : Below wr.heap.size (wr.setCell ⟨q, k, none⟩ (.slice (some ⟨wr.heap.size, 0, none⟩) m m)) ((wr.setCell ⟨q, k, none⟩ (.slice (some ⟨wr.heap.size, 0, none⟩) m m)).alloc (.cells (Array.replicate m (encI 0)) 3)) := (Below.refl _ _).alloc (by rw [hsz]; exact Nat.le_refl _) _
      have HO3 : Hid (∀ W, Below wr.heap.size ((wr.setCell ⟨q, k, none⟩ (.slice (some ⟨wr.heap.size, 0, none⟩) m m)).alloc (.cells (Array.replicate m (encI 0)) 3)) W → Og W q h (chg F S.rows) k) := Lib.hid (fun W hW => (HOk.put (.slice (some ⟨wr.heap.size, 0, none⟩) m m)).below (by rw [hsz]; exact hal.trans hW))
      have HB3 : Hid (Below q wr ((wr.setCell ⟨q, k, none⟩ (.slice (some ⟨wr.heap.size, 0, none⟩) m m)).alloc (.cells (Array.replicate m (encI 0)) 3))) := Lib.hid (hset.trans (hal.mono (by omega)))
      have HR3 : Hid (RowI ((wr.setCell ⟨q, k, none⟩ (.slice (some ⟨wr.heap.size, 0, none⟩) m m)).alloc (.cells (Array.replicate m (encI 0)) 3)) wr.heap.size (List.replicate m 0)) := Lib.hid (by
        have := RowI.new' (wr.setCell ⟨q, k, none⟩ (.slice (some ⟨wr.heap.size, 0, none⟩) m m)) m
        rwa [hsz] at this)
      have x0 : (wr.setCell ⟨q, k, none⟩ (.slice (some ⟨wr.heap.size, 0, none⟩) m m)).cell? ⟨q, k, none⟩ = some (.slice (some ⟨wr.heap.size, 0, none⟩) m m) := by simp [go_sem, e0]
      have hs4 : Hid (wr.heap.size + 1 = ((wr.setCell ⟨q, k, none⟩ (.slice (some ⟨wr.heap.size, 0, none⟩) m m)).alloc (.cells (Array.replicate m (encI 0)) 3)).heap.size) := Lib.hid (by simp)
      have x3 := (hal.cell (p := ⟨q, k, none⟩) hzr).trans x0
      have y3 := (HB3.out.cell (p := ⟨b, o + k, none⟩) (by show b < q; omega)).trans e1r
      have z3 := (HB3.out.cell (p := ⟨n, 1, none⟩) (by show n < q; omega)).trans d1
      have hs3 : wr.heap.size < ((wr.setCell ⟨q, k, none⟩ (.slice (some ⟨wr.heap.size, 0, none⟩) m m)).alloc (.cells (Array.replicate m (encI 0)) 3)).heap.size := HR3.out.lt
      clear hal hset HOk x0 hsz
      go_wp2
      generalize ((wr.setCell ⟨q, k, none⟩ (.slice (some ⟨wr.heap.size, 0, none⟩) m m)).alloc (.cells (Array.replicate m (encI 0)) 3)) = w3 at *
      have hzp : q < wr.heap.size := hzr
      generalize hp : wr.heap.size = p at *
      clear hp hzr d0 d1 e0 f0 e1r
      have HB4 : Hid (Below n w w3) := Lib.hid (HBw.out.trans (HB3.out.mono (by omega)))
      have HB5 : Hid (Below q w2 w3) := Lib.hid (HB.trans HB3.out)
      obtain ⟨R, hR⟩ : ∃ R, R = gl (chg F S.rows) k := ⟨_, rfl⟩
      have HR := Lib.hid hR
      have HRl : Hid (R.length = m) := Lib.hid (by rw [hR, len_gl_chg, HLen.out k hlt])
      clear hR HBw HB3 HB
      go_loopw [31] (fun i wr => ∃ j : Nat, j ≤ m ∧ i = .int .i64 (j : Int) ∧ RowI wr p (fill R j) ∧ Hid (∀ r, r < j → gi R r ≤ 1099511627776) ∧ Below p w3 wr) (fun i _ => m - (intOf i).toNat)
      case atStart => exact ⟨0, by omega, rfl, by rw [fill_zero, HRl.out]; exact HR3.out, Lib.hid (fun r hr => by omega), Below.refl _ _⟩
      case round =>
        obtain ⟨j, hj, rfl, HRj, HAj, HBi⟩ := hrel
        have x4 := (HBi.cell (p := ⟨q, k, none⟩) hzp).trans x3
        by_cases hjm : j < m
        · have hBw : Below n w wr := HB4.out.trans (HBi.mono (by omega))
          have s4 := (hBw.cell (p := ⟨b1', o1 + j, none⟩) hb1).trans (t1.2 j (by rw [HLen.out k hlt]; exact hjm))
          have HBw := Lib.hid hBw
          clear hBw
          have HCj : Hid (∀ W, Below n w W → Calls Try.prog g (#[.int .i64 (k : Int), .int .i64 (j : Int), .int .i64 (gi (gl S.rows k) j)] ++ lb) W fun e w' => e = .returned (.int .i64 (F k j (gi (gl S.rows k) j))) ∧ W = w') := Lib.hid (fun W hW => HC.out W k j (by rw [HN.out]; exact hW) (by rw [HH.out]; exact hlt) (by rw [HLen.out k hlt]; exact hjm))
          have HY : Hid (gi R j = F k j (gi (gl S.rows k) j)) := Lib.hid (by rw [HR.out, gi_chg _ _ (by rw [HLen.out k hlt]; exact hjm)])
          generalize F k j (gi (gl S.rows k) j) = y at *
          generalize gi (gl S.rows k) j = x at *
          have hlf : j < (fill R j).length := by rw [fill_len _ (by rw [HRl.out]; omega), HRl.out]; exact hjm
          have r4 := HRj.cell hlf
          have f4 := HRj.frozen j
          clear hlf
          have HFs : Hid ((fill R j).set j y = fill R (j + 1)) := Lib.hid (by rw [← HY.out, fill_set _ (by rw [HRl.out]; exact hjm)])
          have hjn : (j : Int) < (m : Int) := by omega
          have hkn : (k : Int) < (h : Int) := by omega
          by_cases hy : 1099511627776 < y
          · have qy : decide (1099511627776 < y) = true := by simpa using hy
            have HFi : Hid (chgE F S = 8 ∧ chgM F S = Sk.no) := Lib.hid (by
              have hf : ¬ fits (chg F S.rows) := fun hf => by
                have := hf k (by rw [chg_len, HH.out]; exact hlt) j (by rw [← HR.out, HRl.out]; exact hjm)
                rw [← HR.out, HY.out] at this
                omega
              exact ⟨by unfold chgE; rw [if_neg hf], by unfold chgM; rw [if_neg hf]⟩)
            have hB2 : Below q w2 wr := HB5.out.trans (HBi.mono (by omega))
            have HB2 := Lib.hid hB2
            clear hB2
            obtain ⟨r0, r1, g0, g1⟩ := HX.out.below HB2.out (by omega)
            have hne : ¬ p = n + 1 := by omega
            go_wp2
            go_region_held3 (fun w' => w'.cell? ⟨q, k, none⟩ = some (.slice (some ⟨p, 0, none⟩) m m) ∧ w'.cell? ⟨p, j, none⟩ = some (rd w' p j) ∧ w'.frozen? ⟨p, j, none⟩ = false ∧ Below p wr w')
              (first | exact SC.set1 ‹_› hzp _ | exact ⟨x4, rd_of ⟨_, r4⟩, f4, (Below.refl _ _).drew⟩ | exact ⟨x4, rd_of ⟨_, r4⟩, f4, (Below.refl _ _)⟩ )
              (first
                | (go_at_fn g; refine (HCj.out _ (HBw.out.trans ((Below.refl _ _).drew))).mono ?_; rintro e w8 ⟨rfl, rfl⟩))
            rename_i hHH
            clear hHH
            have x5 : (wr.setCell ⟨p, j, none⟩ (.int .i64 y)).drew.cell? ⟨q, k, none⟩ = some (.slice (some ⟨p, 0, none⟩) m m) := (((Below.refl p wr).setCell (p := ⟨p, j, none⟩) (Nat.le_refl _) (.int .i64 y)).cell (p := ⟨q, k, none⟩) hzp).trans x4
            have r5 : (wr.setCell ⟨p, j, none⟩ (.int .i64 y)).drew.cell? ⟨p, j, none⟩ = some (.int .i64 y) := by simp [go_sem, r4]
            have hB6 : Below q w2 (wr.setCell ⟨p, j, none⟩ (.int .i64 y)).drew := (HB2.out.setCell (p := ⟨p, j, none⟩) (by show q ≤ p; omega) _).drew
            clear r0 r1 g0 g1
            obtain ⟨r0, r1, g0, g1⟩ := HX.out.below hB6 (by omega)
            have HB6 := Lib.hid hB6
            clear hB6
            generalize (wr.setCell ⟨p, j, none⟩ (.int .i64 y)).drew = w5 at *
            go_wp2
            refine bodyPost_ret (v := .tuple #[.agg #[.int .i64 0, .slice none 0 0], .int .i64 8]) (by simp [results, Try.results13, go_sem, r0, r1]) rfl ?_
            rw [HFi.out.1, HFi.out.2]
            refine ⟨none, 0, rfl, Grid.none_ _ _, ?_⟩
            rw [HN.out]
            exact ((H1.out.trans (HB6.out.mono (by omega))).setCell (by show n ≤ n + 1; omega) _).setCell (by show n ≤ n + 1; omega) _
          · have qy : decide (1099511627776 < y) = false := by simpa using hy
            have HYl : Hid (gi R j ≤ 1099511627776) := Lib.hid (by rw [HY.out]; omega)
            clear hy
            go_wp2
            go_region_held3 (fun w' => w'.cell? ⟨q, k, none⟩ = some (.slice (some ⟨p, 0, none⟩) m m) ∧ w'.cell? ⟨p, j, none⟩ = some (rd w' p j) ∧ w'.frozen? ⟨p, j, none⟩ = false ∧ Below p wr w')
              (first | exact SC.set1 ‹_› hzp _ | exact ⟨x4, rd_of ⟨_, r4⟩, f4, (Below.refl _ _).drew⟩ | exact ⟨x4, rd_of ⟨_, r4⟩, f4, (Below.refl _ _)⟩ )
              (first
                | (go_at_fn g; refine (HCj.out _ (HBw.out.trans ((Below.refl _ _).drew))).mono ?_; rintro e w8 ⟨rfl, rfl⟩))
            rename_i hHH
            clear hHH
            have x5 : (wr.setCell ⟨p, j, none⟩ (.int .i64 y)).drew.cell? ⟨q, k, none⟩ = some (.slice (some ⟨p, 0, none⟩) m m) := (((Below.refl p wr).setCell (p := ⟨p, j, none⟩) (Nat.le_refl _) (.int .i64 y)).cell (p := ⟨q, k, none⟩) hzp).trans x4
            have r5 : (wr.setCell ⟨p, j, none⟩ (.int .i64 y)).drew.cell? ⟨p, j, none⟩ = some (.int .i64 y) := by simp [go_sem, r4]
            have HR5 : Hid (RowI (wr.setCell ⟨p, j, none⟩ (.int .i64 y)).drew p (fill R (j + 1))) := Lib.hid (by rw [← HFs.out]; exact HRj.set j y)
            have HB6 : Hid (Below p w3 (wr.setCell ⟨p, j, none⟩ (.int .i64 y)).drew) := Lib.hid ((HBi.setCell (p := ⟨p, j, none⟩) (Nat.le_refl _) _).drew)
            generalize (wr.setCell ⟨p, j, none⟩ (.int .i64 y)).drew = w5 at *
            go_wp2
            go_roundw
            case rel => exact ⟨j + 1, by omega, by go_num, HR5.out, Lib.hid (fun r hr => by
              by_cases e : r = j
              · subst e; exact HYl.out
              · exact HAj.out r (by omega)), HB6.out⟩
            case measure => simp [intOf]; omega
        · obtain rfl : j = m := by omega
          have HOn : Hid (Og wr q h (chg F S.rows) (k + 1)) := Lib.hid (by
            have hfa : fill R j = R := by have := fill_all R; rwa [HRl.out] at this
            rw [hfa] at HRj
            refine (HO3.out wr HBi).step (A := some ⟨p, 0, none⟩) (c := j) ?_ ?_ (fun a ha => by cases ha; exact hzp)
            · rw [← HR.out, HRl.out]; exact x4
            · have := HRj.ints (by rw [HRl.out]; omega)
              rw [HRl.out] at this
              rw [← HR.out]; exact this)
          have HAn : Hid (∀ r, r < k + 1 → ∀ i, i < j → gi (gl (chg F S.rows) r) i ≤ 1099511627776) := Lib.hid (fun r hr i hi => by
            by_cases e : r = k
            · subst e; rw [← HR.out]; exact HAj.out i hi
            · exact HA.out r (by omega) i hi)
          have HBn : Hid (Below q w2 wr) := Lib.hid (HB5.out.trans (HBi.mono (by omega)))
          clear HRj
          go_wp2
          go_roundw
          case rel => exact ⟨k + 1, by omega, by go_num, HOn.out, HAn, HBn.out⟩
          case measure => simp [intOf]; omega
    · obtain rfl : k = h := by omega
      have HFi : Hid (chgE F S = 0 ∧ chgM F S = ⟨S.wide, chg F S.rows⟩) := Lib.hid (by
        have hf : fits (chg F S.rows) := fun r hr j hj => by
          rw [chg_len, HH.out] at hr
          rw [len_gl_chg, HLen.out r hr] at hj
          exact HA.out r hr j hj
        exact ⟨by unfold chgE; rw [if_pos hf], by unfold chgM; rw [if_pos hf]⟩)
      obtain ⟨r0, r1, f0, f1⟩ := HX.out.below HB (by omega)
      have HGf : Hid (Grid (q) wr (some ⟨q, 0, none⟩) k (chg F S.rows)) := Lib.hid (by
        have hl : (chg F S.rows).length = k := by rw [chg_len, HH.out]
        have := Og.grid (w := wr) (g := q) (LL := chg F S.rows) (by rw [hl]; exact HOk) (by omega)
        rwa [hl] at this)
      clear HOk
      go_wp2
      refine bodyPost_ret (v := .tuple #[.agg #[.int .i64 (m : Int), .slice (some ⟨q, 0, none⟩) k k], .int .i64 0]) (by simp [results, Try.results13, go_sem, r0, r1]) rfl ?_
      rw [HFi.out.1, HFi.out.2]
      refine ⟨some ⟨q, 0, none⟩, k, by rw [HM.out]; simp [chg_len, HH.out], ?_, ?_⟩
      · rw [HN.out]
        exact (((HGf.out.setCell (p := ⟨n + 1, 0, none⟩) (by show n + 1 < q; omega) _).setCell (p := ⟨n + 1, 1, none⟩) (by show n + 1 < q; omega) _).mono (by omega))
      · rw [HN.out]
        exact ((H1.out.trans (HB.mono (by omega))).setCell (by show n ≤ n + 1; omega) _).setCell (by show n ≤ n + 1; omega) _

end Go.Proofs.Ytmldjfbnljdamaa.Skt
