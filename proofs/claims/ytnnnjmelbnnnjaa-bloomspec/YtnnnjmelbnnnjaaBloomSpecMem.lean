/-
  Three results of the filter's type, side by side, of which one at a time is written.
-/
import Derived.Test.YtnnnjmelbnnnjaaBloomRef3
import Derived.Deep.DeepCutAuto
namespace Go.Proofs.Ytnnnjmelbnnnjaa
open Go.RowKit Go.Shelf
set_option linter.unusedVariables false

/-- The box can be written. -/
def Wr (w : World) (p : Nat) : Prop := w.frozen? ⟨p, 0, none⟩ = false ∧ w.frozen? ⟨p, 1, none⟩ = false ∧ w.frozen? ⟨p, 2, none⟩ = false
theorem Wr.below {w w' : World} {p : Nat} (h : Wr w p) (hb : Below w.heap.size w w') (hp : p < w.heap.size) : Wr w' p :=
  ⟨(hb.frozen (p := ⟨p, 0, none⟩) hp).trans h.1, (hb.frozen (p := ⟨p, 1, none⟩) hp).trans h.2.1, (hb.frozen (p := ⟨p, 2, none⟩) hp).trans h.2.2⟩

theorem Bx.put {w : World} {p : Nat} {F : Fl} {A : Option Addr} {c : Nat} {v0 v1 v2 : Value} (hp : p < w.heap.size) (r0 : w.cell? ⟨p, 0, none⟩ = some v0) (r1 : w.cell? ⟨p, 1, none⟩ = some v1) (r2 : w.cell? ⟨p, 2, none⟩ = some v2) (hi : Ints w A c F.set) (hne : ∀ a, A = some a → a.block ≠ p) :
    Bx (((w.setCell ⟨p, 0, none⟩ (.int .i64 F.size)).setCell ⟨p, 1, none⟩ (.int .i64 F.hashes)).setCell ⟨p, 2, none⟩ (.slice A F.set.length c)) p F A c := by
  refine ⟨by simpa [World.setCell] using hp, ?_, ?_, ?_, ((hi.setCell hne _).setCell hne _).setCell hne _⟩
  · simp [go_sem, r0]
  · simp [go_sem, r1]
  · simp [go_sem, r2]

theorem gb_next {w w' w'' : World} {row : Option Nat} {N : Nat} (h : w.grownBy w' row) (hN : w.heap.size ≤ N) (hb : Below N w' w'') : w.grownBy w'' row :=
  ⟨hb.os.trans h.os, hb.tape.trans h.tape, hb.output.trans h.output, Nat.le_trans h.size hb.size, fun k hk hr => (hb.block k (by omega)).trans (h.block k hk hr)⟩
theorem gb_refl (w : World) (row : Option Nat) : w.grownBy w row := ⟨rfl, rfl, rfl, Nat.le_refl _, fun _ _ _ => rfl⟩
theorem gb_set {w w' : World} {p : Nat} (h : w.grownBy w' (some p)) (j : Nat) (u : Value) : w.grownBy (w'.setCell ⟨p, j, none⟩ u) (some p) :=
  ⟨h.os, h.tape, h.output, by simpa [World.setCell] using h.size, fun k hk hr => (Below.heap_setCell _ _ _ _ (fun e => hr (by rw [e]))).trans (h.block k hk hr)⟩
theorem gb_below {w w' : World} {p B : Nat} (h : w.grownBy w' (some p)) (hB : B ≤ p) (hw : B ≤ w.heap.size) : Below B w w' :=
  ⟨h.os, h.tape, h.output, h.size, fun k hk => h.block k (by omega) (fun e => by cases e; omega)⟩

theorem Ints.gb {w w' : World} {A : Option Addr} {c p : Nat} {L : List Int} (h : Ints w A c L) (hg : w.grownBy w' (some p)) (hp : ∀ a, A = some a → a.block ≠ p) : Ints w' A c L :=
  ⟨h.1, h.2.1, h.2.2.1, fun hl => by
    obtain ⟨b, o, e, ht⟩ := h.2.2.2 hl
    have hne : b ≠ p := hp _ e
    exact ⟨b, o, e, Nat.lt_of_lt_of_le ht.1 hg.size, fun i hi => (World.cell?_of_block (w := w) (hg.block b ht.1 (fun e => hne (by cases e; rfl)))).trans (ht.2 i hi)⟩⟩

/-- Block p holds the filter G and can be written; G's bits lie from block m + 3 on. -/
def H3 (w : World) (m p : Nat) (G : Fl) : Prop := ∃ A c, Bx w p G A c ∧ Wr w p ∧ ∀ a, A = some a → m + 3 ≤ a.block
section
variable {w w' : World} {m p q : Nat} {G : Fl}
theorem H3.below (h : H3 w m p G) (hb : Below w.heap.size w w') : H3 w' m p G := by
  obtain ⟨A, c, h1, h2, h3⟩ := h
  exact ⟨A, c, h1.below hb, h2.below hb h1.1, h3⟩
theorem H3.gb (h : H3 w m p G) (hg : w.grownBy w' (some q)) (hq : q ≠ p) (hm : q < m + 3) : H3 w' m p G := by
  obtain ⟨A, c, ⟨h0, h1, h2, h3, h4⟩, ⟨f0, f1, f2⟩, hf⟩ := h
  have hb : w'.heap[p]? = w.heap[p]? := hg.block p h0 (fun e => hq (by cases e; rfl))
  exact ⟨A, c, ⟨Nat.lt_of_lt_of_le h0 hg.size, (World.cell?_of_block (w := w) hb).trans h1, (World.cell?_of_block (w := w) hb).trans h2, (World.cell?_of_block (w := w) hb).trans h3, h4.gb hg (fun a ha => by have := hf a ha; omega)⟩,
    ⟨(World.frozen?_of_block (w := w) hb).trans f0, (World.frozen?_of_block (w := w) hb).trans f1, (World.frozen?_of_block (w := w) hb).trans f2⟩, hf⟩
end

/-- Of w0 only block p may have turned: a filter's box in block n, another one's bits in block n + 1; block p can be written. -/
abbrev SG (n p : Nat) (F : Fl) (A : Option Addr) (c : Nat) (B : Option Addr) (l d : Nat) (w0 w' : World) : Prop :=
  w'.cell? ⟨n, 0, none⟩ = some (.int .i64 F.size) ∧ w'.cell? ⟨n, 1, none⟩ = some (.int .i64 F.hashes) ∧ w'.cell? ⟨n, 2, none⟩ = some (.slice A F.set.length c) ∧ w'.cell? ⟨n + 1, 2, none⟩ = some (.slice B l d) ∧
  w'.cell? ⟨p, 0, none⟩ = some (rd w' p 0) ∧ w'.cell? ⟨p, 1, none⟩ = some (rd w' p 1) ∧ w'.cell? ⟨p, 2, none⟩ = some (rd w' p 2) ∧
  w'.frozen? ⟨p, 0, none⟩ = false ∧ w'.frozen? ⟨p, 1, none⟩ = false ∧ w'.frozen? ⟨p, 2, none⟩ = false ∧ n + 1 < p ∧ p < w0.heap.size ∧ w0.grownBy w' (some p)
section
variable {n p : Nat} {F : Fl} {A : Option Addr} {c : Nat} {B : Option Addr} {l d : Nat} {w0 w' w'' : World}
theorem SG.gb (h : SG n p F A c B l d w0 w') : w0.grownBy w' (some p) := h.2.2.2.2.2.2.2.2.2.2.2.2
theorem SG.next {N : Nat} (h : SG n p F A c B l d w0 w') (hN : w0.heap.size ≤ N) (hb : Below N w' w'') : SG n p F A c B l d w0 w'' := by
  obtain ⟨a1, a2, a3, a4, a5, a6, a7, f0, f1, f2, hn, hp, hg⟩ := h
  exact ⟨(hb.cell (by show n < N; omega)).trans a1, (hb.cell (by show n < N; omega)).trans a2, (hb.cell (by show n < N; omega)).trans a3, (hb.cell (by show n + 1 < N; omega)).trans a4,
    rd_below a5 hb (by omega), rd_below a6 hb (by omega), rd_below a7 hb (by omega), (hb.frozen (by show p < N; omega)).trans f0, (hb.frozen (by show p < N; omega)).trans f1, (hb.frozen (by show p < N; omega)).trans f2, hn, hp, gb_next hg hN hb⟩
theorem SG.drew (h : SG n p F A c B l d w0 w') : SG n p F A c B l d w0 w'.drew := h.next (Nat.le_refl _) (Below.refl _ _).drew
theorem SG.set1 (h : SG n p F A c B l d w0 w') (j : Nat) (u : Value) : SG n p F A c B l d w0 (w'.setCell ⟨p, j, none⟩ u) := by
  obtain ⟨a1, a2, a3, a4, a5, a6, a7, f0, f1, f2, hn, hp, hg⟩ := h
  have hb : Below p w' (w'.setCell ⟨p, j, none⟩ u) := (Below.refl _ _).setCell (p := ⟨p, j, none⟩) (Nat.le_refl _) u
  exact ⟨(hb.cell (by show n < p; omega)).trans a1, (hb.cell (by show n < p; omega)).trans a2, (hb.cell (by show n < p; omega)).trans a3, (hb.cell (by show n + 1 < p; omega)).trans a4,
    rd_set a5 _ u, rd_set a6 _ u, rd_set a7 _ u, by simpa [go_sem] using f0, by simpa [go_sem] using f1, by simpa [go_sem] using f2, hn, hp, gb_set hg j u⟩
theorem SG.set3 (h : SG n p F A c B l d w0 w') (u0 u1 u2 : Value) : SG n p F A c B l d w0 (((w'.setCell ⟨p, 0, none⟩ u0).setCell ⟨p, 1, none⟩ u1).setCell ⟨p, 2, none⟩ u2) := ((h.set1 0 u0).set1 1 u1).set1 2 u2
/-- What block p holds behind the store. -/
theorem SG.h3 {m : Nat} {G : Fl} {A' : Option Addr} {c' : Nat} (h : SG n p F A c B l d w0 w') (hi : Ints w' A' c' G.set) (hf : ∀ a, A' = some a → m + 3 ≤ a.block) (hp : p < m + 3) :
    H3 (((w'.setCell ⟨p, 0, none⟩ (.int .i64 G.size)).setCell ⟨p, 1, none⟩ (.int .i64 G.hashes)).setCell ⟨p, 2, none⟩ (.slice A' G.set.length c')) m p G := by
  have h' := h.set3 (.int .i64 G.size) (.int .i64 G.hashes) (.slice A' G.set.length c')
  obtain ⟨_, _, _, _, r0, r1, r2, _, _, _, _, hp0, hg⟩ := h
  obtain ⟨_, _, _, _, _, _, _, f0, f1, f2, _, _, _⟩ := h'
  exact ⟨A', c', Bx.put (Nat.lt_of_lt_of_le hp0 hg.size) r0 r1 r2 hi (fun a ha => by have := hf a ha; omega), ⟨f0, f1, f2⟩, hf⟩
theorem SG.new {G : Fl} {m : Nat} (hx : Bx w0 n F A c) (hy : w0.cell? ⟨n + 1, 2, none⟩ = some (.slice B l d)) (hz : H3 w0 m p G) (hn : n + 1 < p) : SG n p F A c B l d w0 w0 := by
  obtain ⟨_, x1, x2, x3, _⟩ := hx
  obtain ⟨A', c', ⟨z0, z1, z2, z3, _⟩, ⟨f0, f1, f2⟩, _⟩ := hz
  exact ⟨x1, x2, x3, hy, rd_of ⟨_, z1⟩, rd_of ⟨_, z2⟩, rd_of ⟨_, z3⟩, f0, f1, f2, hn, z0, gb_refl _ _⟩
end

end Go.Proofs.Ytnnnjmelbnnnjaa
