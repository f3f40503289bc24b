/-
  What withBits of package bloom returns.
-/
import Derived.Test.YtgckghedfhnamaaBloomWalks
namespace Go.Proofs.Ytgckghedfhnamaa
open Go.RowKit Go.Shelf
set_option linter.unusedVariables false

/-! ### withBits -/
/-- What a cell holds. -/
def rd (w : World) (b o : Nat) : Value := (w.cell? ⟨b, o, none⟩).getD undef
theorem rd_of {w : World} {b o : Nat} (h : ∃ v, w.cell? ⟨b, o, none⟩ = some v) : w.cell? ⟨b, o, none⟩ = some (rd w b o) := by
  obtain ⟨v, h⟩ := h; unfold rd; rw [h]; rfl
theorem rd_set {w : World} {b o : Nat} (h : w.cell? ⟨b, o, none⟩ = some (rd w b o)) (p : Addr) (u : Value) : (w.setCell p u).cell? ⟨b, o, none⟩ = some (rd (w.setCell p u) b o) :=
  rd_of (cell?_setCell_some h)
theorem rd_below {w w' : World} {b o N : Nat} (h : w.cell? ⟨b, o, none⟩ = some (rd w b o)) (hb : Below N w w') (hN : b < N) : w'.cell? ⟨b, o, none⟩ = some (rd w' b o) :=
  rd_of ⟨_, (hb.cell (p := ⟨b, o, none⟩) hN).trans h⟩

/-- The box of a filter (block n) stands, a result of the filter's type (block n + 1) can be written, and all that lay below stands. -/
abbrev SB (n : Nat) (F : Fl) (A : Option Addr) (c : Nat) (w0 w' : World) : Prop :=
  w'.cell? ⟨n, 0, none⟩ = some (.int .i64 F.size) ∧ w'.cell? ⟨n, 1, none⟩ = some (.int .i64 F.hashes) ∧ w'.cell? ⟨n, 2, none⟩ = some (.slice A F.set.length c) ∧
  w'.cell? ⟨n + 1, 0, none⟩ = some (rd w' (n + 1) 0) ∧ w'.cell? ⟨n + 1, 1, none⟩ = some (rd w' (n + 1) 1) ∧ w'.cell? ⟨n + 1, 2, none⟩ = some (rd w' (n + 1) 2) ∧ w'.frozen? ⟨n + 1, 0, none⟩ = false ∧ w'.frozen? ⟨n + 1, 1, none⟩ = false ∧ w'.frozen? ⟨n + 1, 2, none⟩ = false ∧ n + 2 ≤ w'.heap.size ∧ Below (n + 1) w0 w'
theorem SB.next {n : Nat} {F : Fl} {A : Option Addr} {c : Nat} {w0 w' w'' : World} {N : Nat} (h : SB n F A c w0 w') (hN : n + 2 ≤ N) (hb : Below N w' w'') : SB n F A c w0 w'' := by
  obtain ⟨a1, a2, a3, a4, a5, a6, a7, a8, a9, hz, h4⟩ := h
  exact ⟨(hb.cell (by show n < N; omega)).trans a1, (hb.cell (by show n < N; omega)).trans a2, (hb.cell (by show n < N; omega)).trans a3, rd_below a4 hb (by omega), rd_below a5 hb (by omega), rd_below a6 hb (by omega),
    (hb.frozen (by show n + 1 < N; omega)).trans a7, (hb.frozen (by show n + 1 < N; omega)).trans a8, (hb.frozen (by show n + 1 < N; omega)).trans a9, Nat.le_trans hz hb.size, h4.trans (hb.mono (by omega))⟩
theorem SB.bel {n : Nat} {F : Fl} {A : Option Addr} {c : Nat} {w0 w' : World} (h : SB n F A c w0 w') : Below (n + 1) w0 w' := h.2.2.2.2.2.2.2.2.2.2
theorem SB.size {n : Nat} {F : Fl} {A : Option Addr} {c : Nat} {w0 w' : World} (h : SB n F A c w0 w') : n + 2 ≤ w'.heap.size := h.2.2.2.2.2.2.2.2.2.1
theorem SB.alloc {n : Nat} {F : Fl} {A : Option Addr} {c : Nat} {w0 w' : World} (h : SB n F A c w0 w') (o : Obj) : SB n F A c w0 (w'.alloc o) :=
  h.next h.size ((Below.refl _ _).alloc (Nat.le_refl _) o)
theorem SB.drew {n : Nat} {F : Fl} {A : Option Addr} {c : Nat} {w0 w' : World} (h : SB n F A c w0 w') : SB n F A c w0 w'.drew := h.next (Nat.le_refl _) (Below.refl _ _).drew
theorem SB.set1 {n : Nat} {F : Fl} {A : Option Addr} {c : Nat} {w0 w' : World} (h : SB n F A c w0 w') (j : Nat) (u : Value) : SB n F A c w0 (w'.setCell ⟨n + 1, j, none⟩ u) := by
  obtain ⟨a1, a2, a3, a4, a5, a6, a7, a8, a9, hz, h4⟩ := h
  have hb : Below (n + 1) w' (w'.setCell ⟨n + 1, j, none⟩ u) := (Below.refl _ _).setCell (p := ⟨n + 1, j, none⟩) (Nat.le_refl _) u
  exact ⟨(hb.cell (by show n < n + 1; omega)).trans a1, (hb.cell (by show n < n + 1; omega)).trans a2, (hb.cell (by show n < n + 1; omega)).trans a3, rd_set a4 _ u, rd_set a5 _ u, rd_set a6 _ u, by simpa [go_sem] using a7, by simpa [go_sem] using a8, by simpa [go_sem] using a9, Nat.le_trans hz hb.size, h4.trans hb⟩
theorem SB.new (F : Fl) (A : Option Addr) (c : Nat) (w : World) (o : Obj) (ho : o = .cells #[.int .i64 0, .int .i64 0, .slice none 0 0] 26) : SB w.heap.size F A c ((w.alloc (fo F A c)).alloc o) ((w.alloc (fo F A c)).alloc o) := by
  subst ho
  exact ⟨by simp [go_sem], by simp [go_sem], by simp [go_sem], rd_of ⟨.int .i64 0, by simp [go_sem]⟩, rd_of ⟨.int .i64 0, by simp [go_sem]⟩, rd_of ⟨.slice none 0 0, by simp [go_sem]⟩, by simp [go_sem], by simp [go_sem], by simp [go_sem], by simp, Below.refl _ _⟩

set_option maxHeartbeats 8000000 in
theorem withBits_any (F : Fl) (A B : Option Addr) (c d : Nat) (M : List Int) (w : World) (ha : Ints w A c F.set) (hb : Ints w B d M) (hl : F.set.length ≤ 1024) (hm : M.length ≤ 1024) :
    Calls Try.prog 10 #[fv F A c, .slice B M.length d] w fun e w' => ∃ A' c', e = .returned (fv ⟨F.size, F.hashes, ord (F.set ++ M)⟩ A' c') ∧ Ints w' A' c' (ord (F.set ++ M)) ∧ (∀ a, A' = some a → w.heap.size + 2 ≤ a.block) ∧ Below w.heap.size w w' := by
  have hS := SB.new F A c w _ rfl
  have h1 : Below w.heap.size w ((w.alloc (fo F A c)).alloc (.cells #[.int .i64 0, .int .i64 0, .slice none 0 0] 26)) := ((Below.refl _ w).alloc (Nat.le_refl _) (fo F A c)).alloc (by simp) _
  go_enter Try.func10, Try.ntmps10
  go_wp2
  have HS := Lib.hid hS
  have H1 := Lib.hid h1
  have HI := Lib.hid ha
  have HJ := Lib.hid hb
  clear hS ha hb h1
  generalize ((w.alloc (fo F A c)).alloc (.cells #[.int .i64 0, .int .i64 0, .slice none 0 0] 26)) = w0 at *
  generalize hn : w.heap.size = n at *
  have HN := Lib.hid hn
  clear hn
  go_region_held3 (fun w' => w'.cell? ⟨n, 0, none⟩ = some (.int .i64 F.size) ∧ w'.cell? ⟨n, 1, none⟩ = some (.int .i64 F.hashes) ∧ w'.cell? ⟨n, 2, none⟩ = some (.slice A F.set.length c) ∧
      w'.cell? ⟨n + 1, 0, none⟩ = some (rd w' (n + 1) 0) ∧ w'.cell? ⟨n + 1, 1, none⟩ = some (rd w' (n + 1) 1) ∧ w'.cell? ⟨n + 1, 2, none⟩ = some (rd w' (n + 1) 2) ∧ w'.frozen? ⟨n + 1, 0, none⟩ = false ∧ w'.frozen? ⟨n + 1, 1, none⟩ = false ∧ w'.frozen? ⟨n + 1, 2, none⟩ = false ∧ n + 2 ≤ w'.heap.size ∧ Below (n + 1) w0 w')
    (first | exact SB.set1 (SB.set1 (SB.set1 (SB.next ‹_› (Nat.le_trans (SB.size HS.out) (by simp)) hb8) _ _) _ _) _ _ | exact SB.next ‹_› (Nat.le_trans (SB.size HS.out) (by simp)) hb8 | exact SB.next ‹_› (Nat.le_trans (SB.size HS.out) (by simp)) hb9 | exact SB.drew HS.out | exact SB.drew (SB.alloc HS.out _) | exact SB.set1 (SB.set1 (SB.set1 ‹_› _ _) _ _) _ _)
    (first
      | (go_at_call 20; refine (concat_any w0.heap.size A B c d F.set M _ (by simp) (by simp [go_sem]) (by simp [go_sem]) (HI.out.below (HN.out ▸ (H1.out.trans ((SB.bel ‹_›).mono (by omega))))) (HJ.out.below (HN.out ▸ (H1.out.trans ((SB.bel ‹_›).mono (by omega))))) (by omega) (by omega)).mono ?_; rintro e w9 ⟨v9, rfl, ho9, hb9⟩)
      | (go_at_call 19; refine (ordered_any _ v9 _ _ ho9 hb9.size (by simp; omega)).mono ?_; rintro e w8 ⟨A8, c8, rfl, hi8, hg8, hb8⟩))
  have hs0 : n + 2 ≤ (w0.alloc (Obj.cells #[Value.slice A F.set.length c, Value.slice B M.length d] 24)).drew.heap.size := Nat.le_trans (SB.size HS.out) (by simp)
  have h8 : SB n F A c w0 w8 := SB.next (SB.next (SB.drew (SB.alloc HS.out _)) hs0 hb9) hs0 hb8
  obtain ⟨_, _, _, r0, r1, r2, f0, f1, f2, hz8, hB8⟩ := h8
  have hne : ∀ a, A8 = some a → a.block ≠ n + 1 := fun a ha => by have := hg8 a ha; omega
  have hnf : ∀ a, A8 = some a → n + 2 ≤ a.block := fun a ha => by have := hg8 a ha; omega
  clear hg8 hb8 hb9 ho9 hs0 HS HI HJ
  rename_i hHH
  clear hHH
  go_wp2
  refine bodyPost_ret (v := fv ⟨F.size, F.hashes, ord (F.set ++ M)⟩ A8 c8) (by simp [results, Try.results10, go_sem, r0, r1, r2]) rfl ⟨A8, c8, rfl, ((hi8.setCell hne _).setCell hne _).setCell hne _, by rw [HN.out]; exact hnf, ?_⟩
  rw [HN.out]
  exact (((H1.out.trans (hB8.mono (by omega))).setCell (by show n ≤ n + 1; omega) _).setCell (by show n ≤ n + 1; omega) _).setCell (by show n ≤ n + 1; omega) _

end Go.Proofs.Ytgckghedfhnamaa
