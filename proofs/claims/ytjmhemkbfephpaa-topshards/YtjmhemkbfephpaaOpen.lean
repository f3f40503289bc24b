/-
  What the form says of an argument that is a slice of structs of one-cell fields: its cells, one after another.
-/
import Derived.Test.YtjmhemkbfephpaaRows
import Derived.Deep.Slices
import Derived.Deep.Fields
import Derived.ChangeSame
import Derived.ChangeOld
import Derived.WalkKit
namespace Go.Proofs.Ytjmhemkbfephpaa
open Go.ChangeShapes Go.WideShapes Go.Deep Go.RowKit

theorem cell_spot {w : World} {a : Addr} {v : Value} (h : w.cell? a = some v) : a = ⟨a.block, a.off, none⟩ ∧ a.block < w.heap.size := by
  obtain ⟨b, o, s⟩ := a
  unfold World.cell? at h
  simp only at h ⊢
  have hb : b < w.heap.size := by
    rcases Nat.lt_or_ge b w.heap.size with x | x
    · exact x
    · rw [Array.getElem?_eq_none x] at h; simp at h
  refine ⟨?_, hb⟩
  cases s with
  | none => rfl
  | some x => split at h <;> simp at h

theorem add_none (b o n : Nat) : (⟨b, o, none⟩ : Addr).add n = ⟨b, o + n, none⟩ := by
  unfold Addr.add; split
  · rename_i h; subst h; rfl
  · rfl

section
variable {H : Type} {enc : TypeId × Value → H} {P : Program} {w : World} {base : Nat} {spare : Nat → Bool} {held : Bool}
theorem open_rows {t e : TypeId} {fs : Array Field} {fuel K : Nat} {cs : List Value} {x : DataW H × List MemPlace} (ht : P.underlying t = some (.slice e)) (he : P.underlying e = some (.struct fs))
    (hone : oneCellFields P fs = true) (hC : P.cellsOf e = K) (hK : 0 < K) (hF : fs.size = K) (h : DataW.trod enc P w base spare held fuel t cs = some x) :
    cs = [.slice none 0 0] ∨ ∃ (A : Option Addr) (len cap : Nat), cs = [.slice A len cap] ∧ len ≤ cap ∧ (0 < len → ∃ b o, A = some ⟨b, o, none⟩ ∧ b < w.heap.size ∧
      ∀ i, i < len → ∃ vs : List Value, vs.length = K ∧ (∀ j, j < K → w.cell? ⟨b, o + (i * K + j), none⟩ = vs[j]?) ∧
        ∀ (j : Nat) (f : Field), fs[j]? = some f → ∃ (n : Nat) (v : Value) (y : DataW H × List MemPlace), vs[j]? = some v ∧ DataW.trod enc P w base spare held n f.type [v] = some y) := by
  rcases open_slice ht h with h0 | ⟨a, len, cap, m, n, D, Pl, hcs, hb, hl, hm, hmm, hx, hi⟩
  · exact .inl h0.1
  · refine .inr ⟨some a, len, cap, hcs, hl, fun hpos => ?_⟩
    have hlm : len ≤ m := by rw [hmm]; split <;> omega
    have key : ∀ i, i < len → ∃ vs : List Value, vs.length = K ∧ (∀ j, j < K → w.cell? (a.add (i * K + j)) = vs[j]?) ∧
        ∀ (j : Nat) (f : Field), fs[j]? = some f → ∃ (n : Nat) (v : Value) (y : DataW H × List MemPlace), vs[j]? = some v ∧ DataW.trod enc P w base spare held n f.type [v] = some y := by
      intro i hil
      obtain ⟨vs, hc, htr⟩ := hi i (by omega)
      rw [hC] at hc
      obtain ⟨_, hlen, hcell⟩ := World.cells?_some hc
      obtain ⟨xs, n', _, _, _, hxl, hfld⟩ := DataW.trod_struct he htr
      refine ⟨vs, hlen, fun j hj => by rw [← hcell j hj, add_add], fun j f hj => ?_⟩
      have hjl : j < fs.size := (Array.getElem?_eq_some_iff.1 hj).1
      obtain ⟨ho, hk⟩ := hone_of hone j f hj
      have h1 := hfld j f hj
      rw [ho, hk] at h1
      have hone' : (vs.drop j).take 1 = [vs[j]'(by omega)] := by
        rw [List.drop_eq_getElem_cons (by omega)]; rfl
      rw [hone'] at h1
      exact ⟨n', vs[j]'(by omega), xs[j]'(by omega), List.getElem?_eq_getElem (by omega), h1.trans (List.getElem?_eq_getElem (by omega))⟩
    obtain ⟨vs, hvl, hvc, _⟩ := key 0 hpos
    have h00 := hvc 0 hK
    rw [List.getElem?_eq_getElem (by omega)] at h00
    obtain ⟨hsp, hbl⟩ := cell_spot h00
    have hsp' : a = ⟨a.block, a.off, none⟩ := by
      have : a.add (0 * K + 0) = a := by simp [Addr.add]
      rw [this] at hsp
      exact hsp
    have hbl' : a.block < w.heap.size := by simpa [Addr.add] using hbl
    refine ⟨a.block, a.off, by rw [← hsp'], hbl', fun i hil => ?_⟩
    obtain ⟨vs', a1, a2, a3⟩ := key i hil
    refine ⟨vs', a1, fun j hj => ?_, a3⟩
    rw [← a2 j hj, ← add_none, ← hsp']
end

end Go.Proofs.Ytjmhemkbfephpaa
