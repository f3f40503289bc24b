/-
  Filters in variables; SameFilter of the reference; what must be in any case.
-/
import Derived.Test.YtgckghedfhnamaaBloomWalks6
namespace Go.Proofs.Ytgckghedfhnamaa
open Go.RowKit Go.Shelf
set_option linter.unusedVariables false

/-- Block p holds a filter. -/
def Bx (w : World) (p : Nat) (F : Fl) (A : Option Addr) (c : Nat) : Prop :=
  p < w.heap.size ∧ w.cell? ⟨p, 0, none⟩ = some (.int .i64 F.size) ∧ w.cell? ⟨p, 1, none⟩ = some (.int .i64 F.hashes) ∧ w.cell? ⟨p, 2, none⟩ = some (.slice A F.set.length c) ∧ Ints w A c F.set
section
variable {w w' : World} {p : Nat} {F : Fl} {A : Option Addr} {c : Nat}
theorem Bx.below (h : Bx w p F A c) (hb : Below w.heap.size w w') : Bx w' p F A c :=
  ⟨Nat.lt_of_lt_of_le h.1 hb.size, (hb.cell h.1).trans h.2.1, (hb.cell h.1).trans h.2.2.1, (hb.cell h.1).trans h.2.2.2.1, h.2.2.2.2.below hb⟩
theorem Bx.new (h : Ints w A c F.set) : Bx (w.alloc (fo F A c)) w.heap.size F A c := ⟨by simp, by simp [go_sem], by simp [go_sem], by simp [go_sem], h.alloc _⟩
theorem Bx.alloc (h : Bx w p F A c) (o : Obj) : Bx (w.alloc o) p F A c := h.below ((Below.refl _ _).alloc (Nat.le_refl _) o)
theorem Bx.ints (h : Bx w p F A c) : Ints w A c F.set := h.2.2.2.2
end
theorem bel_al {B : Nat} {a w : World} (h : Below B a w) (hB : B ≤ a.heap.size) (o : Obj) : Below B a (w.alloc o) := h.alloc (Nat.le_trans hB h.size) o

def sameF (F G : Fl) : Bool := decide (F.size = G.size) && (decide (F.hashes = G.hashes) && decide (F.set = G.set))
theorem sameF_yes {F G : Fl} (h1 : F.size = G.size) (h2 : F.hashes = G.hashes) (h3 : F.set = G.set) : sameF F G = true := by simp [sameF, h1, h2, h3]

/-! ### What must be in any case -/
def kA : ByteArray := ⟨#[97]⟩
def E0 : Fl := ⟨64, 3, []⟩
theorem gE0 : Good E0 := ⟨by decide, by decide, by decide, by decide, List.Pairwise.nil, fun x hx => by cases hx⟩
theorem bgA : errS E0 kA = 0 ∧ addM E0 kA = addL E0 kA := by
  have e : errS E0 kA = 0 := errS_of gE0 (by decide)
  exact ⟨e, by unfold addM; rw [if_pos e]⟩
theorem bgM : errS (addL E0 kA) kA = 0 ∧ mayM (addL E0 kA) kA = true ∧ bitsM (addL E0 kA) kA = (addL E0 kA).set ∧ 0 < (addL E0 kA).set.length := by
  have g := good_add gE0 kA
  have e : errS (addL E0 kA) kA = 0 := errS_of g (by decide)
  have hb : bitsL (addL E0 kA) kA = (addL E0 kA).set := by
    rw [← bits_same (F := E0) (G := addL E0 kA) rfl rfl]
    exact (ord_eq (L := E0.set ++ bitsL E0 kA) (M := bitsL E0 kA) (ord_inc _) (fun x => by rw [show E0.set ++ bitsL E0 kA = bitsL E0 kA from rfl])).symm
  refine ⟨e, by unfold mayM; rw [if_pos e]; exact may_added _ _, by unfold bitsM; rw [if_pos e, hb], ?_⟩
  rw [← hb]; exact bits_pos g kA
theorem bgZ : mayM E0 kA = false := by
  unfold mayM
  rw [if_pos bgA.1, Bool.eq_false_iff]
  intro h
  rw [mayL_iff] at h
  have := bits_pos gE0 kA
  obtain ⟨x, hx⟩ := List.exists_mem_of_length_pos this
  have h2 := h x hx
  cases h2
theorem bgU : errU (addL E0 kA) E0 = 0 ∧ uniM (addL E0 kA) E0 = uniL (addL E0 kA) E0 ∧ sameF (uniL (addL E0 kA) E0) (addL E0 kA) = true := by
  have g := good_add gE0 kA
  have e : errU (addL E0 kA) E0 = 0 := errU_of g gE0 rfl rfl
  refine ⟨e, by unfold uniM; rw [if_pos e], sameF_yes rfl rfl (ord_eq g.inc (fun x => by rw [show (addL E0 kA).set ++ E0.set = (addL E0 kA).set from List.append_nil _]))⟩
theorem bgF : errF ⟨3, 1, []⟩ = 4 ∧ foldM ⟨3, 1, []⟩ = Fl.no := by
  have e : errF ⟨3, 1, []⟩ = 4 := by decide
  exact ⟨e, by unfold foldM; rw [e]; rfl⟩
theorem bgC : checkF Fl.no = 3 := by decide

end Go.Proofs.Ytgckghedfhnamaa
