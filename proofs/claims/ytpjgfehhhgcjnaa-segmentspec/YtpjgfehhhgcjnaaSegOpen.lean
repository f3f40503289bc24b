/-
  A segmented cache that came in.
-/
import Derived.Test.YtpjgfehhhgcjnaaSegMem
import Derived.Test.YtpjgfehhhgcjnaaOpen
import Derived.Test.YtpjgfehhhgcjnaaLruOpen
import Derived.Lib.SmallJoins
namespace Go.Proofs.Ytpjgfehhhgcjnaa
open Go.ChangeShapes Go.WideShapes Go.RowKit Go.Joins Go.Deep Seg
set_option linter.unusedVariables false
set_option maxRecDepth 100000

theorem segments_open {H : Type} {enc : TypeId × Value → H} {W : World} {base : Nat} {r : Reach} {v : Value} {d : DataW H} {p : List MemPlace}
    (hv : Value.okWide Try.prog W r base 24 v) (h : DataW.Trod enc Try.prog W 0 (fun _ => true) true 24 v d p) :
    ∃ (f s : Int) (A : Option Addr) (c : Nat) (N : List Int) (B : Option Addr) (e : Nat) (O : List Int), v = kv f s (.slice A N.length c) (.slice B O.length e) ∧ Ints W A c N ∧ Ints W B e O := by
  obtain ⟨c0, c1, c2, c3, y0, y1, y2, y3, m, rfl, _, _, h0, h1, h2, h3⟩ := open_agg4 Try.underlying24 (by kernel_rfl) (by kernel_rfl) hv h
  obtain ⟨a, e0, _⟩ := DataW.trod_int Try.underlying3 h0
  obtain ⟨b, e1, _⟩ := DataW.trod_int Try.underlying3 h1
  simp only [List.cons.injEq, and_true] at e0 e1
  subst e0 e1
  obtain ⟨A, c, N, rfl, hN⟩ := ints_slice h2
  obtain ⟨B, e, O, rfl, hO⟩ := ints_slice h3
  exact ⟨a, b, A, c, N, B, e, O, rfl, hN, hO⟩

end Go.Proofs.Ytpjgfehhhgcjnaa
