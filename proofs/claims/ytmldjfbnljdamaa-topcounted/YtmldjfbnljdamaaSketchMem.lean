/-
  Sketches in memory: slices of slices of ints; rows of the call's own; what Check of package sketch and its parts return.
-/
import Derived.Test.YtmldjfbnljdamaaInts
import Derived.Test.YtmldjfbnljdamaaSketchMath
import Derived.Laws.AppendOwnNone
import Derived.Laws.ResultCell
import Derived.Deep.RegionHeld3
namespace Go.Proofs.Ytmldjfbnljdamaa.Skt
open Go.RowKit
set_option linter.unusedVariables false

theorem w_swap {P : Program} {f : Nat} {args : Array Value} {w : World} {X : Ending} (h : Calls P f args w fun e w' => e = X ∧ w = w') : Calls P f args w fun e w' => e = X ∧ w' = w :=
  h.mono fun _ _ ⟨a, b⟩ => ⟨a, b.symm⟩
theorem below_drewN {B : Nat} {a w : World} (h : Below B a w) (q : Nat) : Below B a (w.drewN q) := ⟨h.os, h.tape, h.output, h.size, h.block⟩
theorem bel_al {B : Nat} {a w : World} (h : Below B a w) (hB : B ≤ a.heap.size) (o : Obj) : Below B a (w.alloc o) := h.alloc (Nat.le_trans hB h.size) o

theorem dn {A : Option Addr} {c : Nat} {L : List Int} {w : World} (h : Ints w A c L) (n : Nat) : Ints (w.drewN n) A c L := h.below (below_drewN (Below.refl _ _) n)

/-! ### Grids -/
/-- The cells from ⟨b, o⟩ on hold slices that read as the rows LL; all of it lies from block B on. -/
def GridAt (B : Nat) (w : World) (b o : Nat) (LL : List (List Int)) : Prop :=
  b < w.heap.size ∧ B ≤ b ∧ ∀ i, i < LL.length → ∃ A c, w.cell? ⟨b, o + i, none⟩ = some (.slice A (gl LL i).length c) ∧ Ints w A c (gl LL i) ∧ ∀ a, A = some a → B ≤ a.block
/-- A slice of slices of ints that reads as LL. -/
def Grid (B : Nat) (w : World) (A : Option Addr) (c : Nat) (LL : List (List Int)) : Prop :=
  LL.length ≤ c ∧ c ≤ maxLen ∧ (A = none → c = 0) ∧ (0 < LL.length → ∃ b o, A = some ⟨b, o, none⟩ ∧ GridAt B w b o LL)
section
variable {B : Nat} {w w' : World} {A : Option Addr} {c : Nat} {LL : List (List Int)}
theorem GridAt.below {b o : Nat} (h : GridAt B w b o LL) (hb : Below w.heap.size w w') : GridAt B w' b o LL :=
  ⟨Nat.lt_of_lt_of_le h.1 hb.size, h.2.1, fun i hi => by
    obtain ⟨A, c, h1, h2, h3⟩ := h.2.2 i hi
    exact ⟨A, c, (hb.cell (p := ⟨b, _, none⟩) h.1).trans h1, h2.below hb, h3⟩⟩
theorem Grid.below (h : Grid B w A c LL) (hb : Below w.heap.size w w') : Grid B w' A c LL :=
  ⟨h.1, h.2.1, h.2.2.1, fun hl => by obtain ⟨b, o, e, ht⟩ := h.2.2.2 hl; exact ⟨b, o, e, ht.below hb⟩⟩
theorem Grid.mono {C : Nat} (h : Grid B w A c LL) (hC : C ≤ B) : Grid C w A c LL :=
  ⟨h.1, h.2.1, h.2.2.1, fun hl => by
    obtain ⟨b, o, e, h1, h2, h3⟩ := h.2.2.2 hl
    refine ⟨b, o, e, h1, by omega, fun i hi => ?_⟩
    obtain ⟨A, c, a1, a2, a3⟩ := h3 i hi
    exact ⟨A, c, a1, a2, fun a ha => Nat.le_trans hC (a3 a ha)⟩⟩
theorem Grid.none_ (B : Nat) (w : World) : Grid B w none 0 [] := ⟨Nat.le_refl _, Nat.zero_le _, fun _ => rfl, fun h => absurd h (by simp)⟩
theorem Grid.len (h : Grid B w A c LL) : LL.length ≤ 9223372036854775807 := by
  have h1 := h.1; have h2 := h.2.1; unfold maxLen at h2; omega
theorem Grid.alloc (h : Grid B w A c LL) (o : Obj) : Grid B (w.alloc o) A c LL := h.below ((Below.refl _ _).alloc (Nat.le_refl _) o)
theorem Grid.drew (h : Grid B w A c LL) : Grid B w.drew A c LL := h.below (Below.refl _ _).drew
theorem Grid.setCell (h : Grid B w A c LL) {p : Addr} (hp : p.block < B) (u : Value) : Grid B (w.setCell p u) A c LL :=
  ⟨h.1, h.2.1, h.2.2.1, fun hl => by
    obtain ⟨b, o, e, h1, h2, h3⟩ := h.2.2.2 hl
    refine ⟨b, o, e, by simpa [World.setCell] using h1, h2, fun i hi => ?_⟩
    obtain ⟨A, c, a1, a2, a3⟩ := h3 i hi
    refine ⟨A, c, ?_, a2.setCell (fun a ha => by have := a3 a ha; omega) u, a3⟩
    rw [World.cell?_of_block (w := w) (Below.heap_setCell w p u b (by omega))]
    exact a1⟩
end

/-- A sketch as a value, and in memory. -/
abbrev sv (S : Sk) (A : Option Addr) (c : Nat) : Value := .agg #[.int .i64 S.wide, .slice A S.rows.length c]
abbrev so (S : Sk) (A : Option Addr) (c : Nat) : Obj := .cells #[.int .i64 S.wide, .slice A S.rows.length c] 26
/-- Block p holds a sketch. -/
def Bx (w : World) (p : Nat) (S : Sk) (A : Option Addr) (c : Nat) : Prop :=
  p < w.heap.size ∧ w.cell? ⟨p, 0, none⟩ = some (.int .i64 S.wide) ∧ w.cell? ⟨p, 1, none⟩ = some (.slice A S.rows.length c) ∧ Grid 0 w A c S.rows
section
variable {w w' : World} {p : Nat} {S : Sk} {A : Option Addr} {c : Nat}
theorem Bx.below (h : Bx w p S A c) (hb : Below w.heap.size w w') : Bx w' p S A c :=
  ⟨Nat.lt_of_lt_of_le h.1 hb.size, (hb.cell h.1).trans h.2.1, (hb.cell h.1).trans h.2.2.1, h.2.2.2.below hb⟩
theorem Bx.new (h : Grid 0 w A c S.rows) : Bx (w.alloc (so S A c)) w.heap.size S A c := ⟨by simp, by simp [go_sem], by simp [go_sem], h.alloc _⟩
theorem Bx.alloc (h : Bx w p S A c) (o : Obj) : Bx (w.alloc o) p S A c := h.below ((Below.refl _ _).alloc (Nat.le_refl _) o)
theorem Bx.grid (h : Bx w p S A c) : Grid 0 w A c S.rows := h.2.2.2
end

/-! ### Sums -/
set_option maxHeartbeats 1000000 in
theorem sum_any (A : Option Addr) (c : Nat) (L : List Int) (w : World) (ha : Ints w A c L) (hr : okR L) (hl : L.length ≤ 64) :
    Calls Try.prog 20 #[.slice A L.length c] w fun e w' => e = .returned (.int .i64 (sm L)) ∧ w = w' := by
  have HR := Lib.hid hr
  clear hr
  go_enter Try.func20, Try.ntmps20
  go_wp2
  go_loop [3, 8] (fun s i => ∃ k : Nat, k ≤ L.length ∧ i = .int .i64 (k : Int) ∧ s = .int .i64 (sig (gi L) k)) (fun _ i => L.length - (intOf i).toNat)
  case atStart => exact ⟨0, by omega, rfl, rfl⟩
  case round =>
    obtain ⟨k, hk, rfl, rfl⟩ := hrel
    by_cases hlt : k < L.length
    · obtain ⟨b, o, rfl, ht⟩ := ha.2.2.2 (by omega)
      have c1 := ht.2 k hlt
      have b1 := HR.out.take hl hk
      have b2 := HR.out k hlt
      go_wp2
      go_round
      case rel => exact ⟨k + 1, by omega, by go_num, by go_num⟩
      case measure => simp [intOf]; omega
    · obtain rfl : k = L.length := by omega
      go_wp2
      go_ret
      exact ⟨rfl, rfl⟩

set_option maxHeartbeats 1000000 in
theorem checkRow_any (A : Option Addr) (c : Nat) (L : List Int) (n : Int) (w : World) (ha : Ints w A c L) :
    Calls Try.prog 32 #[.slice A L.length c, .int .i64 n] w fun e w' => e = .returned (.int .i64 (rowE n L)) ∧ w = w' := by
  have hlL := ha.len
  by_cases h0 : (L.length : Int) = n
  · have q0 : ((L.length : Int) != n) = false := by simp [h0]
    have HZ := Lib.hid h0
    clear h0
    go_enter Try.func32, Try.ntmps32
    go_wp2
    go_loop [13] (fun i => ∃ k : Nat, k ≤ L.length ∧ i = .int .i64 (k : Int) ∧ Hid (∀ j, j < k → 0 ≤ gi L j ∧ gi L j ≤ 1099511627776)) (fun i => L.length - (intOf i).toNat)
    case atStart => exact ⟨0, by omega, rfl, Lib.hid (fun j hj => by omega)⟩
    case round =>
      obtain ⟨k, hk, rfl, HA⟩ := hrel
      by_cases hlt : k < L.length
      · obtain ⟨b, o, rfl, ht⟩ := ha.2.2.2 (by omega)
        have c1 := ht.2 k hlt
        by_cases b1 : gi L k < 0
        · have p1 : decide (gi L k < 0) = true := by simpa using b1
          have HE : Hid (rowE n L = 3) := Lib.hid (by
            unfold rowE; rw [if_neg (by have := HZ.out; omega), if_neg (fun h => by have := h k hlt; omega)])
          clear b1
          go_wp2
          go_ret
          exact ⟨ret_int HE.out.symm, rfl⟩
        · have p1 : decide (gi L k < 0) = false := by simpa using b1
          by_cases b2 : 1099511627776 < gi L k
          · have p2 : decide (1099511627776 < gi L k) = true := by simpa using b2
            have HE : Hid (rowE n L = 3) := Lib.hid (by
              unfold rowE; rw [if_neg (by have := HZ.out; omega), if_neg (fun h => by have := h k hlt; omega)])
            clear b1 b2
            go_wp2
            go_ret
            exact ⟨ret_int HE.out.symm, rfl⟩
          · have p2 : decide (1099511627776 < gi L k) = false := by simpa using b2
            have HE : Hid (0 ≤ gi L k ∧ gi L k ≤ 1099511627776) := Lib.hid (by omega)
            clear b1 b2
            go_wp2
            go_round
            case rel => exact ⟨k + 1, by omega, by go_num, Lib.hid (fun j hj => by
              by_cases x : j = k
              · subst x; exact HE.out
              · exact HA.out j (by omega))⟩
            case measure => simp [intOf]; omega
      · obtain rfl : k = L.length := by omega
        have HE : Hid (rowE n L = 0) := Lib.hid (rowE_ok HZ.out HA.out)
        go_wp2
        go_ret
        exact ⟨ret_int HE.out.symm, rfl⟩
  · have q0 : ((L.length : Int) != n) = true := by simp [h0]
    have HE : Hid (rowE n L = 1) := Lib.hid (by unfold rowE; rw [if_pos h0])
    clear h0
    go_enter Try.func32, Try.ntmps32
    go_wp2
    go_ret
    exact ⟨ret_int HE.out.symm, rfl⟩

/-- All rows can be summed. -/
def Summed (LL : List (List Int)) : Prop := ∀ i, i < LL.length → okR (gl LL i) ∧ (gl LL i).length ≤ 64
theorem Fine.summed {S : Sk} (g : Fine S) : Summed S.rows := fun i hi => ⟨g.bd i hi, by have := g.len i hi; have := g.w2; omega⟩

set_option maxHeartbeats 1000000 in
theorem sameSums_any (B : Nat) (A : Option Addr) (c : Nat) (LL : List (List Int)) (w : World) (ha : Grid B w A c LL) (hs : Summed LL) :
    Calls Try.prog 33 #[.slice A LL.length c] w fun e w' => e = .returned (.bool (decide (evenS LL))) ∧ Below w.heap.size w w' := by
  have hlL := ha.len
  have HS := Lib.hid hs
  clear hs
  go_enter Try.func33, Try.ntmps33
  go_wp2
  go_loopw [7] (fun i wr => ∃ k : Nat, k ≤ LL.length ∧ i = .int .i64 (k : Int) ∧ Hid (∀ j, j < k → sm (gl LL j) = sm (gl LL 0)) ∧ Below w.heap.size w wr) (fun i _ => LL.length - (intOf i).toNat)
  case atStart => exact ⟨0, by omega, rfl, Lib.hid (fun j hj => by omega), Below.refl _ _⟩
  case round =>
    obtain ⟨k, hk, rfl, HA, HB⟩ := hrel
    by_cases hlt : k < LL.length
    · obtain ⟨b, o, rfl, hb, _, hr⟩ := (ha.below HB).2.2.2 (by omega)
      obtain ⟨A0, c0, e0, i0, _⟩ := hr 0 (by omega)
      obtain ⟨A1, c1, e1, i1, _⟩ := hr k hlt
      rw [Nat.add_zero] at e0
      have HI0 := Lib.hid i0
      have HI1 := Lib.hid i1
      have l1 : (k : Int) < (LL.length : Int) := by omega
      have HS1 := Lib.hid (HS.out k hlt)
      have HS0 := Lib.hid (HS.out 0 (by omega))
      clear hr i0 i1
      generalize hg1 : gl LL k = R1 at *
      generalize hg0 : gl LL 0 = R0 at *
      have HG1 := Lib.hid hg1
      have HG0 := Lib.hid hg0
      clear hg1 hg0
      by_cases he : sm R1 = sm R0
      · have hn : (sm R1 != sm R0) = false := by simp [he]
        have HE := Lib.hid he
        clear he
        go_wp2
        go_quiet (first
          | (go_at_call 20; refine Calls.quiet_of_same (w_swap (sum_any _ _ _ _ ?_ ?_ ?_)) <;> first | exact dn HI1.out _ | exact dn HI0.out _ | exact HS1.out.1 | exact HS1.out.2 | exact HS0.out.1 | exact HS0.out.2))
        go_wp2
        go_roundw
        case rel => exact ⟨k + 1, by omega, by go_num, Lib.hid (fun j hj => by
          by_cases x : j = k
          · subst x; rw [HG1.out]; exact HE.out
          · exact HA.out j (by omega)), below_drewN HB _⟩
        case measure => simp [intOf]; omega
      · have hn : (sm R1 != sm R0) = true := by simp [he]
        have HE : Hid (decide (evenS LL) = false) := Lib.hid (by
          simp only [decide_eq_false_iff_not]; intro h
          have h2 := h k hlt
          rw [HG1.out, HG0.out] at h2
          exact he h2)
        clear he
        go_wp2
        go_quiet (first
          | (go_at_call 20; refine Calls.quiet_of_same (w_swap (sum_any _ _ _ _ ?_ ?_ ?_)) <;> first | exact dn HI1.out _ | exact dn HI0.out _ | exact HS1.out.1 | exact HS1.out.2 | exact HS0.out.1 | exact HS0.out.2))
        go_wp2
        go_ret
        exact ⟨ret_bool HE.out.symm, below_drewN HB _⟩
    · obtain rfl : k = LL.length := by omega
      have HE : Hid (decide (evenS LL) = true) := Lib.hid (by simp only [decide_eq_true_eq]; exact HA.out)
      go_wp2
      go_ret
      exact ⟨ret_bool HE.out.symm, HB⟩

end Go.Proofs.Ytmldjfbnljdamaa.Skt
