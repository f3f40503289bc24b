/-
  Slices of ints: how they lie in memory, how an argument opens, what the small functions over them return.
-/
import Derived.Test.YtjmhemkbfephpaaHashWalks
import Derived.Test.YtjmhemkbfephpaaBloomMath
import Derived.Test.YtjmhemkbfephpaaOpen
import Derived.Below
import Derived.Deep.QuietTactic
import Derived.BigQuiet
import Derived.Laws.MakeOwn
import Derived.Laws.OwnMore
import Derived.Laws.Rows
import Derived.Sort.Row
namespace Go.Proofs.Ytjmhemkbfephpaa
open Go.ChangeShapes Go.WideShapes Go.RowKit
set_option linter.unusedVariables false

theorem ret_bool {a b : Bool} (h : a = b) : Ending.returned (.bool a) = .returned (.bool b) := by rw [h]
theorem bd_eq {a b : Int} (h : a ≠ b) : (a == b) = false := by simpa using h
theorem bd_ne {a b : Int} (h : a ≠ b) : (a != b) = true := by simpa using h
theorem below_undrew {B : Nat} {a w : World} (h : Below B a.drew w) : Below B a w := ⟨h.os, h.tape, h.output, h.size, h.block⟩
theorem fromAlloc' {B : Nat} {w w' : World} {o : Obj} (h : Below B (w.alloc o) w') (hB : B ≤ w.heap.size) : Below B w w' :=
  ((Below.refl _ _).alloc hB o).trans h

abbrev encI : Int → Value := Value.int .i64
/-- The cells from ⟨b, o⟩ on hold L. -/
def IntsAt (w : World) (b o : Nat) (L : List Int) : Prop := b < w.heap.size ∧ ∀ i, i < L.length → w.cell? ⟨b, o + i, none⟩ = some (.int .i64 (gi L i))
/-- A slice of ints that reads as L. -/
def Ints (w : World) (A : Option Addr) (c : Nat) (L : List Int) : Prop :=
  L.length ≤ c ∧ c ≤ maxLen ∧ (A = none → c = 0) ∧ (0 < L.length → ∃ b o, A = some ⟨b, o, none⟩ ∧ IntsAt w b o L)

theorem IntsAt.below {b o B : Nat} {L : List Int} {w w' : World} (h : IntsAt w b o L) (hB : b < B) (hb : Below B w w') : IntsAt w' b o L :=
  ⟨Nat.lt_of_lt_of_le h.1 hb.size, fun i hi => (hb.cell (p := ⟨b, _, none⟩) hB).trans (h.2 i hi)⟩
theorem Ints.below {A : Option Addr} {c : Nat} {L : List Int} {w w' : World} (h : Ints w A c L) (hb : Below w.heap.size w w') : Ints w' A c L :=
  ⟨h.1, h.2.1, h.2.2.1, fun hl => by obtain ⟨b, o, e, ht⟩ := h.2.2.2 hl; exact ⟨b, o, e, ht.below ht.1 hb⟩⟩
theorem Ints.none_ (w : World) : Ints w none 0 [] := ⟨Nat.le_refl _, Nat.zero_le _, fun _ => rfl, fun h => absurd h (by simp)⟩
theorem Ints.len {w : World} {A : Option Addr} {c : Nat} {L : List Int} (h : Ints w A c L) : L.length ≤ 9223372036854775807 := by
  have h1 := h.1; have h2 := h.2.1; unfold maxLen at h2; omega
theorem Ints.alloc {A : Option Addr} {c : Nat} {L : List Int} {w : World} (h : Ints w A c L) (o : Obj) : Ints (w.alloc o) A c L :=
  h.below ((Below.refl _ _).alloc (Nat.le_refl _) o)

theorem Ints.setCell {A : Option Addr} {c : Nat} {L : List Int} {w : World} (h : Ints w A c L) {p : Addr} (hp : ∀ a, A = some a → a.block ≠ p.block) (u : Value) : Ints (w.setCell p u) A c L :=
  ⟨h.1, h.2.1, h.2.2.1, fun hl => by
    obtain ⟨b, o, e, ht⟩ := h.2.2.2 hl
    have hne : b ≠ p.block := hp _ e
    refine ⟨b, o, e, by simpa [World.setCell] using ht.1, fun i hi => ?_⟩
    rw [World.cell?_of_block (w := w) (Below.heap_setCell w p u b hne)]
    exact ht.2 i hi⟩
theorem Ints.drew {A : Option Addr} {c : Nat} {L : List Int} {w : World} (h : Ints w A c L) : Ints w.drew A c L := h

/-- A row of the call's own reads as its list. -/
theorem ints_of_own {w : World} {base : Nat} {v : Value} {L : List Int} (h : w.ownsRow base 3 1 v L.length (L.map encI)) :
    ∃ A c, v = .slice A L.length c ∧ Ints w A c L := by
  rcases h.2 with ⟨rfl, h0⟩ | ⟨g, cap, cur, rfl, hb, hg, hn, hm, hs, ht⟩
  · have : L = [] := List.length_eq_zero_iff.1 h0
    subst this
    exact ⟨none, 0, rfl, Ints.none_ w⟩
  · refine ⟨_, cap, rfl, hn, hm, fun e => (by cases e), fun hl => ⟨g, 0, rfl, ?_, fun i hi => ?_⟩⟩
    · rcases Nat.lt_or_ge g w.heap.size with x | x
      · exact x
      · rw [Array.getElem?_eq_none x] at hg; cases hg
    · rw [Nat.zero_add, cell_of_row w g i _ _ (0, 0) hg]
      have : (L.map encI)[i]? = some (encI (gi L i)) := by rw [List.getElem?_map, List.getElem?_eq_getElem hi, gi_get hi]; rfl
      rw [← ht, List.getElem?_take, if_pos (by omega)] at this
      simpa using this

/-! ### An argument -/
theorem ints_read {H : Type} {enc : TypeId × Value → H} {W : World} {fuel : Nat} {A : Option Addr} {len cap : Nat} {x : DataW H × List MemPlace}
    (h : DataW.trod enc Try.prog W 0 (fun _ => true) true fuel 23 [.slice A len cap] = some x) : ∃ L : List Int, len = L.length ∧ Ints W A cap L := by
  rcases open_ints Try.underlying23 Try.underlying3 (by kernel_rfl) h with ⟨hcs, hx⟩ | ⟨a, len', cap', zs, hcs, _, hl, hm, hz, hx, hcell, hwz⟩
  · simp only [List.cons.injEq, Value.slice.injEq, and_true] at hcs
    obtain ⟨rfl, rfl, rfl⟩ := hcs
    exact ⟨[], rfl, Ints.none_ W⟩
  · simp only [List.cons.injEq, Value.slice.injEq, and_true] at hcs
    obtain ⟨rfl, rfl, rfl⟩ := hcs
    simp only [if_true] at hz
    refine ⟨zs.take len, by simp; omega, ⟨by simp; omega, hm, fun e => (by cases e), fun h0 => ?_⟩⟩
    have hlen : (zs.take len).length = len := by simp; omega
    have h0' : 0 < len := by omega
    obtain ⟨hsp, hbl⟩ := cell_spot (hcell 0 (by omega))
    have ha : a = ⟨a.block, a.off, none⟩ := by simpa [Addr.add] using hsp
    refine ⟨a.block, a.off, by rw [← ha], by simpa [Addr.add] using hbl, fun i hi => ?_⟩
    have hi' : i < len := by omega
    have hc := hcell i (by omega)
    rw [ha, add_none] at hc
    rw [hc]
    have : zs.getD i 0 = gi (zs.take len) i := by
      rw [gi_get (by omega), List.getElem_take, List.getD_eq_getElem?_getD, List.getElem?_eq_getElem (by omega)]; rfl
    rw [this]

/-! ### The small functions of the reference -/
set_option maxHeartbeats 400000 in
theorem sameInts_any (A B : Option Addr) (c d : Nat) (L M : List Int) (w : World) (ha : Ints w A c L) (hb : Ints w B d M) :
    Calls Try.prog 19 #[.slice A L.length c, .slice B M.length d] w fun e w' => e = .returned (.bool (decide (L = M))) ∧ Below w.heap.size w w' := by
  have hlL := ha.len
  by_cases hl : L.length = M.length
  · have hq : ((L.length : Int) != (M.length : Int)) = false := by simp [hl]
    by_cases h0 : 0 < L.length
    · obtain ⟨b1, o1, rfl, t1⟩ := ha.2.2.2 h0
      obtain ⟨b2, o2, rfl, t2⟩ := hb.2.2.2 (by omega)
      have hb1 := t1.1
      have hb2 := t2.1
      rw [← hl]
      go_enter Try.func19, Try.ntmps19
      go_wp2
      go_loopw [5] (fun i wr => ∃ k : Nat, k ≤ L.length ∧ i = .int .i64 k ∧ Hid (∀ j, j < k → gi L j = gi M j) ∧ Below w.heap.size w wr) (fun i _ => L.length - (intOf i).toNat)
      case atStart => exact ⟨0, by omega, rfl, Lib.hid (fun j hj => by omega), Below.refl _ _⟩
      case round =>
        obtain ⟨k, hk, rfl, HA, HB⟩ := hrel
        by_cases hlt : k < L.length
        · have c1 := (t1.below hb1 HB).2 k hlt
          have c2 := (t2.below hb2 HB).2 k (by omega)
          have l1 : (k : Int) < (L.length : Int) := by omega
          by_cases he : gi L k = gi M k
          · have hn : (gi L k != gi M k) = false := by simp [he]
            have HE := Lib.hid he
            clear he
            go_wp2
            go_quiet (fail)
            go_wp2
            go_roundw
            case rel => exact ⟨k + 1, by omega, by go_num, Lib.hid (fun j hj => by
              by_cases x : j = k
              · subst x; exact HE.out
              · exact HA.out j (by omega)), by first | exact HB | exact ⟨HB.os, HB.tape, HB.output, HB.size, HB.block⟩⟩
            case measure => simp [intOf]; omega
          · have hn : (gi L k != gi M k) = true := by simp [he]
            have HE : Hid (decide (L = M) = false) := Lib.hid (by simp; intro e; rw [e] at he; exact he rfl)
            clear he
            go_wp2
            go_quiet (fail)
            go_wp2
            go_ret
            exact ⟨ret_bool HE.out.symm, by first | exact HB | exact ⟨HB.os, HB.tape, HB.output, HB.size, HB.block⟩⟩
        · obtain rfl : k = L.length := by omega
          have HE : Hid (decide (L = M) = true) := Lib.hid (by
            simp only [decide_eq_true_eq]
            refine List.ext_getElem hl (fun i h1 h2 => ?_)
            have := HA.out i h1
            rwa [gi_get h1, gi_get h2] at this)
          go_wp2
          go_ret
          exact ⟨ret_bool HE.out.symm, HB⟩
    · have e1 : L = [] := List.length_eq_zero_iff.1 (by omega)
      have e2 : M = [] := List.length_eq_zero_iff.1 (by omega)
      subst e1 e2
      clear ha hb hq hl hlL h0
      show Calls _ _ #[.slice A 0 c, .slice B 0 d] _ _
      go_enter Try.func19, Try.ntmps19
      go_wp2
      go_loop [5] (fun i => i = .int .i64 0) (fun _ => 0)
      case atStart => rfl
      case round =>
        subst hrel
        go_wp2
        go_ret
        exact ⟨rfl, Below.refl _ _⟩
  · have hq : ((L.length : Int) != (M.length : Int)) = true := bd_ne (by omega)
    have HE : Hid (decide (L = M) = false) := Lib.hid (by simp; intro e; rw [e] at hl; exact hl rfl)
    clear hl
    go_enter Try.func19, Try.ntmps19
    go_wp2
    go_ret
    exact ⟨ret_bool HE.out.symm, Below.refl _ _⟩

theorem between_any (n a b : Int) (w : World) :
    Calls Try.prog 33 #[.int .i64 n, .int .i64 a, .int .i64 b] w fun e w' => e = .returned (.bool (decide (a ≤ n ∧ n ≤ b))) ∧ w = w' := by
  by_cases h : a ≤ n
  · have hd : decide (a ≤ n) = true := by simpa using h
    go_enter Try.func33, Try.ntmps33
    go_wp2
    go_ret
    exact ⟨ret_bool (by simp [h]), rfl⟩
  · have hd : decide (a ≤ n) = false := by simpa using h
    go_enter Try.func33, Try.ntmps33
    go_wp2
    go_ret
    exact ⟨ret_bool (by simp), rfl⟩

end Go.Proofs.Ytjmhemkbfephpaa
