/-
  What slices.Sort, slices.Compact, slices.BinarySearch, slices.Concat do to slices of ints of the call's own.
-/
import Derived.Test.YtgckghedfhnamaaInts
import Derived.Test.YtgckghedfhnamaaShelf
import Derived.Sort.OwnSortedInts
import Derived.Lib.RowBridge
import Derived.Laws.AppendOwnNone
namespace Go.Proofs.Ytgckghedfhnamaa
open Go.RowKit Go.Shelf
set_option linter.unusedVariables false

/-- v is a slice of the call's own (blocks from base on) that holds L. -/
abbrev OwnI (w : World) (base : Nat) (v : Value) (L : List Int) : Prop := w.ownsRow base 3 1 v L.length (L.map encI)

theorem sort_any (blk off cap : Nat) (zs : List Int) (w : World) (hH : Sort.Holds (Value.int .i64) w blk off zs.toArray) (hblk : blk < w.heap.size) (hsz : zs.length < 4611686018427387904) :
    Calls Try.prog 31 #[.slice (some ⟨blk, off, none⟩) zs.length cap] w fun e w' =>
      e = .returned (.tuple #[]) ∧ ∃ n os, w' = Sort.grow (Sort.putRow (Value.int .i64) (Sort.ahead w n) blk off (zs.mergeSort fun x y => decide (x ≤ y)).toArray) os :=
  Any.slices_Sort_int Try.lays189 blk off cap zs w hH hblk hsz
theorem sort_none (p : Option Addr) (cap : Nat) (w : World) :
    Calls Try.prog 31 #[.slice p 0 cap] w fun e w' => e = .returned (.tuple #[]) ∧ w' = w :=
  Any.slices_Sort_int_none Try.lays189 p cap w
theorem compact_any (blk off cap : Nat) (zs : List Int) (w : World) (hH : Sort.Holds (Value.int .i64) w blk off zs.toArray) (hsz : zs.length ≤ 9223372036854775807) (hcap : zs.length ≤ cap) :
    Calls Try.prog 32 #[.slice (some ⟨blk, off, none⟩) zs.length cap] w fun e w' =>
      e = .returned (.slice (some ⟨blk, off, none⟩) (Lib.compact zs).length cap) ∧ ∃ q, w' = Sort.putRow (Value.int .i64) (Sort.ahead w q) blk off (Lib.compact zs ++ List.replicate (zs.length - (Lib.compact zs).length) 0).toArray :=
  Any.slices_Compact_int Try.lays2n20 blk off cap zs w hH hsz hcap
theorem compact_none (a : Option Addr) (cap : Nat) (w : World) :
    Calls Try.prog 32 #[.slice a 0 cap] w fun e w' => e = .returned (.slice a 0 cap) ∧ w' = w :=
  Any.slices_Compact_int_empty Try.lays2n20 a cap w

theorem search_any (A : Option Addr) (c : Nat) (L : List Int) (x : Int) (w : World) (h : Ints w A c L) (hi : Inc L) (hl : L.length < 4611686018427387904) :
    Calls Try.prog 15 #[.slice A L.length c, .int .i64 x] w fun e w' =>
      (∃ n : Int, e = .returned (.tuple #[.int .i64 n, .bool (decide (x ∈ L))])) ∧ Below w.heap.size w w' := by
  by_cases h0 : 0 < L.length
  · obtain ⟨b, o, rfl, ht⟩ := h.2.2.2 h0
    refine (Any.slices_BinarySearch_int Try.lays2n25 b o L.length c L x w (Nat.le_refl _) hl (fun j hj => ht.2 j hj) (by rw [List.take_length]; exact hi.imp (fun h => by omega))).mono ?_
    rintro e w' ⟨rfl, q, rfl⟩
    rw [List.take_length]
    refine ⟨⟨((L.countP (· < x) : Nat) : Int), ?_⟩, ⟨rfl, rfl, rfl, Nat.le_refl _, fun _ _ => rfl⟩⟩
    rw [show L.contains x = decide (x ∈ L) from Bool.eq_iff_iff.2 (by simp)]
  · have e : L = [] := List.length_eq_zero_iff.1 (by omega)
    subst e
    refine (Any.slices_BinarySearch_int_empty Try.lays2n25 A c x w).mono ?_
    rintro e w' ⟨rfl, rfl⟩
    exact ⟨⟨0, by simp⟩, Below.refl _ _⟩

theorem below_putRow {B g n : Nat} {w : World} {os : Array Obj} (d : Array Int) (hg : B ≤ g) (hB : B ≤ w.heap.size) : Below B w (Sort.grow (Sort.putRow (Value.int .i64) (Sort.ahead w n) g 0 d) os) :=
  (Below.refl B w).grown (grownBy_sortedI (g := g) (n := n) (os := os) d) hB (fun k hk => by cases hk; exact hg)

theorem grow_nil (w : World) : Sort.grow w #[] = w := by cases w; simp [Sort.grow]

theorem ord_nil : ord [] = [] := ord_eq (by simp [Inc]) (fun x => Iff.rfl)
theorem ordered_any (base : Nat) (v : Value) (zs : List Int) (w : World) (h : OwnI w base v zs) (hB : base ≤ w.heap.size) (hl : zs.length ≤ 1048576) :
    Calls Try.prog 19 #[v] w fun e w' => ∃ A c, e = .returned (.slice A (ord zs).length c) ∧ Ints w' A c (ord zs) ∧ (∀ a, A = some a → base ≤ a.block) ∧ Below base w w' := by
  rcases h.2 with ⟨rfl, h0⟩ | ⟨g, cap, cur, rfl, hbase, hb, h1, h2, h3, h4⟩
  · have e : zs = [] := List.length_eq_zero_iff.1 h0
    subst e
    simp only [ord_nil]
    go_enter Try.func19, Try.ntmps19
    go_wp2_with fail
    refine (sort_none _ _ _).mono ?_
    rintro e w' ⟨rfl, rfl⟩
    go_wp2_with fail
    refine (compact_none _ _ _).mono ?_
    rintro e w' ⟨rfl, rfl⟩
    go_wp2
    go_ret
    exact ⟨none, 0, rfl, Ints.none_ _, fun a h => (by cases h), Below.refl _ _⟩
  · have hgl : g < w.heap.size := (Array.getElem?_eq_some_iff.1 hb).1
    have hH := holds_of_blockI (ss := zs) hb (by simpa using h4)
    have hM : (zs.mergeSort fun x y => decide (x ≤ y)).length = zs.length := List.length_mergeSort zs
    have HO : Hid (ord zs = Lib.compact (zs.mergeSort fun x y => decide (x ≤ y))) := Lib.hid rfl
    have HL := Lib.hid (ord_len zs)
    have HM := Lib.hid hM
    have key : ∀ (n : Nat) (os : Array Obj), Sort.Holds (Value.int .i64) (Sort.grow (Sort.putRow (Value.int .i64) (Sort.ahead w n) g 0 (zs.mergeSort fun x y => decide (x ≤ y)).toArray) os) g 0 (zs.mergeSort fun x y => decide (x ≤ y)).toArray := fun n os =>
      Sort.holds_grow _ _ _ _ _ _ (by simpa [Sort.putRow, Sort.mapBlock, Sort.ahead] using hgl) (Sort.holds_putRow _ _ _ _ zs.toArray _ hH (by simp))
    have hbel : ∀ (n : Nat) (os : Array Obj), Below base w (Sort.grow (Sort.putRow (Value.int .i64) (Sort.ahead w n) g 0 (zs.mergeSort fun x y => decide (x ≤ y)).toArray) os) := fun n os => below_putRow _ hbase hB
    have hgl2 : ∀ (n : Nat) (os : Array Obj), g < (Sort.grow (Sort.putRow (Value.int .i64) (Sort.ahead w n) g 0 (zs.mergeSort fun x y => decide (x ≤ y)).toArray) os).heap.size := fun n os => by
      have := (hbel n os).size; omega
    have HK := Lib.hid key
    have HBe := Lib.hid hbel
    have HG := Lib.hid hgl2
    clear key hbel hgl2 hM
    go_enter Try.func19, Try.ntmps19
    go_wp2_with fail
    refine (sort_any g 0 cap zs w hH hgl (by omega)).mono ?_
    rintro e w1 ⟨rfl, n, os, he⟩
    have hK1 := HK.out n os
    have hB1 := HBe.out n os
    have hG1 := HG.out n os
    rw [← he] at hK1 hB1 hG1
    clear he HK HBe HG hH
    have hc := compact_any g 0 cap _ w1 hK1 (by rw [HM.out]; omega) (by rw [HM.out]; omega)
    rw [← HO.out, HM.out] at hc
    go_wp2_with fail
    refine hc.mono ?_
    rintro e w2 ⟨rfl, q, he⟩
    have hH2 : Sort.Holds (Value.int .i64) w2 g 0 (ord zs ++ List.replicate (zs.length - (ord zs).length) 0).toArray := by
      rw [he]
      exact Sort.holds_putRow _ _ _ _ (zs.mergeSort fun x y => decide (x ≤ y)).toArray _ hK1 (by have := HL.out; have := HM.out; simp; omega)
    have hB2 : Below base w1 w2 := by
      rw [he]
      have := below_putRow (B := base) (g := g) (n := q) (w := w1) (os := #[]) (ord zs ++ List.replicate (zs.length - (ord zs).length) 0).toArray hbase (Nat.le_trans hB hB1.size)
      rwa [grow_nil] at this
    clear he hc hK1
    go_wp2
    go_ret
    have hl1 := HL.out
    refine ⟨_, cap, rfl, ⟨by omega, h2, fun e => (by cases e), fun h0 => ⟨g, 0, rfl, Nat.lt_of_lt_of_le hG1 hB2.size, fun i hi => ?_⟩⟩, fun a h => (by cases h; exact hbase), hB1.trans hB2⟩
    rw [(hH2 i (by simp; omega)).1]
    congr 2
    rw [get!_toArray (by simp; omega), List.getElem_append_left hi, gi_get hi]

end Go.Proofs.Ytgckghedfhnamaa
