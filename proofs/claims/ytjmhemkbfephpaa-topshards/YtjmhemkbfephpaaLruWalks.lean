/-
  Package lru: a cache in memory; isRoom, isKey, Check, CheckTrace.
-/
import Derived.Test.YtjmhemkbfephpaaLruLib
import Derived.Deep.RegionHeld3
namespace Go.Proofs.Ytjmhemkbfephpaa.Lru
open Go.RowKit
set_option linter.unusedVariables false

abbrev cv (r : Int) (A : Option Addr) (c : Nat) (L : List Int) : Value := .agg #[.int .i64 r, .slice A L.length c]
abbrev co (r : Int) (A : Option Addr) (c : Nat) (L : List Int) : Obj := .cells #[.int .i64 r, .slice A L.length c] 46
abbrev zo : Obj := .cells #[.int .i64 0, .slice none 0 0] 46
/-- Block p holds a cache. -/
def Bx (w : World) (p : Nat) (r : Int) (A : Option Addr) (c : Nat) (L : List Int) : Prop :=
  p < w.heap.size ∧ w.cell? ⟨p, 0, none⟩ = some (.int .i64 r) ∧ w.cell? ⟨p, 1, none⟩ = some (.slice A L.length c) ∧ Ints w A c L
section
variable {w w' : World} {p : Nat} {r : Int} {A : Option Addr} {c : Nat} {L : List Int}
theorem Bx.below (h : Bx w p r A c L) (hb : Below w.heap.size w w') : Bx w' p r A c L :=
  ⟨Nat.lt_of_lt_of_le h.1 hb.size, (hb.cell (p := ⟨p, 0, none⟩) h.1).trans h.2.1, (hb.cell (p := ⟨p, 1, none⟩) h.1).trans h.2.2.1, h.2.2.2.below hb⟩
theorem Bx.alloc (h : Bx w p r A c L) (o : Obj) : Bx (w.alloc o) p r A c L := h.below ((Below.refl _ _).alloc (Nat.le_refl _) o)
theorem Bx.ints (h : Bx w p r A c L) : Ints w A c L := h.2.2.2
theorem Bx.new (h : Ints w A c L) : Bx (w.alloc (co r A c L)) w.heap.size r A c L :=
  ⟨by simp, by simp [go_sem], by simp [go_sem], h.alloc _⟩
end

/-! ### Parts of a row -/
theorem gi_drop (L : List Int) (k i : Nat) : gi (L.drop k) i = gi L (k + i) := by simp [gi, List.getD_eq_getElem?_getD]
theorem gi_take {L : List Int} {k i : Nat} (h : i < k) : gi (L.take k) i = gi L i := by simp [gi, List.getD_eq_getElem?_getD, h]
theorem elemI : Try.prog.underlying 23 = some (.slice (Try.prog.elem 23)) := by kernel_rfl
theorem sizeI (w : World) : (sizeOf (Try.prog.elem 23)).run Try.prog w = .ok 1 w := by kernel_rfl
theorem slice_upto {A : Option Addr} {c : Nat} {L : List Int} {k : Nat} {w : World} (hT : Ints w A c L) (hk : k ≤ L.length) :
    ∃ A', (∀ W : World, (Instr.slice 23 (.slice A L.length c) none (some (.int .i64 (k : Int))) none).run Try.prog W = .ok (.slice A' (L.take k).length c) W) ∧ Ints w A' c (L.take k) ∧ (∀ a, A' = some a → ∃ a0, A = some a0 ∧ a.block = a0.block) := by
  have hc := hT.1
  have hl : (L.take k).length = k := by rw [List.length_take]; omega
  refine ⟨if c = 0 then A else A.map (·.add 0), fun W => ?_, ?_, ?_⟩
  · rw [run_slice_h W _ A L.length c elemI .i64 (k : Int) (by omega) (by omega), sizeI, hl]
    simp [sliced]
  · refine ⟨by omega, hT.2.1, fun e => ?_, fun h0 => ?_⟩
    · split at e
      · assumption
      · exact hT.2.2.1 (by cases A with | none => rfl | some a => simp at e)
    · obtain ⟨b, o, rfl, ht⟩ := hT.2.2.2 (by omega)
      rw [if_neg (by omega)]
      refine ⟨b, o, by simp [Addr.add_lit], ht.1, fun i hi => ?_⟩
      rw [hl] at hi
      rw [gi_take hi]
      exact ht.2 i (by omega)
  · intro a ha
    split at ha
    · exact ⟨a, ha, rfl⟩
    · cases A with
      | none => simp at ha
      | some a0 =>
        refine ⟨a0, rfl, ?_⟩
        simp only [Option.map_some, Option.some.injEq] at ha
        rw [← ha]
        unfold Addr.add
        split <;> rfl
theorem slice_from {A : Option Addr} {c : Nat} {L : List Int} {k : Nat} {w : World} (hT : Ints w A c L) (hk : k ≤ L.length) :
    ∃ A' c', (∀ W : World, (Instr.slice 23 (.slice A L.length c) (some (.int .i64 (k : Int))) none none).run Try.prog W = .ok (.slice A' (L.drop k).length c') W) ∧ Ints w A' c' (L.drop k) := by
  have hc := hT.1
  refine ⟨if c = k then A else A.map (·.add (k * 1)), c - k, fun W => ?_, ?_⟩
  · rw [run_slice_l W _ A L.length c elemI .i64 (k : Int) (by omega) (by omega), sizeI]
    simp [sliced]
  · refine ⟨by rw [List.length_drop]; omega, by have := hT.2.1; omega, fun e => ?_, fun h0 => ?_⟩
    · split at e
      · omega
      · cases A with
        | none => have := hT.2.2.1 rfl; omega
        | some a => simp at e
    · rw [List.length_drop] at h0
      obtain ⟨b, o, rfl, ht⟩ := hT.2.2.2 (by omega)
      rw [if_neg (by omega)]
      refine ⟨b, o + k, by simp [Addr.add_lit], ht.1, fun i hi => ?_⟩
      rw [List.length_drop] at hi
      rw [gi_drop, Nat.add_assoc]
      exact ht.2 (k + i) (by omega)

/-! ### isRoom, isKey -/
theorem isRoom_any (n : Int) (w : World) : Calls Try.prog 48 #[.int .i64 n] w fun e w' => e = .returned (.bool (decide (isRm n))) ∧ w = w' := by
  by_cases h : 1 ≤ n
  · have hd : decide (1 ≤ n) = true := by simpa using h
    have HE : Hid (decide (isRm n) = decide (n ≤ 40)) := Lib.hid (by simp [isRm, h])
    clear h
    go_enter Try.func48, Try.ntmps48
    go_wp2
    go_ret
    exact ⟨ret_bool HE.out.symm, rfl⟩
  · have hd : decide (1 ≤ n) = false := by simpa using h
    have HE : Hid (decide (isRm n) = false) := Lib.hid (decide_eq_false (fun hh => h hh.1))
    clear h
    go_enter Try.func48, Try.ntmps48
    go_wp2
    go_ret
    exact ⟨ret_bool HE.out.symm, rfl⟩

theorem isKey_any (n : Int) (w : World) : Calls Try.prog 38 #[.int .i64 n] w fun e w' => e = .returned (.bool (decide (isK n))) ∧ w = w' := by
  by_cases h : 0 ≤ n
  · have hd : decide (0 ≤ n) = true := by simpa using h
    have HE : Hid (decide (isK n) = decide (n ≤ 1048576)) := Lib.hid (by simp [isK, h])
    clear h
    go_enter Try.func38, Try.ntmps38
    go_wp2
    go_ret
    exact ⟨ret_bool HE.out.symm, rfl⟩
  · have hd : decide (0 ≤ n) = false := by simpa using h
    have HE : Hid (decide (isK n) = false) := Lib.hid (decide_eq_false (fun hh => h hh.1))
    clear h
    go_enter Try.func38, Try.ntmps38
    go_wp2
    go_ret
    exact ⟨ret_bool HE.out.symm, rfl⟩

/-! ### Check, CheckTrace -/
theorem ret_int {a b : Int} (h : a = b) : Ending.returned (.int .i64 a) = .returned (.int .i64 b) := by rw [h]
theorem keysE_at {L : List Int} {k : Nat} (hk : k < L.length) : keysE (L.take k) (L.drop k) = if isK (gi L k) then (if gi L k ∈ L.take k then 6 else keysE (L.take (k + 1)) (L.drop (k + 1))) else 3 := by
  rw [List.drop_eq_getElem_cons hk, ← gi_get hk]
  have : L.take (k + 1) = L.take k ++ [gi L k] := by rw [List.take_add_one, List.getElem?_eq_getElem hk, gi_get hk]; rfl
  rw [this]
  rfl

set_option maxHeartbeats 2000000 in
theorem check_any (r : Int) (A : Option Addr) (c : Nat) (L : List Int) (w : World) (hI : Ints w A c L) :
    Calls Try.prog 37 #[cv r A c L] w fun e w' => e = .returned (.int .i64 (checkC r L)) ∧ Below w.heap.size w w' := by
  have X := Bx.new (r := r) hI
  have HX := Lib.hid X
  have HB : Hid (Below w.heap.size w (w.alloc (co r A c L))) := Lib.hid ((Below.refl _ _).alloc (Nat.le_refl _) _)
  obtain ⟨-, x1, x2, -⟩ := X
  have hlen := hI.len
  by_cases h1 : isRm r
  · have p1 : decide (isRm r) = true := by simpa using h1
    by_cases h2 : r < (L.length : Int)
    · have HE : Hid (checkC r L = 2) := Lib.hid (by unfold checkC; rw [if_pos h1, if_pos h2])
      have p2 : decide (r < (L.length : Int)) = true := by simpa using h2
      clear h1 h2 hI
      go_enter Try.func37, Try.ntmps37
      go_wp2_with fail
      refine (isRoom_any _ _).mono ?_
      rintro e w' ⟨rfl, rfl⟩
      rw [p1]
      go_wp2
      go_ret
      exact ⟨ret_int HE.out.symm, HB.out⟩
    · have HE : Hid (checkC r L = keysE (L.take 0) (L.drop 0)) := Lib.hid (by unfold checkC; rw [if_pos h1, if_neg h2]; rfl)
      have p2 : decide (r < (L.length : Int)) = false := by simpa using h2
      clear h1 h2
      have HI := Lib.hid hI
      clear hI
      go_enter Try.func37, Try.ntmps37
      go_wp2_with fail
      refine (isRoom_any _ _).mono ?_
      rintro e w' ⟨rfl, rfl⟩
      rw [p1]
      generalize w.alloc (co r A c L) = w1 at *
      obtain ⟨ln, hln⟩ : ∃ ln, L.length = ln := ⟨_, rfl⟩
      have HLN := Lib.hid hln
      rw [hln] at x2 p2 hlen
      clear hln
      go_wp2
      go_loop [18] (fun i => ∃ k : Nat, k ≤ ln ∧ i = .int .i64 (k : Int) ∧ Hid (checkC r L = keysE (L.take k) (L.drop k))) (fun i => ln - (intOf i).toNat)
      case atStart => exact ⟨0, by omega, rfl, HE⟩
      case round =>
        obtain ⟨k, hk, rfl, HA⟩ := hrel
        by_cases hlt : k < ln
        · have hin : (k : Int) < (ln : Int) := by omega
          have hiB : (0 : Int) ≤ (k : Int) := by omega
          have HKL : Hid (k < L.length) := Lib.hid (by rw [HLN.out]; exact hlt)
          have HAt := Lib.hid (keysE_at HKL.out)
          have hX2 := HX.out.ints
          obtain ⟨A', hsl, hT', -⟩ := slice_upto hX2 (k := k) (by rw [HLN.out]; omega)
          have htl : (L.take k).length = k := by rw [List.length_take, HLN.out]; omega
          have HC := Lib.hid (contains_any A' c (L.take k) (gi L k) _ hT')
          rw [htl] at HC hsl
          rw [HLN.out] at hsl
          clear hT' htl
          obtain ⟨b, o, rfl, ht⟩ := hX2.2.2.2 (by rw [HLN.out]; omega)
          have e1 := ht.2 k HKL.out
          clear ht hX2
          have HIs : ∀ W, Calls Try.prog 38 #[.int .i64 (gi L k)] W fun e w' => e = .returned (.bool (decide (isK (gi L k)))) ∧ W = w' := fun W => isKey_any _ _
          have HIs := Lib.hid HIs
          by_cases q1 : isK (gi L k)
          · have d1 : decide (isK (gi L k)) = true := by simpa using q1
            rw [if_pos q1] at HAt
            rw [d1] at HIs
            by_cases q2 : gi L k ∈ L.take k
            · have d2 : decide (gi L k ∈ L.take k) = true := by simpa using q2
              rw [if_pos q2] at HAt
              rw [d2] at HC
              clear q1 q2 d1 d2
              generalize gi L k = x at *
              go_wp2_with fail
              refine (HIs.out _).mono ?_
              rintro e w' ⟨rfl, rfl⟩
              go_wp2_with fail
              refine HC.out.mono ?_
              rintro e w' ⟨rfl, rfl⟩
              go_wp2
              go_ret
              exact ⟨ret_int (by rw [HA.out, HAt.out]), HB.out⟩
            · have d2 : decide (gi L k ∈ L.take k) = false := by simpa using q2
              rw [if_neg q2] at HAt
              rw [d2] at HC
              clear q1 q2 d1 d2
              generalize gi L k = x at *
              go_wp2_with fail
              refine (HIs.out _).mono ?_
              rintro e w' ⟨rfl, rfl⟩
              go_wp2_with fail
              refine HC.out.mono ?_
              rintro e w' ⟨rfl, rfl⟩
              go_wp2
              go_round
              case rel => exact ⟨k + 1, by omega, by go_num, Lib.hid (by rw [HA.out, HAt.out])⟩
              case measure => simp [intOf]; omega
          · have d1 : decide (isK (gi L k)) = false := by simpa using q1
            rw [if_neg q1] at HAt
            rw [d1] at HIs
            clear q1 d1
            generalize gi L k = x at *
            go_wp2_with fail
            refine (HIs.out _).mono ?_
            rintro e w' ⟨rfl, rfl⟩
            go_wp2
            go_ret
            exact ⟨ret_int (by rw [HA.out, HAt.out]), HB.out⟩
        · obtain rfl : k = ln := by omega
          have HZ : Hid (checkC r L = 0) := Lib.hid (by rw [HA.out, List.drop_of_length_le (by rw [HLN.out]; exact Nat.le_refl _)]; cases L.take k <;> rfl)
          go_wp2
          go_ret
          exact ⟨ret_int HZ.out.symm, HB.out⟩
  · have p1 : decide (isRm r) = false := by simpa using h1
    have HE : Hid (checkC r L = 3) := Lib.hid (by unfold checkC; rw [if_neg h1])
    clear h1 hI
    go_enter Try.func37, Try.ntmps37
    go_wp2_with fail
    refine (isRoom_any _ _).mono ?_
    rintro e w' ⟨rfl, rfl⟩
    rw [p1]
    go_wp2
    go_ret
    exact ⟨ret_int HE.out.symm, HB.out⟩

set_option maxHeartbeats 1000000 in
theorem checkTrace_any (A : Option Addr) (c : Nat) (L : List Int) (w : World) (hI : Ints w A c L) :
    Calls Try.prog 41 #[.slice A L.length c] w fun e w' => e = .returned (.int .i64 (traceE L)) ∧ w = w' := by
  have hlen := hI.len
  by_cases h1 : 200 < L.length
  · have HE : Hid (traceE L = 2) := Lib.hid (by unfold traceE; rw [if_pos h1])
    have p1 : decide (200 < (L.length : Int)) = true := by simp; omega
    clear h1 hI
    go_enter Try.func41, Try.ntmps41
    go_wp2
    go_ret
    exact ⟨ret_int HE.out.symm, rfl⟩
  · have p1 : decide (200 < (L.length : Int)) = false := by simp; omega
    have H1 := Lib.hid h1
    clear h1
    have HI := Lib.hid hI
    clear hI
    go_enter Try.func41, Try.ntmps41
    go_wp2
    go_loop [10] (fun i => ∃ k : Nat, k ≤ L.length ∧ i = .int .i64 (k : Int) ∧ Hid (∀ j, j < k → isK (gi L j))) (fun i => L.length - (intOf i).toNat)
    case atStart => exact ⟨0, by omega, rfl, Lib.hid (fun j hj => by omega)⟩
    case round =>
      obtain ⟨k, hk, rfl, HA⟩ := hrel
      by_cases hlt : k < L.length
      · obtain ⟨b, o, rfl, ht⟩ := HI.out.2.2.2 (by omega)
        have e1 := ht.2 k hlt
        clear ht
        have HIs := Lib.hid (isKey_any (gi L k) w)
        by_cases q1 : isK (gi L k)
        · rw [show decide (isK (gi L k)) = true by simpa using q1] at HIs
          have HQ := Lib.hid q1
          clear q1
          go_wp2_with fail
          refine HIs.out.mono ?_
          rintro e w' ⟨rfl, rfl⟩
          go_wp2
          go_round
          case rel => exact ⟨k + 1, by omega, by go_num, Lib.hid (fun j hj => by
            by_cases x : j = k
            · subst x; exact HQ.out
            · exact HA.out j (by omega))⟩
          case measure => simp [intOf]; omega
        · rw [show decide (isK (gi L k)) = false by simpa using q1] at HIs
          have HE : Hid (traceE L = 3) := Lib.hid (by unfold traceE; rw [if_neg H1.out, if_neg (fun h => q1 (h _ (gi_mem hlt)))])
          clear q1
          go_wp2_with fail
          refine HIs.out.mono ?_
          rintro e w' ⟨rfl, rfl⟩
          go_wp2
          go_ret
          exact ⟨ret_int HE.out.symm, rfl⟩
      · obtain rfl : k = L.length := by omega
        have HE : Hid (traceE L = 0) := Lib.hid (by
          rw [trace_zero]
          refine ⟨by have := H1.out; omega, fun x hx => ?_⟩
          obtain ⟨i, hi, e⟩ := List.getElem_of_mem hx
          have := HA.out i hi
          rwa [gi_get hi, e] at this)
        go_wp2
        go_ret
        exact ⟨ret_int HE.out.symm, rfl⟩

end Go.Proofs.Ytjmhemkbfephpaa.Lru
