/-
  What Check of package table returns.
-/
import Derived.Test.YtaioefimgggfkaaTableWalks2
namespace Go.Proofs.Ytaioefimgggfkaa
open Go.RowKit
set_option linter.unusedVariables false

theorem below_undrew {B : Nat} {a w : World} (h : Below B a.drew w) : Below B a w := ⟨h.os, h.tape, h.output, h.size, h.block⟩
theorem tab_drew {w : World} {b o : Nat} {L : List Sl} (h : TabAt w b o L) : TabAt w.drew b o L := h
theorem bd_eq {a b : Int} (h : a ≠ b) : (a == b) = false := by simpa using h
theorem bd_ne {a b : Int} (h : a ≠ b) : (a != b) = true := by simpa using h

set_option maxHeartbeats 1000000 in
theorem check_some (L : List Sl) (b o c : Nat) (w : World) (h0 : 0 < L.length) (hn : L.length ≤ 64) (hc : L.length ≤ c) (ht : TabAt w b o L) :
    Calls Try.prog 17 #[.slice (some ⟨b, o, none⟩) L.length c] w fun e w' => e = .returned (.int .i64 (checkM L)) ∧ Below w.heap.size w w' := by
  have hbw := ht.1
  have q0 : ((L.length : Int) == 0) = false := bd_eq (by omega)
  have q1 : decide (64 < (L.length : Int)) = false := by simp; omega
  go_enter Try.func17, Try.ntmps17
  go_wp2
  go_loopw [16] (fun i wr => ∃ j : Nat, j ≤ L.length ∧ i = .int .i64 j ∧ Hid (∀ i, i < j → slotE (sl L i) L i = 0) ∧ Below w.heap.size w wr) (fun i _ => L.length - (intOf i).toNat)
  case atStart => exact ⟨0, by omega, rfl, Lib.hid (fun i hi => by omega), Below.refl _ _⟩
  case round =>
    obtain ⟨j, hj, rfl, HA, HB⟩ := hrel
    have hsz : w.heap.size ≤ wr.heap.size := HB.size
    have hbw' : b < wr.heap.size := by omega
    by_cases hlt : j < L.length
    · have ht2 := ht.below HB
      obtain ⟨c0, c1, c2⟩ := ht2.2 j hlt
      go_wp2
      have HB2 : Below w.heap.size w (wr.alloc (Obj.cells #[Value.bool (sl L j).used, Value.string (sl L j).key, Value.int IntKind.i64 (sl L j).val] 33)) := HB.alloc (by omega) _
      have d0 : (wr.alloc (Obj.cells #[Value.bool (sl L j).used, Value.string (sl L j).key, Value.int IntKind.i64 (sl L j).val] 33)).cell? ⟨wr.heap.size, 0, none⟩ = some (.bool (sl L j).used) := by simp [go_sem]
      have d1 : (wr.alloc (Obj.cells #[Value.bool (sl L j).used, Value.string (sl L j).key, Value.int IntKind.i64 (sl L j).val] 33)).cell? ⟨wr.heap.size, 1, none⟩ = some (.string (sl L j).key) := by simp [go_sem]
      have d2 : (wr.alloc (Obj.cells #[Value.bool (sl L j).used, Value.string (sl L j).key, Value.int IntKind.i64 (sl L j).val] 33)).cell? ⟨wr.heap.size, 2, none⟩ = some (.int .i64 (sl L j).val) := by simp [go_sem]
      clear c0 c1 c2 ht2
      generalize wr.alloc (Obj.cells #[Value.bool (sl L j).used, Value.string (sl L j).key, Value.int IntKind.i64 (sl L j).val] 33) = wv at *
      generalize wr.heap.size = gv at *
      have hjc : j ≤ c := by omega
      have hjc2 : (j : Int) ≤ (c : Int) := by omega
      go_still_tail 4, (by kernel_rfl)
      change wpList _ _ _ _ _ wv.drew
      go_wp2_with fail
      refine (checkSlot_any (sl L j) L j _ _ _ _ hj hn (tab_drew (ht.below HB2))).mono ?_
      rintro e w' ⟨rfl, hb3⟩
      have hb4 := below_undrew hb3
      clear hb3
      have HB3 := HB2.trans (hb4.mono HB2.size)
      by_cases he : slotE (sl L j) L j = 0
      · have HE := Lib.hid he
        rw [he]
        clear he
        go_wp2
        go_round
        case rel => exact ⟨j + 1, by omega, by go_num, Lib.hid (fun i hi => by
          by_cases x : i = j
          · subst x; exact HE.out
          · exact HA.out i (by omega)), HB3⟩
        case measure => simp [intOf]; omega
      · have hq := bd_ne he
        have HR := Lib.hid (checkM_slot h0 hn hlt HA.out he)
        clear he
        go_wp2
        go_ret
        exact ⟨ret_int HR.out.symm, HB3⟩
    · obtain rfl : j = L.length := by omega
      go_wp2
      go_loopw [32] (fun i wr => ∃ j : Nat, j ≤ L.length ∧ i = .int .i64 j ∧ Hid (∀ i, i < j → strayB L i = false) ∧ Below w.heap.size w wr) (fun i _ => L.length - (intOf i).toNat)
      case atStart => exact ⟨0, by omega, rfl, Lib.hid (fun i hi => by omega), HB⟩
      case round =>
        clear HB hsz hbw'
        obtain ⟨j, hj, rfl, HS, HB⟩ := hrel
        have hsz : w.heap.size ≤ wr.heap.size := HB.size
        have hbw' : b < wr.heap.size := by omega
        by_cases hlt : j < L.length
        · have ht2 := ht.below HB
          obtain ⟨c0, c1, c2⟩ := ht2.2 j hlt
          have HT : Hid (strayB L j = ((sl L j).used && !reachB L j)) := Lib.hid rfl
          by_cases hu : (sl L j).used = true
          · rw [hu] at c0
            have HU := Lib.hid hu
            have hk : (sl L j).key.size ≤ 40 := slot_key (HA.out j hlt) hu
            clear hu
            go_wp2_with fail
            refine (reach_any L b o c j _ hlt hn hk (ht.below (HB.alloc (by omega) _))).mono ?_
            rintro e w' ⟨rfl, rfl⟩
            by_cases hr : reachB L j = true
            · have HR : Hid (strayB L j = false) := Lib.hid (by rw [HT.out, hr]; simp)
              rw [hr]
              clear hr
              go_wp2
              go_round
              case rel => exact ⟨j + 1, by omega, by go_num, Lib.hid (fun i hi => by
                by_cases x : i = j
                · subst x; exact HR.out
                · exact HS.out i (by omega)), HB.alloc (by omega) _⟩
              case measure => simp [intOf]; omega
            · have hr : reachB L j = false := by simpa using hr
              have HR := Lib.hid (checkM_stray h0 hn HA.out hlt HS.out (by rw [HT.out, hr, HU.out]; rfl))
              rw [hr]
              clear hr
              go_wp2
              go_ret
              exact ⟨ret_int HR.out.symm, HB.alloc (by omega) _⟩
          · have hu : (sl L j).used = false := by simpa using hu
            rw [hu] at c0
            have HR : Hid (strayB L j = false) := Lib.hid (by rw [HT.out, hu]; rfl)
            clear hu
            go_wp2
            go_round
            case rel => exact ⟨j + 1, by omega, by go_num, Lib.hid (fun i hi => by
              by_cases x : i = j
              · subst x; exact HR.out
              · exact HS.out i (by omega)), HB.alloc (by omega) _⟩
            case measure => simp [intOf]; omega
        · obtain rfl : j = L.length := by omega
          have HR := Lib.hid (checkM_ok h0 hn HA.out HS.out)
          go_wp2
          go_ret
          exact ⟨ret_int HR.out.symm, HB⟩

set_option maxHeartbeats 1000000 in
theorem check_none (A : Option Addr) (n c : Nat) (w : World) (h : n = 0) :
    Calls Try.prog 17 #[.slice A n c] w fun e w' => e = .returned (.int .i64 1) ∧ Below w.heap.size w w' := by
  subst h
  go_enter Try.func17, Try.ntmps17
  go_wp2
  go_ret
  exact ⟨rfl, Below.refl _ _⟩

set_option maxHeartbeats 1000000 in
theorem check_many (A : Option Addr) (n c : Nat) (w : World) (h : 64 < n) :
    Calls Try.prog 17 #[.slice A n c] w fun e w' => e = .returned (.int .i64 2) ∧ Below w.heap.size w w' := by
  have q0 : ((n : Int) == 0) = false := bd_eq (by omega)
  have q1 : decide (64 < (n : Int)) = true := by simp; omega
  go_enter Try.func17, Try.ntmps17
  go_wp2
  go_ret
  exact ⟨rfl, Below.refl _ _⟩

/-- A slice of slots that reads as L; nil where L is empty, perhaps. -/
def Tab (w : World) (A : Option Addr) (c : Nat) (L : List Sl) : Prop := L.length ≤ c ∧ (0 < L.length → ∃ b o, A = some ⟨b, o, none⟩ ∧ TabAt w b o L)
theorem Tab.below {A : Option Addr} {c : Nat} {L : List Sl} {w w' : World} (h : Tab w A c L) (hb : Below w.heap.size w w') : Tab w' A c L :=
  ⟨h.1, fun hl => by obtain ⟨b, o, e, ht⟩ := h.2 hl; exact ⟨b, o, e, ht.below hb⟩⟩
theorem Tab.none_ (w : World) (A : Option Addr) (c : Nat) : Tab w A c [] := ⟨Nat.zero_le _, fun h => absurd h (by simp)⟩

theorem check_any (A : Option Addr) (c : Nat) (L : List Sl) (w : World) (ht : Tab w A c L) :
    Calls Try.prog 17 #[.slice A L.length c] w fun e w' => e = .returned (.int .i64 (checkM L)) ∧ Below w.heap.size w w' := by
  by_cases h0 : L.length = 0
  · rw [checkM_empty h0]; exact check_none A _ c w h0
  by_cases h1 : 64 < L.length
  · rw [checkM_many h1]; exact check_many A _ c w h1
  obtain ⟨b, o, rfl, h2⟩ := ht.2 (by omega)
  exact check_some L b o c w (by omega) (by omega) ht.1 h2

end Go.Proofs.Ytaioefimgggfkaa
