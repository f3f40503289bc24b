/-
  What checkSlot and Check of package table return.
-/
import Derived.Test.YtaioefimgggfkaaTableWalks
namespace Go.Proofs.Ytaioefimgggfkaa
open Go.RowKit
set_option linter.unusedVariables false

/-! ### checkSlot -/
theorem size_zero {k : ByteArray} (h : k.size = 0) : k = ⟨#[]⟩ := by
  obtain ⟨d⟩ := k
  have : d.size = 0 := h
  rw [Array.size_eq_zero_iff] at this
  rw [this]
theorem toList_ne {k : ByteArray} (h : k.size ≠ 0) : ¬ k.toList = [] := by
  intro hx
  apply h
  rw [ByteArray.toList_eq] at hx
  show k.data.size = 0
  rw [← Array.length_toList, hx]; rfl

/-- What Below brings the walk: all old cells and marks read as before. -/
theorem bcell {B : Nat} {W w1 : World} (hb : Below B W w1) : (∀ b o, b < B → w1.cell? ⟨b, o, none⟩ = W.cell? ⟨b, o, none⟩) ∧ (∀ b o, b < B → w1.frozen? ⟨b, o, none⟩ = W.frozen? ⟨b, o, none⟩) :=
  ⟨fun b o h => hb.cell (p := ⟨b, o, none⟩) h, fun b o h => hb.frozen (p := ⟨b, o, none⟩) h⟩

theorem fromAlloc {w w' : World} {o : Obj} (h : Below w.heap.size (w.alloc o) w') : Below w.heap.size w w' :=
  ((Below.refl _ _).alloc (Nat.le_refl _) o).trans h

set_option maxHeartbeats 1000000 in
theorem checkSlot_no (ky : ByteArray) (v : Int) (L : List Sl) (k : Nat) (b o c : Nat) (w : World) :
    Calls Try.prog 33 #[.agg #[.bool false, .string ky, .int .i64 v], .slice (some ⟨b, o, none⟩) k c] w fun e w' => e = .returned (.int .i64 (slotE ⟨false, ky, v⟩ L k)) ∧ Below w.heap.size w w' := by
  by_cases h1 : ky.size = 0
  · obtain rfl := size_zero h1
    by_cases h2 : v = 0
    · subst h2
      go_enter Try.func33, Try.ntmps33
      go_wp2
      go_ret
      exact ⟨ret_int (by unfold slotE; rw [if_neg (by simp), if_pos ⟨h1, rfl⟩]), (Below.refl _ _).alloc (Nat.le_refl _) _⟩
    · have hb : (v != 0) = true := by simpa using h2
      have HB := Lib.hid h2
      clear h2
      go_enter Try.func33, Try.ntmps33
      go_wp2
      go_ret
      exact ⟨ret_int (by simp [slotE, HB.out]), (Below.refl _ _).alloc (Nat.le_refl _) _⟩
  · have hq := toList_ne h1
    have hq2 : (!ky.toList.isEmpty) = true := by simpa using hq
    have HB := Lib.hid h1
    clear h1
    go_enter Try.func33, Try.ntmps33
    go_wp2
    go_ret
    exact ⟨ret_int (by simp [slotE, HB.out]), (Below.refl _ _).alloc (Nat.le_refl _) _⟩

set_option maxHeartbeats 1000000 in
theorem checkSlot_yes (ky : ByteArray) (v : Int) (L : List Sl) (k : Nat) (b o c : Nat) (w : World) (hl : k ≤ L.length) (hn : L.length ≤ 64) (ht : TabAt w b o L) :
    Calls Try.prog 33 #[.agg #[.bool true, .string ky, .int .i64 v], .slice (some ⟨b, o, none⟩) k c] w fun e w' => e = .returned (.int .i64 (slotE ⟨true, ky, v⟩ L k)) ∧ Below w.heap.size w w' := by
  by_cases h1 : vkB ky = true
  · by_cases h2 : vvB v = true
    · have H1 := Lib.hid h1
      have H2 := Lib.hid h2
      have hbw := ht.1
      clear h1 h2
      go_enter Try.func33, Try.ntmps33
      go_wp2_with fail
      refine (vk_any _ _).mono ?_
      rintro e w' ⟨rfl, rfl⟩
      rw [H1.out]
      go_wp2_with fail
      refine (vv_any _ _).mono ?_
      rintro e w' ⟨rfl, rfl⟩
      rw [H2.out]
      go_wp2
      go_loopw [30] (fun i wr => ∃ j : Nat, j ≤ k ∧ i = .int .i64 j ∧ Hid (∀ i, i < j → hasB ky L i = false) ∧ Below (w.heap.size + 1) (w.alloc (.cells #[.bool true, .string ky, .int .i64 v] 33)) wr) (fun i _ => k - (intOf i).toNat)
      case atStart => exact ⟨0, by omega, rfl, Lib.hid (fun i hi => by omega), Below.refl _ _⟩
      case round =>
        obtain ⟨j, hj, rfl, HA, HB⟩ := hrel
        have hsz : w.heap.size < wr.heap.size := by have := HB.size; simp at this; omega
        have hbw' : b < wr.heap.size := by omega
        have k1 : wr.cell? ⟨w.heap.size, 1, none⟩ = some (.string ky) := (HB.cell (p := ⟨w.heap.size, 1, none⟩) (by simp)).trans (by simp [go_sem])
        by_cases hlt : j < k
        · obtain ⟨s0, s1, s2⟩ := ht.2 j (by omega)
          have c0 : wr.cell? ⟨b, o + j * 3, none⟩ = _ := ((HB.cell (p := ⟨b, _, none⟩) (by simp; omega)).trans (World.cell?_alloc_lt w _ ⟨b, _, none⟩ hbw)).trans s0
          have c1 : wr.cell? ⟨b, o + j * 3 + 1, none⟩ = _ := ((HB.cell (p := ⟨b, _, none⟩) (by simp; omega)).trans (World.cell?_alloc_lt w _ ⟨b, _, none⟩ hbw)).trans s1
          have c2 : wr.cell? ⟨b, o + j * 3 + 2, none⟩ = _ := ((HB.cell (p := ⟨b, _, none⟩) (by simp; omega)).trans (World.cell?_alloc_lt w _ ⟨b, _, none⟩ hbw)).trans s2
          clear s0 s1 s2
          have HE : Hid (hasB ky L j = ((sl L j).used && decide ((sl L j).key = ky))) := Lib.hid rfl
          by_cases hu : (sl L j).used = true
          · rw [hu] at c0
            by_cases he : (sl L j).key = ky
            · have hq := beq_yes he
              have HR := Lib.hid (dupB_yes HA.out hlt (by rw [HE.out, hu]; simp [he]))
              clear he hu
              go_wp2
              go_ret
              exact ⟨ret_int (by simp [slotE, H1.out, H2.out, HR.out]), (fromAlloc (HB.mono (by omega))).alloc (by omega) _⟩
            · have hq := beq_no he
              have HR : Hid (hasB ky L j = false) := Lib.hid (by rw [HE.out]; simp [he])
              clear he hu
              go_wp2
              go_round
              case rel => exact ⟨j + 1, by omega, by go_num, Lib.hid (fun i hi => by
                by_cases x : i = j
                · subst x; exact HR.out
                · exact HA.out i (by omega)), HB.alloc (by omega) _⟩
              case measure => simp [intOf]; omega
          · have hu : (sl L j).used = false := by simpa using hu
            rw [hu] at c0
            have HR : Hid (hasB ky L j = false) := Lib.hid (by rw [HE.out, hu]; rfl)
            clear hu
            go_wp2
            go_round
            case rel => exact ⟨j + 1, by omega, by go_num, Lib.hid (fun i hi => by
              by_cases x : i = j
              · subst x; exact HR.out
              · exact HA.out i (by omega)), HB.alloc (by omega) _⟩
            case measure => simp [intOf]; omega
        · obtain rfl : j = k := by omega
          have HR := Lib.hid (dupB_no HA.out)
          go_wp2
          go_ret
          exact ⟨ret_int (by simp [slotE, H1.out, H2.out, HR.out]), fromAlloc (HB.mono (by omega))⟩
    · have h2 : vvB v = false := by simpa using h2
      have H1 := Lib.hid h1
      have H2 := Lib.hid h2
      clear h1 h2
      go_enter Try.func33, Try.ntmps33
      go_wp2_with fail
      refine (vk_any _ _).mono ?_
      rintro e w' ⟨rfl, rfl⟩
      rw [H1.out]
      go_wp2_with fail
      refine (vv_any _ _).mono ?_
      rintro e w' ⟨rfl, rfl⟩
      rw [H2.out]
      go_wp2
      go_ret
      exact ⟨ret_int (by simp [slotE, H1.out, H2.out]), (Below.refl _ _).alloc (Nat.le_refl _) _⟩
  · have h1 : vkB ky = false := by simpa using h1
    have H1 := Lib.hid h1
    clear h1
    go_enter Try.func33, Try.ntmps33
    go_wp2_with fail
    refine (vk_any _ _).mono ?_
    rintro e w' ⟨rfl, rfl⟩
    rw [H1.out]
    go_wp2
    go_ret
    exact ⟨ret_int (by simp [slotE, H1.out]), (Below.refl _ _).alloc (Nat.le_refl _) _⟩

theorem checkSlot_any (s : Sl) (L : List Sl) (k : Nat) (b o c : Nat) (w : World) (hl : k ≤ L.length) (hn : L.length ≤ 64) (ht : TabAt w b o L) :
    Calls Try.prog 33 #[.agg #[.bool s.used, .string s.key, .int .i64 s.val], .slice (some ⟨b, o, none⟩) k c] w fun e w' => e = .returned (.int .i64 (slotE s L k)) ∧ Below w.heap.size w w' := by
  obtain ⟨u, ky, v⟩ := s
  cases u
  · exact checkSlot_no ky v L k b o c w
  · exact checkSlot_yes ky v L k b o c w hl hn ht

end Go.Proofs.Ytaioefimgggfkaa
