/-
  What the functions of the reference for package table return.
-/
import Derived.Test.YtaioefimgggfkaaTableOrderLaw
import Derived.Maps.AppendAt
import Derived.Deep.AppendLies
import Derived.OwnWalk
namespace Go.Proofs.Ytaioefimgggfkaa
open Go.RowKit
set_option linter.unusedVariables false

theorem refHome_any (k : ByteArray) (n : Nat) (w : World) (hk : k.size ≤ 40) (h1 : 1 ≤ n) (hn : n ≤ 1048576) :
    Calls Try.prog 13 #[.string k, .int .i64 (n : Int)] w fun e w' => e = .returned (.int .i64 (homeN k n)) ∧ w = w' := by
  go_enter Try.func13, Try.ntmps13
  go_wp2_with fail
  refine (refSum_any k _ hk).mono ?_
  rintro e w' ⟨rfl, rfl⟩
  go_wp2_with fail
  refine (refOf_any _ _).mono ?_
  rintro e w' ⟨rfl, rfl⟩
  go_wp2_with fail
  refine (refFold_any _ n (by omega) (by omega) _).mono ?_
  rintro e w' ⟨rfl, rfl⟩
  go_wp2
  go_ret
  exact ⟨ret_int (homeN_cast k n h1).symm, rfl⟩

theorem between_any (a b c : Int) (w : World) :
    Calls Try.prog 29 #[.int .i64 a, .int .i64 b, .int .i64 c] w fun e w' => e = .returned (.bool (decide (b ≤ a) && decide (a ≤ c))) ∧ w = w' := by
  by_cases h : b ≤ a
  · have hd : decide (b ≤ a) = true := by simpa using h
    go_enter Try.func29, Try.ntmps29
    go_wp2
    go_ret
    exact ⟨ret_bool (by simp [h]), rfl⟩
  · have hd : decide (b ≤ a) = false := by simpa using h
    go_enter Try.func29, Try.ntmps29
    go_wp2
    go_ret
    exact ⟨ret_bool (by first | rfl | (rw [hd]; rfl)), rfl⟩

/-! ### SlotOf -/
def slotI (L : List Sl) (key : ByteArray) : Int := match fd (hasB key L) L.length with
  | some i => i
  | none => -1
theorem slotI_none {L : List Sl} {key : ByteArray} (h : ∀ i, i < L.length → hasB key L i = false) : slotI L key = -1 := by unfold slotI; rw [fd_none h]
theorem slotI_some {L : List Sl} {key : ByteArray} {d : Nat} (h : ∀ i, i < d → hasB key L i = false) (hd : d < L.length) (hp : hasB key L d = true) : slotI L key = d := by unfold slotI; rw [fd_some h hd hp]

set_option maxHeartbeats 1000000 in
theorem slotOf_any (A : Option Addr) (c : Nat) (L : List Sl) (key : ByteArray) (w : World) (ht : Tab w A c L) (hn : L.length ≤ 64) :
    Calls Try.prog 12 #[.slice A L.length c, .string key] w fun e w' => e = .returned (.int .i64 (slotI L key)) ∧ w = w' := by
  go_enter Try.func12, Try.ntmps12
  go_wp2
  go_loop [5] (fun i => ∃ k : Nat, k ≤ L.length ∧ i = .int .i64 k ∧ Hid (∀ i, i < k → hasB key L i = false)) (fun i => L.length - (intOf i).toNat)
  case atStart => exact ⟨0, by omega, rfl, Lib.hid (fun i hi => by omega)⟩
  case round =>
    obtain ⟨k, hk, rfl, HA⟩ := hrel
    by_cases hlt : k < L.length
    · obtain ⟨b, o, rfl, hT⟩ := ht.2 (by omega)
      obtain ⟨c0, c1, _⟩ := hT.2 k hlt
      have HE : Hid (hasB key L k = ((sl L k).used && decide ((sl L k).key = key))) := Lib.hid rfl
      by_cases hu : (sl L k).used = true
      · rw [hu] at c0
        by_cases he : (sl L k).key = key
        · have hq := beq_yes he
          have HR := Lib.hid (slotI_some HA.out hlt (by rw [HE.out, hu]; simp [he]))
          clear he hu
          go_wp2
          go_ret
          exact ⟨ret_int HR.out.symm, rfl⟩
        · have hq := beq_no he
          have HR : Hid (hasB key L k = false) := Lib.hid (by rw [HE.out]; simp [he])
          clear he hu
          go_wp2
          go_round
          case rel => exact ⟨k + 1, by omega, by go_num, Lib.hid (fun i hi => by
            by_cases x : i = k
            · subst x; exact HR.out
            · exact HA.out i (by omega))⟩
          case measure => simp [intOf]; omega
      · have hu : (sl L k).used = false := by simpa using hu
        rw [hu] at c0
        have HR : Hid (hasB key L k = false) := Lib.hid (by rw [HE.out, hu]; rfl)
        clear hu
        go_wp2
        go_round
        case rel => exact ⟨k + 1, by omega, by go_num, Lib.hid (fun i hi => by
          by_cases x : i = k
          · subst x; exact HR.out
          · exact HA.out i (by omega))⟩
        case measure => simp [intOf]; omega
    · obtain rfl : k = L.length := by omega
      have HR := Lib.hid (slotI_none HA.out)
      go_wp2
      go_ret
      exact ⟨ret_int HR.out.symm, rfl⟩

/-! ### append([]api.Slot{}, t...) -/
theorem one_cells (L : List Sl) : ∀ u ∈ encL L, u.oneCell' = true := by
  intro u hu
  obtain ⟨s, _, hs⟩ := List.mem_flatMap.1 hu
  simp only [cellsS, List.mem_cons, List.not_mem_nil, or_false] at hs
  rcases hs with rfl | rfl | rfl <;> rfl
theorem tab_cells {w : World} {b o : Nat} {L : List Sl} (h : TabAt w b o L) : ∀ j u, (encL L)[j]? = some u → w.cell? ((⟨b, o, none⟩ : Addr).add j) = some u := by
  intro j u hu
  have hl : j < L.length * 3 := by
    rw [← encL_len]
    exact (List.getElem?_eq_some_iff.1 hu).1
  have hj : j % 3 < 3 := Nat.mod_lt _ (by omega)
  have e : j = j / 3 * 3 + j % 3 := by omega
  obtain ⟨c0, c1, c2⟩ := h.2 (j / 3) (by omega)
  rw [e, encL_get L _ _ hj (by omega)] at hu
  have hadd : (⟨b, o, none⟩ : Addr).add j = ⟨b, o + j, none⟩ := by
    unfold Addr.add; split
    · rename_i z; subst z; rfl
    · rfl
  rw [hadd, ← hu]
  have h3 : j % 3 = 0 ∨ j % 3 = 1 ∨ j % 3 = 2 := by omega
  rcases h3 with z | z | z <;> rw [z]
  · rw [show o + j = o + j / 3 * 3 by omega, c0]; rfl
  · rw [show o + j = o + j / 3 * 3 + 1 by omega, c1]; rfl
  · rw [show o + j = o + j / 3 * 3 + 2 by omega, c2]; rfl
theorem own_of {w : World} {base : Nat} {v : Value} {n : Nat} {L : List Sl} (h : w.ownsRow base 33 3 v n (encL L)) (hn : 0 < n) : ∃ g c, v = .slice (some ⟨g, 0, none⟩) n c ∧ base ≤ g ∧ n ≤ c ∧ Own w g L := by
  rcases h.2 with ⟨_, h0⟩ | ⟨g, cap, cur, rfl, hb, hh, hc, _, _, ht⟩
  · omega
  · refine ⟨g, cap, rfl, hb, hc, cur.toList.drop (n * 3), ?_⟩
    rw [hh, ← ht, List.take_append_drop]

end Go.Proofs.Ytaioefimgggfkaa
