/-
  What the reference's TableCheck returns.
-/
import Derived.Test.YtaioefimgggfkaaTableRef
namespace Go.Proofs.Ytaioefimgggfkaa
open Go.RowKit
set_option linter.unusedVariables false

theorem nx_int {i n : Nat} (h : i < n) : ((i : Int) + 1) % (n : Int) = (nx n i : Nat) := by rw [← nx_mod h]; push_cast; rfl

set_option maxHeartbeats 4000000 in
set_option maxRecDepth 100000 in
theorem refCheck_some (L : List Sl) (b o c : Nat) (w : World) (h0 : 0 < L.length) (hn : L.length ≤ 64) (ht : TabAt w b o L) :
    Calls Try.prog 11 #[.slice (some ⟨b, o, none⟩) L.length c] w fun e w' => e = .returned (.int .i64 (checkM L)) ∧ Below w.heap.size w w' := by
  have q0 : ((L.length : Int) == 0) = false := bd_eq (by omega)
  have q1 : decide (64 < (L.length : Int)) = false := by simp; omega
  go_enter Try.func11, Try.ntmps11
  go_wp2
  go_loopw [3] (fun i wr => ∃ j : Nat, j ≤ L.length ∧ i = .int .i64 j ∧ Hid (∀ i, i < j → slotE (sl L i) L i = 0) ∧ Below w.heap.size w wr) (fun i _ => L.length - (intOf i).toNat)
  case atStart => exact ⟨0, by omega, rfl, Lib.hid (fun i hi => by omega), Below.refl _ _⟩
  case round =>
    obtain ⟨j, hj, rfl, HA, HB⟩ := hrel
    by_cases hlt : j < L.length
    · have ht2 := ht.below HB
      obtain ⟨c0, c1, c2⟩ := ht2.2 j hlt
      by_cases hu : (sl L j).used = true
      · rw [hu] at c0
        by_cases hk : vkB (sl L j).key = true
        · have qk : decide ((40 : Int) < ((sl L j).key.size : Int)) = false := by have := vkB_le.1 hk; simp; omega
          by_cases hv : vvB (sl L j).val = true
          · have HU := Lib.hid hu
            have HK := Lib.hid hk
            have HV := Lib.hid hv
            clear hu hk hv
            go_wp2_with fail
            refine (between_any _ _ _ _).mono ?_
            rintro e w2 ⟨rfl, rfl⟩
            have hvv := HV.out
            unfold vvB at hvv
            rw [hvv]
            clear hvv
            go_wp2
            go_loopw [4] (fun i wr => ∃ k : Nat, k ≤ j ∧ i = .int .i64 k ∧ Hid (∀ i, i < k → hasB (sl L j).key L i = false) ∧ Below w.heap.size w wr) (fun i _ => j - (intOf i).toNat)
            case atStart => exact ⟨0, by omega, rfl, Lib.hid (fun i hi => by omega), HB⟩
            case round =>
              clear c0 c1 c2 ht2 HB
              obtain ⟨k, hk, rfl, HS, HB⟩ := hrel
              have ht2 := ht.below HB
              obtain ⟨c0, c1, c2⟩ := ht2.2 j hlt
              by_cases hkl : k < j
              · obtain ⟨d0, d1, d2⟩ := ht2.2 k (by omega)
                have l1 : (k : Int) < (L.length : Int) := by omega
                have l2 : (j : Int) < (L.length : Int) := by omega
                have HE : Hid (hasB (sl L j).key L k = ((sl L k).used && decide ((sl L k).key = (sl L j).key))) := Lib.hid rfl
                by_cases hu : (sl L k).used = true
                · rw [hu] at d0
                  by_cases he : (sl L k).key = (sl L j).key
                  · have hq := beq_yes he
                    have HR : Hid (slotE (sl L j) L j = 6) := Lib.hid (by
                      unfold slotE
                      rw [if_pos HU.out, if_pos (by rw [HK.out, HV.out]; rfl), if_pos (dupB_yes HS.out hkl (by rw [HE.out, hu]; simp [he]))])
                    clear he hu
                    go_wp2
                    go_quiet (fail)
                    go_wp2
                    go_ret
                    exact ⟨ret_int (by rw [checkM_slot h0 hn hlt HA.out (by rw [HR.out]; omega), HR.out]), below_drewN HB _⟩
                  · have hq := beq_no he
                    have HR : Hid (hasB (sl L j).key L k = false) := Lib.hid (by rw [HE.out]; simp [he])
                    clear he hu
                    go_wp2
                    go_quiet (fail)
                    go_wp2
                    go_roundw
                    case rel => exact ⟨k + 1, by omega, by go_num, Lib.hid (fun i hi => by
                      by_cases x : i = k
                      · subst x; exact HR.out
                      · exact HS.out i (by omega)), below_drewN HB _⟩
                    case measure => simp [intOf]; omega
                · have hu : (sl L k).used = false := by simpa using hu
                  rw [hu] at d0
                  have HR : Hid (hasB (sl L j).key L k = false) := Lib.hid (by rw [HE.out, hu]; rfl)
                  clear hu
                  go_wp2
                  go_quiet (fail)
                  go_wp2
                  go_roundw
                  case rel => exact ⟨k + 1, by omega, by go_num, Lib.hid (fun i hi => by
                    by_cases x : i = k
                    · subst x; exact HR.out
                    · exact HS.out i (by omega)), below_drewN HB _⟩
                  case measure => simp [intOf]; omega
              · obtain rfl : k = j := by omega
                have HR : Hid (slotE (sl L k) L k = 0) := Lib.hid (by
                  unfold slotE
                  rw [if_pos HU.out, if_pos (by rw [HK.out, HV.out]; rfl), if_neg (by rw [dupB_no HS.out]; simp)])
                go_wp2
                go_roundw
                case rel => exact ⟨k + 1, by omega, by go_num, Lib.hid (fun i hi => by
                  by_cases x : i = k
                  · subst x; exact HR.out
                  · exact HA.out i (by omega)), HB⟩
                case measure => simp [intOf]; omega
          · have hv : vvB (sl L j).val = false := by simpa using hv
            have HR : Hid (slotE (sl L j) L j = 3) := Lib.hid (by unfold slotE; rw [if_pos hu, if_neg (by rw [hk, hv]; simp)])
            have HV := Lib.hid hv
            clear hu hk hv
            go_wp2_with fail
            refine (between_any _ _ _ _).mono ?_
            rintro e w2 ⟨rfl, rfl⟩
            have hvv := HV.out
            unfold vvB at hvv
            rw [hvv]
            clear hvv
            go_wp2
            go_ret
            exact ⟨ret_int (by rw [checkM_slot h0 hn hlt HA.out (by rw [HR.out]; omega), HR.out]), HB⟩
        · have HR : Hid (slotE (sl L j) L j = 3) := Lib.hid (by unfold slotE; rw [if_pos hu, if_neg (by simp [hk])])
          have qk : decide ((40 : Int) < ((sl L j).key.size : Int)) = true := by
            have : ¬ (sl L j).key.size ≤ 40 := fun z => hk (vkB_le.2 z)
            simp; omega
          clear hu hk
          go_wp2
          go_ret
          exact ⟨ret_int (by rw [checkM_slot h0 hn hlt HA.out (by rw [HR.out]; omega), HR.out]), HB⟩
      · have hu : (sl L j).used = false := by simpa using hu
        rw [hu] at c0
        by_cases hz : (sl L j).key.size = 0
        · have hkn := size_zero hz
          rw [hkn] at c1
          by_cases hv : (sl L j).val = 0
          · have HR : Hid (slotE (sl L j) L j = 0) := Lib.hid (by unfold slotE; rw [if_neg (by simp [hu]), if_pos ⟨hz, hv⟩])
            rw [hv] at c2
            clear hu hz hkn hv
            go_wp2
            go_roundw
            case rel => exact ⟨j + 1, by omega, by go_num, Lib.hid (fun i hi => by
              by_cases x : i = j
              · subst x; exact HR.out
              · exact HA.out i (by omega)), HB⟩
            case measure => simp [intOf]; omega
          · have HR : Hid (slotE (sl L j) L j = 1) := Lib.hid (by unfold slotE; rw [if_neg (by simp [hu]), if_neg (fun z => hv z.2)])
            have hq := bd_ne hv
            clear hu hz hkn hv
            go_wp2
            go_ret
            exact ⟨ret_int (by rw [checkM_slot h0 hn hlt HA.out (by rw [HR.out]; omega), HR.out]), HB⟩
        · have HR : Hid (slotE (sl L j) L j = 1) := Lib.hid (by unfold slotE; rw [if_neg (by simp [hu]), if_neg (fun z => hz z.1)])
          have hq := toList_ne hz
          have hq2 : (!(sl L j).key.toList.isEmpty) = true := by simpa using hq
          clear hu hz
          go_wp2
          go_ret
          exact ⟨ret_int (by rw [checkM_slot h0 hn hlt HA.out (by rw [HR.out]; omega), HR.out]), HB⟩
    · obtain rfl : j = L.length := by omega
      go_wp2
      go_loopw [5] (fun i wr => ∃ j : Nat, j ≤ L.length ∧ i = .int .i64 j ∧ Hid (∀ i, i < j → strayB L i = false) ∧ Below w.heap.size w wr) (fun i _ => L.length - (intOf i).toNat)
      case atStart => exact ⟨0, by omega, rfl, Lib.hid (fun i hi => by omega), HB⟩
      case round =>
        clear HB
        obtain ⟨j, hj, rfl, HS, HB⟩ := hrel
        by_cases hlt : j < L.length
        · have ht2 := ht.below HB
          obtain ⟨c0, c1, c2⟩ := ht2.2 j hlt
          have HT : Hid (strayB L j = ((sl L j).used && !reachB L j)) := Lib.hid rfl
          by_cases hu : (sl L j).used = true
          · rw [hu] at c0
            have HU := Lib.hid hu
            have hk : (sl L j).key.size ≤ 40 := slot_key (HA.out j hlt) hu
            clear hu
            have HL := homeN_lt (sl L j).key L.length (by omega)
            have HD := ds_lt HL hlt
            have HP := Lib.hid (ps_ds HL hlt)
            go_wp2_with fail
            refine (refHome_any _ _ _ hk (by omega) (by omega)).mono ?_
            rintro e w' ⟨rfl, rfl⟩
            go_wp2
            clear c0 c1 c2
            go_loop [6] (fun a => ∃ d : Nat, d ≤ ds L.length (homeN (sl L j).key L.length) j ∧ Hid (∀ e, e < d → (sl L (ps L.length (homeN (sl L j).key L.length) e)).used = true) ∧ a = .int .i64 (ps L.length (homeN (sl L j).key L.length) d : Nat))
              (fun a => ds L.length (intOf a).toNat j)
            case atStart => exact ⟨0, by omega, Lib.hid (fun e he => by omega), by rw [ps_zero HL]⟩
            case round =>
              obtain ⟨d, hd, HX, rfl⟩ := hrel
              have hpl := ps_lt HL (d := d) (by omega)
              by_cases hD : d = ds L.length (homeN (sl L j).key L.length) j
              · have hE : ps L.length (homeN (sl L j).key L.length) d = j := by rw [hD, HP.out]
                have HR : Hid (strayB L j = false) := Lib.hid (by rw [HT.out, reachB_yes (L := L) (i := j) (by rw [← hD]; exact HX.out)]; simp)
                clear hD
                rw [hE] at hpl ⊢
                clear hE
                go_wp2
                go_roundw
                case rel => exact ⟨j + 1, by omega, by go_num, Lib.hid (fun i hi => by
                  by_cases x : i = j
                  · subst x; exact HR.out
                  · exact HS.out i (by omega)), HB⟩
                case measure => simp [intOf]; omega
              · have hne : ps L.length (homeN (sl L j).key L.length) d ≠ j := fun hx => hD (ps_inj HL (by omega) HD (hx.trans HP.out.symm))
                have hb : ((ps L.length (homeN (sl L j).key L.length) d : Int) == (j : Int)) = false := bd_eq (by omega)
                have hb2 : ((ps L.length (homeN (sl L j).key L.length) d : Int) != (j : Int)) = true := bd_ne (by omega)
                obtain ⟨e0, _, _⟩ := ht2.2 _ hpl
                have HN := Lib.hid (nx_ps HL (d := d) (by omega))
                have HNI := Lib.hid (nx_int hpl)
                have HMS := Lib.hid (ds_nx hpl hlt hne)
                by_cases hu : (sl L (ps L.length (homeN (sl L j).key L.length) d)).used = true
                · rw [hu] at e0
                  have HU2 := Lib.hid hu
                  clear hu
                  go_wp2
                  go_round
                  case rel => exact ⟨d + 1, by omega, Lib.hid (fun e he => by
                    by_cases x : e = d
                    · subst x; exact HU2.out
                    · exact HX.out e (by omega)), by rw [HNI.out, HN.out]⟩
                  case measure => rw [HNI.out]; simp only [intOf, Int.toNat_natCast]; exact HMS.out
                · have hu : (sl L (ps L.length (homeN (sl L j).key L.length) d)).used = false := by simpa using hu
                  rw [hu] at e0
                  have HR := Lib.hid (checkM_stray h0 hn HA.out hlt HS.out (by rw [HT.out, HU.out, reachB_no (L := L) (i := j) HX.out (by omega) hu]; rfl))
                  clear hu
                  go_wp2
                  go_ret
                  exact ⟨ret_int HR.out.symm, HB⟩
          · have hu : (sl L j).used = false := by simpa using hu
            rw [hu] at c0
            have HR : Hid (strayB L j = false) := Lib.hid (by rw [HT.out, hu]; rfl)
            clear hu
            go_wp2
            go_loop [6] (fun a => a = .int .i64 (j : Nat)) (fun _ => 0)
            case atStart => exact rfl
            case round =>
              obtain rfl := hrel
              go_wp2
              go_roundw
              case rel => exact ⟨j + 1, by omega, by go_num, Lib.hid (fun i hi => by
                by_cases x : i = j
                · subst x; exact HR.out
                · exact HS.out i (by omega)), HB⟩
              case measure => simp [intOf]; omega
        · obtain rfl : j = L.length := by omega
          have HR := Lib.hid (checkM_ok h0 hn HA.out HS.out)
          go_wp2
          go_ret
          exact ⟨ret_int HR.out.symm, HB⟩

set_option maxHeartbeats 1000000 in
theorem refCheck_none (A : Option Addr) (n c : Nat) (w : World) (h : n = 0) :
    Calls Try.prog 11 #[.slice A n c] w fun e w' => e = .returned (.int .i64 1) ∧ Below w.heap.size w w' := by
  subst h
  go_enter Try.func11, Try.ntmps11
  go_wp2
  go_ret
  exact ⟨rfl, Below.refl _ _⟩

set_option maxHeartbeats 1000000 in
theorem refCheck_many (A : Option Addr) (n c : Nat) (w : World) (h : 64 < n) :
    Calls Try.prog 11 #[.slice A n c] w fun e w' => e = .returned (.int .i64 2) ∧ Below w.heap.size w w' := by
  have q0 : ((n : Int) == 0) = false := bd_eq (by omega)
  have q1 : decide (64 < (n : Int)) = true := by simp; omega
  go_enter Try.func11, Try.ntmps11
  go_wp2
  go_ret
  exact ⟨rfl, Below.refl _ _⟩

theorem refCheck_any (A : Option Addr) (c : Nat) (L : List Sl) (w : World) (ht : Tab w A c L) :
    Calls Try.prog 11 #[.slice A L.length c] w fun e w' => e = .returned (.int .i64 (checkM L)) ∧ Below w.heap.size w w' := by
  by_cases h0 : L.length = 0
  · rw [checkM_empty h0]; exact refCheck_none A _ c w h0
  by_cases h1 : 64 < L.length
  · rw [checkM_many h1]; exact refCheck_many A _ c w h1
  obtain ⟨b, o, rfl, h2⟩ := ht.2 (by omega)
  exact refCheck_some L b o c w (by omega) (by omega) h2

end Go.Proofs.Ytaioefimgggfkaa
