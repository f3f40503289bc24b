/-
  What Cancel of package wheel returns.
-/
import Derived.Test.YteldnohdijcbpaaWheelApi
namespace Go.Proofs.Yteldnohdijcbpaa.Whl
open Go.RowKit Go.Maps
set_option linter.unusedVariables false

/-- The boxes of Cancel and Advance: the wheel, the result. -/
abbrev CS (n : Nat) (W : Whl) (A : Option Addr) (c : Nat) (w0 w' : World) : Prop :=
  w'.cell? ⟨n, 0, none⟩ = some (.int .i64 W.now) ∧ w'.cell? ⟨n, 1, none⟩ = some (.slice A W.slots.length c) ∧ RS (n + 1) w0 w'
section
variable {n : Nat} {W : Whl} {A : Option Addr} {c : Nat} {w0 w' w'' : World}
theorem CS.next (h : CS n W A c w0 w') {B : Nat} (hB : n + 1 < B) (hb : Below B w' w'') : CS n W A c w0 w'' := by
  obtain ⟨h1, h2, h5⟩ := h
  exact ⟨(hb.cell (p := ⟨n, 0, none⟩) (by show n < B; omega)).trans h1, (hb.cell (p := ⟨n, 1, none⟩) (by show n < B; omega)).trans h2, RS.next h5 hB hb⟩
theorem CS.drew (h : CS n W A c w0 w') : CS n W A c w0 w'.drew := h.next (Nat.lt_succ_self _) (Below.refl _ _).drew
theorem CS.set1 (h : CS n W A c w0 w') (j : Nat) (u : Value) : CS n W A c w0 (w'.setCell ⟨n + 1, j, none⟩ u) := by
  obtain ⟨h1, h2, h5⟩ := h
  have hb : Below (n + 1) w' (w'.setCell ⟨n + 1, j, none⟩ u) := (Below.refl _ _).setCell (p := ⟨n + 1, j, none⟩) (Nat.le_refl _) u
  exact ⟨(hb.cell (p := ⟨n, 0, none⟩) (Nat.lt_succ_self _)).trans h1, (hb.cell (p := ⟨n, 1, none⟩) (Nat.lt_succ_self _)).trans h2, RS.set1 h5 j u⟩
theorem CS.size (h : CS n W A c w0 w') : n + 1 < w'.heap.size := RS.size h.2.2
theorem CS.below (h : CS n W A c w0 w') : Below (n + 1) w0 w' := RS.below h.2.2
theorem CS.new (w : World) (hn : n = w.heap.size) : CS n W A c (w.alloc (wo W A c)) ((w.alloc (wo W A c)).alloc zo) := by
  subst hn
  have hs1 : (w.alloc (wo W A c)).heap.size = w.heap.size + 1 := by simp
  have h1 : Below (w.heap.size + 1) (w.alloc (wo W A c)) ((w.alloc (wo W A c)).alloc zo) := (Below.refl _ _).alloc (by rw [hs1]; exact Nat.le_refl _) _
  exact ⟨(h1.cell (p := ⟨w.heap.size, 0, none⟩) (Nat.lt_succ_self _)).trans (by simp [go_sem]), (h1.cell (p := ⟨w.heap.size, 1, none⟩) (Nat.lt_succ_self _)).trans (by simp [go_sem]), RS.new (m := w.heap.size + 1) (w.alloc (wo W A c)) hs1.symm⟩
end

set_option maxHeartbeats 8000000 in
theorem cancel_any (W : Whl) (A : Option Addr) (c : Nat) (id : Int) (w : World) (hG : Grid 0 w A c W.slots) :
    Calls Try.prog 6 #[wv W A c, .int .i64 id] w (WR (canM W id) (errC W id) w) := by
  have HS := Lib.hid (CS.new (n := w.heap.size) (W := W) (A := A) (c := c) w rfl)
  have HB0 : Hid (Below w.heap.size w (w.alloc (wo W A c))) := Lib.hid ((Below.refl _ w).alloc (Nat.le_refl _) (wo W A c))
  have HG := Lib.hid hG
  clear hG
  by_cases h0 : checkW W = 0
  · have H0 := Lib.hid h0
    have HGd := Lib.hid (good_of h0)
    have H48 := Lib.hid (slots_of h0)
    have HF : Hid (W.slots.flatten.length ≤ 60) := Lib.hid HGd.out.few
    by_cases h2 : hasId W.all id
    · have HE : Hid (canM W id = wheelOf W.now (delT W.slots.flatten id) ∧ errC W id = 0) := Lib.hid (by
        have e : errC W id = 0 := by unfold errC; rw [if_pos h0, if_pos h2]
        exact ⟨by unfold canM; rw [if_pos e]; rfl, e⟩)
      have HH : Hid (∃ k : Nat, fnd W.slots.flatten id = (k : Int) ∧ k < W.slots.flatten.length ∧ W.slots.flatten.take k ++ W.slots.flatten.drop (k + 1) = delT W.slots.flatten id) := Lib.hid (by
        rcases fnd_cases W.slots.flatten id with ⟨_, h⟩ | ⟨k, h, hk, hi⟩
        · obtain ⟨u, hu, e⟩ := h2
          exact absurd e (h u hu)
        · exact ⟨k, h, hk, delT_at hk hi HGd.out.ids⟩)
      have HM : Hid (Good W.now (delT W.slots.flatten id)) := Lib.hid (good_del HGd.out)
      clear h0 h2 HGd
      go_enter Try.func6, Try.ntmps6
      go_wp2_with fail
      refine (check_any W A c _ (HG.out.below (HB0.out.trans ((CS.below HS.out).mono (by omega))))).mono ?_
      rintro e w1 ⟨rfl, hb1⟩
      have HS1 := Lib.hid (CS.next HS.out (CS.size HS.out) hb1)
      clear hb1
      generalize (w.alloc (wo W A c)) = w0 at *
      generalize hn : w.heap.size = n at *
      have HN := Lib.hid hn
      clear hn
      rw [H0.out]
      obtain ⟨x0, x1, -⟩ := HS1.out
      go_wp2_with fail
      refine (timers_any W A c _ (HG.out.below (w' := w1) (by rw [HN.out]; exact HB0.out.trans ((CS.below HS1.out).mono (by omega)))) (by have := H48.out; omega) (by have := H48.out; omega) (by have := HF.out; omega)).mono ?_
      rintro e w3 ⟨v, rfl, ho3, hb3⟩
      have HS3 := Lib.hid (CS.next HS1.out (CS.size HS1.out) hb3)
      obtain ⟨A3, c3, rfl, hT3, hA3⟩ := tms_of_own ho3
      have HO3 := Lib.hid ho3
      have HT3 := Lib.hid hT3
      have HA3 := Lib.hid hA3
      have HB3 := Lib.hid hb3
      clear x0 x1 hb3 ho3 hT3 hA3
      generalize W.slots.flatten = L at *
      go_wp2_with fail
      refine (find_any A3 c3 L id _ HT3.out).mono ?_
      rintro e w4 ⟨rfl, hb4⟩
      have HS4 := Lib.hid (CS.next HS3.out (CS.size HS3.out) hb4)
      have HB4 := Lib.hid hb4
      clear hb4
      obtain ⟨k, hk, hkl, hdl⟩ := HH.out
      have hfew := HF.out
      rw [hk]
      have HDl : Hid (Calls Try.prog 27 #[.slice A3 L.length c3, .int .i64 (k : Int), .int .i64 ((k : Int) + 1)] w4.drew fun e w' =>
          ∃ A6 c6, e = .returned (.slice A6 (delT L id).length c6) ∧ Tms w' A6 c6 (delT L id) ∧ Below w1.heap.size w4.drew w') := Lib.hid (by
        have hb3W : Below w3.heap.size w3 w4.drew := HB4.out.drew
        have hg : w3.grownBy w4.drew none := ⟨hb3W.os, hb3W.tape, hb3W.output, hb3W.size, fun k hk _ => hb3W.block k hk⟩
        have hO : OwnT w4.drew w1.heap.size (.slice A3 L.length c3) L := HO3.out.kept hg (by cases hv : (Value.slice A3 L.length c3).ownBlock <;> simp)
        have := delete_any w1.heap.size (.slice A3 L.length c3) L k w4.drew hO hkl
        rw [hdl] at this
        exact this)
      have HBd := Lib.hid (build_good HM.out)
      have hk9 : IntKind.i64.wrap ((k : Int) + 1) = (k : Int) + 1 := by rw [IntKind.wrap_i64]; omega
      have HZ1 := Lib.hid (CS.size HS1.out)
      clear hk hdl hkl hfew HH HF
      generalize delT L id = M at *
      generalize L.length = ln at *
      obtain ⟨x0, x1, -⟩ := HS4.out
      go_wp2
      clear x0 x1
      go_region_held3 (fun w' => w'.cell? ⟨n, 0, none⟩ = some (.int .i64 W.now) ∧ w'.cell? ⟨n, 1, none⟩ = some (.slice A W.slots.length c) ∧
          w'.cell? ⟨n + 1, 0, none⟩ = some (rd w' (n + 1) 0) ∧ w'.cell? ⟨n + 1, 1, none⟩ = some (rd w' (n + 1) 1) ∧ w'.frozen? ⟨n + 1, 0, none⟩ = false ∧ w'.frozen? ⟨n + 1, 1, none⟩ = false ∧ n + 1 + 1 ≤ w'.heap.size ∧ Below (n + 1) w0 w')
        (first | exact CS.set1 (CS.set1 (CS.next (CS.next (CS.drew HS4.out) HZ1.out hb6) (CS.size (CS.next (CS.drew HS4.out) HZ1.out hb6)) hb7) _ _) _ _ | exact CS.next (CS.next (CS.drew HS4.out) HZ1.out hb6) (CS.size (CS.next (CS.drew HS4.out) HZ1.out hb6)) hb7 | exact CS.next (CS.drew HS4.out) HZ1.out hb6 | exact CS.drew HS4.out)
        (first
          | (go_at_call 27; refine HDl.out.mono ?_; rintro e w6 ⟨A6, c6, rfl, hT6, hb6⟩)
          | (go_at_call 20; refine (HBd.out w6 A6 c6 hT6).mono ?_; rintro e w7 ⟨A7, c7, rfl, hg7, hb7⟩))
      have h6 := CS.next (CS.drew HS4.out) HZ1.out hb6
      have HS7 := Lib.hid (CS.next h6 (CS.size h6) hb7)
      have HZ6 := Lib.hid (CS.size h6)
      have HG7 := Lib.hid hg7
      rename_i hHH
      clear hHH h6 hb6 hb7 hg7 hT6
      obtain ⟨-, -, r0, r1, f0, f1, -, -⟩ := HS7.out
      go_wp2
      refine bodyPost_ret (v := .tuple #[wv (wheelOf W.now M) A7 c7, .int .i64 0]) (by simp [results, Try.results6, go_sem, r0, r1]) rfl ?_
      rw [HE.out.1, HE.out.2]
      refine ⟨A7, c7, rfl, ?_, by rw [HN.out]; exact HB0.out.trans (below_set2 (CS.below HS7.out) _ _ |>.mono (by omega))⟩
      exact Grid.mono ((HG7.out.setCell (p := ⟨n + 1, 0, none⟩) HZ6.out _).setCell (p := ⟨n + 1, 1, none⟩) HZ6.out _) (by rw [HN.out]; have := HZ6.out; omega)
    · have HE : Hid (canM W id = Whl.no ∧ errC W id = 5) := Lib.hid (by
        have e : errC W id = 5 := by unfold errC; rw [if_pos h0, if_neg h2]
        exact ⟨by unfold canM; rw [e]; rfl, e⟩)
      have HH : Hid (fnd W.slots.flatten id = -1) := Lib.hid (by
        rcases fnd_cases W.slots.flatten id with ⟨h, _⟩ | ⟨k, h, hk, e⟩
        · exact h
        · exact absurd ⟨_, gt_mem hk, e⟩ h2)
      clear h0 h2 HGd
      go_enter Try.func6, Try.ntmps6
      go_wp2_with fail
      refine (check_any W A c _ (HG.out.below (HB0.out.trans ((CS.below HS.out).mono (by omega))))).mono ?_
      rintro e w1 ⟨rfl, hb1⟩
      have HS1 := Lib.hid (CS.next HS.out (CS.size HS.out) hb1)
      clear hb1
      generalize (w.alloc (wo W A c)) = w0 at *
      generalize hn : w.heap.size = n at *
      have HN := Lib.hid hn
      clear hn
      rw [H0.out]
      obtain ⟨x0, x1, -⟩ := HS1.out
      go_wp2_with fail
      refine (timers_any W A c _ (HG.out.below (w' := w1) (by rw [HN.out]; exact HB0.out.trans ((CS.below HS1.out).mono (by omega)))) (by have := H48.out; omega) (by have := H48.out; omega) (by have := HF.out; omega)).mono ?_
      rintro e w3 ⟨v, rfl, ho3, hb3⟩
      have HS3 := Lib.hid (CS.next HS1.out (CS.size HS1.out) hb3)
      obtain ⟨A3, c3, rfl, hT3, hA3⟩ := tms_of_own ho3
      have HO3 := Lib.hid ho3
      have HT3 := Lib.hid hT3
      have HA3 := Lib.hid hA3
      have HB3 := Lib.hid hb3
      clear x0 x1 hb3 ho3 hT3 hA3
      generalize W.slots.flatten = L at *
      go_wp2_with fail
      refine (find_any A3 c3 L id _ HT3.out).mono ?_
      rintro e w4 ⟨rfl, hb4⟩
      have HS4 := Lib.hid (CS.next HS3.out (CS.size HS3.out) hb4)
      clear hb4
      rw [HH.out]
      obtain ⟨-, -, r0, r1, f0, f1, -, -⟩ := HS4.out
      go_wp2
      refine bodyPost_ret (v := .tuple #[wv Whl.no none 0, .int .i64 5]) (by simp [results, Try.results6, go_sem, r0, r1]; try exact ⟨rfl, rfl⟩) rfl ?_
      rw [HE.out.1, HE.out.2]
      exact WR.none_ (by rw [HN.out]; exact HB0.out.trans (below_set2 (CS.below HS4.out) _ _ |>.mono (by omega)))
  · have HE : Hid (canM W id = Whl.no ∧ errC W id = checkW W) := Lib.hid (by
      have e : errC W id = checkW W := by unfold errC; rw [if_neg h0]
      exact ⟨by unfold canM; rw [e, if_neg h0], e⟩)
    have q : (checkW W != 0) = true := by simpa using h0
    clear h0
    go_enter Try.func6, Try.ntmps6
    go_wp2_with fail
    refine (check_any W A c _ (HG.out.below (HB0.out.trans ((CS.below HS.out).mono (by omega))))).mono ?_
    rintro e w1 ⟨rfl, hb1⟩
    have HS1 := Lib.hid (CS.next HS.out (CS.size HS.out) hb1)
    clear hb1
    generalize (w.alloc (wo W A c)) = w0 at *
    generalize hn : w.heap.size = n at *
    have HN := Lib.hid hn
    clear hn
    obtain ⟨-, -, r0, r1, f0, f1, -, -⟩ := HS1.out
    go_wp2
    refine bodyPost_ret (v := .tuple #[wv Whl.no none 0, .int .i64 (checkW W)]) (by simp [results, Try.results6, go_sem, r0, r1]; try exact ⟨rfl, rfl⟩) rfl ?_
    rw [HE.out.1, HE.out.2]
    exact WR.none_ (by rw [HN.out]; exact HB0.out.trans (below_set2 (CS.below HS1.out) _ _ |>.mono (by omega)))

end Go.Proofs.Yteldnohdijcbpaa.Whl
