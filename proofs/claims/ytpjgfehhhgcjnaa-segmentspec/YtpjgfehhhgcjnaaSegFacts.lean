/-
  Segmented caches: what the laws say, of plain lists.
-/
import Derived.Test.YtpjgfehhhgcjnaaSegBegun
namespace Go.Proofs.Ytpjgfehhhgcjnaa.Seg
open Go.RowKit
open Lru (isRm isK keysE keysE_zero traceE trace_zero touch)
set_option linter.unusedVariables false

theorem trace_parts {xs ys : List Int} (hx : traceE xs = 0) (hne : traceE ys ≠ traceE (xs ++ ys)) : traceE (xs ++ ys) = 2 := by
  have hx := (trace_zero.1 hx).2
  unfold traceE at hne ⊢
  by_cases h1 : 200 < (xs ++ ys).length
  · rw [if_pos h1]
  · exfalso
    have h2 : ¬ 200 < ys.length := by rw [List.length_append] at h1; omega
    rw [if_neg h1, if_neg h2] at hne
    apply hne
    have : (∀ x ∈ ys, isK x) ↔ (∀ x ∈ xs ++ ys, isK x) := ⟨fun h x hm => (List.mem_append.1 hm).elim (hx x) (h x), fun h x hm => h x (by simp [hm])⟩
    by_cases h3 : ∀ x ∈ ys, isK x
    · rw [if_pos h3, if_pos (this.1 h3)]
    · rw [if_neg h3, if_neg (fun hh => h3 (this.2 hh))]
section
variable {f s : Int} {t : St} {xs ys : List Int} {x : Int}
theorem rn_zero (e : rnE f s t xs = 0) : checkS f s t.1 t.2 = 0 ∧ traceE xs = 0 := by
  unfold rnE at e
  split at e
  · exact ⟨by assumption, e⟩
  · exact absurd e (by assumption)
theorem rn_good (e : rnE f s t xs = 0) : Good f s t.1 t.2 ∧ Good f s (runS f s t xs).1 (runS f s t xs).2 ∧ xs.length ≤ 200 ∧ (∀ x ∈ xs, isK x) ∧
    (∀ r, rnR f s t xs r = r) ∧ rnT f s t xs = runS f s t xs ∧ rnH f s t xs = (hitsS f s t xs : Int) := by
  obtain ⟨e1, e2⟩ := rn_zero e
  have g := check_zero.1 e1
  have t := trace_zero.1 e2
  refine ⟨g, runS_good g t.2, t.1, t.2, fun r => ?_, ?_, ?_⟩
  · unfold rnR; rw [if_pos e]
  · unfold rnT; rw [if_pos e]
  · unfold rnH; rw [if_pos e]
theorem bad_facts (e : rnE f s t xs ≠ 0) : rnH f s t xs = 0 ∧ rnT f s t xs = ([], []) := by
  unfold rnH rnT; rw [if_neg e, if_neg e]; exact ⟨rfl, rfl⟩
theorem rnH_bound (f s : Int) (t : St) (xs : List Int) : 0 ≤ rnH f s t xs ∧ rnH f s t xs ≤ 200 := by
  by_cases e : rnE f s t xs = 0
  · obtain ⟨g, g2, hl, hk, e1, e3, e4⟩ := rn_good e
    rw [e4]
    have := hitsS_le f s t xs
    omega
  · rw [(bad_facts e).1]; omega

/-! ### A scan -/
theorem runS_scan : ∀ {t : St} {xs : List Int}, hitsS f s t xs = 0 → (runS f s t xs).2 = t.2
  | t, [], _ => rfl
  | t, x :: xs, h => by
    have h0 : (if isHit t x then 1 else 0) + hitsS f s (tch f s t x) xs = 0 := h
    by_cases hx : isHit t x
    · rw [if_pos hx] at h0; omega
    · have h2 : hitsS f s (tch f s t x) xs = 0 := by omega
      have e : (tch f s t x).2 = t.2 := by
        unfold tch
        rw [if_neg (fun m => hx (.inl m)), if_neg (fun m => hx (.inr m))]
      have := runS_scan h2
      rw [e] at this
      exact this
theorem scan_facts (e : rnE f s t xs = 0) (h : ¬ 0 < rnH f s t xs) : (rnT f s t xs).2 = t.2 ∧ (rnR f s t xs f) = f ∧ (rnR f s t xs s) = s ∧ ((rnT f s t xs).1.length : Int) ≤ f ∧ checkS f s (rnT f s t xs).1 (rnT f s t xs).2 = 0 := by
  obtain ⟨g, g2, hl, hk, e1, e3, e4⟩ := rn_good e
  rw [e4] at h
  rw [e3, e1, e1]
  exact ⟨runS_scan (by omega), rfl, rfl, g2.fewN, check_zero.2 g2⟩

/-! ### One access -/
theorem touch_gl {r : Int} {L : List Int} (g : Lru.Good r L) : touch r L x ++ gl r L x = x :: L.erase x := by
  rw [touch_cut g.room.1, gl_cut g, List.take_append_drop]
theorem ac_perm (g : Good f s t.1 t.2) : (((tch f s t x).1 ++ (tch f s t x).2) ++ lost f s t x).Perm (if isHit t x then t.1 ++ t.2 else x :: (t.1 ++ t.2)) := by
  unfold tch lost
  by_cases h1 : x ∈ t.1
  · have h2 := g.apart h1
    rw [if_pos h1, if_pos (show isHit t x from .inl h1), if_pos (show isHit t x from .inl h1)]
    show ((t.1.erase x ++ touch s t.2 x) ++ gl s t.2 x).Perm _
    rw [List.append_assoc, touch_gl g.od, List.erase_of_not_mem h2]
    exact List.perm_middle.trans (((List.perm_cons_erase h1).symm.append_right t.2))
  · by_cases h2 : x ∈ t.2
    · rw [if_neg h1, if_pos h2, if_pos (show isHit t x from .inr h2), if_pos (show isHit t x from .inr h2)]
      show ((t.1 ++ touch s t.2 x) ++ gl s t.2 x).Perm _
      rw [List.append_assoc, touch_gl g.od]
      exact (List.perm_cons_erase h2).symm.append_left t.1
    · have h3 : ¬ isHit t x := fun h => h.elim h1 h2
      rw [if_neg h1, if_neg h2, if_neg h3, if_neg h3]
      show ((touch f t.1 x ++ t.2) ++ gl f t.1 x).Perm _
      have e := touch_gl (x := x) g.nw
      rw [List.erase_of_not_mem h1] at e
      rw [← List.cons_append, ← e, List.append_assoc, List.append_assoc]
      exact List.perm_append_comm.append_left _
theorem ac_front (t : St) : x ∈ (tch f s t x).1 ++ (tch f s t x).2 := by
  unfold tch
  by_cases h1 : x ∈ t.1
  · rw [if_pos h1]; simp [touch]
  · by_cases h2 : x ∈ t.2
    · rw [if_neg h1, if_pos h2]; simp [touch]
    · rw [if_neg h1, if_neg h2]; simp [touch]
theorem ac_zero (e : acE f s t x = 0) : Good f s t.1 t.2 ∧ isK x := by
  unfold acE at e
  split at e
  · refine ⟨check_zero.1 (by assumption), ?_⟩
    split at e
    · assumption
    · cases e
  · exact absurd e (by assumption)
theorem keeps_facts (e : acE f s t x = 0) : (∀ r, acR f s t x r = r) ∧ kyL f s t = t.1 ++ t.2 ∧ checkS f s t.1 t.2 = 0 ∧ checkS f s (acT f s t x).1 (acT f s t x).2 = 0 ∧ kyL f s (acT f s t x) = (acT f s t x).1 ++ (acT f s t x).2 ∧
    (acG f s t x).length ≤ 1 ∧ acH f s t x = decide (x ∈ t.1 ++ t.2) ∧ x ∈ (acT f s t x).1 ++ (acT f s t x).2 ∧ (∀ y ∈ t.1 ++ t.2, decide (y ∈ (acT f s t x).1 ++ (acT f s t x).2) = !decide (y ∈ acG f s t x)) ∧
    ((((acT f s t x).1 ++ (acT f s t x).2).length : Int) = ((t.1 ++ t.2).length : Int) + (if acH f s t x then 0 else 1) - ((acG f s t x).length : Int)) := by
  obtain ⟨g, hx⟩ := ac_zero e
  have g2 := tch_good (t := t) g hx
  have eT : acT f s t x = tch f s t x := by unfold acT; rw [if_pos e]
  have eG : acG f s t x = lost f s t x := by unfold acG; rw [if_pos e]
  have eH : acH f s t x = decide (isHit t x) := by unfold acH; rw [if_pos e]
  have hp := ac_perm (x := x) g
  have hf := ac_front (f := f) (s := s) (x := x) t
  have hh : isHit t x ↔ x ∈ t.1 ++ t.2 := by unfold isHit; rw [List.mem_append]
  rw [eT, eG, eH]
  have hnd : (((tch f s t x).1 ++ (tch f s t x).2) ++ lost f s t x).Nodup := by
    refine hp.nodup_iff.2 ?_
    by_cases h : isHit t x
    · rw [if_pos h]; exact g.once
    · rw [if_neg h]; exact List.nodup_cons.2 ⟨fun m => h (hh.2 m), g.once⟩
  refine ⟨fun r => by unfold acR; rw [if_pos e], by unfold kyL; rw [if_pos (check_zero.2 g)], check_zero.2 g, check_zero.2 g2, by unfold kyL; rw [if_pos (check_zero.2 g2)], lost_len, by simp only [hh], hf, fun y hy => ?_, ?_⟩
  · have hm : y ∈ ((tch f s t x).1 ++ (tch f s t x).2) ++ lost f s t x := by
      refine hp.mem_iff.2 ?_
      by_cases h : isHit t x
      · rw [if_pos h]; exact hy
      · rw [if_neg h]; exact List.mem_cons_of_mem _ hy
    have hd := (List.nodup_append.1 hnd).2.2
    by_cases hg : y ∈ lost f s t x
    · have : y ∉ (tch f s t x).1 ++ (tch f s t x).2 := fun h => hd y h y hg rfl
      rw [decide_eq_false this, decide_eq_true hg]; rfl
    · have : y ∈ (tch f s t x).1 ++ (tch f s t x).2 := (List.mem_append.1 hm).resolve_right hg
      rw [decide_eq_true this, decide_eq_false hg]; rfl
  · have hl := hp.length_eq
    rw [List.length_append] at hl
    by_cases h : isHit t x
    · rw [if_pos h] at hl
      simp only [h, decide_true, if_true]
      omega
    · rw [if_neg h, List.length_cons] at hl
      simp only [h, decide_false]
      simp only [Bool.false_eq_true, if_false]
      omega
theorem acbad_facts (e : acE f s t x ≠ 0) : acT f s t x = ([], []) ∧ acG f s t x = [] := by
  unfold acT acG; rw [if_neg e, if_neg e]; exact ⟨rfl, rfl⟩

/-! ### Parts -/
theorem run_two (hg : Good f s t.1 t.2) (hx : isK x) : ∃ L, (runS f s t [x, x]).2 = x :: L ∧ x ∉ (runS f s t [x, x]).1 := by
  show ∃ L, (tch f s (tch f s t x) x).2 = x :: L ∧ x ∉ (tch f s (tch f s t x) x).1
  have g1 := tch_good (t := t) hg hx
  have g2 := tch_good (t := tch f s t x) g1 hx
  have hm := ac_front (f := f) (s := s) (x := x) t
  have hh : ∃ L, (tch f s (tch f s t x) x).2 = x :: L := by
    generalize tch f s t x = u at *
    unfold tch
    by_cases h1 : x ∈ u.1
    · rw [if_pos h1]; exact ⟨_, rfl⟩
    · rw [if_neg h1, if_pos ((List.mem_append.1 hm).resolve_left h1)]; exact ⟨_, rfl⟩
  obtain ⟨L, hL⟩ := hh
  exact ⟨L, hL, fun h => g2.apart h (by rw [hL]; simp)⟩
theorem parts_facts (e : rnE f s t xs = 0) : rnR f s t xs f = f ∧ rnR f s t xs s = s ∧ xs.length ≤ 200 ∧
    (rnE f s (rnT f s t xs) ys = 0 → rnE f s t (xs ++ ys) = 0 → rnT f s (rnT f s t xs) ys = rnT f s t (xs ++ ys) ∧ rnR f s (rnT f s t xs) ys f = f ∧ rnR f s (rnT f s t xs) ys s = s ∧ rnR f s t (xs ++ ys) f = f ∧ rnR f s t (xs ++ ys) s = s ∧ rnH f s t (xs ++ ys) = rnH f s t xs + rnH f s (rnT f s t xs) ys) ∧
    ((rnE f s (rnT f s t xs) ys ≠ 0 ∨ rnE f s t (xs ++ ys) ≠ 0) → rnE f s (rnT f s t xs) ys ≠ rnE f s t (xs ++ ys) → rnE f s t (xs ++ ys) = 2) := by
  obtain ⟨g, g2, hl, hk, e1, e3, e4⟩ := rn_good e
  rw [e1, e1, e3, e4]
  refine ⟨rfl, rfl, hl, fun a b => ?_, fun _ hne => ?_⟩
  · obtain ⟨-, -, -, -, a1, a3, a4⟩ := rn_good a
    obtain ⟨-, -, -, -, b1, b3, b4⟩ := rn_good b
    rw [a1, a1, b1, b1, a3, b3, a4, b4, runS_append, hitsS_append]
    exact ⟨rfl, rfl, rfl, rfl, rfl, by omega⟩
  · have z1 : rnE f s (runS f s t xs) ys = traceE ys := by unfold rnE; rw [if_pos (check_zero.2 g2)]
    have z2 : rnE f s t (xs ++ ys) = traceE (xs ++ ys) := by unfold rnE; rw [if_pos (check_zero.2 g)]
    rw [z1, z2] at hne
    rw [z2]
    exact trace_parts (rn_zero e).2 hne
theorem two_facts (e : rnE f s t [x, x] = 0) : ∃ L, (rnT f s t [x, x]).2 = x :: L ∧ x ∉ (rnT f s t [x, x]).1 := by
  obtain ⟨g, -, -, hk, -, e3, -⟩ := rn_good e
  rw [e3]
  exact run_two g (hk x (by simp))
end

end Go.Proofs.Ytpjgfehhhgcjnaa.Seg
