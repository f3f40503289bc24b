/-
  Segmented caches: plain functions on two lists of keys.
-/
import Derived.Test.YtpjgfehhhgcjnaaLruMath
namespace Go.Proofs.Ytpjgfehhhgcjnaa.Seg
open Lru (isRm isK keysE keysE_zero traceE trace_zero touch)
set_option linter.unusedVariables false

abbrev St := List Int × List Int
def checkS (f s : Int) (N O : List Int) : Int := if isRm f ∧ isRm s then (if f < (N.length : Int) ∨ s < (O.length : Int) then 2 else keysE [] (N ++ O)) else 3
/-- A segmented cache that passes. -/
structure Good (f s : Int) (N O : List Int) : Prop where
  roomN : isRm f
  roomO : isRm s
  fewN : (N.length : Int) ≤ f
  fewO : (O.length : Int) ≤ s
  keys : ∀ x ∈ N ++ O, isK x
  once : (N ++ O).Nodup
theorem check_zero {f s : Int} {N O : List Int} : checkS f s N O = 0 ↔ Good f s N O := by
  unfold checkS
  by_cases h1 : isRm f ∧ isRm s
  · by_cases h2 : f < (N.length : Int) ∨ s < (O.length : Int)
    · rw [if_pos h1, if_pos h2]
      exact ⟨fun h => (by cases h), fun h => by have := h.fewN; have := h.fewO; omega⟩
    · rw [if_pos h1, if_neg h2, keysE_zero]
      exact ⟨fun h => ⟨h1.1, h1.2, by omega, by omega, h.1, h.2.1⟩, fun h => ⟨h.keys, h.once, fun _ _ => by simp⟩⟩
  · rw [if_neg h1]
    exact ⟨fun h => (by cases h), fun h => absurd ⟨h.roomN, h.roomO⟩ h1⟩
section
variable {f s : Int} {N O : List Int} {x : Int}
theorem Good.lenN (g : Good f s N O) : N.length ≤ 40 := by have := g.fewN; have := g.roomN.2; omega
theorem Good.lenO (g : Good f s N O) : O.length ≤ 40 := by have := g.fewO; have := g.roomO.2; omega
theorem Good.nw (g : Good f s N O) : Lru.Good f N := ⟨g.roomN, g.fewN, fun x hx => g.keys x (by simp [hx]), (List.nodup_append.1 g.once).1⟩
theorem Good.od (g : Good f s N O) : Lru.Good s O := ⟨g.roomO, g.fewO, fun x hx => g.keys x (by simp [hx]), (List.nodup_append.1 g.once).2.1⟩
theorem Good.apart (g : Good f s N O) (h : x ∈ N) : x ∉ O := fun h2 => (List.nodup_append.1 g.once).2.2 x h x h2 rfl
theorem good_of (a : Lru.Good f N) (b : Lru.Good s O) (h : ∀ x ∈ N, x ∉ O) : Good f s N O :=
  ⟨a.room, b.room, a.few, b.few, fun x hx => (List.mem_append.1 hx).elim (a.keys x) (b.keys x), List.nodup_append.2 ⟨a.once, b.once, fun x hx y hy e => h x hx (e ▸ hy)⟩⟩
end

/-- One access. -/
def tch (f s : Int) (t : St) (x : Int) : St :=
  if x ∈ t.1 then (t.1.erase x, touch s t.2 x) else if x ∈ t.2 then (t.1, touch s t.2 x) else (touch f t.1 x, t.2)
def isHit (t : St) (x : Int) : Prop := x ∈ t.1 ∨ x ∈ t.2
instance (t : St) (x : Int) : Decidable (isHit t x) := by unfold isHit; infer_instance
/-- What one list loses. -/
def gl (r : Int) (L : List Int) (x : Int) : List Int := if 0 ≤ Lru.gone r L x then [Lru.gone r L x] else []
def lost (f s : Int) (t : St) (x : Int) : List Int := if isHit t x then gl s t.2 x else gl f t.1 x
def runS (f s : Int) (t : St) (xs : List Int) : St := xs.foldl (tch f s) t
def hitsS (f s : Int) : St → List Int → Nat
  | _, [] => 0
  | t, x :: xs => (if isHit t x then 1 else 0) + hitsS f s (tch f s t x) xs
theorem runS_snoc (f s : Int) (t : St) (xs : List Int) (x : Int) : runS f s t (xs ++ [x]) = tch f s (runS f s t xs) x := by unfold runS; rw [List.foldl_append]; rfl
theorem runS_append (f s : Int) (t : St) (xs ys : List Int) : runS f s t (xs ++ ys) = runS f s (runS f s t xs) ys := by unfold runS; rw [List.foldl_append]
theorem hitsS_append (f s : Int) : ∀ (t : St) (xs ys : List Int), hitsS f s t (xs ++ ys) = hitsS f s t xs + hitsS f s (runS f s t xs) ys
  | t, [], ys => by simp [hitsS, runS]
  | t, x :: xs, ys => by
    show (if isHit t x then 1 else 0) + hitsS f s (tch f s t x) (xs ++ ys) = (if isHit t x then 1 else 0) + hitsS f s (tch f s t x) xs + hitsS f s (runS f s (tch f s t x) xs) ys
    rw [hitsS_append f s (tch f s t x) xs ys, Nat.add_assoc]
theorem hitsS_snoc (f s : Int) (t : St) (xs : List Int) (x : Int) : hitsS f s t (xs ++ [x]) = hitsS f s t xs + (if isHit (runS f s t xs) x then 1 else 0) := by
  rw [hitsS_append]; rfl
theorem hitsS_le (f s : Int) : ∀ (t : St) (xs : List Int), hitsS f s t xs ≤ xs.length
  | t, [] => Nat.le_refl _
  | t, x :: xs => by
    have := hitsS_le f s (tch f s t x) xs
    unfold hitsS
    simp only [List.length_cons]
    split <;> omega
theorem tch_good {f s : Int} {t : St} {x : Int} (h : Good f s t.1 t.2) (hx : isK x) : Good f s (tch f s t x).1 (tch f s t x).2 := by
  unfold tch
  by_cases h1 : x ∈ t.1
  · rw [if_pos h1]
    refine good_of ⟨h.roomN, ?_, fun y hy => h.nw.keys y (List.mem_of_mem_erase hy), List.Nodup.erase _ h.nw.once⟩ (Lru.touch_good h.od hx) (fun y hy hm => ?_)
    · have := List.length_erase_le (a := x) (l := t.1); have := h.fewN; show ((t.1.erase x).length : Int) ≤ f; omega
    · rcases Lru.touch_mem hm with e | m
      · subst e; exact List.Nodup.not_mem_erase h.nw.once hy
      · exact h.apart (List.mem_of_mem_erase hy) m
  · rw [if_neg h1]
    by_cases h2 : x ∈ t.2
    · rw [if_pos h2]
      refine good_of h.nw (Lru.touch_good h.od hx) (fun y hy hm => ?_)
      rcases Lru.touch_mem hm with e | m
      · subst e; exact h1 hy
      · exact h.apart hy m
    · rw [if_neg h2]
      refine good_of (Lru.touch_good h.nw hx) h.od (fun y hy hm => ?_)
      rcases Lru.touch_mem hy with e | m
      · subst e; exact h2 hm
      · exact h.apart m hm
theorem runS_good {f s : Int} : ∀ {t : St} {xs : List Int}, Good f s t.1 t.2 → (∀ x ∈ xs, isK x) → Good f s (runS f s t xs).1 (runS f s t xs).2
  | t, [], h, _ => h
  | t, x :: xs, h, hx => runS_good (t := tch f s t x) (xs := xs) (tch_good h (hx x (by simp))) (fun y hy => hx y (by simp [hy]))

/-! ### What one list loses -/
theorem gone_in {r : Int} {L : List Int} {x : Int} (h : x ∈ L) : gl r L x = [] := by simp [gl, Lru.gone, h]
theorem gone_room {r : Int} {L : List Int} {x : Int} (h : (L.length : Int) < r) : gl r L x = [] := by
  unfold gl Lru.gone
  by_cases h1 : x ∈ L
  · simp [h1]
  · simp [h1, show ¬ (L.length : Int) = r by omega]
theorem gone_full {r : Int} {L : List Int} {x : Int} (g : Lru.Good r L) (h : x ∉ L) (hl : (L.length : Int) = r) : gl r L x = [gi L (L.length - 1)] := by
  unfold gl Lru.gone
  have h0 : L.length - 1 < L.length := by have := g.room.1; omega
  rw [if_neg h, if_pos hl, if_pos (g.keys _ (gi_mem h0)).1]
/-- A list with a key in front, and what is beyond the room. -/
theorem touch_cut {r : Int} {L : List Int} {x : Int} (hr : 1 ≤ r) : touch r L x = (x :: L.erase x).take r.toNat := by
  unfold touch
  obtain ⟨n, hn⟩ : ∃ n, r.toNat = n + 1 := ⟨r.toNat - 1, by omega⟩
  rw [hn, List.take_succ_cons, Nat.add_sub_cancel]
theorem gl_cut {r : Int} {L : List Int} {x : Int} (g : Lru.Good r L) : gl r L x = (x :: L.erase x).drop r.toNat := by
  have hr := g.room.1
  have hf := g.few
  obtain ⟨n, hn⟩ : ∃ n, r.toNat = n + 1 := ⟨r.toNat - 1, by omega⟩
  rw [hn, List.drop_succ_cons]
  by_cases h : x ∈ L
  · rw [gone_in h, List.drop_of_length_le]
    rw [List.length_erase_of_mem h]; omega
  · rw [List.erase_of_not_mem h]
    by_cases hl : (L.length : Int) = r
    · have hk : n < L.length := by omega
      rw [gone_full g h hl, List.drop_eq_getElem_cons hk, List.drop_of_length_le (by omega), show L.length - 1 = n by omega, gi_get hk]
    · rw [gone_room (by omega), List.drop_of_length_le (by omega)]
theorem gl_len {r : Int} {L : List Int} {x : Int} : (gl r L x).length ≤ 1 := by unfold gl; split <;> simp
theorem lost_len {f s : Int} {t : St} {x : Int} : (lost f s t x).length ≤ 1 := by unfold lost; split <;> exact gl_len

end Go.Proofs.Ytpjgfehhhgcjnaa.Seg
