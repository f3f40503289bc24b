/-
  The clock algorithm: plain functions on lists of frames.
-/
import Derived.Test.YtgdklpgmoanfkaaLruMath
namespace Go.Proofs.Ytgdklpgmoanfkaa.Clk
open Lru (isRm isK keysE keysE_zero traceE trace_zero)
set_option linter.unusedVariables false

structure Fr where
  key : Int
  used : Bool
instance : DecidableEq Fr := fun a b =>
  if h : a.key = b.key ∧ a.used = b.used then isTrue (by cases a; cases b; simp_all) else isFalse (fun e => h (by rw [e]; exact ⟨rfl, rfl⟩))
instance : Inhabited Fr := ⟨⟨0, false⟩⟩
abbrev gf (F : List Fr) (i : Nat) : Fr := F.getD i ⟨0, false⟩
theorem gf_get {F : List Fr} {i : Nat} (h : i < F.length) : gf F i = F[i] := by unfold gf; rw [List.getD_eq_getElem?_getD, List.getElem?_eq_getElem h]; rfl
theorem gf_set {F : List Fr} {i j : Nat} {f : Fr} (h : i < F.length) : gf (F.set i f) j = if i = j then f else gf F j := by
  unfold gf
  rw [List.getD_eq_getElem?_getD, List.getElem?_set, List.getD_eq_getElem?_getD]
  by_cases e : i = j
  · subst e; rw [if_pos rfl, if_pos rfl, if_pos h]; rfl
  · rw [if_neg e, if_neg e]
def keys (F : List Fr) : List Int := F.map Fr.key
theorem keys_len (F : List Fr) : (keys F).length = F.length := by simp [keys]
theorem keys_set (F : List Fr) (i : Nat) (f : Fr) : keys (F.set i f) = (keys F).set i f.key := by unfold keys; rw [List.map_set]
theorem keys_get {F : List Fr} {i : Nat} (h : i < F.length) : (keys F)[i]'(by rw [keys_len]; exact h) = (gf F i).key := by
  rw [gf_get h]; simp [keys]
theorem keys_same {F : List Fr} {i : Nat} {b : Bool} (h : i < F.length) : keys (F.set i ⟨(gf F i).key, b⟩) = keys F := by
  rw [keys_set]
  show (keys F).set i (gf F i).key = keys F
  rw [← keys_get h, List.set_getElem_self]
theorem keys_mem {F : List Fr} {i : Nat} (h : i < F.length) : (gf F i).key ∈ keys F := by rw [← keys_get h]; exact List.getElem_mem _

def handOk (h : Int) (n : Nat) : Prop := 0 ≤ h ∧ h < ((max n 1 : Nat) : Int)
instance (h : Int) (n : Nat) : Decidable (handOk h n) := by unfold handOk; infer_instance
def checkK (r h : Int) (F : List Fr) : Int :=
  if isRm r then (if r < (F.length : Int) then 2 else if keysE [] (keys F) = 0 then (if handOk h F.length then 0 else 4) else keysE [] (keys F)) else 3
/-- A clock that passes. -/
structure Good (r h : Int) (F : List Fr) : Prop where
  room : isRm r
  few : (F.length : Int) ≤ r
  keys : ∀ x ∈ keys F, isK x
  once : (Clk.keys F).Nodup
  hand : handOk h F.length
theorem check_zero {r h : Int} {F : List Fr} : checkK r h F = 0 ↔ Good r h F := by
  unfold checkK
  by_cases h1 : isRm r
  · by_cases h2 : r < (F.length : Int)
    · rw [if_pos h1, if_pos h2]
      exact ⟨fun h => (by cases h), fun h => absurd h.few (by omega)⟩
    · rw [if_pos h1, if_neg h2]
      by_cases h3 : keysE [] (keys F) = 0
      · rw [if_pos h3]
        have k := keysE_zero.1 h3
        by_cases h4 : handOk h F.length
        · rw [if_pos h4]; exact ⟨fun _ => ⟨h1, by omega, k.1, k.2.1, h4⟩, fun _ => rfl⟩
        · rw [if_neg h4]; exact ⟨fun e => (by cases e), fun g => absurd g.hand h4⟩
      · rw [if_neg h3]; exact ⟨fun e => absurd e h3, fun g => absurd (keysE_zero.2 ⟨g.keys, g.once, fun _ _ => by simp⟩) h3⟩
  · rw [if_neg h1]
    exact ⟨fun h => (by cases h), fun h => absurd h.room h1⟩

/-- The hand passes used frames; each becomes unused. -/
def spin : Nat → Nat → List Fr → Nat × List Fr
  | 0, h, F => (h, F)
  | f + 1, h, F => if (gf F h).used = true then spin f ((h + 1) % F.length) (F.set h ⟨(gf F h).key, false⟩) else (h, F)
theorem spin_len : ∀ (f h : Nat) (F : List Fr), (spin f h F).2.length = F.length
  | 0, h, F => rfl
  | f + 1, h, F => by
    unfold spin
    split
    · rw [spin_len]; simp
    · rfl
theorem spin_lt : ∀ (f : Nat) {h : Nat} {F : List Fr}, h < F.length → (spin f h F).1 < F.length
  | 0, h, F, hh => hh
  | f + 1, h, F, hh => by
    unfold spin
    split
    · have := spin_lt f (h := (h + 1) % F.length) (F := F.set h ⟨(gf F h).key, false⟩) (by rw [List.length_set]; exact Nat.mod_lt _ (by omega))
      simpa using this
    · exact hh
theorem spin_keys : ∀ (f : Nat) {h : Nat} {F : List Fr}, h < F.length → keys (spin f h F).2 = keys F
  | 0, h, F, hh => rfl
  | f + 1, h, F, hh => by
    unfold spin
    split
    · rw [spin_keys f (by rw [List.length_set]; exact Nat.mod_lt _ (by omega)), keys_same hh]
    · rfl
theorem spin_stop {f h : Nat} {F : List Fr} (hu : (gf F h).used = false) : spin f h F = (h, F) := by
  cases f with
  | zero => rfl
  | succ f => unfold spin; rw [if_neg (by rw [hu]; decide)]
theorem spin_go {f h : Nat} {F : List Fr} (hu : (gf F h).used = true) : spin (f + 1) h F = spin f ((h + 1) % F.length) (F.set h ⟨(gf F h).key, false⟩) := by
  conv => lhs; unfold spin
  rw [if_pos hu]
/-- How many frames are used. -/
def cnt (F : List Fr) : Nat := F.countP Fr.used
theorem cnt_le (F : List Fr) : cnt F ≤ F.length := List.countP_le_length
theorem cnt_set {F : List Fr} {h : Nat} (hh : h < F.length) (hu : (gf F h).used = true) : cnt (F.set h ⟨(gf F h).key, false⟩) + 1 = cnt F := by
  have e : (F[h]).used = true := by rw [← gf_get hh]; exact hu
  have hp : 0 < F.countP Fr.used := List.countP_pos_iff.2 ⟨F[h], List.getElem_mem hh, e⟩
  unfold cnt
  rw [List.countP_set hh, if_pos e, if_neg (by simp)]
  omega
theorem cnt_pos {F : List Fr} {h : Nat} (hh : h < F.length) (hu : (gf F h).used = true) : 0 < cnt F := by have := cnt_set hh hu; omega

/-- The state of a clock: its hand and its frames. -/
abbrev St := Nat × List Fr
def rep (s : St) (x : Int) : St := (((spin s.2.length s.1 s.2).1 + 1) % s.2.length, (spin s.2.length s.1 s.2).2.set (spin s.2.length s.1 s.2).1 ⟨x, false⟩)
def gon (s : St) : Int := (gf (spin s.2.length s.1 s.2).2 (spin s.2.length s.1 s.2).1).key
def tch (r : Int) (s : St) (x : Int) : St :=
  if x ∈ keys s.2 then (s.1, s.2.set ((keys s.2).idxOf x) ⟨x, true⟩) else if (s.2.length : Int) < r then (s.1, s.2 ++ [⟨x, false⟩]) else rep s x
def gone (r : Int) (s : St) (x : Int) : Int := if x ∈ keys s.2 then -1 else if (s.2.length : Int) < r then -1 else gon s
def runC (r : Int) (s : St) (xs : List Int) : St := xs.foldl (tch r) s
def hitsC (r : Int) (s : St) : List Int → Nat
  | [] => 0
  | x :: xs => (if x ∈ keys s.2 then 1 else 0) + hitsC r (tch r s x) xs
theorem runC_snoc (r : Int) (s : St) (xs : List Int) (x : Int) : runC r s (xs ++ [x]) = tch r (runC r s xs) x := by unfold runC; rw [List.foldl_append]; rfl
theorem runC_append (r : Int) (s : St) (xs ys : List Int) : runC r s (xs ++ ys) = runC r (runC r s xs) ys := by unfold runC; rw [List.foldl_append]
theorem hitsC_append (r : Int) : ∀ (s : St) (xs ys : List Int), hitsC r s (xs ++ ys) = hitsC r s xs + hitsC r (runC r s xs) ys
  | s, [], ys => by simp [hitsC, runC]
  | s, x :: xs, ys => by
    show (if x ∈ keys s.2 then 1 else 0) + hitsC r (tch r s x) (xs ++ ys) = (if x ∈ keys s.2 then 1 else 0) + hitsC r (tch r s x) xs + hitsC r (runC r (tch r s x) xs) ys
    rw [hitsC_append r (tch r s x) xs ys, Nat.add_assoc]
theorem hitsC_snoc (r : Int) (s : St) (xs : List Int) (x : Int) : hitsC r s (xs ++ [x]) = hitsC r s xs + (if x ∈ keys (runC r s xs).2 then 1 else 0) := by
  rw [hitsC_append]; rfl
theorem hitsC_le (r : Int) : ∀ (s : St) (xs : List Int), hitsC r s xs ≤ xs.length
  | s, [] => Nat.le_refl _
  | s, x :: xs => by
    have := hitsC_le r (tch r s x) xs
    unfold hitsC
    simp only [List.length_cons]
    split <;> omega

theorem nodup_set {L : List Int} {i : Nat} {x : Int} (h : L.Nodup) (hx : x ∉ L) : (L.set i x).Nodup := by
  by_cases hi : i < L.length
  · rw [List.set_eq_take_append_cons_drop, if_pos hi]
    rw [← List.take_append_drop i L, List.drop_eq_getElem_cons hi, List.nodup_append] at h
    obtain ⟨h1, h2, h3⟩ := h
    rw [List.nodup_cons] at h2
    rw [List.nodup_append]
    refine ⟨h1, List.nodup_cons.2 ⟨fun m => hx (List.mem_of_mem_drop m), h2.2⟩, fun a ha b hb => ?_⟩
    rcases List.mem_cons.1 hb with e | m
    · subst e; exact fun e => hx (e ▸ List.mem_of_mem_take ha)
    · exact h3 a ha b (List.mem_cons_of_mem _ m)
  · rw [List.set_eq_of_length_le (by omega)]; exact h
theorem idx_key {F : List Fr} {x : Int} (h : x ∈ keys F) : (keys F).idxOf x < F.length ∧ (gf F ((keys F).idxOf x)).key = x := by
  have h1 := List.idxOf_lt_length_of_mem h
  have h2 : (keys F).idxOf x < F.length := by rw [← keys_len F]; exact h1
  exact ⟨h2, by rw [← keys_get h2, List.getElem_idxOf h1]⟩
theorem tch_hit {r : Int} {s : St} {x : Int} (h : x ∈ keys s.2) : tch r s x = (s.1, s.2.set ((keys s.2).idxOf x) ⟨x, true⟩) := by unfold tch; rw [if_pos h]
theorem tch_room {r : Int} {s : St} {x : Int} (h : x ∉ keys s.2) (hl : (s.2.length : Int) < r) : tch r s x = (s.1, s.2 ++ [⟨x, false⟩]) := by unfold tch; rw [if_neg h, if_pos hl]
theorem tch_full {r : Int} {s : St} {x : Int} (h : x ∉ keys s.2) (hl : ¬ (s.2.length : Int) < r) : tch r s x = rep s x := by unfold tch; rw [if_neg h, if_neg hl]
theorem tch_good {r : Int} {s : St} {x : Int} (h : Good r (s.1 : Int) s.2) (hx : isK x) : Good r ((tch r s x).1 : Int) (tch r s x).2 := by
  by_cases h1 : x ∈ keys s.2
  · rw [tch_hit h1]
    have hk := idx_key h1
    have e : keys (s.2.set ((keys s.2).idxOf x) ⟨x, true⟩) = keys s.2 := by
      have := keys_same (b := true) hk.1
      rwa [hk.2] at this
    refine ⟨h.room, by simpa using h.few, ?_, ?_, by simpa using h.hand⟩
    · show ∀ y ∈ keys (s.2.set ((keys s.2).idxOf x) ⟨x, true⟩), isK y
      rw [e]; exact h.keys
    · show (keys (s.2.set ((keys s.2).idxOf x) ⟨x, true⟩)).Nodup
      rw [e]; exact h.once
  · by_cases h2 : (s.2.length : Int) < r
    · rw [tch_room h1 h2]
      have e : keys (s.2 ++ [⟨x, false⟩]) = keys s.2 ++ [x] := by simp [keys]
      refine ⟨h.room, by simp; omega, ?_, ?_, ?_⟩
      · show ∀ y ∈ keys (s.2 ++ [⟨x, false⟩]), isK y
        rw [e]
        intro y hy
        rcases List.mem_append.1 hy with m | m
        · exact h.keys y m
        · simp only [List.mem_singleton] at m; rw [m]; exact hx
      · show (keys (s.2 ++ [⟨x, false⟩])).Nodup
        rw [e, List.nodup_append]
        refine ⟨h.once, by simp, fun a ha b hb => ?_⟩
        simp only [List.mem_singleton] at hb
        rw [hb]; exact fun e => h1 (e ▸ ha)
      · have := h.hand
        unfold handOk at *
        simp only [List.length_append, List.length_singleton]
        omega
    · rw [tch_full h1 h2]
      have hf := h.few
      have hr := h.room.1
      have hh := h.hand
      unfold handOk at hh
      have hl : s.1 < s.2.length := by omega
      have hlt := spin_lt s.2.length hl
      have hks := spin_keys s.2.length hl
      have hln := spin_len s.2.length s.1 s.2
      refine ⟨h.room, by show (((spin s.2.length s.1 s.2).2.set _ _).length : Int) ≤ r; rw [List.length_set, hln]; exact hf, ?_, ?_, ?_⟩
      · show ∀ y ∈ keys ((spin s.2.length s.1 s.2).2.set _ ⟨x, false⟩), isK y
        rw [keys_set, hks]
        intro y hy
        rcases List.mem_or_eq_of_mem_set hy with m | m
        · exact h.keys y m
        · rw [m]; exact hx
      · show (keys ((spin s.2.length s.1 s.2).2.set _ ⟨x, false⟩)).Nodup
        rw [keys_set, hks]; exact nodup_set h.once h1
      · show handOk ((((spin s.2.length s.1 s.2).1 + 1) % s.2.length : Nat) : Int) ((spin s.2.length s.1 s.2).2.set _ ⟨x, false⟩).length
        rw [List.length_set, hln]
        have := Nat.mod_lt ((spin s.2.length s.1 s.2).1 + 1) (by omega : 0 < s.2.length)
        unfold handOk
        omega
theorem runC_good {r : Int} : ∀ {s : St} {xs : List Int}, Good r (s.1 : Int) s.2 → (∀ x ∈ xs, isK x) → Good r ((runC r s xs).1 : Int) (runC r s xs).2
  | s, [], h, _ => h
  | s, x :: xs, h, hx => runC_good (s := tch r s x) (xs := xs) (tch_good h (hx x (by simp))) (fun y hy => hx y (by simp [hy]))

end Go.Proofs.Ytgdklpgmoanfkaa.Clk
