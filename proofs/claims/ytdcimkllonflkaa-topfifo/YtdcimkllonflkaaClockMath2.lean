/-
  The clock algorithm: which frame is replaced; clocks without a hit are queues.
-/
import Derived.Test.YtdcimkllonflkaaClockMath
namespace Go.Proofs.Ytdcimkllonflkaa.Clk
open Lru (isRm isK keysE keysE_zero traceE trace_zero)
set_option linter.unusedVariables false

theorem modw {h q n : Nat} (hh : h < n) (hq : q ≤ n) : (h + q) % n = if h + q < n then h + q else h + q - n := by
  split
  · rename_i a; exact Nat.mod_eq_of_lt a
  · rename_i a
    rw [Nat.mod_eq_sub_mod (by omega), Nat.mod_eq_of_lt (by omega)]
theorem spin_aux {F : List Fr} {n h : Nat} (hl : F.length = n) (hh : h < n) : ∀ (f p : Nat) (G : List Fr), p + f = n → G.length = n →
    (∀ q, q < p → (gf F ((h + q) % n)).used = true) → (∀ i, i < n → (∀ q, q < p → (h + q) % n ≠ i) → gf G i = gf F i) →
    ∃ p', p' ≤ n ∧ (∀ q, q < p' → (gf F ((h + q) % n)).used = true) ∧ (p' < n → (gf F ((h + p') % n)).used = false) ∧ (spin f ((h + p) % n) G).1 = (h + p') % n
  | 0, p, G, hp, hG, hu, hs => ⟨p, by omega, hu, fun h => by omega, rfl⟩
  | f + 1, p, G, hp, hG, hu, hs => by
    have hj : (h + p) % n < n := Nat.mod_lt _ (by omega)
    have e : gf G ((h + p) % n) = gf F ((h + p) % n) := hs _ hj (fun q hq => by
      rw [modw hh (by omega), modw hh (by omega)]
      split <;> split <;> omega)
    by_cases hx : (gf F ((h + p) % n)).used = true
    · have e2 : ((h + p) % n + 1) % n = (h + (p + 1)) % n := by rw [Nat.mod_add_mod, Nat.add_assoc]
      rw [spin_go (by rw [e]; exact hx), hG, e2]
      refine spin_aux hl hh f (p + 1) _ (by omega) (by rw [List.length_set]; exact hG) (fun q hq => ?_) (fun i hi hq => ?_)
      · by_cases hqp : q = p
        · subst hqp; exact hx
        · exact hu q (by omega)
      · rw [gf_set (by rw [hG]; exact hj), if_neg (hq p (by omega))]
        exact hs i hi (fun q hq' => hq q (by omega))
    · have hx' : (gf F ((h + p) % n)).used = false := by simpa using hx
      exact ⟨p, by omega, hu, fun _ => hx', by rw [spin_stop (by rw [e]; exact hx')]⟩
/-- Where the hand stops. -/
theorem spin_char {F : List Fr} {h : Nat} (hh : h < F.length) : ∃ p, p ≤ F.length ∧ (∀ q, q < p → (gf F ((h + q) % F.length)).used = true) ∧ (p < F.length → (gf F ((h + p) % F.length)).used = false) ∧ (spin F.length h F).1 = (h + p) % F.length := by
  have := spin_aux (F := F) rfl hh F.length 0 F (by omega) rfl (fun q hq => by omega) (fun i _ _ => rfl)
  rwa [Nat.add_zero, Nat.mod_eq_of_lt hh] at this
theorem spares {F : List Fr} {h : Nat} (hh : h < F.length) : (gf F (spin F.length h F).1).used = F.all Fr.used := by
  obtain ⟨p, hp, hu, hs, e⟩ := spin_char hh
  rw [e]
  by_cases hlt : p < F.length
  · have hj : (h + p) % F.length < F.length := Nat.mod_lt _ (by omega)
    rw [hs hlt]
    symm
    rw [List.all_eq_false]
    refine ⟨gf F ((h + p) % F.length), ?_, by rw [hs hlt]; decide⟩
    rw [gf_get hj]; exact List.getElem_mem _
  · obtain rfl : p = F.length := by omega
    have h1 : (h + F.length) % F.length = (h + 0) % F.length := by rw [Nat.add_mod_right]; rfl
    rw [h1, hu 0 (by omega)]
    symm
    rw [List.all_eq_true]
    intro x hx
    obtain ⟨i, hi, rfl⟩ := List.getElem_of_mem hx
    have := hu (if h ≤ i then i - h else i + F.length - h) (by split <;> omega)
    have e2 : (h + (if h ≤ i then i - h else i + F.length - h)) % F.length = i := by
      rw [modw hh (by split <;> omega)]
      split <;> split <;> omega
    rw [e2, gf_get hi] at this
    exact this
theorem gon_key {F : List Fr} {h : Nat} (hh : h < F.length) : gon (h, F) = (gf F (spin F.length h F).1).key := by
  have hj := spin_lt F.length hh
  have h1 := spin_len F.length h F
  have e := spin_keys F.length hh
  unfold gon
  show (gf (spin F.length h F).2 (spin F.length h F).1).key = _
  rw [← keys_get (by rw [h1]; exact hj), ← keys_get hj]
  simp only [e]

/-- What a search for a key's bit finds among the first k frames. -/
def usedOf (F : List Fr) (g : Int) : Nat → Bool
  | 0 => false
  | k + 1 => if (gf F k).key = g then (gf F k).used else usedOf F g k
theorem key_inj {F : List Fr} {i j : Nat} (hn : (keys F).Nodup) (hi : i < F.length) (hj : j < F.length) (e : (gf F i).key = (gf F j).key) : i = j := by
  rw [← keys_get hi, ← keys_get hj] at e
  exact (List.getElem_inj hn).1 e
theorem usedOf_eq {F : List Fr} {j : Nat} (hn : (keys F).Nodup) (hj : j < F.length) : ∀ k, k ≤ F.length → j < k → usedOf F (gf F j).key k = (gf F j).used
  | 0, _, h => by omega
  | k + 1, hk, h => by
    unfold usedOf
    by_cases e : (gf F k).key = (gf F j).key
    · rw [if_pos e, key_inj hn (by omega) hj e]
    · rw [if_neg e]
      exact usedOf_eq hn hj k (by omega) (by
        have : k ≠ j := fun h => e (by rw [h])
        omega)
theorem all_take {F : List Fr} {k : Nat} (hk : k < F.length) : (F.take (k + 1)).all Fr.used = ((F.take k).all Fr.used && (gf F k).used) := by
  rw [List.take_add_one, List.getElem?_eq_getElem hk, List.all_append, gf_get hk]
  simp
theorem count_take {F : List Fr} {k : Nat} {x : Int} (hk : k < F.length) : ((keys F).take (k + 1)).count x = ((keys F).take k).count x + if (gf F k).key = x then 1 else 0 := by
  have hk' : k < (keys F).length := by rw [keys_len]; exact hk
  rw [List.take_add_one, List.getElem?_eq_getElem hk', List.count_append, keys_get hk]
  congr 1
  simp [List.count_singleton]
theorem count_set {L : List Int} {x : Int} {i : Nat} (hx : x ∉ L) (hi : i < L.length) : (L.set i x).count x = 1 := by
  rw [List.count_set hi, List.count_eq_zero.2 hx]
  have : L[i] ≠ x := fun e => hx (e ▸ List.getElem_mem hi)
  simp [this]
theorem set_out {L : List Int} {x : Int} {i : Nat} (hn : L.Nodup) (hi : i < L.length) (hx : x ∉ L) : L[i] ∉ L.set i x := by
  intro hm
  obtain ⟨j, hj, e⟩ := List.getElem_of_mem hm
  rw [List.getElem_set] at e
  split at e
  · exact hx (e ▸ List.getElem_mem hi)
  · rename_i hne
    exact hne ((List.getElem_inj hn).1 e).symm
/-- An access that evicts. -/
theorem spare_facts {r : Int} {h : Nat} {F : List Fr} {x : Int} (g : Good r (h : Int) F) (hx : x ∉ keys F) (hf : ¬ (F.length : Int) < r) (hk : isK x) :
    usedOf F (gone r (h, F) x) F.length = F.all Fr.used ∧ (∀ i, i < (tch r (h, F) x).2.length → (gf (tch r (h, F) x).2 i).key ≠ gone r (h, F) x) ∧ (keys (tch r (h, F) x).2).count x = 1 ∧ ((tch r (h, F) x).2.length : Int) = r ∧ 0 ≤ gone r (h, F) x := by
  have hl : h < F.length := by have h1 := g.hand; have h2 := g.room.1; unfold handOk at h1; omega
  have hj := spin_lt F.length hl
  have hln := spin_len F.length h F
  have hks := spin_keys F.length hl
  have eg : gone r (h, F) x = (gf F (spin F.length h F).1).key := by unfold gone; rw [if_neg hx, if_neg hf]; exact gon_key hl
  have et : tch r (h, F) x = (((spin F.length h F).1 + 1) % F.length, (spin F.length h F).2.set (spin F.length h F).1 ⟨x, false⟩) := tch_full (s := (h, F)) hx hf
  have ek : keys (tch r (h, F) x).2 = (keys F).set (spin F.length h F).1 x := by rw [et]; show keys ((spin F.length h F).2.set _ _) = _; rw [keys_set, hks]
  have hjk : (spin F.length h F).1 < (keys F).length := by rw [keys_len]; exact hj
  have el : (tch r (h, F) x).2.length = F.length := by rw [et]; show ((spin F.length h F).2.set _ _).length = _; rw [List.length_set, hln]
  rw [eg]
  refine ⟨by rw [usedOf_eq g.once hj _ (Nat.le_refl _) hj, spares hl], fun i hi e => ?_, ?_, ?_, ?_⟩
  · have := set_out g.once hjk hx
    rw [keys_get hj, ← ek] at this
    exact this (e ▸ keys_mem hi)
  · rw [ek]; exact count_set hx hjk
  · rw [el]; have := g.few; omega
  · exact (g.keys _ (keys_mem hj)).1

/-! ### Queues -/
/-- The keys of a clock, from the hand on. -/
def rot (s : St) : List Int := keys (s.2.drop s.1 ++ s.2.take s.1)
theorem rot_len (s : St) : (rot s).length = s.2.length := by unfold rot; rw [keys_len]; simp; omega
theorem rot_mem {s : St} {x : Int} : x ∈ rot s ↔ x ∈ keys s.2 := by
  unfold rot keys
  rw [List.map_append, List.mem_append]
  conv => rhs; rw [← List.take_append_drop s.1 s.2, List.map_append, List.mem_append]
  exact or_comm
/-- A clock without a used frame, whose hand has not moved until it is full. -/
structure Fif (r : Int) (s : St) : Prop where
  off : ∀ i, i < s.2.length → (gf s.2 i).used = false
  short : (s.2.length : Int) < r → s.1 = 0
  hand : s.1 < s.2.length ∨ s.1 = 0
  few : (s.2.length : Int) ≤ r
theorem fif_step {r : Int} {s : St} {x : Int} (f : Fif r s) (hr : 1 ≤ r) (hx : x ∉ keys s.2) :
    Fif r (tch r s x) ∧ rot (tch r s x) = (if (s.2.length : Int) < r then rot s else (rot s).drop 1) ++ [x] ∧ gone r s x = if (s.2.length : Int) < r then -1 else (rot s).headD 0 := by
  obtain ⟨h, F⟩ := s
  have f1 := f.off
  have f2 := f.short
  have f3 := f.hand
  have f4 := f.few
  dsimp only at f1 f2 f3 f4 hx
  by_cases hl : (F.length : Int) < r
  · have h0 := f2 hl
    subst h0
    rw [tch_room (s := (0, F)) hx hl]
    refine ⟨⟨fun i hi => ?_, fun _ => rfl, .inr rfl, by simp; omega⟩, ?_, ?_⟩
    · dsimp only at hi ⊢
      by_cases hlt : i < F.length
      · have : gf (F ++ [⟨x, false⟩]) i = gf F i := by unfold gf; rw [List.getD_eq_getElem?_getD, List.getElem?_append_left hlt, ← List.getD_eq_getElem?_getD]
        rw [this]; exact f1 i hlt
      · have hi2 : i = F.length := by simp at hi; omega
        subst hi2
        have : gf (F ++ [⟨x, false⟩]) F.length = ⟨x, false⟩ := by unfold gf; rw [List.getD_eq_getElem?_getD]; simp
        rw [this]
    · rw [if_pos hl]; simp [rot, keys]
    · unfold gone; rw [if_neg hx, if_pos hl, if_pos hl]
  · have hh : h < F.length := by omega
    have es : spin F.length h F = (h, F) := spin_stop (f1 h hh)
    have et : tch r (h, F) x = ((h + 1) % F.length, F.set h ⟨x, false⟩) := by
      rw [tch_full (s := (h, F)) hx hl]; unfold rep; dsimp only; rw [es]
    have hhd : F.drop h = F[h] :: F.drop (h + 1) := List.drop_eq_getElem_cons hh
    rw [et]
    refine ⟨⟨fun i hi => ?_, fun hs => ?_, .inl ?_, by simp; omega⟩, ?_, ?_⟩
    · dsimp only at hi ⊢
      rw [List.length_set] at hi
      rw [gf_set hh]
      split
      · rfl
      · exact f1 i hi
    · simp at hs; omega
    · dsimp only; rw [List.length_set]; exact Nat.mod_lt _ (by omega)
    · rw [if_neg hl]
      have e1 : (rot (h, F)).drop 1 = keys (F.drop (h + 1)) ++ keys (F.take h) := by
        unfold rot; dsimp only; rw [hhd]; unfold keys; rw [List.cons_append, List.map_cons, List.drop_succ_cons, List.drop_zero, List.map_append]
      rw [e1]
      unfold rot
      dsimp only
      by_cases he : h + 1 < F.length
      · rw [Nat.mod_eq_of_lt he, List.drop_set_of_lt (by omega), List.take_add_one, List.getElem?_set_self hh, List.take_set_of_le (Nat.le_refl _)]
        simp [keys]
      · have he : h + 1 = F.length := by omega
        rw [he, Nat.mod_self, List.drop_length]
        have e2 : F.set h ⟨x, false⟩ = F.take h ++ [⟨x, false⟩] := by
          rw [List.set_eq_take_append_cons_drop, if_pos hh, he, List.drop_length]
        rw [e2]
        simp [keys]
    · unfold gone; rw [if_neg hx, if_neg hl, if_neg hl]
      unfold gon rot
      dsimp only
      rw [es]
      dsimp only
      rw [hhd, gf_get hh]
      rfl
/-- The last n of a list. -/
def lastN (n : Nat) (L : List Int) : List Int := L.drop (L.length - n)
theorem lastN_mem {n : Nat} {L : List Int} {x : Int} (h : x ∈ lastN n L) : x ∈ L := List.mem_of_mem_drop h
theorem lastN_snoc {n : Nat} (hn : 1 ≤ n) (L : List Int) (x : Int) : lastN n (L ++ [x]) = (if (lastN n L).length < n then lastN n L else (lastN n L).drop 1) ++ [x] := by
  unfold lastN
  rw [List.length_drop, List.length_append, List.length_singleton]
  by_cases h : L.length < n
  · rw [show L.length + 1 - n = 0 by omega, show L.length - n = 0 by omega, if_pos (by omega)]; rfl
  · rw [if_neg (by omega), List.drop_drop, show L.length - n + 1 = L.length + 1 - n by omega, List.drop_append_of_le_length (by omega)]
theorem lastN_rev {n : Nat} (L : List Int) : (lastN n L).reverse = L.reverse.take n := by
  unfold lastN; rw [List.reverse_drop]
  by_cases h : n ≤ L.length
  · rw [show L.length - (L.length - n) = n by omega]
  · rw [List.take_of_length_le (by simp; omega), List.take_of_length_le (by simp; omega)]
/-- A run without a hit. -/
theorem fifo_run {r : Int} (hr : 1 ≤ r) (xs : List Int) (h0 : hitsC r (0, []) xs = 0) : ∀ k, k ≤ xs.length → Fif r (runC r (0, []) (xs.take k)) ∧ rot (runC r (0, []) (xs.take k)) = lastN r.toNat (xs.take k)
  | 0, _ => ⟨⟨fun i hi => by simp [runC] at hi, fun _ => rfl, .inr rfl, by simp [runC]; omega⟩, by simp [runC, rot, lastN, keys]⟩
  | k + 1, hk => by
    obtain ⟨f, e⟩ := fifo_run hr xs h0 k (by omega)
    have hlt : k < xs.length := by omega
    have et : xs.take (k + 1) = xs.take k ++ [xs[k]] := by rw [List.take_add_one, List.getElem?_eq_getElem hlt]; rfl
    have hx : xs[k] ∉ keys (runC r (0, []) (xs.take k)).2 := by
      intro hm
      have e2 : xs = xs.take (k + 1) ++ xs.drop (k + 1) := (List.take_append_drop _ _).symm
      have h1 : hitsC r (0, []) (xs.take (k + 1)) = 0 := by
        have := hitsC_append r (0, []) (xs.take (k + 1)) (xs.drop (k + 1))
        rw [← e2, h0] at this; omega
      rw [et, hitsC_snoc, if_pos hm] at h1
      omega
    rw [et, runC_snoc]
    obtain ⟨g1, g2, -⟩ := fif_step f hr hx
    refine ⟨g1, ?_⟩
    rw [g2, e, lastN_snoc (by omega)]
    congr 1
    have := rot_len (runC r (0, []) (xs.take k))
    rw [e] at this
    by_cases hs : ((runC r (0, []) (xs.take k)).2.length : Int) < r
    · rw [if_pos hs, if_pos (by omega)]
    · rw [if_neg hs, if_neg (by omega)]
/-- The key of place i, if it does not come again, is cached exactly if it is one of the last. -/
theorem fifo_in {r : Int} (hr : 1 ≤ r) (xs : List Int) (h0 : hitsC r (0, []) xs = 0) {i : Nat} (hi : i < xs.length) (hl : ∀ k, i < k → ∀ hk : k < xs.length, xs[k] ≠ xs[i]) :
    xs[i] ∈ keys (runC r (0, []) xs).2 ↔ (xs.length : Int) - r ≤ (i : Int) := by
  have e := (fifo_run hr xs h0 xs.length (Nat.le_refl _)).2
  rw [List.take_length] at e
  rw [← rot_mem, e]
  unfold lastN
  constructor
  · intro hm
    obtain ⟨j, hj, ej⟩ := List.getElem_of_mem hm
    rw [List.getElem_drop] at ej
    rw [List.length_drop] at hj
    by_cases hlt : i < xs.length - r.toNat + j
    · exact absurd ej (hl _ hlt (by omega))
    · omega
  · intro h
    have : xs[i] = (xs.drop (xs.length - r.toNat))[i - (xs.length - r.toNat)]'(by rw [List.length_drop]; omega) := by
      rw [List.getElem_drop]; congr 1; omega
    rw [this]
    exact List.getElem_mem _

end Go.Proofs.Ytdcimkllonflkaa.Clk
