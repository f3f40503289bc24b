/-
  LRU, clock and LFU evict only what they must: none has fewer misses than the policy that knows the future.
-/
import Derived.Test.YtgdklpgmoanfkaaBestMath
import Derived.Test.YtgdklpgmoanfkaaClockMath
import Derived.Test.YtgdklpgmoanfkaaLfuMath
namespace Go.Proofs.Ytgdklpgmoanfkaa.Bst
open Lru (isRm isK)
set_option linter.unusedVariables false

theorem erase_mid {A B : List Int} {z : Int} (h : z ∉ A) : (A ++ z :: B).erase z = A ++ B := by
  rw [List.erase_append_right _ h, List.erase_cons_head]
theorem split_at {L : List Int} {k : Nat} (h : k < L.length) : L = L.take k ++ L[k] :: L.drop (k + 1) := by
  rw [← List.drop_eq_getElem_cons h, List.take_append_drop]
theorem erase_at {L : List Int} {k : Nat} (hn : L.Nodup) (h : k < L.length) : L.erase L[k] = L.take k ++ L.drop (k + 1) := by
  have hs := split_at h
  have h1 : L[k] ∉ L.take k := fun m => by
    rw [hs, List.nodup_append] at hn
    exact hn.2.2 _ m _ (List.mem_cons_self ..) rfl
  generalize L[k] = z at *
  conv => lhs; rw [hs]
  exact erase_mid h1
theorem set_perm {L : List Int} {k : Nat} {x : Int} (hn : L.Nodup) (h : k < L.length) : (L.set k x).Perm (x :: L.erase L[k]) := by
  rw [erase_at hn h, List.set_eq_take_append_cons_drop, if_pos h]
  exact List.perm_middle

theorem lru_best {r : Int} (hr : 1 ≤ r) (xs : List Int) : missB r.toNat [] xs ≤ xs.length - Lru.hitsM r [] xs := by
  refine (can_missB (by omega) List.nodup_nil).1 ?_
  refine (can_of_step (σ := List Int) (r := r.toNat) (fun L => L) (Lru.touch r) (fun L => L.Nodup ∧ (L.length : Int) ≤ r) (fun _ => True) ?_ ?_ ?_ ?_ (Lru.hitsM r) (fun _ => rfl) (fun _ _ _ => rfl) (xs := xs) (s := []) ⟨List.nodup_nil, by simp; omega⟩ (fun _ _ => trivial)).2
  · exact fun L x h _ => ⟨touch_nodup h.1, Lru.touch_len hr⟩
  · intro L x h _ hx
    show (Lru.touch r L x).Perm L
    rw [Lru.touch_in hx h.2]
    exact (List.perm_cons_erase hx).symm
  · intro L x h _ hx hl
    show (Lru.touch r L x).Perm (x :: L)
    rw [Lru.touch_room hx (by have : L.length < r.toNat := hl; omega)]
  · intro L x h _ hx hl
    have h1 : ¬ L.length < r.toNat := hl
    have hk : L.length - 1 < L.length := by omega
    refine ⟨L[L.length - 1], List.getElem_mem hk, ?_⟩
    show (Lru.touch r L x).Perm (x :: L.erase L[L.length - 1])
    have h2 := h.2
    rw [Lru.touch_full hx (by omega), erase_at h.1 hk, List.drop_of_length_le (by omega), List.append_nil]

theorem clock_best {r : Int} (hr : isRm r) {xs : List Int} (hx : ∀ x ∈ xs, isK x) : missB r.toNat [] xs ≤ xs.length - Clk.hitsC r (0, []) xs := by
  have hr1 := hr.1
  refine (can_missB (by omega) List.nodup_nil).1 ?_
  refine (can_of_step (σ := Clk.St) (r := r.toNat) (fun s => Clk.keys s.2) (Clk.tch r) (fun s => Clk.Good r (s.1 : Int) s.2) isK ?_ ?_ ?_ ?_ (Clk.hitsC r) (fun _ => rfl) (fun _ _ _ => rfl) (xs := xs) (s := (0, [])) ⟨hr, by simp; omega, by simp [Clk.keys], by simp [Clk.keys], by unfold Clk.handOk; simp⟩ hx).2
  · exact fun s x h hx => Clk.tch_good h hx
  · intro s x h _ hx
    show (Clk.keys (Clk.tch r s x).2).Perm (Clk.keys s.2)
    rw [Clk.tch_hit hx]
    have hk := Clk.idx_key hx
    have e : Clk.keys (s.2.set ((Clk.keys s.2).idxOf x) ⟨x, true⟩) = Clk.keys s.2 := by
      have := Clk.keys_same (b := true) hk.1
      rwa [hk.2] at this
    show (Clk.keys (s.2.set ((Clk.keys s.2).idxOf x) ⟨x, true⟩)).Perm (Clk.keys s.2)
    rw [e]
  · intro s x h _ hx hl
    have hl : (Clk.keys s.2).length < r.toNat := hl
    rw [Clk.keys_len] at hl
    show (Clk.keys (Clk.tch r s x).2).Perm (x :: Clk.keys s.2)
    rw [Clk.tch_room hx (by omega)]
    show (Clk.keys (s.2 ++ [⟨x, false⟩])).Perm _
    unfold Clk.keys
    rw [List.map_append]
    exact List.perm_append_comm
  · intro s x h _ hx hl
    have hl : ¬ (Clk.keys s.2).length < r.toNat := hl
    rw [Clk.keys_len] at hl
    have hf := h.few
    have hpos : 0 < s.2.length := by omega
    have hh : s.1 < s.2.length := by
      have := h.hand.2
      omega
    have hi : (Clk.spin s.2.length s.1 s.2).1 < (Clk.keys s.2).length := by rw [Clk.keys_len]; exact Clk.spin_lt _ hh
    refine ⟨(Clk.keys s.2)[(Clk.spin s.2.length s.1 s.2).1], List.getElem_mem hi, ?_⟩
    show (Clk.keys (Clk.tch r s x).2).Perm _
    rw [Clk.tch_full hx (by omega)]
    show (Clk.keys ((Clk.spin s.2.length s.1 s.2).2.set (Clk.spin s.2.length s.1 s.2).1 ⟨x, false⟩)).Perm _
    rw [Clk.keys_set, Clk.spin_keys _ hh]
    exact set_perm h.once hi

theorem rem_erase {L : List Lfu.Us} {k : Nat} (h : k < L.length) (hn : (Lfu.keys L).Nodup) : Lfu.keys (Lfu.rem L k) = (Lfu.keys L).erase (Lfu.gu L k).key := by
  have hk : k < (Lfu.keys L).length := by rw [Lfu.keys_len]; exact h
  have e : (Lfu.keys L)[k] = (Lfu.gu L k).key := Lfu.keys_get h
  rw [← e, erase_at hn hk]
  unfold Lfu.rem Lfu.keys
  rw [List.map_append, List.map_take, List.map_drop]
theorem lfu_best {r : Int} (hr : isRm r) {xs : List Int} (hx : ∀ x ∈ xs, isK x) : missB r.toNat [] xs ≤ xs.length - Lfu.hitsU r [] xs := by
  have hr1 := hr.1
  refine (can_missB (by omega) List.nodup_nil).1 ?_
  refine (can_of_step (σ := List Lfu.Us) (r := r.toNat) Lfu.keys (Lfu.tch r) (fun L => Lfu.Good r L) isK ?_ ?_ ?_ ?_ (Lfu.hitsU r) (fun _ => rfl) (fun _ _ _ => rfl) (xs := xs) (s := []) ⟨hr, by simp; omega, by simp [Lfu.keys], by simp [Lfu.keys], by simp⟩ hx).2
  · exact fun s x h hx => Lfu.tch_good h hx
  · intro L x h _ hx
    obtain ⟨hk, hky⟩ := Lfu.idx_key hx
    rw [Lfu.tch_hit hx, Lfu.keys_cons, rem_erase hk h.once, hky]
    exact (List.perm_cons_erase hx).symm
  · intro L x h _ hx hl
    rw [Lfu.keys_len] at hl
    rw [Lfu.tch_room hx (by omega), Lfu.keys_cons]
  · intro L x h _ hx hl
    rw [Lfu.keys_len] at hl
    have hf := h.few
    have hv := Lfu.vicN_lt (L := L) (by omega)
    refine ⟨(Lfu.gu L (Lfu.vicN L)).key, Lfu.keys_mem hv, ?_⟩
    rw [Lfu.tch_full hx (by omega), Lfu.keys_cons, rem_erase hv h.once]

end Go.Proofs.Ytgdklpgmoanfkaa.Bst
