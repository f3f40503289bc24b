/-
  What HoardTouch of the reference gives, and what its walk wants.
-/
import Derived.Test.YtmobohamlimhdaaGrRef2
import Derived.Test.YtmobohamlimhdaaGrApi
import Derived.Test.YtmobohamlimhdaaGrFacts
import Derived.Test.YtmobohamlimhdaaTwoInts
import Derived.Deep.RegionLaw
namespace Go.Proofs.Ytmobohamlimhdaa.Grd
open Go.RowKit
open Lru (isK)
set_option linter.unusedVariables false
set_option maxRecDepth 100000

/-! ### One access, step by step -/
theorem tch_step {r fl : Int} {L : List It} {t : It} (h1 : ¬ t.key ∈ keys L) (h2 : ¬ r < t.size) (hm : must r t.size L) :
    (tch r fl L t).floor = (tch r (gt L (lstN L)).worth (rem L (lstN L)) t).floor ∧ (tch r fl L t).left = (tch r (gt L (lstN L)).worth (rem L (lstN L)) t).left ∧ keys (tch r fl L t).gone = [(gt L (lstN L)).key] ++ keys (tch r (gt L (lstN L)).worth (rem L (lstN L)) t).gone := by
  have hp := must_pos (by omega) hm
  have hl := rem_len (lstN_lt hp)
  have h3 : ¬ t.key ∈ keys (rem L (lstN L)) := fun h => h1 (((rem_sub L (lstN L)).map It.key).mem h)
  obtain ⟨m, hmm⟩ : ∃ m, L.length = m + 1 := ⟨L.length - 1, by omega⟩
  have hl2 : (rem L (lstN L)).length = m := by omega
  unfold tch
  rw [if_neg h1, if_neg h2, if_neg h3, if_neg h2, hl2, hmm, evs_go hm]
  exact ⟨rfl, rfl, rfl⟩
theorem tch_stop {r fl : Int} {L : List It} {t : It} (h1 : ¬ t.key ∈ keys L) (h2 : ¬ r < t.size) (hm : ¬ must r t.size L) :
    (tch r fl L t).floor = fl ∧ (tch r fl L t).left = L ++ [⟨t.key, t.size, t.cost, fresh fl t.size t.cost⟩] ∧ keys (tch r fl L t).gone = [] := by
  unfold tch
  rw [if_neg h1, if_neg h2, evs_stop hm]
  exact ⟨rfl, rfl, rfl⟩
theorem tch_big {r fl : Int} {L : List It} {t : It} (h1 : ¬ t.key ∈ keys L) (h2 : r < t.size) : (tch r fl L t).floor = fl ∧ (tch r fl L t).left = L ∧ keys (tch r fl L t).gone = [] := by
  unfold tch
  rw [if_neg h1, if_pos h2]
  exact ⟨rfl, rfl, rfl⟩
theorem tch_at {r fl : Int} {L : List It} {t : It} {k : Nat} (hn : (keys L).Nodup) (hk : k < L.length) (h : (gt L k).key = t.key) :
    (tch r fl L t).floor = fl ∧ (tch r fl L t).left = L.set k ⟨(gt L k).key, (gt L k).size, (gt L k).cost, fresh fl (gt L k).size (gt L k).cost⟩ ∧ keys (tch r fl L t).gone = [] := by
  have hm : t.key ∈ keys L := List.mem_map.2 ⟨gt L k, gt_mem hk, h⟩
  obtain ⟨h1, h2⟩ := hit_at hm
  have e : hitAt L t.key = k := by
    have hi' : hitAt L t.key < (keys L).length := by simpa [keys] using h1
    have hj' : k < (keys L).length := by simpa [keys] using hk
    refine (List.getElem_inj (h₀ := hi') (h₁ := hj') hn).1 ?_
    have e2 : (gt L (hitAt L t.key)).key = (gt L k).key := by rw [h2, h]
    rw [gt_get h1, gt_get hk] at e2
    simpa [keys] using e2
  unfold tch
  rw [if_pos hm, e]
  exact ⟨rfl, rfl, rfl⟩

theorem tch_len {r fl : Int} {L : List It} {t : It} (g : Good r fl L) : (keys (tch r fl L t).gone).length ≤ L.length := by
  have e : (keys (tch r fl L t).gone).length = (tch r fl L t).gone.length := by simp [keys]
  rw [e]
  unfold tch
  by_cases h1 : t.key ∈ keys L
  · rw [if_pos h1]; exact Nat.zero_le _
  · rw [if_neg h1]
    by_cases h2 : r < t.size
    · rw [if_pos h2]; exact Nat.zero_le _
    · rw [if_neg h2]
      obtain ⟨-, -, -, -, -, -, -, -, -, a10⟩ := evs_spec (r := r) (z := t.size) (by omega) (f := L.length) (fl := fl) (Nat.le_refl _) g
      show (evs r t.size L.length fl L).gone.length ≤ _
      omega

/-- What HoardTouch gives. -/
def TR (r fl : Int) (L : List It) (t : It) (w : World) (e : Ending) (w' : World) : Prop :=
  ∃ A c B d, e = .returned (.tuple #[kv r (tch r fl L t).floor (.slice A (tch r fl L t).left.length c), .bool (decide (t.key ∈ keys L)), .slice B (keys (tch r fl L t).gone).length d]) ∧ Tss w' A c (tch r fl L t).left ∧ Ints w' B d (keys (tch r fl L t).gone) ∧ FA w A ∧ FA w B ∧ Below w.heap.size w w'
theorem TR.mk {r fl fl' : Int} {L M : List It} {t : It} {G : List Int} {h : Bool} {w w' : World} {n : Nat} {A : Option Addr} {c : Nat} {B : Option Addr} {d m : Nat} (hf : (tch r fl L t).floor = fl') (hl : (tch r fl L t).left = M) (hg : keys (tch r fl L t).gone = G) (hh : decide (t.key ∈ keys L) = h) (hn : M.length = n) (hm : G.length = m)
    (ht : Tss w' A c M) (hi : Ints w' B d G) (ha : FA w A) (hc : FA w B) (hb : Below w.heap.size w w') : TR r fl L t w (.returned (.tuple #[kv r fl' (.slice A n c), .bool h, .slice B m d])) w' := by
  subst hf; subst hl; subst hg; subst hh; subst hn; subst hm
  exact ⟨A, c, B, d, rfl, ht, hi, ha, hc, hb⟩
theorem TR.own {r fl fl' : Int} {L M : List It} {t : It} {G : List Int} {h : Bool} {w w' : World} {base : Nat} {v : Value} {B : Option Addr} {d m : Nat} (hf : (tch r fl L t).floor = fl') (hl : (tch r fl L t).left = M) (hg : keys (tch r fl L t).gone = G) (hh : decide (t.key ∈ keys L) = h) (hm : G.length = m)
    (ht : OwnT w' base v M) (hi : Ints w' B d G) (hbs : w.heap.size ≤ base) (hc : FA w B) (hb : Below w.heap.size w w') : TR r fl L t w (.returned (.tuple #[kv r fl' v, .bool h, .slice B m d])) w' := by
  obtain ⟨A, c, rfl, h1, h2⟩ := tss_of_own ht
  exact TR.mk hf hl hg hh rfl hm h1 hi (fun a ha => Nat.le_trans hbs (h2 a ha)) hc hb

/-! ### append of items in a region that draws; parts of a row -/
theorem step_append_tss {W : World} {ops : Array Oper} {o : Oper} {a : Act} {K : Act → World → Prop} {Q : Exit → Act → World → Prop} {E : Prop} (hgd : o.guard = none) (s x : Operand)
    (ho : o.op = .call { callee := .builtin .append, args := #[s, x], argTypes := #[22, 22] })
    (base : Nat) (v : Value) (L : List It) (hs : a.eval s = v) (hown : OwnT W base v L) (B : Option Addr) (d m : Nat) (M : List It) (hm : m = M.length) (hx : a.eval x = .slice B m d) (hM : Tss W B d M)
    (hn : L.length + m ≤ 16777216) (hbase : base ≤ W.heap.size)
    (h : ∀ v' w', OwnT w' base v' (L ++ M) → W.grownBy w' v.ownBlock → K (a.put o.dst v') w') :
    if Region.wanted o (yielded ops a.tmps) = true then Oper.wp Try.prog o a W K Q else E := by
  subst hm
  rw [if_pos (by simp [Region.wanted, hgd])]
  obtain ⟨i0, hi0, hz0, hz1, hz2⟩ := info_parts use_info
  cases B with
  | none =>
    have hd := hM.2.2.1 rfl
    subst hd
    have e : M = [] := List.length_eq_zero_iff.1 (by have := hM.1; omega)
    subst e
    have hrun := run_append_owned_none (P := Try.prog) (w := W) base 22 o.type 26 i0 4 Try.underlying22 hi0 v L.length (encTs L) hown
    unfold Oper.wp
    simp only [List.length_nil] at hx
    simp [execOp, ho, resolve, invoke, builtin, hs, hx, hrun, Result.andThen]
    exact h v W (by simpa using hown) ⟨rfl, rfl, rfl, Nat.le_refl _, fun _ _ _ => rfl⟩
  | some ad =>
    refine wp_append_own W s x _ ho base 26 i0 _ 4 32 Try.underlying22 hi0 hz0 hz1 hz2 rfl (by decide) v L.length (encTs L) hs hown ad M.length d (encTs M) hx (encTs_len M) ?_ (encTs_one M) (by unfold maxLen; omega) (by omega) hbase ?_
    · intro j u hj
      have hl : j < M.length * 4 := by rw [← encTs_len]; exact (List.getElem?_eq_some_iff.1 hj).1
      obtain ⟨b, o, e, ht⟩ := hM.2.2.2 (by omega)
      cases e
      rw [Addr.add_lit]
      exact tss_cells ht j u hj
    · intro v' w' h1 h2 _
      exact h v' w' (by unfold OwnT; rw [List.length_append, encTs_app]; exact h1) h2
abbrev eo : Obj := .cells #[] 26
section
variable (w : World)
theorem own_eo (base : Nat) (h : base ≤ w.heap.size) : OwnT (w.alloc eo) base (.slice (some ⟨w.heap.size, 0, none⟩) 0 0) [] := World.ownsRow_made w _ _ h (Nat.zero_le _) rfl
theorem mk_ownA : OwnT (w.alloc eo).drew w.heap.size (.slice (some ⟨w.heap.size, 0, none⟩) 0 0) [] := (own_eo w _ (Nat.le_refl _)).drew
theorem mk_ownB : OwnT ((w.alloc eo).alloc zk).drew w.heap.size (.slice (some ⟨w.heap.size, 0, none⟩) 0 0) [] := ((own_eo w _ (Nat.le_refl _)).alloc zk).drew
theorem mk_ownC : OwnT ((w.alloc zk).alloc eo).drew w.heap.size (.slice (some ⟨w.heap.size + 1, 0, none⟩) 0 0) [] := by
  have h := own_eo (w.alloc zk) w.heap.size (by simp)
  rw [show (w.alloc zk).heap.size = w.heap.size + 1 by simp] at h
  exact h.drew
theorem mk_zB : Kb ((w.alloc eo).alloc zk).drew (w.heap.size + 1) 0 0 (.slice none 0 0) := by
  have h := Kb.new (w.alloc eo) 0 0 (.slice none 0 0)
  rw [show (w.alloc eo).heap.size = w.heap.size + 1 by simp] at h
  exact h.drew
theorem mk_zC : Kb ((w.alloc zk).alloc eo).drew w.heap.size 0 0 (.slice none 0 0) := ((Kb.new w 0 0 _).alloc eo).drew
theorem mk_bA : Below w.heap.size w (w.alloc eo).drew := (bel_al (Below.refl _ _) (Nat.le_refl _) _).drew
theorem mk_bB : Below w.heap.size w ((w.alloc eo).alloc zk).drew := (bel_al (bel_al (Below.refl _ _) (Nat.le_refl _) _) (by simp) _).drew
theorem mk_bC : Below w.heap.size w ((w.alloc zk).alloc eo).drew := (bel_al (bel_al (Below.refl _ _) (Nat.le_refl _) _) (by simp) _).drew
theorem mk_bD : Below w.heap.size w (w.alloc zk).drew := (bel_al (Below.refl _ _) (Nat.le_refl _) _).drew
end
theorem gt_drop (L : List It) (k i : Nat) : gt (L.drop k) i = gt L (k + i) := by simp [gt, List.getD_eq_getElem?_getD]
theorem tss_from {A : Option Addr} {c : Nat} {L : List It} {k : Nat} {w : World} (hT : Tss w A c L) (hk : k ≤ L.length) :
    ∃ A' c', (∀ W : World, (Instr.slice 22 (.slice A L.length c) (some (.int .i64 (k : Int))) none none).run Try.prog W = .ok (.slice A' (L.length - k) c') W) ∧ Tss w A' c' (L.drop k) := by
  have hc := hT.1
  refine ⟨if c = k then A else A.map (·.add (k * 4)), c - k, fun W => ?_, ?_⟩
  · rw [run_slice_l W _ A L.length c elemU .i64 (k : Int) (by omega) (by omega), sizeU]
    simp [sliced]
  · refine ⟨by rw [List.length_drop]; omega, by have := hT.2.1; omega, fun e => ?_, fun h0 => ?_⟩
    · split at e
      · omega
      · cases A with
        | none => have := hT.2.2.1 rfl; omega
        | some a => simp at e
    · rw [List.length_drop] at h0
      obtain ⟨b, o, rfl, ht⟩ := hT.2.2.2 (by omega)
      rw [if_neg (by omega)]
      refine ⟨b, o + k * 4, by simp [Addr.add_lit], ht.1, fun i hi => ?_⟩
      rw [List.length_drop] at hi
      rw [gt_drop, show o + k * 4 + i * 4 = o + (k + i) * 4 by omega]
      exact ht.2 (k + i) (by omega)

/-! ### A world in which one block alone has changed -/
/-- Nothing but block o has changed; it still holds a cache. -/
structure Nr (w W : World) (o : Nat) : Prop where
  gb : w.grownBy W (some o)
  box : ∃ a b v, Kb W o a b v
section
variable {w w0 W W' : World} {o base : Nat} {a b : Int} {v u : Value} {L : List Int} {M : List It} {A : Option Addr} {c : Nat}
theorem Nr.start (k : Kb w o a b v) : Nr w w.drew o := ⟨⟨rfl, rfl, rfl, Nat.le_refl _, fun _ _ _ => rfl⟩, _, _, _, k⟩
theorem Nr.drew (h : Nr w W o) : Nr w W.drew o := ⟨⟨h.gb.os, h.gb.tape, h.gb.output, h.gb.size, h.gb.block⟩, h.box⟩
theorem Nr.alloc (h : Nr w W o) (x : Obj) : Nr w (W.alloc x) o := by
  have hb : Below W.heap.size W (W.alloc x) := (Below.refl _ _).alloc (Nat.le_refl _) x
  obtain ⟨a, b, v, k⟩ := h.box
  exact ⟨⟨hb.os.trans h.gb.os, hb.tape.trans h.gb.tape, hb.output.trans h.gb.output, Nat.le_trans h.gb.size hb.size, fun k hk hne => (hb.block k (Nat.lt_of_lt_of_le hk h.gb.size)).trans (h.gb.block k hk hne)⟩, a, b, v, k.alloc x⟩
theorem Nr.set3 (h : Nr w W o) (r' fl' : Int) (x : Value) : Nr w (((W.setCell ⟨o, 0, none⟩ (.int .i64 r')).setCell ⟨o, 1, none⟩ (.int .i64 fl')).setCell ⟨o, 2, none⟩ x) o ∧ Kb (((W.setCell ⟨o, 0, none⟩ (.int .i64 r')).setCell ⟨o, 1, none⟩ (.int .i64 fl')).setCell ⟨o, 2, none⟩ x) o r' fl' x := by
  obtain ⟨a, b, v, k⟩ := h.box
  have k' := k.put3 r' fl' x
  refine ⟨⟨⟨h.gb.os, h.gb.tape, h.gb.output, by have := h.gb.size; simpa [World.setCell] using this, fun j hj hne => ?_⟩, _, _, _, k'⟩, k'⟩
  have hjo : j ≠ o := fun e => hne (by rw [e])
  exact (Below.heap_setCell _ ⟨o, 2, none⟩ _ j hjo).trans ((Below.heap_setCell _ ⟨o, 1, none⟩ _ j hjo).trans ((Below.heap_setCell _ ⟨o, 0, none⟩ _ j hjo).trans (h.gb.block j hj hne)))
theorem Nr.grown (h : Nr w W o) (ho : OwnI W base u L) (hb : w.heap.size ≤ base) (hg : W.grownBy W' u.ownBlock) : Nr w W' o := by
  obtain ⟨a, b, v, k⟩ := h.box
  refine ⟨⟨hg.os.trans h.gb.os, hg.tape.trans h.gb.tape, hg.output.trans h.gb.output, Nat.le_trans h.gb.size hg.size, fun j hj hne => (hg.block j (Nat.lt_of_lt_of_le hj h.gb.size) (fun e => ?_)).trans (h.gb.block j hj hne)⟩, a, b, v, k.grownI ho hg⟩
  have := (ho.lt j e.symm).1
  omega
theorem Nr.bel {B : Nat} (h : Nr w W o) (hw : Below B w0 w) (hB : B ≤ w.heap.size) (ho : B ≤ o) : Below B w0 W := hw.grown h.gb hB (fun k e => by cases e; exact ho)
theorem Nr.cell {p j : Nat} {x : Value} (h : Nr w W o) (hc : w.cell? ⟨p, j, none⟩ = some x) (hne : p ≠ o) : W.cell? ⟨p, j, none⟩ = some x := h.gb.cell hc (fun e => hne (by cases e; rfl))
theorem Tss.nr (h : Tss w A c M) (n : Nr w W o) (hA : ∀ a, A = some a → a.block ≠ o) : Tss W A c M :=
  ⟨h.1, h.2.1, h.2.2.1, fun hl => by
    obtain ⟨b, p, e, h1, h2⟩ := h.2.2.2 hl
    have hne : b ≠ o := hA _ e
    exact ⟨b, p, e, Nat.lt_of_lt_of_le h1 n.gb.size, fun i hi => ⟨n.cell (h2 i hi).1 hne, n.cell (h2 i hi).2.1 hne, n.cell (h2 i hi).2.2.1 hne, n.cell (h2 i hi).2.2.2 hne⟩⟩⟩
theorem ints_nr (h : Ints w A c L) (n : Nr w W o) (hA : ∀ a, A = some a → a.block ≠ o) : Ints W A c L :=
  ⟨h.1, h.2.1, h.2.2.1, fun hl => by
    obtain ⟨b, p, e, h1, h2⟩ := h.2.2.2 hl
    exact ⟨b, p, e, Nat.lt_of_lt_of_le h1 n.gb.size, fun i hi => n.cell (h2 i hi) (hA _ e)⟩⟩
end
end Go.Proofs.Ytmobohamlimhdaa.Grd
