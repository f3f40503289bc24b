/-
  The reference of package lru: LruTouch.
-/
import Derived.Test.YticfkhmmmpnmdaaLruRef
import Derived.Test.YticfkhmmmpnmdaaLruPartsLaw
namespace Go.Proofs.Yticfkhmmmpnmdaa.Lru
open Go.RowKit Go.Maps
set_option linter.unusedVariables false

/-! ### A variable of type Cache whose keys are written -/
def Vb (w : World) (p : Nat) (r : Int) (v : Value) : Prop := w.heap[p]? = some (.cells #[.int .i64 r, v] 24 (0, 0))
section
variable {w w' : World} {p base : Nat} {r : Int} {v v' : Value} {L : List Int}
theorem Vb.lt (h : Vb w p r v) : p < w.heap.size := (Array.getElem?_eq_some_iff.1 h).1
theorem Vb.cells (h : Vb w p r v) : w.cell? ⟨p, 0, none⟩ = some (.int .i64 r) ∧ w.cell? ⟨p, 1, none⟩ = some v ∧ w.frozen? ⟨p, 0, none⟩ = false ∧ w.frozen? ⟨p, 1, none⟩ = false := by
  have h : w.heap[p]? = some (.cells #[.int .i64 r, v] 24 (0, 0)) := h
  exact ⟨by rw [cell_of_row w p 0 _ _ (0, 0) h]; rfl, by rw [cell_of_row w p 1 _ _ (0, 0) h]; rfl, by simp [World.frozen?, h], by simp [World.frozen?, h]⟩
theorem Vb.below (h : Vb w p r v) (hb : Below w.heap.size w w') : Vb w' p r v := (hb.block p h.lt).trans h
theorem Vb.own (h : Vb w p r v) (ho : OwnI w base v' L) : v'.ownBlock ≠ some p := by
  intro e
  rcases ho.2 with ⟨rfl, -⟩ | ⟨g, cap, cur, rfl, -, hg, -⟩
  · cases e
  · cases e
    have h : w.heap[g]? = some (.cells #[.int .i64 r, v] 24 (0, 0)) := h
    rw [hg] at h
    simp at h
theorem Vb.grown (h : Vb w p r v) (ho : OwnI w base v' L) (hg : w.grownBy w' v'.ownBlock) : Vb w' p r v := (hg.block p h.lt (fun e => h.own ho e.symm)).trans h
theorem Vb.set (h : Vb w p r v) (u : Value) : Vb (w.setCell ⟨p, 1, none⟩ u) p r u := by
  have h : w.heap[p]? = some (.cells #[.int .i64 r, v] 24 (0, 0)) := h
  show (w.setCell ⟨p, 1, none⟩ u).heap[p]? = _
  simp [World.setCell, Array.getElem?_modify, h]
theorem Vb.new (w : World) (r : Int) (v : Value) : Vb (w.alloc (.cells #[.int .i64 r, v] 24)) w.heap.size r v := Array.getElem?_push_size
theorem own_set (ho : OwnI w base v L) (hp : v.ownBlock ≠ some p) (j : Nat) (u : Value) : OwnI (w.setCell ⟨p, j, none⟩ u) base v L :=
  ho.kept (row := some p) ⟨rfl, rfl, rfl, by simp [World.setCell], fun k hk hne => Below.heap_setCell w ⟨p, j, none⟩ u k (fun e => hne (by rw [e]))⟩ (.inr hp)
end

/-! ### The keys so far -/
def oth (L : List Int) (x : Int) (k : Nat) : List Int := (L.take k).filter (fun y => decide (y ≠ x))
def gk (r : Int) (L : List Int) (x : Int) (k : Nat) : Int := if ((oth L x k).length : Int) = r then gi L (r.toNat - 1) else -1
theorem oth_step {L : List Int} {x : Int} {k : Nat} (hk : k < L.length) : oth L x (k + 1) = if gi L k = x then oth L x k else oth L x k ++ [gi L k] := by
  unfold oth
  rw [take_one hk, List.filter_append]
  by_cases h : gi L k = x <;> simp [h]
theorem oth_le (L : List Int) (x : Int) (k : Nat) : (oth L x k).length ≤ k := Nat.le_trans (List.length_filter_le _ _) (by rw [List.length_take]; omega)
theorem oth_end {L : List Int} {x : Int} (h : L.Nodup) : oth L x L.length = L.erase x := by
  unfold oth
  rw [List.take_length, h.erase_eq_filter]
  congr 1
  funext y
  by_cases h : y = x <;> simp [h]
theorem gk_end {r : Int} {L : List Int} {x : Int} (h : Good r L) : gk r L x L.length = gone r L x := by
  unfold gk gone
  rw [oth_end h.once]
  have hf := h.few
  have h1 := h.room.1
  by_cases hx : x ∈ L
  · have := List.length_erase_of_mem hx
    have hp := List.length_pos_of_mem hx
    rw [if_pos hx, if_neg (by omega)]
  · rw [if_neg hx, List.erase_of_not_mem hx]
    by_cases hl : (L.length : Int) = r
    · rw [if_pos hl, if_pos hl]; congr 1; omega
    · rw [if_neg hl, if_neg hl]

/-- The list so far. -/
def mk (r : Int) (L : List Int) (x : Int) (k : Nat) : List Int := x :: (oth L x k).take (r.toNat - 1)
theorem step_A {r : Int} {L : List Int} {x : Int} {k : Nat} (hk : k < L.length) (h : gi L k = x) : mk r L x (k + 1) = mk r L x k ∧ gk r L x (k + 1) = gk r L x k := by
  unfold mk gk; rw [oth_step hk, if_pos h]; exact ⟨rfl, rfl⟩
theorem step_B {r : Int} {L : List Int} {x : Int} {k : Nat} (hr : 1 ≤ r) (hk : k < L.length) (h : gi L k ≠ x) (hl : (oth L x k).length < r.toNat - 1) : mk r L x (k + 1) = mk r L x k ++ [gi L k] ∧ gk r L x (k + 1) = gk r L x k ∧ ((mk r L x k).length : Int) < r := by
  unfold mk gk
  rw [oth_step hk, if_neg h]
  refine ⟨?_, ?_, ?_⟩
  · rw [List.take_of_length_le (by simp; omega), List.take_of_length_le (by omega)]; rfl
  · rw [if_neg (by simp; omega), if_neg (by omega)]
  · simp only [List.length_cons, List.length_take]; omega
theorem step_C {r : Int} {L : List Int} {x : Int} {k : Nat} (hr : 1 ≤ r) (hf : (L.length : Int) ≤ r) (hk : k < L.length) (h : gi L k ≠ x) (hl : ¬ (oth L x k).length < r.toNat - 1) : mk r L x (k + 1) = mk r L x k ∧ gk r L x (k + 1) = gi L k ∧ ¬ ((mk r L x k).length : Int) < r := by
  have hle := oth_le L x k
  unfold mk gk
  rw [oth_step hk, if_neg h]
  refine ⟨?_, ?_, ?_⟩
  · rw [List.take_append_of_le_length (by omega)]
  · rw [if_pos (by simp; omega)]; congr 1; omega
  · simp only [List.length_cons, List.length_take]; omega
theorem mk_end {r : Int} {L : List Int} {x : Int} (h : L.Nodup) : mk r L x L.length = touch r L x := by unfold mk touch; rw [oth_end h]
theorem mk_len {r : Int} {L : List Int} {x : Int} {k : Nat} (hr : 1 ≤ r) : ((mk r L x k).length : Int) ≤ r := by unfold mk; simp only [List.length_cons, List.length_take]; omega

/-- What the end of LruTouch reads and writes. -/
abbrev ST (n : Nat) (r : Int) (va vb : Value) (w' : World) : Prop :=
  w'.cell? ⟨n, 1, none⟩ = some va ∧ w'.cell? ⟨n + 1 + 1 + 1, 0, none⟩ = some (.int .i64 r) ∧ w'.cell? ⟨n + 1 + 1 + 1, 1, none⟩ = some vb ∧ w'.cell? ⟨n + 1, 0, none⟩ = some (rd w' (n + 1) 0) ∧ w'.cell? ⟨n + 1, 1, none⟩ = some (rd w' (n + 1) 1) ∧ w'.frozen? ⟨n + 1, 0, none⟩ = false ∧ w'.frozen? ⟨n + 1, 1, none⟩ = false
theorem ST.set1 {n : Nat} {r : Int} {va vb : Value} {w : World} (h : ST n r va vb w) (j : Nat) (u : Value) : ST n r va vb (w.setCell ⟨n + 1, j, none⟩ u) := by
  obtain ⟨x1, x2, x3, x4, x5, x6, x7⟩ := h
  have hk : ∀ p k, p ≠ n + 1 → (w.setCell ⟨n + 1, j, none⟩ u).cell? ⟨p, k, none⟩ = w.cell? ⟨p, k, none⟩ := fun p k hp => World.cell?_of_block (w := w) (a := ⟨p, k, none⟩) (Below.heap_setCell w ⟨n + 1, j, none⟩ u p hp)
  obtain ⟨_, y4⟩ := cell?_setCell_some (p := ⟨n + 1, j, none⟩) (x := u) x4
  obtain ⟨_, y5⟩ := cell?_setCell_some (p := ⟨n + 1, j, none⟩) (x := u) x5
  exact ⟨(hk _ _ (by omega)).trans x1, (hk _ _ (by omega)).trans x2, (hk _ _ (by omega)).trans x3, rd_of y4, rd_of y5, by simpa [go_sem] using x6, by simpa [go_sem] using x7⟩

set_option maxHeartbeats 8000000 in
theorem touchRef_any (r : Int) (A : Option Addr) (c : Nat) (L : List Int) (x : Int) (w : World) (hI : Ints w A c L) (hG : Good r L) :
    Calls Try.prog 14 #[cv r A c L, .int .i64 x] w fun e w' => ∃ A' c', e = .returned (.tuple #[cv r A' c' (touch r L x), .bool (decide (x ∈ L)), .int .i64 (gone r L x)]) ∧ Ints w' A' c' (touch r L x) ∧ FA w A' ∧ Below w.heap.size w w' := by
  have HS := Lib.hid (CS.new (n := w.heap.size) (r := r) (A := A) (c := c) (L := L) w rfl)
  have HB0 : Hid (Below w.heap.size w (w.alloc (co r A c L))) := Lib.hid ((Below.refl _ w).alloc (Nat.le_refl _) (co r A c L))
  have HI := Lib.hid hI
  have HG := Lib.hid hG
  have hr1 := hG.room.1
  have hr40 := hG.room.2
  have hlr := hG.few
  clear hI hG
  obtain ⟨-, -, -⟩ := HS.out
  have hs2 : ((w.alloc (co r A c L)).alloc zo).heap.size = w.heap.size + 1 + 1 := by simp
  have HO0 : Hid (OwnI ((((w.alloc (co r A c L)).alloc zo).alloc (.cells #[.int .i64 x] 3)).alloc (.cells #[.int .i64 r, .slice (some ⟨w.heap.size + 1 + 1, 0, none⟩) 1 1] 24)) (w.heap.size + 1 + 1) (.slice (some ⟨w.heap.size + 1 + 1, 0, none⟩) 1 1) [x]) := Lib.hid (by
    refine own_alloc ?_ _
    refine own_of_cells (cur := #[encI x]) (L := [x]) (cap := 1) ?_ rfl (Nat.le_refl _) (Nat.le_refl _) (by unfold maxLen; decide) (fun j hj => ?_)
    · rw [← hs2]; exact own_one _ x
    · simp only [List.length_singleton] at hj
      obtain rfl : j = 0 := by omega
      rw [cell_of_row _ _ 0 _ _ (0, 0) (by rw [← hs2]; exact own_one _ x)]
      rfl)
  have HV0 : Hid (Vb ((((w.alloc (co r A c L)).alloc zo).alloc (.cells #[.int .i64 x] 3)).alloc (.cells #[.int .i64 r, .slice (some ⟨w.heap.size + 1 + 1, 0, none⟩) 1 1] 24)) (w.heap.size + 1 + 1 + 1) r (.slice (some ⟨w.heap.size + 1 + 1, 0, none⟩) 1 1)) := Lib.hid (by
    have h := Vb.new (((w.alloc (co r A c L)).alloc zo).alloc (.cells #[.int .i64 x] 3)) r (.slice (some ⟨w.heap.size + 1 + 1, 0, none⟩) 1 1)
    rwa [show (((w.alloc (co r A c L)).alloc zo).alloc (.cells #[.int .i64 x] 3)).heap.size = w.heap.size + 1 + 1 + 1 by simp] at h)
  have HB1 : Hid (Below (w.heap.size + 1 + 1) ((w.alloc (co r A c L)).alloc zo) ((((w.alloc (co r A c L)).alloc zo).alloc (.cells #[.int .i64 x] 3)).alloc (.cells #[.int .i64 r, .slice (some ⟨w.heap.size + 1 + 1, 0, none⟩) 1 1] 24))) := Lib.hid (bel_al (bel_al (Below.refl _ _) (by rw [hs2]; exact Nat.le_refl _) _) (by simp) _)
  clear hs2
  obtain ⟨x0, x1, -⟩ := HS.out
  go_enter Try.func14, Try.ntmps14
  go_wp2
  clear x0 x1
  generalize ((((w.alloc (co r A c L)).alloc zo).alloc (.cells #[.int .i64 x] 3)).alloc (.cells #[.int .i64 r, .slice (some ⟨w.heap.size + 1 + 1, 0, none⟩) 1 1] 24)) = w2 at *
  generalize ((w.alloc (co r A c L)).alloc zo) = w1 at *
  generalize (w.alloc (co r A c L)) = w0 at *
  generalize hn : w.heap.size = n at *
  have HN := Lib.hid hn
  clear hn
  go_loopw [8, 9] (fun g i wr => ∃ (k : Nat) (v : Value), k ≤ L.length ∧ i = .int .i64 (k : Int) ∧ g = .int .i64 (gk r L x k) ∧ Vb wr (n + 1 + 1 + 1) r v ∧ OwnI wr (n + 1 + 1) v (mk r L x k) ∧ Below (n + 1 + 1) w1 wr) (fun _ i _ => L.length - (intOf i).toNat)
  case atStart => exact ⟨0, _, by omega, rfl, by unfold gk oth; rw [if_neg (by simp; omega)], HV0.out, by unfold mk oth; simpa using HO0.out, HB1.out⟩
  case round =>
    obtain ⟨k, v, hk, rfl, rfl, hV, hO, hb⟩ := hrel
    have HV := Lib.hid hV
    have HO := Lib.hid hO
    have HBr := Lib.hid hb
    have HSr := Lib.hid (CS.next HS.out (Nat.lt_succ_self (n + 1)) hb)
    have HIr : Hid (Ints wr A c L) := Lib.hid (HI.out.below (by rw [HN.out]; exact HB0.out.trans ((CS.below HSr.out).mono (by omega))))
    have HZr : Hid (n + 1 + 1 ≤ wr.heap.size) := Lib.hid (by have := hV.lt; omega)
    clear hV hO hb
    have HMl : Hid ((mk r L x k).length ≤ 40) := Lib.hid (by have := mk_len (L := L) (x := x) (k := k) hr1; omega)
    obtain ⟨x0, x1, -⟩ := HSr.out
    by_cases hlt : k < L.length
    · have hin : (k : Int) < (L.length : Int) := by omega
      have hiB : (0 : Int) ≤ (k : Int) := by omega
      obtain ⟨bb, o, rfl, ht⟩ := HIr.out.2.2.2 (by omega)
      have e1 := ht.2 k hlt
      have HBt := Lib.hid ht.1
      clear ht
      by_cases q1 : gi L k = x
      · have HE := Lib.hid (step_A (r := r) hlt q1)
        have d1 : (gi L k == x) = true := by simpa using q1
        clear q1
        generalize gi L k = y at *
        go_wp2
        go_roundw
        case rel => exact ⟨k + 1, v, by omega, by go_num, by rw [HE.out.2], HV.out, by rw [HE.out.1]; exact HO.out, HBr.out⟩
        case measure => simp [intOf]; omega
      · have d1 : (gi L k == x) = false := by simpa using q1
        obtain ⟨v1, v2, v3, v4⟩ := HV.out.cells
        by_cases q2 : (oth L x k).length < r.toNat - 1
        · have HE := Lib.hid (step_B hr1 hlt q1 q2)
          have d2 : decide (((mk r L x k).length : Int) < r) = true := by simpa using HE.out.2.2
          have HLm : Hid ((mk r L x k).length + 1 ≤ 17592186044416) := Lib.hid (by have := HMl.out; omega)
          clear q1 q2
          generalize gi L k = y at *
          generalize mk r L x k = M at *
          obtain ⟨Av, cv', rfl, hIv, -⟩ := ints_of_own2 HO.out
          clear hIv
          have HOa : Hid (OwnI (wr.alloc (.cells #[.int .i64 y] 3)).drew (n + 1 + 1) (.slice Av M.length cv') M) := Lib.hid (own_bel HO.out (bel_al (Below.refl _ _) (Nat.le_refl _) _).drew)
          have HTa : Hid (Ints (wr.alloc (.cells #[.int .i64 y] 3)).drew (some ⟨wr.heap.size, 0, none⟩) 1 [y]) := Lib.hid (ints_lit wr [y] (by unfold maxLen; simp))
          have HVa : Hid (Vb (wr.alloc (.cells #[.int .i64 y] 3)).drew (n + 1 + 1 + 1) r (.slice Av M.length cv')) := Lib.hid (HV.out.below (bel_al (Below.refl _ _) (Nat.le_refl _) _).drew)
          have HBa : Hid (Below (n + 1 + 1) w1 (wr.alloc (.cells #[.int .i64 y] 3)).drew) := Lib.hid (bel_al HBr.out HZr.out _).drew
          have HZa : Hid (n + 1 + 1 ≤ (wr.alloc (.cells #[.int .i64 y] 3)).drew.heap.size) := Lib.hid (Nat.le_trans HZr.out (by show wr.heap.size ≤ (wr.alloc _).heap.size; simp))
          generalize hlm : M.length = lm at *
          have HLM := Lib.hid hlm
          clear hlm
          obtain ⟨a1, a2, a3, a4⟩ := HVa.out.cells
          obtain ⟨m6, hm6⟩ : ∃ m6, (M ++ [y]).length = m6 := ⟨_, rfl⟩
          have HM6 := Lib.hid hm6
          clear hm6
          go_wp2
          go_region_law ((refine step_append_ints (by rfl) _ _ (by rfl) (n + 1 + 1) _ M (by rfl) HOa.out (some ⟨wr.heap.size, 0, none⟩) 1 1 [y] rfl (by rfl) HTa.out (by rw [HLM.out]; exact HLm.out) HZa.out ?_; intro v5 w5 hown5 hg5; have hV5 := HVa.out.grown HOa.out hg5; obtain ⟨z1, z2, z3, z4⟩ := hV5.cells; obtain ⟨A5, c5, rfl, hI5⟩ := ints_of_own hown5; rw [HM6.out] at hown5 ⊢))
          all_goals
            have HV6 := Lib.hid (hV5.set (.slice A5 m6 c5))
            have HO6 := Lib.hid (own_set hown5 (hV5.own hown5) 1 (.slice A5 m6 c5))
            have HB6 := Lib.hid (((HBa.out.grown hg5 HZa.out (fun q hq => (HOa.out.lt q hq).1))).setCell (p := ⟨n + 1 + 1 + 1, 1, none⟩) (by show n + 1 + 1 ≤ n + 1 + 1 + 1; omega) (.slice A5 m6 c5))
            clear hI5 hV5 hown5 hg5 z1 z2 z3 z4 x0 x1 v1 v2 v3 v4 e1 a1 a2 a3 a4
            generalize w5.setCell ⟨n + 1 + 1 + 1, 1, none⟩ (.slice A5 m6 c5) = w6 at *
            go_wp2
            go_roundw
          all_goals first
            | exact ⟨k + 1, .slice A5 m6 c5, by omega, by go_num, by rw [HE.out.2.1], HV6.out, by rw [HE.out.1]; exact HO6.out, HB6.out⟩
            | (simp [intOf]; omega)
        · have HE := Lib.hid (step_C hr1 hlr hlt q1 q2)
          have d2 : decide (((mk r L x k).length : Int) < r) = false := by simpa using HE.out.2.2
          clear q1 q2
          generalize gi L k = y at *
          generalize mk r L x k = M at *
          obtain ⟨Av, cv', rfl, hIv, -⟩ := ints_of_own2 HO.out
          clear hIv
          generalize hlm : M.length = lm at *
          have HLM := Lib.hid hlm
          clear hlm
          go_wp2
          go_roundw
          case rel => exact ⟨k + 1, .slice Av lm cv', by omega, by go_num, by rw [HE.out.2.1], HV.out, by rw [HE.out.1]; exact HO.out, HBr.out⟩
          case measure => simp [intOf]; omega
    · obtain rfl : k = L.length := by omega
      have HEm : Hid (mk r L x L.length = touch r L x ∧ gk r L x L.length = gone r L x) := Lib.hid ⟨mk_end HG.out.once, gk_end HG.out⟩
      rw [HEm.out.1] at HO
      rw [HEm.out.2]
      clear hlt
      generalize hT : touch r L x = T at *
      have HTe := Lib.hid hT
      clear hT
      obtain ⟨Av, cv', rfl, hIv, hAv⟩ := ints_of_own2 HO.out
      have HIv := Lib.hid hIv
      have HAv := Lib.hid hAv
      clear hIv hAv
      obtain ⟨v1, v2, v3, v4⟩ := HV.out.cells
      obtain ⟨bx, hbx⟩ : ∃ bx, decide (x ∈ L) = bx := ⟨_, rfl⟩
      have HC := Lib.hid (hasInt_b A c L x bx wr.drew HIr.out hbx)
      have HBx := Lib.hid hbx
      clear hbx
      have HK : Hid (ST n r (.slice A L.length c) (.slice Av T.length cv') wr.drew) := Lib.hid ⟨x1, v1, v2, HSr.out.2.2.1, HSr.out.2.2.2.1, HSr.out.2.2.2.2.1, HSr.out.2.2.2.2.2.1⟩
      have HSd : Hid (CS n r A c L w0 wr.drew) := Lib.hid (CS.next HSr.out (Nat.lt_succ_self (n + 1)) (Below.refl _ _).drew)
      have HId : Hid (Ints wr.drew Av cv' T) := Lib.hid HIv.out.drew
      generalize hgg : gone r L x = gg at *
      have HGg := Lib.hid hgg
      clear hgg
      have HKw : Hid (∀ w' : World, w' = wr.drew → ST n r (.slice A L.length c) (.slice Av T.length cv') w') := Lib.hid (fun w' e => by rw [e]; exact HK.out)
      generalize hlt : T.length = lt at *
      have HLt := Lib.hid hlt
      clear hlt
      go_wp2
      clear x0 x1 v1 v2 v3 v4
      go_region_held3 (fun w' => w'.cell? ⟨n, 1, none⟩ = some (.slice A L.length c) ∧ w'.cell? ⟨n + 1 + 1 + 1, 0, none⟩ = some (.int .i64 r) ∧ w'.cell? ⟨n + 1 + 1 + 1, 1, none⟩ = some (.slice Av lt cv') ∧ w'.cell? ⟨n + 1, 0, none⟩ = some (rd w' (n + 1) 0) ∧ w'.cell? ⟨n + 1, 1, none⟩ = some (rd w' (n + 1) 1) ∧ w'.frozen? ⟨n + 1, 0, none⟩ = false ∧ w'.frozen? ⟨n + 1, 1, none⟩ = false)
        (first | exact ST.set1 (ST.set1 (HKw.out w7 hw7.out) 0 _) 1 _ | exact HKw.out w7 hw7.out | exact HK.out)
        (first | (go_at_call 43; refine HC.out.mono ?_; rintro e w7 ⟨rfl, hw7⟩; replace hw7 := Lib.hid hw7))
      have HS7 : Hid (CS n r A c L w0 w7) := Lib.hid (by rw [hw7.out]; exact HSd.out)
      have HI7 : Hid (Ints w7 Av cv' T) := Lib.hid (by rw [hw7.out]; exact HId.out)
      rename_i hHH
      clear hHH hw7
      obtain ⟨-, -, r0, r1, f0, f1, -, -⟩ := HS7.out
      go_wp2
      refine bodyPost_ret (v := .tuple #[.agg #[.int .i64 r, .slice Av lt cv'], .bool bx, .int .i64 gg]) (by simp [results, Try.results14, go_sem, r0, r1]) rfl ?_
      refine ⟨Av, cv', ?_, ?_, fun a ha => by have := HAv.out a ha; rw [HN.out]; omega, by rw [HN.out]; exact HB0.out.trans (below_set2 (CS.below HS7.out) _ _ |>.mono (by omega))⟩
      · show Ending.returned (.tuple #[.agg #[.int .i64 r, .slice Av lt cv'], .bool bx, .int .i64 gg]) = .returned (.tuple #[.agg #[.int .i64 r, .slice Av (touch r L x).length cv'], .bool (decide (x ∈ L)), .int .i64 (gone r L x)])
        rw [HTe.out, HLt.out, HBx.out, HGg.out]
      · rw [HTe.out]
        exact ints_set2 (m := n + 1) HI7.out (fun a ha => by have := HAv.out a ha; omega) _ _

end Go.Proofs.Yticfkhmmmpnmdaa.Lru
