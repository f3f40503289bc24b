/-
  Package greedy: evict.
-/
import Derived.Test.YtmobohamlimhdaaGrUse
import Derived.Test.YtmobohamlimhdaaTwoInts
namespace Go.Proofs.Ytmobohamlimhdaa.Grd
open Go.RowKit
open Lru (isK)
set_option linter.unusedVariables false
set_option maxRecDepth 100000

section
variable {w w' : World} {base base2 p : Nat} {r fl : Int} {v u : Value} {F : List It} {L : List Int} {b : It}
/-- Rows of items and rows of ints never share a block. -/
theorem ne_rows (h : OwnT w base v F) (k : OwnI w base2 u L) : ∀ g, v.ownBlock = some g → u.ownBlock ≠ some g := by
  intro g hg e
  rcases h.2 with ⟨rfl, -⟩ | ⟨g1, cap, cur, rfl, -, h1, -⟩
  · cases hg
  · rcases k.2 with ⟨rfl, -⟩ | ⟨g2, cap2, cur2, rfl, -, h2, -⟩
    · cases e
    · cases hg; cases e
      rw [h1] at h2
      simp at h2
theorem OwnT.grownI (h : OwnT w base v F) (k : OwnI w base2 u L) (hg : w.grownBy w' u.ownBlock) : OwnT w' base v F :=
  World.ownsRow.kept (row := u.ownBlock) h hg (by
    cases hv : v.ownBlock with
    | none => exact .inl rfl
    | some g => exact .inr (fun e => ne_rows h k g hv e.symm))
theorem ownI_grownT (k : OwnI w base2 u L) (h : OwnT w base v F) (hg : w.grownBy w' v.ownBlock) : OwnI w' base2 u L :=
  World.ownsRow.kept (row := v.ownBlock) k hg (by
    cases hv : u.ownBlock with
    | none => exact .inl rfl
    | some g => exact .inr (fun e => ne_rows h k g e.symm hv))
theorem Kb.ownI (k : Kb w p r fl v) (ho : OwnI w base u L) : u.ownBlock ≠ some p := by
  intro e
  rcases ho.2 with ⟨rfl, -⟩ | ⟨g, cap, cur, rfl, -, hg, -⟩
  · cases e
  · cases e
    have k : w.heap[g]? = some (.cells #[.int .i64 r, .int .i64 fl, v] 24 (0, 0)) := k
    rw [hg] at k
    simp at k
theorem Kb.grownI (k : Kb w p r fl v) (ho : OwnI w base u L) (hg : w.grownBy w' u.ownBlock) : Kb w' p r fl v := (hg.block p k.lt (fun e => k.ownI ho e.symm)).trans k
theorem Ib.ownI (k : Ib w p b) (ho : OwnI w base u L) : u.ownBlock ≠ some p := by
  intro e
  rcases ho.2 with ⟨rfl, -⟩ | ⟨g, cap, cur, rfl, -, hg, -⟩
  · cases e
  · cases e
    have k : w.heap[g]? = some (.cells #[.int .i64 b.key, .int .i64 b.size, .int .i64 b.cost, .int .i64 b.worth] 26 (0, 0)) := k
    rw [hg] at k
    simp at k
theorem Ib.grown (k : Ib w p b) (hg : w.grownBy w' v.ownBlock) (hne : v.ownBlock ≠ some p) : Ib w' p b := (hg.block p k.lt (fun e => hne e.symm)).trans k
theorem ownI_set3 (h : OwnI w base u L) (hp : u.ownBlock ≠ some p) (x y z : Value) : OwnI (((w.setCell ⟨p, 0, none⟩ x).setCell ⟨p, 1, none⟩ y).setCell ⟨p, 2, none⟩ z) base u L := Two.own_set (Two.own_set (Two.own_set h hp 0 x) hp 1 y) hp 2 z
theorem ownI_set (h : OwnI w base u L) (hp : u.ownBlock ≠ some p) (j : Nat) (x : Value) : OwnI (w.setCell ⟨p, j, none⟩ x) base u L := Two.own_set h hp j x
end

theorem grown_setCells {w : World} {g : Nat} (vs : List Value) : ∀ {w' : World} (o : Nat), w.grownBy w' (some g) → w.grownBy (w'.setCells g o vs) (some g) := by
  induction vs with
  | nil => intro w' o h; exact h
  | cons v vs ih =>
    intro w' o h
    refine ih (o + 1) ⟨h.os, h.tape, h.output, ?_, fun k hk hne => ?_⟩
    · have := h.size; simpa [World.setCell] using this
    · exact (Below.heap_setCell w' ⟨g, o, none⟩ v k (fun e => hne (by rw [e]))).trans (h.block k hk hne)
/-- slices.Delete changes nothing but the row's block. -/
theorem delete_own (base : Nat) (v : Value) (L : List It) (k : Nat) (w : World) (hown : OwnT w base v L) (hk : k < L.length) :
    Calls Try.prog 33 #[v, .int .i64 (k : Int), .int .i64 ((k : Int) + 1)] w fun e w' =>
      ∃ v', e = .returned v' ∧ OwnT w' base v' (rem L k) ∧ w.grownBy w' v.ownBlock := by
  rcases hown.2 with ⟨rfl, h0⟩ | ⟨g, cap, cur, rfl, hb, hg, hn, hm, hs, ht⟩
  · omega
  · refine (delete_row g cap k L.length L cur w rfl hk hn (by unfold maxLen at hm; omega) hg hs ht).mono ?_
    rintro e w' ⟨rfl, hw⟩
    obtain ⟨h1, h2⟩ := tss_delete rfl hk hn hm hg hs ht hw
    have hlen : (L.take k ++ L.drop (k + 1)).length = L.length - 1 := by simp; omega
    obtain ⟨c1, k1, k2⟩ := Lru.blk_setCells (encTs (L.drop (k + 1))) (k * 4) w.drew cur hg
    obtain ⟨c2, k3, k4⟩ := Lru.blk_setCells (encT ⟨0, 0, 0, 0⟩) ((L.length - 1) * 4) _ c1 k1
    rw [← hw] at k3
    have h9 := own_of_tss k3 (by omega) hb h1
    rw [hlen] at h9
    refine ⟨_, rfl, h9, ?_⟩
    show w.grownBy w' (some g)
    rw [hw]
    exact grown_setCells _ _ (grown_setCells _ _ ⟨rfl, rfl, rfl, Nat.le_refl _, fun _ _ _ => rfl⟩)

/-- What holds at the head of evict's loop. -/
structure EvI (w wr : World) (base p : Nat) (r z : Int) (n0 : Nat) (E : Ev) (fl : Int) (L : List It) (n : Nat) (A : Option Addr) (c : Nat) (vg : Value) (G : List Int) : Prop where
  len : L.length = n
  box : Kb wr p r fl (.slice A n c)
  out : Kb wr (p + 1) 0 0 (.slice none 0 0)
  things : OwnT wr base (.slice A n c) L
  ints : OwnI wr base vg G
  bel : Below base w wr
  good : Good r fl L
  floor : E.floor = (evs r z n fl L).floor
  left : E.left = (evs r z n fl L).left
  gone : keys E.gone = G ++ keys (evs r z n fl L).gone
  sum : G.length + n = n0

set_option maxHeartbeats 8000000 in
theorem evict_any (base : Nat) (v : Value) (L : List It) (r fl z : Int) (w : World) (hown : OwnT w base v L) (hB : base ≤ w.heap.size) (hg : Good r fl L) (hz : 1 ≤ z ∧ z ≤ r) :
    Calls Try.prog 25 #[kv r fl v, .int .i64 z] w fun e w' => ∃ v' vg, e = .returned (.tuple #[kv r (evs r z L.length fl L).floor v', vg]) ∧ OwnT w' base v' (evs r z L.length fl L).left ∧ OwnI w' base vg (keys (evs r z L.length fl L).gone) ∧ Below base w w' := by
  obtain ⟨A0, c0, rfl, hT, -⟩ := tss_of_own hown
  obtain ⟨n0, hn0⟩ : ∃ n0, n0 = L.length := ⟨_, rfl⟩
  obtain ⟨E, hE⟩ : ∃ E, E = evs r z L.length fl L := ⟨_, rfl⟩
  rw [← hE]
  obtain ⟨p, hp⟩ : ∃ p, p = w.heap.size := ⟨_, rfl⟩
  have hk1 : Kb (w.alloc (ko r fl (.slice A0 L.length c0))) p r fl (.slice A0 L.length c0) := by rw [hp]; exact Kb.new w _ _ _
  have hk2 : Kb ((w.alloc (ko r fl (.slice A0 L.length c0))).alloc (ko 0 0 (.slice none 0 0))) (p + 1) 0 0 (.slice none 0 0) := by
    have := Kb.new (w.alloc (ko r fl (.slice A0 L.length c0))) 0 0 (.slice none 0 0)
    rwa [show (w.alloc (ko r fl (.slice A0 L.length c0))).heap.size = p + 1 by simp [hp]] at this
  have hI0 : EvI w ((w.alloc (ko r fl (.slice A0 L.length c0))).alloc (ko 0 0 (.slice none 0 0))) base p r z n0 E fl L n0 A0 c0 (.slice none 0 0) [] := by
    refine ⟨hn0.symm, by rw [hn0]; exact hk1.alloc _, hk2, by rw [hn0]; exact (hown.alloc _).alloc _, Two.own_none _ _, bel_al (bel_al (Below.refl _ _) hB _) (by simp; omega) _, hg, by rw [hn0, hE], by rw [hn0, hE], by rw [hn0, hE]; rfl, by simp⟩
  have HI0 := Lib.hid hI0
  have HTo := Lib.hid (total_any A0 c0 L ((w.alloc (ko r fl (.slice A0 L.length c0))).alloc (ko 0 0 (.slice none 0 0))) ((hT.alloc _).alloc _) hg.few (fun t ht => (hg.items t ht).1))
  rw [← hn0] at HI0 HTo ⊢
  have HBp : Hid (base ≤ p) := Lib.hid (by rw [hp]; exact hB)
  have HZ := Lib.hid hz
  have HN0 : Hid (n0 ≤ 40) := Lib.hid (by rw [hn0]; exact hg.few)
  obtain ⟨x0, x1, x2⟩ := HI0.out.box.cells
  clear hk1 hk2 hI0 hown hT hB hg hz hE hn0
  go_enter Try.func25, Try.ntmps25
  go_wp2_with fail
  rw [← hp]
  clear hp
  generalize ((w.alloc (ko r fl (.slice A0 n0 c0))).alloc (ko 0 0 (.slice none 0 0))) = w1 at *
  refine HTo.out.mono ?_
  rintro e w2 ⟨rfl, hb2⟩
  have HI2 : Hid (EvI w w2 base p r z n0 E fl L n0 A0 c0 (.slice none 0 0) []) := Lib.hid ⟨HI0.out.len, HI0.out.box.below hb2, HI0.out.out.below hb2, HI0.out.things.below hb2, Two.own_none _ _, HI0.out.bel.trans (hb2.mono (Nat.le_trans HBp.out (Nat.le_of_lt HI0.out.box.lt))), HI0.out.good, HI0.out.floor, HI0.out.left, HI0.out.gone, HI0.out.sum⟩
  clear hb2 HI0 x0 x1 x2 HTo
  go_wp2_with fail
  go_loopw [6, 7] (fun s6 s7 wr => ∃ fl' L' n A c G, s7 = .int .i64 (sizes L') ∧ Hid (EvI w wr base p r z n0 E fl' L' n A c s6 G)) (fun _ s7 _ => (intOf s7).toNat)
  case atStart => exact ⟨fl, L, n0, A0, c0, [], rfl, HI2⟩
  case round =>
    clear HI2
    obtain ⟨fl', L', n, A, c, G, rfl, HI⟩ := hrel
    obtain ⟨x0, x1, x2⟩ := HI.out.box.cells
    have hsz := sizes_bound (F := L') (fun t ht => (HI.out.good.items t ht).1)
    have hfit := HI.out.good.fits
    have hrm := HI.out.good.room.2
    have hz2 := HZ.out.2
    have hz1 := HZ.out.1
    have g1 : IntKind.i64.wrap (sizes L' + z) = sizes L' + z := by rw [IntKind.wrap_i64]; omega
    by_cases hm : must r z L'
    · have h0 : 0 < L'.length := must_pos hz2 hm
      have hk := lstN_lt h0
      have hgr := good_rem HI.out.good h0
      obtain ⟨m, hnm⟩ : ∃ m, n = m + 1 := ⟨n - 1, by have := HI.out.len; omega⟩
      have hev := evs_go (r := r) (z := z) (fl := fl') (f := m) hm
      rw [← hnm] at hev
      have HVi := Lib.hid (fun (W : World) (hW : Tss W A c L') => victim_any A c L' W hW h0 (by have := HI.out.good.few; omega))
      rw [HI.out.len] at HVi
      have HDl := Lib.hid (fun (W : World) (hW : OwnT W base (.slice A n c) L') => delete_own base (.slice A n c) L' (lstN L') W hW hk)
      have hsr := sizes_rem hk
      have hlr := rem_len hk
      have hok := (HI.out.good.items _ (gt_mem hk)).1
      have hT : Tss wr A c L' := by
        obtain ⟨A9, c9, e, h9, -⟩ := tss_of_own HI.out.things
        cases e; exact h9
      have HKL := Lib.hid hk
      have g2 : IntKind.i64.wrap (sizes L' - (gt L' (lstN L')).size) = sizes (rem L' (lstN L')) := by
        rw [hsr, IntKind.wrap_i64]
        have := hok.2.1.1; have := hok.2.1.2
        omega
      have HLT : Hid (sizes (rem L' (lstN L')) < sizes L' ∧ 0 ≤ sizes L') := Lib.hid (by have := hok.2.1.1; omega)
      have HEv := Lib.hid hev
      have HGR := Lib.hid hgr.1
      have HLR : Hid ((rem L' (lstN L')).length = m) := Lib.hid (by have := HI.out.len; omega)
      generalize rem L' (lstN L') = M at *
      have g3 : IntKind.i64.wrap ((lstN L' : Int) + 1) = (lstN L' : Int) + 1 := by rw [IntKind.wrap_i64]; have := HI.out.good.few; omega
      have i1 : (lstN L' : Int) < (n : Int) := by have := HI.out.len; omega
      have i2 : (0 : Int) ≤ (lstN L' : Int) := by omega
      generalize lstN L' = k at *
      have HNM := Lib.hid hnm
      clear hsr hlr hok hev hgr h0 hk hsz hfit hrm hz2 hz1 hnm
      have HTr := Lib.hid hT
      obtain ⟨b, o, e, -, -, -, -⟩ := hT.us HKL.out
      clear hT
      have HF : Hid (o = 0) := Lib.hid (by
        have h5 := HI.out.things
        rw [e] at h5
        rcases h5.2 with ⟨h6, -⟩ | ⟨g, cap, cur, h6, -⟩
        · cases h6
        · cases h6; rfl)
      rw [HF.out] at e
      clear HF
      subst e
      obtain ⟨f, hfk⟩ : ∃ f, f = gt L' k := ⟨_, rfl⟩
      rw [← hfk] at g2 HEv HGR
      have HFK := Lib.hid hfk
      clear hfk
      obtain ⟨ky, sz, co, wo⟩ := f
      dsimp only at g2 HEv HGR
      by_cases q1 : r < sizes L' + z
      · have d1 : decide (r < sizes L' + z) = true := by simpa using q1
        clear q1 hm
        go_wp2_with fail
        refine (HVi.out _ HTr.out).mono ?_
        rintro e w2 ⟨rfl, hb2⟩
        have HT2 := Lib.hid (HTr.out.below hb2)
        have HBw : Hid (base ≤ wr.heap.size) := Lib.hid (Nat.le_trans HBp.out (Nat.le_of_lt HI.out.box.lt))
        have HB2 : Hid (Below base w w2) := Lib.hid (HI.out.bel.trans (hb2.mono HBw.out))
        have HK2 := Lib.hid (HI.out.box.below hb2)
        have HZ2 := Lib.hid (HI.out.out.below hb2)
        have HO2 := Lib.hid (HI.out.things.below hb2)
        have HG2 := Lib.hid (Two.own_bel HI.out.ints hb2)
        have HS2 : Hid (base ≤ w2.heap.size) := Lib.hid (Nat.le_trans HBw.out hb2.size)
        clear hb2 x0 x1 x2
        obtain ⟨x0, x1, x2⟩ := HK2.out.cells
        obtain ⟨e1, e2, e3, e4, -⟩ := HO2.out.cells HI.out.len.symm HKL.out
        rw [← HFK.out] at e1 e2 e3 e4
        dsimp only at e1 e2 e3 e4
        have HI2 : Hid (Ib (w2.alloc (fo ⟨ky, sz, co, wo⟩)) w2.heap.size ⟨ky, sz, co, wo⟩) := Lib.hid (Ib.new w2 _)
        have HK3 := Lib.hid (HK2.out.alloc (fo ⟨ky, sz, co, wo⟩))
        have HZ3 := Lib.hid (HZ2.out.alloc (fo ⟨ky, sz, co, wo⟩))
        have HO3 := Lib.hid (HO2.out.alloc (fo ⟨ky, sz, co, wo⟩))
        have HG3 := Lib.hid (Two.own_al HG2.out (fo ⟨ky, sz, co, wo⟩))
        have HB3 : Hid (Below base w (w2.alloc (fo ⟨ky, sz, co, wo⟩))) := Lib.hid (bel_al HB2.out HS2.out _)
        have HS3 : Hid (base ≤ (w2.alloc (fo ⟨ky, sz, co, wo⟩)).heap.size) := Lib.hid (Nat.le_trans HS2.out (by simp))
        obtain ⟨t0, t1, t2⟩ := HK3.out.cells
        have HBl : Hid (b ≠ w2.heap.size) := Lib.hid (fun e => by have := (HO2.out.lt b rfl).2; omega)
        go_wp2_with fail
        clear x0 x1 x2 e1 e2 e3 e4 t0 t1 t2
        obtain ⟨q, hq⟩ : ∃ q, q = w2.heap.size := ⟨_, rfl⟩
        rw [← hq] at HI2 HBl ⊢
        clear hq HK2 HZ2 HO2 HG2 HB2 HS2 HT2
        generalize w2.alloc (fo ⟨ky, sz, co, wo⟩) = w3 at *
        refine (HDl.out _ HO3.out).mono ?_
        rintro e w4 ⟨v4, rfl, ho4, hg4⟩
        obtain ⟨A4, c4, rfl, -, -⟩ := tss_of_own ho4
        rw [HLR.out] at ho4 ⊢
        have HO4 := Lib.hid ho4
        have HK4 : Hid (Kb w4 p r fl' (.slice (some ⟨b, 0, none⟩) n c)) := Lib.hid (HK3.out.grown HO3.out hg4)
        have HZ4 : Hid (Kb w4 (p + 1) 0 0 (.slice none 0 0)) := Lib.hid (HZ3.out.grown HO3.out hg4)
        have HI4 : Hid (Ib w4 q ⟨ky, sz, co, wo⟩) := Lib.hid (HI2.out.grown hg4 (fun e => by cases e; exact HBl.out rfl))
        have HG4 := Lib.hid (ownI_grownT HG3.out HO3.out hg4)
        have HB4 : Hid (Below base w w4) := Lib.hid (HB3.out.grown hg4 HS3.out (fun k hk => (HO3.out.lt k hk).1))
        have HS4 : Hid (base ≤ w4.heap.size) := Lib.hid (Nat.le_trans HS3.out hg4.size)
        clear ho4 hg4 HI2 HK3 HZ3 HO3 HG3 HB3 HS3 HBl HDl HVi
        obtain ⟨x0, x1, x2⟩ := HK4.out.cells
        obtain ⟨y0, y1, y2⟩ := HK4.out.free
        obtain ⟨i0, i1, i2, i3⟩ := HI4.out.cells
        have hpq : p ≠ q := fun e => by
          have k1 : w4.heap[p]? = _ := HK4.out
          have k2 : w4.heap[q]? = _ := HI4.out
          rw [e, k2] at k1
          simp at k1
        have HK5 : Hid (Kb ((w4.setCell ⟨p, 2, none⟩ (.slice A4 m c4)).setCell ⟨p, 1, none⟩ (.int .i64 wo)) p r wo (.slice A4 m c4)) := Lib.hid ((HK4.out.setV _).setF _)
        have HZ5 : Hid (Kb ((w4.setCell ⟨p, 2, none⟩ (.slice A4 m c4)).setCell ⟨p, 1, none⟩ (.int .i64 wo)) (p + 1) 0 0 (.slice none 0 0)) := Lib.hid ((HZ4.out.other (a := ⟨p, 2, none⟩) (by simp) _).other (a := ⟨p, 1, none⟩) (by simp) _)
        have HI5 : Hid (Ib ((w4.setCell ⟨p, 2, none⟩ (.slice A4 m c4)).setCell ⟨p, 1, none⟩ (.int .i64 wo)) q ⟨ky, sz, co, wo⟩) := Lib.hid ((HI4.out.other (a := ⟨p, 2, none⟩) (fun e => hpq e.symm) _).other (a := ⟨p, 1, none⟩) (fun e => hpq e.symm) _)
        have HO5 : Hid (OwnT ((w4.setCell ⟨p, 2, none⟩ (.slice A4 m c4)).setCell ⟨p, 1, none⟩ (.int .i64 wo)) base (.slice A4 m c4) M) := Lib.hid ((HO4.out.set (HK4.out.ownT HO4.out) _ _).set (HK4.out.ownT HO4.out) _ _)
        have HG5 : Hid (OwnI ((w4.setCell ⟨p, 2, none⟩ (.slice A4 m c4)).setCell ⟨p, 1, none⟩ (.int .i64 wo)) base u6 G) := Lib.hid (Two.own_set (Two.own_set HG4.out (HK4.out.ownI HG4.out) _ _) (HK4.out.ownI HG4.out) _ _)
        have HB5 : Hid (Below base w ((w4.setCell ⟨p, 2, none⟩ (.slice A4 m c4)).setCell ⟨p, 1, none⟩ (.int .i64 wo))) := Lib.hid (bel_set (bel_set HB4.out (a := ⟨p, 2, none⟩) HBp.out _) (a := ⟨p, 1, none⟩) HBp.out _)
        have HS5 : Hid (base ≤ ((w4.setCell ⟨p, 2, none⟩ (.slice A4 m c4)).setCell ⟨p, 1, none⟩ (.int .i64 wo)).heap.size) := Lib.hid (by simpa [World.setCell] using HS4.out)
        obtain ⟨j0, j1, j2, j3⟩ := HI5.out.cells
        have hsz5 : ((w4.setCell ⟨p, 2, none⟩ (.slice A4 m c4)).setCell ⟨p, 1, none⟩ (.int .i64 wo)).heap.size = w4.heap.size := by simp [World.setCell]
        have HX : Hid (Ints (((w4.setCell ⟨p, 2, none⟩ (.slice A4 m c4)).setCell ⟨p, 1, none⟩ (.int .i64 wo)).alloc (.cells #[.int .i64 ky] 3)) (some ⟨w4.heap.size, 0, none⟩) 1 [ky]) := Lib.hid (by
          have h := Two.own_ints (Two.own_one1 ((w4.setCell ⟨p, 2, none⟩ (.slice A4 m c4)).setCell ⟨p, 1, none⟩ (.int .i64 wo)) ky base HS5.out)
          rwa [hsz5] at h)
        clear hsz5
        have HG6 := Lib.hid (Two.own_al HG5.out (.cells #[.int .i64 ky] 3))
        have HS6 : Hid (base ≤ (((w4.setCell ⟨p, 2, none⟩ (.slice A4 m c4)).setCell ⟨p, 1, none⟩ (.int .i64 wo)).alloc (.cells #[.int .i64 ky] 3)).heap.size) := Lib.hid (Nat.le_trans HS5.out (by simp))
        have HLk : Hid (G.length + [ky].length ≤ 1099511627776) := Lib.hid (by have := HI.out.sum; have := HN0.out; simp; omega)
        have HK6 := Lib.hid (HK5.out.alloc (.cells #[.int .i64 ky] 3))
        have HZ6 := Lib.hid (HZ5.out.alloc (.cells #[.int .i64 ky] 3))
        have HO6 := Lib.hid (HO5.out.alloc (.cells #[.int .i64 ky] 3))
        have HB6 : Hid (Below base w (((w4.setCell ⟨p, 2, none⟩ (.slice A4 m c4)).setCell ⟨p, 1, none⟩ (.int .i64 wo)).alloc (.cells #[.int .i64 ky] 3))) := Lib.hid (bel_al HB5.out HS5.out _)
        go_wp2_with (at_builtin; refine Two.wpList_append_m (by rfl) _ _ (by rfl) base _ G (by rfl) HG6.out (some ⟨w4.heap.size, 0, none⟩) 1 _ [ky] rfl (by rfl) HX.out HLk.out HS6.out ?_; intro v7 w7 hown7 hg7)
        have HI7 : Hid (EvI w w7 base p r z n0 E wo M m A4 c4 v7 (G ++ [ky])) := Lib.hid (by
          have f1 := HI.out.floor
          have f2 := HI.out.left
          have f3 := HI.out.gone
          rw [HEv.out] at f1 f2 f3
          refine ⟨HLR.out, HK6.out.grownI HG6.out hg7, HZ6.out.grownI HG6.out hg7, HO6.out.grownI HG6.out hg7, hown7, HB6.out.grown hg7 HS6.out (fun k hk => (HG6.out.lt k hk).1), HGR.out, f1, f2, ?_, ?_⟩
          · rw [f3]; simp [keys]
          · have := HI.out.sum; have := HNM.out; simp; omega)
        clear hown7 hg7 HX HG6 HS6 HLk HK6 HZ6 HO6 HB6 HI x0 x1 x2 y0 y1 y2 i0 i1 i2 i3 j0 j1 j2 j3 HK4 HZ4 HI4 HO4 HG4 HB4 HS4 HK5 HZ5 HI5 HO5 HG5 HB5 HS5
        go_wp2
        go_roundw
        case rel => exact ⟨wo, M, m, A4, c4, G ++ [ky], rfl, HI7⟩
        case measure => have := HLT.out; have := sizes_bound (F := M) (fun t ht => (HGR.out.items t ht).1); simp [intOf]; omega
      · have d1 : decide (r < sizes L' + z) = false := by simpa using q1
        have d2 : ((n : Int) == 40) = true := by
          rcases hm with h | h
          · exact absurd h q1
          · have := HI.out.len; rw [beq_iff_eq]; omega
        clear q1 hm
        go_wp2_with fail
        refine (HVi.out _ HTr.out).mono ?_
        rintro e w2 ⟨rfl, hb2⟩
        have HT2 := Lib.hid (HTr.out.below hb2)
        have HBw : Hid (base ≤ wr.heap.size) := Lib.hid (Nat.le_trans HBp.out (Nat.le_of_lt HI.out.box.lt))
        have HB2 : Hid (Below base w w2) := Lib.hid (HI.out.bel.trans (hb2.mono HBw.out))
        have HK2 := Lib.hid (HI.out.box.below hb2)
        have HZ2 := Lib.hid (HI.out.out.below hb2)
        have HO2 := Lib.hid (HI.out.things.below hb2)
        have HG2 := Lib.hid (Two.own_bel HI.out.ints hb2)
        have HS2 : Hid (base ≤ w2.heap.size) := Lib.hid (Nat.le_trans HBw.out hb2.size)
        clear hb2 x0 x1 x2
        obtain ⟨x0, x1, x2⟩ := HK2.out.cells
        obtain ⟨e1, e2, e3, e4, -⟩ := HO2.out.cells HI.out.len.symm HKL.out
        rw [← HFK.out] at e1 e2 e3 e4
        dsimp only at e1 e2 e3 e4
        have HI2 : Hid (Ib (w2.alloc (fo ⟨ky, sz, co, wo⟩)) w2.heap.size ⟨ky, sz, co, wo⟩) := Lib.hid (Ib.new w2 _)
        have HK3 := Lib.hid (HK2.out.alloc (fo ⟨ky, sz, co, wo⟩))
        have HZ3 := Lib.hid (HZ2.out.alloc (fo ⟨ky, sz, co, wo⟩))
        have HO3 := Lib.hid (HO2.out.alloc (fo ⟨ky, sz, co, wo⟩))
        have HG3 := Lib.hid (Two.own_al HG2.out (fo ⟨ky, sz, co, wo⟩))
        have HB3 : Hid (Below base w (w2.alloc (fo ⟨ky, sz, co, wo⟩))) := Lib.hid (bel_al HB2.out HS2.out _)
        have HS3 : Hid (base ≤ (w2.alloc (fo ⟨ky, sz, co, wo⟩)).heap.size) := Lib.hid (Nat.le_trans HS2.out (by simp))
        obtain ⟨t0, t1, t2⟩ := HK3.out.cells
        have HBl : Hid (b ≠ w2.heap.size) := Lib.hid (fun e => by have := (HO2.out.lt b rfl).2; omega)
        go_wp2_with fail
        clear x0 x1 x2 e1 e2 e3 e4 t0 t1 t2
        obtain ⟨q, hq⟩ : ∃ q, q = w2.heap.size := ⟨_, rfl⟩
        rw [← hq] at HI2 HBl ⊢
        clear hq HK2 HZ2 HO2 HG2 HB2 HS2 HT2
        generalize w2.alloc (fo ⟨ky, sz, co, wo⟩) = w3 at *
        refine (HDl.out _ HO3.out).mono ?_
        rintro e w4 ⟨v4, rfl, ho4, hg4⟩
        obtain ⟨A4, c4, rfl, -, -⟩ := tss_of_own ho4
        rw [HLR.out] at ho4 ⊢
        have HO4 := Lib.hid ho4
        have HK4 : Hid (Kb w4 p r fl' (.slice (some ⟨b, 0, none⟩) n c)) := Lib.hid (HK3.out.grown HO3.out hg4)
        have HZ4 : Hid (Kb w4 (p + 1) 0 0 (.slice none 0 0)) := Lib.hid (HZ3.out.grown HO3.out hg4)
        have HI4 : Hid (Ib w4 q ⟨ky, sz, co, wo⟩) := Lib.hid (HI2.out.grown hg4 (fun e => by cases e; exact HBl.out rfl))
        have HG4 := Lib.hid (ownI_grownT HG3.out HO3.out hg4)
        have HB4 : Hid (Below base w w4) := Lib.hid (HB3.out.grown hg4 HS3.out (fun k hk => (HO3.out.lt k hk).1))
        have HS4 : Hid (base ≤ w4.heap.size) := Lib.hid (Nat.le_trans HS3.out hg4.size)
        clear ho4 hg4 HI2 HK3 HZ3 HO3 HG3 HB3 HS3 HBl HDl HVi
        obtain ⟨x0, x1, x2⟩ := HK4.out.cells
        obtain ⟨y0, y1, y2⟩ := HK4.out.free
        obtain ⟨i0, i1, i2, i3⟩ := HI4.out.cells
        have hpq : p ≠ q := fun e => by
          have k1 : w4.heap[p]? = _ := HK4.out
          have k2 : w4.heap[q]? = _ := HI4.out
          rw [e, k2] at k1
          simp at k1
        have HK5 : Hid (Kb ((w4.setCell ⟨p, 2, none⟩ (.slice A4 m c4)).setCell ⟨p, 1, none⟩ (.int .i64 wo)) p r wo (.slice A4 m c4)) := Lib.hid ((HK4.out.setV _).setF _)
        have HZ5 : Hid (Kb ((w4.setCell ⟨p, 2, none⟩ (.slice A4 m c4)).setCell ⟨p, 1, none⟩ (.int .i64 wo)) (p + 1) 0 0 (.slice none 0 0)) := Lib.hid ((HZ4.out.other (a := ⟨p, 2, none⟩) (by simp) _).other (a := ⟨p, 1, none⟩) (by simp) _)
        have HI5 : Hid (Ib ((w4.setCell ⟨p, 2, none⟩ (.slice A4 m c4)).setCell ⟨p, 1, none⟩ (.int .i64 wo)) q ⟨ky, sz, co, wo⟩) := Lib.hid ((HI4.out.other (a := ⟨p, 2, none⟩) (fun e => hpq e.symm) _).other (a := ⟨p, 1, none⟩) (fun e => hpq e.symm) _)
        have HO5 : Hid (OwnT ((w4.setCell ⟨p, 2, none⟩ (.slice A4 m c4)).setCell ⟨p, 1, none⟩ (.int .i64 wo)) base (.slice A4 m c4) M) := Lib.hid ((HO4.out.set (HK4.out.ownT HO4.out) _ _).set (HK4.out.ownT HO4.out) _ _)
        have HG5 : Hid (OwnI ((w4.setCell ⟨p, 2, none⟩ (.slice A4 m c4)).setCell ⟨p, 1, none⟩ (.int .i64 wo)) base u6 G) := Lib.hid (Two.own_set (Two.own_set HG4.out (HK4.out.ownI HG4.out) _ _) (HK4.out.ownI HG4.out) _ _)
        have HB5 : Hid (Below base w ((w4.setCell ⟨p, 2, none⟩ (.slice A4 m c4)).setCell ⟨p, 1, none⟩ (.int .i64 wo))) := Lib.hid (bel_set (bel_set HB4.out (a := ⟨p, 2, none⟩) HBp.out _) (a := ⟨p, 1, none⟩) HBp.out _)
        have HS5 : Hid (base ≤ ((w4.setCell ⟨p, 2, none⟩ (.slice A4 m c4)).setCell ⟨p, 1, none⟩ (.int .i64 wo)).heap.size) := Lib.hid (by simpa [World.setCell] using HS4.out)
        obtain ⟨j0, j1, j2, j3⟩ := HI5.out.cells
        have hsz5 : ((w4.setCell ⟨p, 2, none⟩ (.slice A4 m c4)).setCell ⟨p, 1, none⟩ (.int .i64 wo)).heap.size = w4.heap.size := by simp [World.setCell]
        have HX : Hid (Ints (((w4.setCell ⟨p, 2, none⟩ (.slice A4 m c4)).setCell ⟨p, 1, none⟩ (.int .i64 wo)).alloc (.cells #[.int .i64 ky] 3)) (some ⟨w4.heap.size, 0, none⟩) 1 [ky]) := Lib.hid (by
          have h := Two.own_ints (Two.own_one1 ((w4.setCell ⟨p, 2, none⟩ (.slice A4 m c4)).setCell ⟨p, 1, none⟩ (.int .i64 wo)) ky base HS5.out)
          rwa [hsz5] at h)
        clear hsz5
        have HG6 := Lib.hid (Two.own_al HG5.out (.cells #[.int .i64 ky] 3))
        have HS6 : Hid (base ≤ (((w4.setCell ⟨p, 2, none⟩ (.slice A4 m c4)).setCell ⟨p, 1, none⟩ (.int .i64 wo)).alloc (.cells #[.int .i64 ky] 3)).heap.size) := Lib.hid (Nat.le_trans HS5.out (by simp))
        have HLk : Hid (G.length + [ky].length ≤ 1099511627776) := Lib.hid (by have := HI.out.sum; have := HN0.out; simp; omega)
        have HK6 := Lib.hid (HK5.out.alloc (.cells #[.int .i64 ky] 3))
        have HZ6 := Lib.hid (HZ5.out.alloc (.cells #[.int .i64 ky] 3))
        have HO6 := Lib.hid (HO5.out.alloc (.cells #[.int .i64 ky] 3))
        have HB6 : Hid (Below base w (((w4.setCell ⟨p, 2, none⟩ (.slice A4 m c4)).setCell ⟨p, 1, none⟩ (.int .i64 wo)).alloc (.cells #[.int .i64 ky] 3))) := Lib.hid (bel_al HB5.out HS5.out _)
        go_wp2_with (at_builtin; refine Two.wpList_append_m (by rfl) _ _ (by rfl) base _ G (by rfl) HG6.out (some ⟨w4.heap.size, 0, none⟩) 1 _ [ky] rfl (by rfl) HX.out HLk.out HS6.out ?_; intro v7 w7 hown7 hg7)
        have HI7 : Hid (EvI w w7 base p r z n0 E wo M m A4 c4 v7 (G ++ [ky])) := Lib.hid (by
          have f1 := HI.out.floor
          have f2 := HI.out.left
          have f3 := HI.out.gone
          rw [HEv.out] at f1 f2 f3
          refine ⟨HLR.out, HK6.out.grownI HG6.out hg7, HZ6.out.grownI HG6.out hg7, HO6.out.grownI HG6.out hg7, hown7, HB6.out.grown hg7 HS6.out (fun k hk => (HG6.out.lt k hk).1), HGR.out, f1, f2, ?_, ?_⟩
          · rw [f3]; simp [keys]
          · have := HI.out.sum; have := HNM.out; simp; omega)
        clear hown7 hg7 HX HG6 HS6 HLk HK6 HZ6 HO6 HB6 HI x0 x1 x2 y0 y1 y2 i0 i1 i2 i3 j0 j1 j2 j3 HK4 HZ4 HI4 HO4 HG4 HB4 HS4 HK5 HZ5 HI5 HO5 HG5 HB5 HS5
        go_wp2
        go_roundw
        case rel => exact ⟨wo, M, m, A4, c4, G ++ [ky], rfl, HI7⟩
        case measure => have := HLT.out; have := sizes_bound (F := M) (fun t ht => (HGR.out.items t ht).1); simp [intOf]; omega
    · have d1 : decide (r < sizes L' + z) = false := by simp; exact Int.not_lt.1 (fun h => hm (.inl h))
      have d2 : ((n : Int) == 40) = false := by
        have h5 : ¬ L'.length = 40 := fun h => hm (.inr h)
        have := HI.out.len
        rw [beq_eq_false_iff_ne]; omega
      have hev := evs_stop (r := r) (z := z) (fl := fl') (f := n) hm
      have hE1 := HI.out.floor
      have hE2 := HI.out.left
      have hE3 := HI.out.gone
      rw [hev] at hE1 hE2 hE3
      have HE1 : Hid (E.floor = fl') := Lib.hid hE1
      have HE2 : Hid (E.left = L') := Lib.hid hE2
      have HE3 : Hid (keys E.gone = G) := Lib.hid (by rw [hE3]; simp [keys])
      obtain ⟨y0, y1, y2⟩ := HI.out.out.cells
      obtain ⟨z0, z1, z2⟩ := HI.out.out.free
      have HK : Hid (Kb wr (p + 1) 0 0 (.slice none 0 0)) := Lib.hid HI.out.out
      clear hsz hfit hrm hz2 hz1 hm hev hE1 hE2 hE3
      go_wp2
      refine bodyPost_ret (v := .tuple #[kv r fl' (.slice A n c), u6]) (by simp [results, Try.results25, go_sem, y0, y1, y2]) rfl ?_
      exact ⟨.slice A n c, u6, by rw [HE1.out], by rw [HE2.out]; exact HI.out.things.set3 (HK.out.ownT HI.out.things) _ _ _, by rw [HE3.out]; exact ownI_set3 HI.out.ints (HK.out.ownI HI.out.ints) _ _ _, bel_set3 HI.out.bel (p := p + 1) (Nat.le_succ_of_le HBp.out) _ _ _⟩ -- (ownI_set (ownI_set HI.out.ints (HK.out.ownI HI.out.ints) _ _) ((HK.out.other (a := ⟨p + 1, 0, none⟩) (by sorry) _).ownI HI.out.ints) _ _) (by sorry) _ _, bel_set3 HI.out.bel (p := p + 1) (Nat.le_succ_of_le HBp.out) _ _ _⟩

end Go.Proofs.Ytmobohamlimhdaa.Grd
