/-
  Package segment: a copy of a segmented cache; one access.
-/
import Derived.Test.YtpjgfehhhgcjnaaSegFront
import Derived.Deep.RegionWith
namespace Go.Proofs.Ytpjgfehhhgcjnaa.Seg
open Go.RowKit Go.Maps
open Lru (isRm isK keysE keysE_zero traceE trace_zero touch index_any contains_any idx_in idx_out)
set_option linter.unusedVariables false
set_option maxRecDepth 100000

/-- The two boxes of a function of the package: its argument and its result. -/
theorem box2 (w : World) (f s : Int) (v u : Value) : Kb ((w.alloc (ko f s v u)).alloc zk) w.heap.size f s v u ∧ Kb ((w.alloc (ko f s v u)).alloc zk) (w.heap.size + 1) 0 0 (.slice none 0 0) (.slice none 0 0) ∧ Below w.heap.size w ((w.alloc (ko f s v u)).alloc zk) := by
  refine ⟨(Kb.new w f s _ _).alloc _, ?_, bel_al (bel_al (Below.refl _ _) (Nat.le_refl _) _) (by simp) _⟩
  have := Kb.new (w.alloc (ko f s v u)) 0 0 (.slice none 0 0) (.slice none 0 0)
  rwa [show (w.alloc (ko f s v u)).heap.size = w.heap.size + 1 by simp] at this
theorem ints_own {w : World} {base n c : Nat} {A : Option Addr} {L : List Int} (h : OwnI w base (.slice A n c) L) : n = L.length ∧ Ints w A c L := by
  obtain ⟨A', c', e, hI⟩ := ints_of_own h
  cases e
  exact ⟨rfl, hI⟩
theorem sub_of_grown {w w' : World} {base : Nat} {v : Value} {L : List Int} (ho : OwnI w base v L) (hg : w.grownBy w' v.ownBlock) (hB : base ≤ w.heap.size) : Below base w w' :=
  (Below.refl base w).grown hg hB (fun k hk => (ho.lt k hk).1)

/-- What clone gives: both rows are the call's own, and do not lie in one block. -/
def CR (f s : Int) (N O : List Int) (w : World) (e : Ending) (w' : World) : Prop :=
  ∃ A c B d, e = .returned (kv f s (.slice A N.length c) (.slice B O.length d)) ∧ OwnI w' w.heap.size (.slice A N.length c) N ∧ OwnI w' w.heap.size (.slice B O.length d) O ∧ Apart (.slice A N.length c) (.slice B O.length d) ∧ Below w.heap.size w w'

theorem cloneN (A : Option Addr) (c n : Nat) (N : List Int) (w : World) (hn : N.length = n) (hN : Ints w A c N) (hl : n ≤ 1048576) :
    Calls Try.prog 32 #[.slice A n c] w fun e w' => ∃ A' c', e = .returned (.slice A' n c') ∧ OwnI w' w.heap.size (.slice A' n c') N ∧ Below w.heap.size w w' := by
  subst hn
  refine (Lru.clone_any A c N w hN hl).mono ?_
  rintro e w' ⟨v, rfl, ho, hb⟩
  obtain ⟨A', c', rfl, -⟩ := ints_of_own ho
  exact ⟨A', c', rfl, ho, hb⟩

set_option maxHeartbeats 8000000 in
theorem clone_any (f s : Int) (A B : Option Addr) (c d : Nat) (N O : List Int) (w : World) (hN : Ints w A c N) (hO : Ints w B d O) (hl : N.length ≤ 1048576) (hk : O.length ≤ 1048576) :
    Calls Try.prog 21 #[kv f s (.slice A N.length c) (.slice B O.length d)] w (CR f s N O w) := by
  obtain ⟨n, hn⟩ : ∃ n, N.length = n := ⟨_, rfl⟩
  obtain ⟨m, hm⟩ : ∃ m, O.length = m := ⟨_, rfl⟩
  unfold CR
  rw [hn, hm]
  rw [hn] at hl
  rw [hm] at hk
  obtain ⟨hk0, hz0, hb0⟩ := box2 w f s (.slice A n c) (.slice B m d)
  have HK0 := Lib.hid hk0
  have HZ0 := Lib.hid hz0
  have HB0 := Lib.hid hb0
  have HCN := Lib.hid (fun (W : World) (hb : Below w.heap.size w W) => cloneN A c n N W hn (hN.below hb) hl)
  have HCO := Lib.hid (fun (W : World) (hb : Below w.heap.size w W) => cloneN B d m O W hm (hO.below hb) hk)
  clear hk0 hz0 hb0 hN hO hl hk hn hm
  obtain ⟨x1, x2, x3, x4⟩ := HK0.out.cells
  obtain ⟨y1, y2, y3, y4⟩ := HK0.out.free
  go_enter Try.func21, Try.ntmps21
  go_wp2
  generalize (w.alloc (ko f s (.slice A n c) (.slice B m d))).alloc zk = w1 at *
  go_region_with (first
    | (go_at_call 32; (with_reducible refine Calls.mono (HCN.out w1.drew HB0.out.drew) ?_); rintro e wa ⟨A1, c1, rfl, ho1, hb1⟩; obtain ⟨x1a, x2a, x3a, x4a⟩ := (HK0.out.drew.below hb1).cells; obtain ⟨y1a, y2a, y3a, y4a⟩ := (HK0.out.drew.below hb1).free; have HBa : Below w.heap.size w wa := HB0.out.drew.trans (hb1.mono HB0.out.drew.size))
    | (go_at_call 32; (with_reducible refine Calls.mono (HCO.out w1.drew HB0.out.drew) ?_); rintro e wb ⟨B1, d1, rfl, ho2, hb2⟩; obtain ⟨x1b, x2b, x3b, x4b⟩ := (HK0.out.drew.below hb2).cells; obtain ⟨y1b, y2b, y3b, y4b⟩ := (HK0.out.drew.below hb2).free; have HBb : Below w.heap.size w wb := HB0.out.drew.trans (hb2.mono HB0.out.drew.size))
    | (go_at_call 32; (with_reducible refine Calls.mono (HCO.out wa HBa) ?_); rintro e wz ⟨B1, d1, rfl, ho2, hb2⟩; have hON : OwnI wz w.heap.size (.slice A1 n c1) N := own_le (own_bel ho1 hb2) HB0.out.size; have hOO : OwnI wz w.heap.size (.slice B1 m d1) O := own_le ho2 HBa.size; have hAp : Apart (.slice A1 n c1) (.slice B1 m d1) := Apart.symm (apart_new ho2 ho1 (Nat.le_refl _)); have HKz := Lib.hid ((HK0.out.drew.below hb1).below hb2); have HZz := Lib.hid ((HZ0.out.drew.below hb1).below hb2); have HBz := Lib.hid (HBa.trans (hb2.mono HBa.size)); obtain ⟨x1z, x2z, x3z, x4z⟩ := HKz.out.cells; obtain ⟨y1z, y2z, y3z, y4z⟩ := HKz.out.free)
    | (go_at_call 32; (with_reducible refine Calls.mono (HCN.out wb HBb) ?_); rintro e wz ⟨A1, c1, rfl, ho1, hb1⟩; have hON : OwnI wz w.heap.size (.slice A1 n c1) N := own_le ho1 HBb.size; have hOO : OwnI wz w.heap.size (.slice B1 m d1) O := own_le (own_bel ho2 hb1) HB0.out.size; have hAp : Apart (.slice A1 n c1) (.slice B1 m d1) := apart_new ho1 ho2 (Nat.le_refl _); have HKz := Lib.hid ((HK0.out.drew.below hb2).below hb1); have HZz := Lib.hid ((HZ0.out.drew.below hb2).below hb1); have HBz := Lib.hid (HBb.trans (hb1.mono HBb.size)); obtain ⟨x1z, x2z, x3z, x4z⟩ := HKz.out.cells; obtain ⟨y1z, y2z, y3z, y4z⟩ := HKz.out.free))
  all_goals
    have HP : Hid (OwnI (set4 ((wz.setCell ⟨w.heap.size, 2, none⟩ (.slice A1 n c1)).setCell ⟨w.heap.size, 3, none⟩ (.slice B1 m d1)) (w.heap.size + 1) (.int .i64 f) (.int .i64 s) (.slice A1 n c1) (.slice B1 m d1)) w.heap.size (.slice A1 n c1) N ∧
        OwnI (set4 ((wz.setCell ⟨w.heap.size, 2, none⟩ (.slice A1 n c1)).setCell ⟨w.heap.size, 3, none⟩ (.slice B1 m d1)) (w.heap.size + 1) (.int .i64 f) (.int .i64 s) (.slice A1 n c1) (.slice B1 m d1)) w.heap.size (.slice B1 m d1) O ∧
        Below w.heap.size w (set4 ((wz.setCell ⟨w.heap.size, 2, none⟩ (.slice A1 n c1)).setCell ⟨w.heap.size, 3, none⟩ (.slice B1 m d1)) (w.heap.size + 1) (.int .i64 f) (.int .i64 s) (.slice A1 n c1) (.slice B1 m d1))) := Lib.hid (by
      have a := own_set (own_set hON (HKz.out.own hON) 2 (.slice A1 n c1)) (HKz.out.own hON) 3 (.slice B1 m d1)
      have b := own_set (own_set hOO (HKz.out.own hOO) 2 (.slice A1 n c1)) (HKz.out.own hOO) 3 (.slice B1 m d1)
      refine ⟨own_set4 a (HZz.out.own hON) _ _ _ _, own_set4 b (HZz.out.own hOO) _ _ _ _, ?_⟩
      exact bel_set4 (bel_set (bel_set HBz.out (a := ⟨w.heap.size, 2, none⟩) (Nat.le_refl _) _) (a := ⟨w.heap.size, 3, none⟩) (Nat.le_refl _) _) (Nat.le_succ _) _ _ _ _)
    obtain ⟨z1, z2, z3, z4⟩ := HZz.out.cells
    obtain ⟨u1, u2, u3, u4⟩ := HZz.out.free
    go_wp2
    refine bodyPost_ret (v := kv f s (.slice A1 n c1) (.slice B1 m d1)) (by simp [results, Try.results21, go_sem, z1, z2, z3, z4]) rfl ?_
    exact ⟨A1, c1, B1, d1, rfl, HP.out.1, HP.out.2.1, hAp, HP.out.2.2⟩

end Go.Proofs.Ytpjgfehhhgcjnaa.Seg
