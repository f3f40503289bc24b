/-
  The reference of package clock: ClockTouch.
-/
import Derived.Test.YtdcimkllonflkaaClockRef
import Derived.Deep.RegionLaw
namespace Go.Proofs.Ytdcimkllonflkaa.Clk
open Go.RowKit Go.Maps
open Lru (isRm isK keysE keysE_zero traceE trace_zero ints_lit)
set_option linter.unusedVariables false
set_option maxRecDepth 100000

theorem step_append_frs {W : World} {ops : Array Oper} {o : Oper} {a : Act} {K : Act → World → Prop} {Q : Exit → Act → World → Prop} {E : Prop} (hgd : o.guard = none) (s x : Operand)
    (ho : o.op = .call { callee := .builtin .append, args := #[s, x], argTypes := #[22, 22] })
    (base : Nat) (v : Value) (L : List Fr) (hs : a.eval s = v) (hown : OwnF W base v L) (B : Option Addr) (d m : Nat) (M : List Fr) (hm : m = M.length) (hx : a.eval x = .slice B m d) (hM : Frs W B d M)
    (hn : L.length + m ≤ 16777216) (hbase : base ≤ W.heap.size)
    (h : ∀ v' w', OwnF w' base v' (L ++ M) → W.grownBy w' v.ownBlock → K (a.put o.dst v') w') :
    if Region.wanted o (yielded ops a.tmps) = true then Oper.wp Try.prog o a W K Q else E := by
  subst hm
  rw [if_pos (by simp [Region.wanted, hgd])]
  obtain ⟨i0, hi0, hz0, hz1, hz2⟩ := info_parts frame_info
  cases B with
  | none =>
    have hd := hM.2.2.1 rfl
    subst hd
    have e : M = [] := List.length_eq_zero_iff.1 (by have := hM.1; omega)
    subst e
    have hrun := run_append_owned_none (P := Try.prog) (w := W) base 22 o.type 41 i0 2 Try.underlying22 hi0 v L.length (encFs L) hown
    unfold Oper.wp
    simp only [List.length_nil] at hx
    simp [execOp, ho, resolve, invoke, builtin, hs, hx, hrun, Result.andThen]
    exact h v W (by simpa using hown) ⟨rfl, rfl, rfl, Nat.le_refl _, fun _ _ _ => rfl⟩
  | some ad =>
    refine wp_append_own W s x _ ho base 41 i0 _ 2 16 Try.underlying22 hi0 hz0 hz1 hz2 rfl (by decide) v L.length (encFs L) hs hown ad M.length d (encFs M) hx (encFs_len M) ?_ (encFs_one M) (by unfold maxLen; omega) (by omega) hbase ?_
    · intro j u hj
      have hl : j < M.length * 2 := by rw [← encFs_len]; exact (List.getElem?_eq_some_iff.1 hj).1
      obtain ⟨b, o, e, ht⟩ := hM.2.2.2 (by omega)
      cases e
      rw [Addr.add_lit]
      exact frs_cells ht j u hj
    · intro v' w' h1 h2 _
      refine h v' w' ?_ h2
      unfold OwnF
      rw [encFs_app, List.length_append]
      exact h1

/-- What ClockTouch gives. -/
def TR (r : Int) (s : St) (x : Int) (w : World) (e : Ending) (w' : World) : Prop :=
  ∃ A c, e = .returned (.tuple #[kv r ((tch r s x).1 : Int) (.slice A (tch r s x).2.length c), .bool (decide (x ∈ keys s.2)), .int .i64 (gone r s x)]) ∧ Frs w' A c (tch r s x).2 ∧ FA w A ∧ Below w.heap.size w w'
theorem TR.mk {r : Int} {s : St} {x : Int} {w w' : World} {A : Option Addr} {c n : Nat} {P g : Int} {b : Bool} (hP : ((tch r s x).1 : Int) = P) (hb : decide (x ∈ keys s.2) = b) (hg : gone r s x = g) (hn : (tch r s x).2.length = n) (hF : Frs w' A c (tch r s x).2) (hA : FA w A) (hB : Below w.heap.size w w') :
    TR r s x w (.returned (.tuple #[kv r P (.slice A n c), .bool b, .int .i64 g])) w' := by
  subst hP hb hg hn
  exact ⟨A, c, rfl, hF, hA, hB⟩
theorem idx_first {F : List Fr} {x : Int} {k : Nat} (hn : (keys F).Nodup) (hk : k < F.length) (hx : (gf F k).key = x) : (keys F).idxOf x = k ∧ x ∈ keys F := by
  have hk' : k < (keys F).length := by rw [keys_len]; exact hk
  have e : (keys F)[k] = x := by rw [keys_get hk]; exact hx
  have hm : x ∈ keys F := e ▸ List.getElem_mem hk'
  refine ⟨?_, hm⟩
  have h1 := List.idxOf_lt_length_of_mem hm
  exact (List.getElem_inj hn).1 ((List.getElem_idxOf h1).trans e.symm)
theorem key_none {F : List Fr} {x : Int} (hf : ∀ j, j < F.length → (gf F j).key ≠ x) : x ∉ keys F := fun hm => by
  obtain ⟨h1, h2⟩ := idx_key hm
  exact hf _ h1 h2

set_option maxHeartbeats 8000000 in
theorem touchRef_any (r : Int) (h : Nat) (A : Option Addr) (c : Nat) (F : List Fr) (x : Int) (w : World) (hF : Frs w A c F) (hG : Good r (h : Int) F) :
    Calls Try.prog 12 #[kv r (h : Int) (.slice A F.length c), .int .i64 x] w (TR r (h, F) x w) := by
  obtain ⟨hk0, hz0, hb0⟩ := box2 w r (h : Int) (.slice A F.length c)
  have HK0 := Lib.hid hk0
  have HZ0 := Lib.hid hz0
  have HB0 := Lib.hid hb0
  have HF0 := Lib.hid (hF.below hb0)
  have HG := Lib.hid hG
  have hl40 := hG.len40
  have HCp := Lib.hid (copy_any A c F _ HF0.out (by omega))
  have HS0 : Hid (((w.alloc (ko r (h : Int) (.slice A F.length c))).alloc zk).heap.size = w.heap.size + 2) := Lib.hid (by simp)
  clear hk0 hz0 hb0 hF hG
  obtain ⟨ln, hln⟩ : ∃ ln, F.length = ln := ⟨_, rfl⟩
  have HLN := Lib.hid hln
  rw [hln] at HK0 HZ0 HB0 HF0 hl40 HCp HS0 ⊢
  clear hln
  obtain ⟨x1, x2, x3, -, -, -⟩ := HK0.out.cells
  go_enter Try.func12, Try.ntmps12
  go_wp2_with fail
  refine HCp.out.mono ?_
  rintro e w1 ⟨v, rfl, ho, hb⟩
  have HK1 := Lib.hid (HK0.out.below hb)
  have HZ1 := Lib.hid (HZ0.out.below hb)
  have HB1 := Lib.hid (HB0.out.trans (hb.mono HB0.out.size))
  rw [HS0.out] at ho
  obtain ⟨A1, c1, rfl, hF1, hA1⟩ := frs_of_own ho
  rw [HLN.out] at ho ⊢
  have HO1 := Lib.hid ho
  have HF1 := Lib.hid hF1
  have HA1 := Lib.hid hA1
  clear ho hb hF1 hA1 x1 x2 x3
  obtain ⟨n, hn⟩ : ∃ n, w.heap.size = n := ⟨_, rfl⟩
  have HN := Lib.hid hn
  rw [hn] at HK1 HZ1 HB1 HO1 HA1 ⊢
  clear hn HK0 HZ0 HB0 HS0
  obtain ⟨x1, x2, x3, y1, y2, y3⟩ := HK1.out.cells
  obtain ⟨z1, z2, z3, u1, u2, u3⟩ := HZ1.out.cells
  have HZn : Hid (n + 1 < w1.heap.size) := Lib.hid HZ1.out.lt
  go_wp2
  go_loop [9] (fun i => ∃ k : Nat, k ≤ ln ∧ i = .int .i64 (k : Int) ∧ Hid (∀ j, j < k → (gf F j).key ≠ x)) (fun i => ln - (intOf i).toNat)
  case atStart => exact ⟨0, by omega, rfl, Lib.hid (fun j hj => by omega)⟩
  case round =>
    obtain ⟨k, hk, rfl, HA⟩ := hrel
    by_cases hlt : k < ln
    · have hkn : (k : Int) < (ln : Int) := by omega
      have hk0 : (0 : Int) ≤ (k : Int) := by omega
      have HKL : Hid (k < F.length) := Lib.hid (by rw [HLN.out]; exact hlt)
      obtain ⟨g, cc, e, hgb⟩ := HO1.out.form (by have := HKL.out; omega)
      simp only [Value.slice.injEq] at e
      obtain ⟨rfl, -, -⟩ := e
      obtain ⟨e1, e2, e3, e4⟩ := HO1.out.cells HLN.out.symm HKL.out
      have n1 : ¬ g = n := by omega
      have n2 : ¬ n = g := by omega
      have n3 : ¬ g = n + 1 := by omega
      have n4 : ¬ n + 1 = g := by omega
      by_cases q : (gf F k).key = x
      · obtain ⟨i1, i2⟩ := idx_first HG.out.once HKL.out q
        have HT : Hid (tch r (h, F) x = (h, F.set k ⟨x, true⟩)) := Lib.hid (by rw [tch_hit (s := (h, F)) i2]; show (h, F.set ((keys F).idxOf x) _) = _; rw [i1])
        have HGo : Hid (gone r (h, F) x = -1) := Lib.hid (by unfold gone; rw [if_pos i2])
        have HD : Hid (decide (x ∈ keys F) = true) := Lib.hid (by simpa using i2)
        have d1 : ((gf F k).key == x) = true := by simpa using q
        have HO2 := Lib.hid (HO1.out.putU HLN.out.symm HKL.out true)
        rw [q] at HO2
        have HB2 := Lib.hid (bel_set HB1.out (a := ⟨g, k * 2 + 1, none⟩) (by show n ≤ g; omega) (.bool true))
        obtain ⟨A4, c4, e5, hF4, hA4⟩ := frs_of_own HO2.out
        simp only [Value.slice.injEq] at e5
        obtain ⟨rfl, -, rfl⟩ := e5
        have HF4 := Lib.hid hF4
        clear i1 i2 q hF4 hA4
        generalize (gf F k).key = ky at *
        go_wp2
        refine bodyPost_ret (v := .tuple #[kv r (h : Int) (.slice (some ⟨g, 0, none⟩) ln c1), .bool true, .int .i64 (-1)]) (by simp [results, Try.results12, go_sem, z1, z2, z3]) rfl ?_
        refine TR.mk (by rw [HT.out]) HD.out HGo.out (by rw [HT.out]; simp [HLN.out]) ?_ ?_ ?_
        · rw [HT.out]
          exact HF4.out.set3 (p := n + 1) (fun a ha => by cases ha; show n + 1 ≠ g; omega) _ _ _
        · intro a ha; cases ha; rw [HN.out]; show n ≤ g; omega
        · rw [HN.out]; exact bel_set3 HB2.out (p := n + 1) (by omega) _ _ _
      · have d1 : ((gf F k).key == x) = false := by simpa using q
        have HQ := Lib.hid q
        clear q
        generalize hky : (gf F k).key = ky at *
        have HKy := Lib.hid hky
        clear hky
        go_wp2
        go_round
        case rel => exact ⟨k + 1, by omega, by go_num, Lib.hid (fun j hj => by
          by_cases e : j = k
          · subst e; rw [HKy.out]; exact HQ.out
          · exact HA.out j (by omega))⟩
        case measure => simp [intOf]; omega
    · obtain rfl : k = ln := by omega
      have HX : Hid (x ∉ keys F) := Lib.hid (key_none (by rw [HLN.out]; exact HA.out))
      have HD : Hid (decide (x ∈ keys F) = false) := Lib.hid (by simpa using HX.out)
      clear hlt
      by_cases q : (k : Int) < r
      · have d1 : decide ((k : Int) < r) = true := by simpa using q
        have HT : Hid (tch r (h, F) x = (h, F ++ [⟨x, false⟩])) := Lib.hid (tch_room (s := (h, F)) HX.out (by show ((F.length : Nat) : Int) < r; rw [HLN.out]; exact q))
        have HGo : Hid (gone r (h, F) x = -1) := Lib.hid (by unfold gone; rw [if_neg HX.out, if_pos (by show ((F.length : Nat) : Int) < r; rw [HLN.out]; exact q)])
        clear q
        have HOa : Hid (OwnF (w1.alloc (fo ⟨x, false⟩)).drew (n + 2) (.slice A1 k c1) F) := Lib.hid (HO1.out.alloc _)
        have HMa : Hid (Frs (w1.alloc (fo ⟨x, false⟩)).drew (some ⟨w1.heap.size, 0, none⟩) 1 [⟨x, false⟩]) := Lib.hid (frs_one w1 ⟨x, false⟩).drew
        have HZa : Hid (Kb (w1.alloc (fo ⟨x, false⟩)).drew (n + 1) 0 0 (.slice none 0 0)) := Lib.hid (HZ1.out.alloc _)
        have HKa : Hid (Kb (w1.alloc (fo ⟨x, false⟩)).drew n r (h : Int) (.slice A k c)) := Lib.hid (HK1.out.alloc _)
        have HBa : Hid (Below n w (w1.alloc (fo ⟨x, false⟩)).drew) := Lib.hid (bel_al HB1.out (by have := HZn.out; omega) _).drew
        have HSa : Hid (n + 2 ≤ (w1.alloc (fo ⟨x, false⟩)).drew.heap.size) := Lib.hid (Nat.le_trans HZn.out (by show w1.heap.size ≤ (w1.alloc _).heap.size; simp))
        obtain ⟨m6, hm6⟩ : ∃ m6, (F ++ [(⟨x, false⟩ : Fr)]).length = m6 := ⟨_, rfl⟩
        have HM6 := Lib.hid hm6
        clear hm6
        go_wp2
        clear y1 y2 y3
        obtain ⟨t1, t2, t3, -, -, -⟩ := (HK1.out.alloc (fo ⟨x, false⟩)).cells
        go_region_law ((refine step_append_frs (by rfl) _ _ (by rfl) (n + 2) _ F (by rfl) HOa.out (some ⟨w1.heap.size, 0, none⟩) 1 1 [⟨x, false⟩] rfl (by rfl) HMa.out (by have := HLN.out; omega) HSa.out ?_; intro v5 w5 hown5 hg5; have hZ5 := HZa.out.grown HOa.out hg5; have hK5 := HKa.out.grown HOa.out hg5; obtain ⟨a1, a2, a3, b1, b2, b3⟩ := hZ5.cells; obtain ⟨k1, k2, k3, -, -, -⟩ := hK5.cells; obtain ⟨A5, c5, rfl, hI5, hA5⟩ := frs_of_own hown5; rw [HM6.out] at hown5 ⊢))
        all_goals
          have HI5 := Lib.hid hI5
          have HA5 := Lib.hid hA5
          have HB5 : Hid (Below n w w5) := Lib.hid (HBa.out.grown hg5 (by have := HSa.out; omega) (fun q hq => by have := (HOa.out.lt q hq).1; omega))
          clear hI5 hA5 hown5 hg5 hZ5 hK5
          go_wp2
          refine bodyPost_ret (v := .tuple #[kv r (h : Int) (.slice A5 m6 c5), .bool false, .int .i64 (-1)]) (by simp [results, Try.results12, go_sem, a1, a2, a3]) rfl ?_
          refine TR.mk (by rw [HT.out]) HD.out HGo.out (by rw [HT.out]; exact HM6.out) ?_ ?_ ?_
          · rw [HT.out]
            exact HI5.out.set3 (p := n + 1) (fun a ha => by have := HA5.out a ha; omega) _ _ _
          · intro a ha; rw [HN.out]; have := HA5.out a ha; omega
          · rw [HN.out]; exact bel_set3 HB5.out (p := n + 1) (by omega) _ _ _
      · have d1 : decide ((k : Int) < r) = false := by simpa using q
        have hr1 := HG.out.room.1
        have hh := HG.out.hand
        unfold handOk at hh
        rw [HLN.out] at hh
        have hhn : h < k := by omega
        have HT : Hid (tch r (h, F) x = rep (h, F) x) := Lib.hid (tch_full (s := (h, F)) HX.out (by show ¬ ((F.length : Nat) : Int) < r; rw [HLN.out]; exact q))
        have HGo : Hid (gone r (h, F) x = gon (h, F)) := Lib.hid (by unfold gone; rw [if_neg HX.out, if_neg (by show ¬ ((F.length : Nat) : Int) < r; rw [HLN.out]; exact q)])
        clear q hh hr1
        have hk1 : 0 < k := by omega
        have hn0 : ¬ (k : Int) = 0 := by omega
        have hn1 : ¬ k = 0 := by omega
        go_wp2
        clear x1 x2 x3 y1 y2 y3 z1 z2 z3 u1 u2 u3
        obtain ⟨g, cc, e, hgb⟩ := HO1.out.form (by have := HLN.out; omega)
        simp only [Value.slice.injEq] at e
        obtain ⟨rfl, -, -⟩ := e
        go_loopw [10] (fun i wr => ∃ (p : Nat) (G : List Fr), p ≤ k ∧ i = .int .i64 (p : Int) ∧ G.length = k ∧ Hid (spin (k - p) ((h + p) % k) G = spin k h F) ∧ Hid (OwnF wr (n + 2) (.slice (some ⟨g, 0, none⟩) k c1) G) ∧ Hid (Kb wr n r (h : Int) (.slice A k c)) ∧ Hid (Kb wr (n + 1) 0 0 (.slice none 0 0)) ∧ Hid (Below n w wr)) (fun i _ => k - (intOf i).toNat)
        case atStart => exact ⟨0, F, by omega, rfl, HLN.out, Lib.hid (by rw [Nat.sub_zero, Nat.add_zero, Nat.mod_eq_of_lt hhn]), HO1, HK1, HZ1, HB1⟩
        case round =>
          obtain ⟨p, G, hp, rfl, hGl, HSp, HOr, HKr, HZr, HBr⟩ := hrel
          obtain ⟨x1, x2, x3, -, -, -⟩ := HKr.out.cells
          have hw : IntKind.i64.wrap ((h : Int) + (p : Int)) = (h : Int) + (p : Int) := by rw [IntKind.wrap_i64]; omega
          have hq : ((h : Int) + (p : Int)).tmod (k : Int) = (((h + p) % k : Nat) : Int) := rfl
          have hjl : (h + p) % k < k := Nat.mod_lt _ hk1
          have hw2 : IntKind.i64.wrap (((h + p) % k : Nat) : Int) = (((h + p) % k : Nat) : Int) := by rw [IntKind.wrap_i64]; omega
          have HNx : Hid (((h + p) % k + 1) % k = (h + (p + 1)) % k) := Lib.hid (by rw [Nat.mod_add_mod, Nat.add_assoc])
          have HJG : Hid ((h + p) % k < G.length) := Lib.hid (by rw [hGl]; exact hjl)
          have HGl := Lib.hid hGl
          generalize (h + p) % k = j at *
          obtain ⟨e1, e2, e3, e4⟩ := HOr.out.cells HGl.out.symm HJG.out
          have j1 : (j : Int) < (k : Int) := by omega
          have j2 : (0 : Int) ≤ (j : Int) := by omega
          have n1 : ¬ g = n := by omega
          have n2 : ¬ n = g := by omega
          have n3 : ¬ g = n + 1 := by omega
          have n4 : ¬ n + 1 = g := by omega
          by_cases hu : p < k ∧ (gf G j).used = true
          · obtain ⟨hpk, hu⟩ := hu
            have HS2 : Hid (spin (k - (p + 1)) ((h + (p + 1)) % k) (G.set j ⟨(gf G j).key, false⟩) = spin k h F) := Lib.hid (by
              rw [← HSp.out, show k - p = (k - (p + 1)) + 1 by omega, spin_go hu, HGl.out, HNx.out])
            have HO2 := Lib.hid (HOr.out.putU HGl.out.symm HJG.out false)
            have HK2 := Lib.hid (HKr.out.other (a := ⟨g, j * 2 + 1, none⟩) (fun e => HKr.out.own HOr.out (by rw [e]; rfl)) (.bool false))
            have HZ2 := Lib.hid (HZr.out.other (a := ⟨g, j * 2 + 1, none⟩) (fun e => HZr.out.own HOr.out (by rw [e]; rfl)) (.bool false))
            have HB2 := Lib.hid (bel_set HBr.out (a := ⟨g, j * 2 + 1, none⟩) (by show n ≤ g; omega) (.bool false))
            rw [hu] at e2
            have hpk2 : (p : Int) < (k : Int) := by omega
            clear hu
            generalize (gf G j).key = ky at *
            go_wp2
            go_roundw
            case rel => exact ⟨p + 1, G.set j ⟨ky, false⟩, by omega, by go_num, by rw [List.length_set]; exact HGl.out, HS2, HO2, HK2, HZ2, HB2⟩
            case measure => simp [intOf]; omega
          · have HSt : Hid (spin k h F = (j, G)) := Lib.hid (by
              rw [← HSp.out]
              by_cases hpk : p < k
              · exact spin_stop (by simpa using fun h => hu ⟨hpk, h⟩)
              · rw [show k - p = 0 by omega]; rfl)
            have HG1 : Hid (gon (h, F) = (gf G j).key) := Lib.hid (by unfold gon; show (gf (spin F.length h F).2 (spin F.length h F).1).key = _; rw [HLN.out, HSt.out])
            have HR1 : Hid (rep (h, F) x = ((j + 1) % k, G.set j ⟨x, false⟩)) := Lib.hid (by unfold rep; show (((spin F.length h F).1 + 1) % F.length, (spin F.length h F).2.set (spin F.length h F).1 ⟨x, false⟩) = _; rw [HLN.out, HSt.out])
            have HO3 := Lib.hid (HOr.out.put HGl.out.symm (i := j) ⟨x, false⟩)
            have HK3 := Lib.hid ((HKr.out.other (a := ⟨g, j * 2, none⟩) (fun e => HKr.out.own HOr.out (by rw [e]; rfl)) (.int .i64 x)).other (a := ⟨g, j * 2 + 1, none⟩) (fun e => HKr.out.own HOr.out (by rw [e]; rfl)) (.bool false))
            have HZ3 := Lib.hid ((HZr.out.other (a := ⟨g, j * 2, none⟩) (fun e => HZr.out.own HOr.out (by rw [e]; rfl)) (.int .i64 x)).other (a := ⟨g, j * 2 + 1, none⟩) (fun e => HZr.out.own HOr.out (by rw [e]; rfl)) (.bool false))
            have HB3 := Lib.hid (bel_set (bel_set HBr.out (a := ⟨g, j * 2, none⟩) (by show n ≤ g; omega) (.int .i64 x)) (a := ⟨g, j * 2 + 1, none⟩) (by show n ≤ g; omega) (.bool false))
            have hd : ((p : Int) < (k : Int) ∧ (gf G j).used = false) ∨ p = k := by
              by_cases hpk : p < k
              · exact .inl ⟨by omega, by simpa using fun h => hu ⟨hpk, h⟩⟩
              · exact .inr (by omega)
            have hw3 : IntKind.i64.wrap ((j : Int) + 1) = (j : Int) + 1 := by rw [IntKind.wrap_i64]; omega
            have hq3 : ((j : Int) + 1).tmod (k : Int) = (((j + 1) % k : Nat) : Int) := rfl
            have hjl3 : (j + 1) % k < k := Nat.mod_lt _ hk1
            have hw4 : IntKind.i64.wrap (((j + 1) % k : Nat) : Int) = (((j + 1) % k : Nat) : Int) := by rw [IntKind.wrap_i64]; omega
            generalize (j + 1) % k = j3 at *
            clear hu
            generalize (gf G j).key = ky at *
            obtain ⟨z1, z2, z3, u1, u2, u3⟩ := HZr.out.cells
            obtain ⟨A4, c4, e5, hF4, -⟩ := frs_of_own HO3.out
            simp only [Value.slice.injEq] at e5
            obtain ⟨rfl, -, rfl⟩ := e5
            have HF4 := Lib.hid hF4
            clear hF4
            rcases hd with ⟨d2, d3⟩ | d2
            · rw [d3] at e2
              go_wp2
              go_region
              go_wp2
              refine bodyPost_ret (v := .tuple #[kv r (j3 : Int) (.slice (some ⟨g, 0, none⟩) k c1), .bool false, .int .i64 ky]) (by simp [results, Try.results12, go_sem, z1, z2, z3]) rfl ?_
              refine TR.mk (by rw [HT.out, HR1.out]) HD.out (HGo.out.trans HG1.out) (by rw [HT.out, HR1.out]; show (G.set j _).length = k; rw [List.length_set]; exact HGl.out) ?_ ?_ ?_
              · rw [HT.out, HR1.out]
                exact Frs.drew (HF4.out.set3 (p := n + 1) (fun a ha => by cases ha; show n + 1 ≠ g; omega) _ _ _)
              · intro a ha; cases ha; rw [HN.out]; show n ≤ g; omega
              · rw [HN.out]; exact Below.drew (bel_set3 HB3.out (p := n + 1) (by omega) _ _ _)
            · subst d2
              go_wp2
              go_region
              go_wp2
              refine bodyPost_ret (v := .tuple #[kv r (j3 : Int) (.slice (some ⟨g, 0, none⟩) p c1), .bool false, .int .i64 ky]) (by simp [results, Try.results12, go_sem, z1, z2, z3]) rfl ?_
              refine TR.mk (by rw [HT.out, HR1.out]) HD.out (HGo.out.trans HG1.out) (by rw [HT.out, HR1.out]; show (G.set j _).length = p; rw [List.length_set]; exact HGl.out) ?_ ?_ ?_
              · rw [HT.out, HR1.out]
                exact Frs.drew (HF4.out.set3 (p := n + 1) (fun a ha => by cases ha; show n + 1 ≠ g; omega) _ _ _)
              · intro a ha; cases ha; rw [HN.out]; show n ≤ g; omega
              · rw [HN.out]; exact Below.drew (bel_set3 HB3.out (p := n + 1) (by omega) _ _ _)

end Go.Proofs.Ytdcimkllonflkaa.Clk
