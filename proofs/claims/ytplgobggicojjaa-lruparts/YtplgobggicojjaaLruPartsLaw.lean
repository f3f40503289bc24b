/-
  The walk of the law on a trace in two parts.
-/
import Derived.Test.YtplgobggicojjaaLruBegun
import Derived.Test.YtplgobggicojjaaIntsLib2
import Derived.Deep.DeepCutAuto
import Derived.Deep.RegionLaw
namespace Go.Proofs.Ytplgobggicojjaa.Lru
open Go.RowKit Go.Maps
set_option linter.unusedVariables false

/-- 'append(v, xs...)' in a region that draws. -/
theorem step_append_ints {W : World} {ops : Array Oper} {o : Oper} {a : Act} {K : Act → World → Prop} {Q : Exit → Act → World → Prop} {E : Prop} (hgd : o.guard = none) (s x : Operand)
    (ho : o.op = .call { callee := .builtin .append, args := #[s, x], argTypes := #[22, 22] })
    (base : Nat) (v : Value) (L : List Int) (hs : a.eval s = v) (hown : OwnI W base v L) (B : Option Addr) (d m : Nat) (M : List Int) (hm : m = M.length) (hx : a.eval x = .slice B m d) (hM : Ints W B d M)
    (hn : L.length + m ≤ 17592186044416) (hbase : base ≤ W.heap.size)
    (h : ∀ v' w', OwnI w' base v' (L ++ M) → W.grownBy w' v.ownBlock → K (a.put o.dst v') w') :
    if Region.wanted o (yielded ops a.tmps) = true then Oper.wp Try.prog o a W K Q else E := by
  subst hm
  rw [if_pos (by simp [Region.wanted, hgd])]
  obtain ⟨i0, hi0, hz0, hz1, hz2⟩ := info_parts int_info
  cases B with
  | none =>
    have hd := hM.2.2.1 rfl
    subst hd
    have e : M = [] := List.length_eq_zero_iff.1 (by have := hM.1; omega)
    subst e
    have hrun := run_append_owned_none (P := Try.prog) (w := W) base 22 o.type 3 i0 1 Try.underlying22 hi0 v L.length (L.map encI) hown
    unfold Oper.wp
    simp only [List.length_nil] at hx
    simp [execOp, ho, resolve, invoke, builtin, hs, hx, hrun, Result.andThen]
    exact h v W (by simpa using hown) ⟨rfl, rfl, rfl, Nat.le_refl _, fun _ _ _ => rfl⟩
  | some ad =>
    refine wp_append_own W s x _ ho base 3 i0 (.int .i64 0) 1 8 Try.underlying22 hi0 hz0 hz1 hz2 rfl (by decide) v L.length (L.map encI) hs hown ad M.length d (M.map encI) hx (by simp) ?_ ?_ (by unfold maxLen; omega) (by omega) hbase ?_
    · intro j u hj
      rw [List.getElem?_map] at hj
      by_cases hlt : j < M.length
      · obtain ⟨b, o, e, ht⟩ := hM.2.2.2 (by omega)
        cases e
        rw [List.getElem?_eq_getElem hlt] at hj
        simp only [Option.map_some, Option.some.injEq] at hj
        rw [add_none, ht.2 j hlt, gi_get hlt, ← hj]
      · rw [List.getElem?_eq_none (by omega)] at hj; cases hj
    · intro u hu
      obtain ⟨n, _, rfl⟩ := List.mem_map.1 hu
      rfl
    · intro v' w' h1 h2 _
      exact h v' w' (by unfold OwnI; rw [List.length_append, List.map_append]; exact h1) h2

/-! ### A new variable of type Cache -/
def Zb (w : World) (p : Nat) : Prop := w.heap[p]? = some zo
theorem Zb.lt {w : World} {p : Nat} (h : Zb w p) : p < w.heap.size := (Array.getElem?_eq_some_iff.1 h).1
theorem Zb.cells {w : World} {p : Nat} (h : Zb w p) : w.cell? ⟨p, 0, none⟩ = some (.int .i64 0) ∧ w.cell? ⟨p, 1, none⟩ = some (.slice none 0 0) ∧ w.frozen? ⟨p, 0, none⟩ = false ∧ w.frozen? ⟨p, 1, none⟩ = false := by
  have h : w.heap[p]? = some (.cells #[.int .i64 0, .slice none 0 0] 24 (0, 0)) := h
  exact ⟨by rw [cell_of_row w p 0 _ _ (0, 0) h]; rfl, by rw [cell_of_row w p 1 _ _ (0, 0) h]; rfl, by simp [World.frozen?, h], by simp [World.frozen?, h]⟩
theorem Zb.below {w w' : World} {p : Nat} (h : Zb w p) (hb : Below w.heap.size w w') : Zb w' p := (hb.block p h.lt).trans h
theorem Zb.drew {w : World} {p : Nat} (h : Zb w p) : Zb w.drew p := h
theorem Zb.alloc {w : World} {p : Nat} (h : Zb w p) (o : Obj) : Zb (w.alloc o) p := h.below (bel_al (Below.refl _ _) (Nat.le_refl _) _)
theorem Zb.new (w : World) : Zb (w.alloc zo) w.heap.size := Array.getElem?_push_size
theorem Zb.own {w : World} {p base : Nat} {v : Value} {L : List Int} (h : Zb w p) (ho : OwnI w base v L) : v.ownBlock ≠ some p := by
  intro e
  rcases ho.2 with ⟨rfl, -⟩ | ⟨g, cap, cur, rfl, -, hg, -⟩
  · cases e
  · cases e
    have h : w.heap[g]? = some (.cells #[.int .i64 0, .slice none 0 0] 24 (0, 0)) := h
    rw [hg] at h
    simp at h
theorem Zb.grown {w w' : World} {p base : Nat} {v : Value} {L : List Int} (h : Zb w p) (ho : OwnI w base v L) (hg : w.grownBy w' v.ownBlock) : Zb w' p := (hg.block p h.lt (fun e => h.own ho e.symm)).trans h
theorem Zb.ne {w : World} {p : Nat} {B : Option Addr} (h : Zb w p) (hA : FA w B) : ∀ a, B = some a → a.block ≠ p := fun a ha e => by have := hA a ha; have := h.lt; omega
theorem own_made (w : World) (base : Nat) (h : base ≤ w.heap.size) : OwnI (w.alloc (.cells #[] 3)) base (.slice (some ⟨w.heap.size, 0, none⟩) 0 0) [] :=
  World.ownsRow_made w _ _ h (Nat.zero_le _) rfl
theorem own_bel {w w' : World} {base : Nat} {v : Value} {L : List Int} (h : OwnI w base v L) (hb : Below w.heap.size w w') : OwnI w' base v L :=
  h.kept (row := none) ⟨hb.os, hb.tape, hb.output, hb.size, fun k hk _ => hb.block k hk⟩ (by cases hv : v.ownBlock <;> simp)
section
variable (w : World)
theorem mk_ownA : OwnI (w.alloc (.cells #[] 3)).drew w.heap.size (.slice (some ⟨w.heap.size, 0, none⟩) 0 0) [] := own_bel (own_made w _ (Nat.le_refl _)) (Below.refl _ _).drew
theorem mk_ownB : OwnI ((w.alloc (.cells #[] 3)).alloc zo).drew w.heap.size (.slice (some ⟨w.heap.size, 0, none⟩) 0 0) [] := own_bel (own_made w _ (Nat.le_refl _)) (bel_al (Below.refl _ _) (Nat.le_refl _) _).drew
theorem mk_ownC : OwnI ((w.alloc zo).alloc (.cells #[] 3)).drew w.heap.size (.slice (some ⟨w.heap.size + 1, 0, none⟩) 0 0) [] := by
  have h := own_made (w.alloc zo) w.heap.size (by simp)
  rw [show (w.alloc zo).heap.size = w.heap.size + 1 by simp] at h
  exact own_bel h (Below.refl _ _).drew
theorem mk_zB : Zb ((w.alloc (.cells #[] 3)).alloc zo).drew (w.heap.size + 1) := by
  have h := Zb.new (w.alloc (.cells #[] 3))
  rw [show (w.alloc (.cells #[] 3)).heap.size = w.heap.size + 1 by simp] at h
  exact h
theorem mk_zC : Zb ((w.alloc zo).alloc (.cells #[] 3)).drew w.heap.size := (Zb.new w).alloc _
theorem mk_bA : Below w.heap.size w (w.alloc (.cells #[] 3)).drew := (bel_al (Below.refl _ _) (Nat.le_refl _) _).drew
theorem mk_bD : Below w.heap.size w (w.alloc zo).drew := (bel_al (Below.refl _ _) (Nat.le_refl _) _).drew
theorem mk_bB : Below w.heap.size w ((w.alloc (.cells #[] 3)).alloc zo).drew := (bel_al (bel_al (Below.refl _ _) (Nat.le_refl _) _) (by simp) _).drew
theorem mk_bC : Below w.heap.size w ((w.alloc zo).alloc (.cells #[] 3)).drew := (bel_al (bel_al (Below.refl _ _) (Nat.le_refl _) _) (by simp) _).drew
end
theorem at_world {P : Program} {ops : Array Oper} {o : Oper} {a : Act} {K : Act → World → Prop} {Q : Exit → Act → World → Prop} {E : Prop} (W : World) (h : if Region.wanted o (yielded ops a.tmps) = true then Oper.wp P o a W K Q else E) : if Region.wanted o (yielded ops a.tmps) = true then Oper.wp P o a W K Q else E := h
/-- A new variable is written. -/
theorem Zb.put {w : World} {p : Nat} {r : Int} {A : Option Addr} {c : Nat} {L : List Int} (h : Zb w p) (hI : Ints w A c L) (hA : ∀ a, A = some a → a.block ≠ p) :
    Bx ((w.setCell ⟨p, 0, none⟩ (.int .i64 r)).setCell ⟨p, 1, none⟩ (.slice A L.length c)) p r A c L := by
  obtain ⟨h1, h2, -, -⟩ := h.cells
  exact ⟨by simpa [World.setCell] using h.lt, by simp [go_sem, h1], by simp [go_sem, h2], (hI.setCell (p := ⟨p, 0, none⟩) hA _).setCell (p := ⟨p, 1, none⟩) hA _⟩

theorem parts_facts {r : Int} {L xs ys : List Int} (h : rnE r L xs = 0) : rnR r L xs = r ∧ Good r (rnL r L xs) ∧
    (rnE r (rnL r L xs) ys = 0 → rnE r L (xs ++ ys) = 0 → rnL r (rnL r L xs) ys = rnL r L (xs ++ ys) ∧ rnR r (rnL r L xs) ys = rnR r L (xs ++ ys) ∧ rnH r L (xs ++ ys) = rnH r L xs + rnH r (rnL r L xs) ys) ∧
    ((rnE r (rnL r L xs) ys ≠ 0 ∨ rnE r L (xs ++ ys) ≠ 0) → rnE r (rnL r L xs) ys ≠ rnE r L (xs ++ ys) → rnE r L (xs ++ ys) = 2) := by
  have g0 : checkC r L = 0 := by
    unfold rnE at h
    split at h
    · assumption
    · exact absurd h (by assumption)
  have ht : traceE xs = 0 := by unfold rnE at h; rwa [if_pos g0] at h
  have hg := check_zero.1 g0
  have hx := trace_zero.1 ht
  have eL : rnL r L xs = runL r L xs := by unfold rnL; rw [if_pos h]
  have hg2 : Good r (runL r L xs) := runL_good hg hx.2
  have g1 : checkC r (runL r L xs) = 0 := check_zero.2 hg2
  have e1 : rnE r (runL r L xs) ys = traceE ys := by unfold rnE; rw [if_pos g1]
  have e2 : rnE r L (xs ++ ys) = traceE (xs ++ ys) := by unfold rnE; rw [if_pos g0]
  rw [eL]
  refine ⟨by unfold rnR; rw [if_pos h], hg2, fun ha hb => ?_, fun hn hne => ?_⟩
  · refine ⟨?_, ?_, ?_⟩
    · unfold rnL; rw [if_pos ha, if_pos hb, runL_append]
    · unfold rnR; rw [if_pos ha, if_pos hb]
    · unfold rnH; rw [if_pos ha, if_pos hb, if_pos h, hitsM_append]; omega
  · rw [e1, e2] at hne
    rw [e2]
    unfold traceE at hne ⊢
    by_cases h1 : 200 < (xs ++ ys).length
    · rw [if_pos h1]
    · exfalso
      have h2 : ¬ 200 < ys.length := by rw [List.length_append] at h1; omega
      rw [if_neg h1, if_neg h2] at hne
      apply hne
      have : (∀ x ∈ ys, isK x) ↔ (∀ x ∈ xs ++ ys, isK x) := ⟨fun h x hm => (List.mem_append.1 hm).elim (hx.2 x) (h x), fun h x hm => h x (by simp [hm])⟩
      by_cases h3 : ∀ x ∈ ys, isK x
      · rw [if_pos h3, if_pos (this.1 h3)]
      · rw [if_neg h3, if_neg (fun hh => h3 (this.2 hh))]
theorem bad_facts {r : Int} {L xs : List Int} (h : rnE r L xs ≠ 0) : rnH r L xs = 0 ∧ (rnL r L xs).length = 0 := by
  unfold rnH rnL; rw [if_neg h, if_neg h]; exact ⟨rfl, rfl⟩
theorem rn_len {r : Int} {L xs : List Int} (h : rnE r L xs = 0) : xs.length ≤ 200 := by
  unfold rnE at h
  split at h
  · exact (trace_zero.1 h).1
  · exact absurd h (by assumption)
theorem below_put {B p : Nat} {w w' : World} (h : Below B w w') (hp : B ≤ p) (u v : Value) : Below B w ((w'.setCell ⟨p, 0, none⟩ u).setCell ⟨p, 1, none⟩ v) :=
  (h.setCell (p := ⟨p, 0, none⟩) hp _).setCell (p := ⟨p, 1, none⟩) hp _
theorem rnH_bound (r : Int) (L xs : List Int) : 0 ≤ rnH r L xs ∧ rnH r L xs ≤ 200 := by
  unfold rnH
  split
  · have := hitsM_le r L xs
    have : xs.length ≤ 200 := by
      rename_i h
      unfold rnE at h
      split at h
      · exact (trace_zero.1 h).1
      · exact absurd h (by assumption)
    omega
  · omega

set_option maxHeartbeats 20000000 in
set_option maxRecDepth 100000 in
theorem lruParts_walk (r : Int) (A : Option Addr) (c : Nat) (L : List Int) (A1 : Option Addr) (c1 : Nat) (xs : List Int) (A2 : Option Addr) (c2 : Nat) (ys : List Int) (w : World) (hI : Ints w A c L) (hJ : Ints w A1 c1 xs) (hK : Ints w A2 c2 ys) (hz1 : xs.length ≤ 17592186043904) (hz2 : ys.length ≤ 17592186043904) :
    Calls Try.prog 5 #[cv r A c L, .slice A1 xs.length c1, .slice A2 ys.length c2] w fun e w' => e = .returned (.bool true) ∧ Below w.heap.size w w' := by
  have X0 := Lib.hid (Bx.new (r := r) hI)
  have HB0 : Hid (Below w.heap.size w (w.alloc (co r A c L))) := Lib.hid (bel_al (Below.refl _ _) (Nat.le_refl _) _)
  have HJ := Lib.hid hJ
  have HK := Lib.hid hK
  have HR1 := Lib.hid (fun (W : World) (h : Ints W A c L) (h' : Ints W A1 c1 xs) => run_any r A A1 c c1 L xs W h h')
  have HLx : Hid (xs.length ≤ 9223372036854775807 ∧ ys.length ≤ 9223372036854775807) := Lib.hid ⟨hJ.len, hK.len⟩
  unfold NR at HR1
  clear hI hJ hK
  by_cases q1 : rnE r L xs = 0
  · have HF := Lib.hid (parts_facts (ys := ys) q1)
    have d1 : (rnE r L xs != 0) = false := by simp [q1]
    have HX2 := Lib.hid (rn_len q1)
    rw [HF.out.1] at HR1
    have HR2 := Lib.hid (fun (B : Option Addr) (d : Nat) (W : World) (h : Ints W B d (rnL r L xs)) (h' : Ints W A2 c2 ys) => run_any r B A2 d c2 (rnL r L xs) ys W h h')
    have HR3 := Lib.hid (fun (B : Option Addr) (d : Nat) (W : World) (h : Ints W A c L) (h' : Ints W B d (xs ++ ys)) => run_any r A B c d L (xs ++ ys) W h h')
    unfold NR at HR2 HR3
    have hb1 := rnH_bound r L xs
    have hb2 := rnH_bound r (rnL r L xs) ys
    have HZ2 := Lib.hid hz2
    replace HF := Lib.hid HF.out.2.2
    clear q1 hz1 hz2
    generalize rnL r L xs = M1 at *
    generalize rnH r L xs = h1 at *
    generalize rnE r L xs = e1 at *
    generalize rnL r M1 ys = M2 at *
    generalize rnH r M1 ys = h2 at *
    generalize rnE r M1 ys = e2 at *
    generalize rnR r M1 ys = R2 at *
    generalize rnL r L (xs ++ ys) = M3 at *
    generalize rnH r L (xs ++ ys) = h3 at *
    generalize rnE r L (xs ++ ys) = e3 at *
    generalize rnR r L (xs ++ ys) = R3 at *
    obtain ⟨m5, hm5⟩ : ∃ m5, (xs ++ ys).length = m5 := ⟨_, rfl⟩
    have HM5 := Lib.hid hm5
    simp only [hm5] at HR3
    obtain ⟨lx, hlx⟩ : ∃ lx, xs.length = lx := ⟨_, rfl⟩
    obtain ⟨ly, hly⟩ : ∃ ly, ys.length = ly := ⟨_, rfl⟩
    have HLX := Lib.hid hlx
    have HLY := Lib.hid hly
    simp only [hlx] at HR1
    simp only [hly] at HR2
    rw [hlx, hly]
    clear hm5 hlx hly
    obtain ⟨-, x1, x2, -⟩ := X0.out
    go_enter Try.func5, Try.ntmps5
    go_wp2_with fail
    refine (HR1.out _ X0.out.ints (HJ.out.below HB0.out)).mono ?_
    rintro e w1 ⟨B1, k1, rfl, hI1, -, hbb⟩
    have X1 := Lib.hid ((X0.out.below hbb).alloc (co r B1 k1 M1))
    have Y1 := Lib.hid (Bx.new (r := r) hI1)
    have HB1 : Hid (Below w.heap.size w (w1.alloc (co r B1 k1 M1))) := Lib.hid (bel_al (HB0.out.trans (hbb.mono HB0.out.size)) (Nat.le_trans HB0.out.size hbb.size) _)
    clear hI1 hbb x1 x2
    go_wp2_with fail
    refine (begun_any _).mono ?_
    rintro e w3 ⟨rfl, hb3⟩
    have X3 := Lib.hid (X1.out.below hb3)
    have Y3 := Lib.hid (Y1.out.below hb3)
    have HB3 : Hid (Below w.heap.size w w3) := Lib.hid (HB1.out.trans (hb3.mono HB1.out.size))
    clear hb3
    generalize w1.heap.size = p1 at *
    obtain ⟨-, y1, y2, -⟩ := Y3.out
    go_wp2_with fail
    refine (HR2.out B1 k1 _ Y3.out.ints (HK.out.below HB3.out)).mono ?_
    rintro e w4 ⟨B4, k4, rfl, hI4, -, hb4⟩
    have X4 := Lib.hid ((X3.out.below hb4).alloc (co R2 B4 k4 M2))
    have Z4 := Lib.hid (Bx.new (r := R2) hI4)
    have HB4 : Hid (Below w.heap.size w (w4.alloc (co R2 B4 k4 M2))) := Lib.hid (bel_al (HB3.out.trans (hb4.mono HB3.out.size)) (Nat.le_trans HB3.out.size hb4.size) _)
    clear hI4 hb4 y1 y2
    go_upto_region 7 with fail
    generalize w4.heap.size = p4 at *
    generalize w4.alloc (co R2 B4 k4 M2) = w5 at *
    go_cut [13, 14, 15] (fun s13 s14 s15 wx => ∃ p B d, s13 = .pointer (some ⟨p, 0, none⟩) ∧ s14 = .int .i64 h3 ∧ s15 = .int .i64 e3 ∧ Bx wx p R3 B d M3 ∧ Below w5.heap.size w5 wx)
    case first =>
      as_aux_lemma =>
        have HK5 : Hid (∀ w' : World, Below w5.heap.size w5 w' → w'.cell? ⟨w.heap.size, 0, none⟩ = some (.int .i64 r) ∧ w'.cell? ⟨w.heap.size, 1, none⟩ = some (.slice A L.length c)) := Lib.hid (fun w' hb => by
          have := X4.out.below hb
          exact ⟨this.2.1, this.2.2.1⟩)
        have HJ5 : Hid (∀ w' : World, Below w5.heap.size w5 w' → Ints w' A1 c1 xs ∧ Ints w' A2 c2 ys ∧ Ints w' A c L) := Lib.hid (fun w' hb => ⟨(HJ.out.below HB4.out).below hb, (HK.out.below HB4.out).below hb, X4.out.ints.below hb⟩)
        have HOA := Lib.hid (mk_ownA w5)
        have HOB := Lib.hid (mk_ownB w5)
        have HOC := Lib.hid (mk_ownC w5)
        have HZB := Lib.hid (mk_zB w5)
        have HZC := Lib.hid (mk_zC w5)
        have HBA := Lib.hid (mk_bA w5)
        have HBB := Lib.hid (mk_bB w5)
        have HBC := Lib.hid (mk_bC w5)
        have HBD := Lib.hid (mk_bD w5)
        have HL1 : Hid (([] : List Int).length + lx ≤ 17592186044416) := Lib.hid (by have := HX2.out; have := HLX.out; simp; omega)
        have HL2 : Hid (([] ++ xs : List Int).length + ly ≤ 17592186044416) := Lib.hid (by have := HX2.out; have := HLX.out; have := HZ2.out; have := HLY.out; simp; omega)
        have HME : Hid ((([] ++ xs) ++ ys : List Int).length = m5) := Lib.hid (by rw [List.nil_append]; exact HM5.out)
        have HR4 : Hid (∀ (B : Option Addr) (d : Nat) (W : World), Ints W A c L → Ints W B d (([] ++ xs) ++ ys) → _) := Lib.hid (by rw [List.nil_append]; exact HR3.out)
        go_wp2
        go_region_held3 (fun w' => w'.cell? ⟨w.heap.size, 0, none⟩ = some (.int .i64 r) ∧ w'.cell? ⟨w.heap.size, 1, none⟩ = some (.slice A L.length c))
          (first | exact HK5.out _ (below_put hBd hpz _ _) | exact HK5.out _ (below_put (bel_al hBd hBd.size _) hBd.size _ _) | exact HK5.out _ (bel_al hBd hBd.size _) | exact HK5.out _ hBd | exact HK5.out _ (bel_al hBb hBb.size _) | exact HK5.out _ hBb | exact HK5.out _ (bel_al hBa hBa.size _) | exact HK5.out _ hBa | exact HK5.out _ HBB.out | exact HK5.out _ HBC.out | exact HK5.out _ HBA.out | exact HK5.out _ HBD.out | exact HK5.out _ (Below.refl _ _).drew)
          (first
            | ((with_reducible refine at_world (w5.alloc (.cells #[] 3)).drew ?_); refine step_append_ints (by rfl) _ _ (by rfl) w5.heap.size _ [] (by rfl) HOA.out A1 c1 lx xs HLX.out.symm (by rfl) (HJ5.out _ HBA.out).1 HL1.out HBA.out.size ?_; intro va wa hown6 hg6; have hBa := HBA.out.grown hg6 HBA.out.size (fun q hq => (HOA.out.lt q hq).1))
            | ((with_reducible refine at_world ((w5.alloc (.cells #[] 3)).alloc zo).drew ?_); refine step_append_ints (by rfl) _ _ (by rfl) w5.heap.size _ [] (by rfl) HOB.out A1 c1 lx xs HLX.out.symm (by rfl) (HJ5.out _ HBB.out).1 HL1.out HBB.out.size ?_; intro va wa hown6 hg6; have hBa := HBB.out.grown hg6 HBB.out.size (fun q hq => (HOB.out.lt q hq).1); have hza := HZB.out.grown HOB.out hg6; have hpz : w5.heap.size ≤ w5.heap.size + 1 := Nat.le_succ _)
            | ((with_reducible refine at_world ((w5.alloc zo).alloc (.cells #[] 3)).drew ?_); refine step_append_ints (by rfl) _ _ (by rfl) w5.heap.size _ [] (by rfl) HOC.out A1 c1 lx xs HLX.out.symm (by rfl) (HJ5.out _ HBC.out).1 HL1.out HBC.out.size ?_; intro va wa hown6 hg6; have hBa := HBC.out.grown hg6 HBC.out.size (fun q hq => (HOC.out.lt q hq).1); have hza := HZC.out.grown HOC.out hg6; have hpz : w5.heap.size ≤ w5.heap.size := Nat.le_refl _)
            | ((with_reducible refine at_world wa ?_); refine step_append_ints (by rfl) _ _ (by rfl) w5.heap.size _ ([] ++ xs) (by rfl) hown6 A2 c2 ly ys HLY.out.symm (by rfl) (HJ5.out _ hBa).2.1 HL2.out hBa.size ?_; intro vb wb hown7 hg7; have hBb := hBa.grown hg7 hBa.size (fun q hq => (hown6.lt q hq).1); have hzb := hza.grown hown6 hg7; obtain ⟨Bb, kb, rfl, hIb⟩ := ints_of_own hown7; rw [HME.out])
            | ((with_reducible refine at_world wa ?_); refine step_append_ints (by rfl) _ _ (by rfl) w5.heap.size _ ([] ++ xs) (by rfl) hown6 A2 c2 ly ys HLY.out.symm (by rfl) (HJ5.out _ hBa).2.1 HL2.out hBa.size ?_; intro vb wb hown7 hg7; have hBb := hBa.grown hg7 hBa.size (fun q hq => (hown6.lt q hq).1); obtain ⟨Bb, kb, rfl, hIb⟩ := ints_of_own hown7; rw [HME.out])
            | ((with_reducible refine at_world (wa.alloc zo) ?_); have hBz := bel_al hBa hBa.size zo; have hownz := own_alloc hown6 zo; refine step_append_ints (by rfl) _ _ (by rfl) w5.heap.size _ ([] ++ xs) (by rfl) hownz A2 c2 ly ys HLY.out.symm (by rfl) (HJ5.out _ hBz).2.1 HL2.out hBz.size ?_; intro vb wb hown7 hg7; have hBb := hBz.grown hg7 hBz.size (fun q hq => (hownz.lt q hq).1); have hzb := (Zb.new wa).grown hownz hg7; have hpz : w5.heap.size ≤ wa.heap.size := hBa.size; obtain ⟨Bb, kb, rfl, hIb⟩ := ints_of_own hown7; rw [HME.out])
            | (go_at_call 9; refine (HR4.out Bb kb wb (HJ5.out _ hBb).2.2 hIb).mono ?_; rintro e wd ⟨Bd, kd, rfl, hId, hAd, hbd⟩; have hBd := hBb.trans (hbd.mono hBb.size); have hzd := hzb.below hbd; have hne := hzb.ne hAd; obtain ⟨r0, r1, f0, f1⟩ := hzd.cells)
            | (go_at_call 9; refine (HR4.out Bb kb wb (HJ5.out _ hBb).2.2 hIb).mono ?_; rintro e wd ⟨Bd, kd, rfl, hId, hAd, hbd⟩; have hBd := hBb.trans (hbd.mono hBb.size))
            | (have hBy := bel_al hBb hBb.size zo; go_at_call 9; refine (HR4.out Bb kb (wb.alloc zo) (HJ5.out _ hBy).2.2 (hIb.alloc _)).mono ?_; rintro e wd ⟨Bd, kd, rfl, hId, hAd, hbd⟩; have hBd := hBy.trans (hbd.mono hBy.size); have hzd := (Zb.new wb).below hbd; have hne := (Zb.new wb).ne hAd; have hpz : w5.heap.size ≤ wb.heap.size := hBb.size; obtain ⟨r0, r1, f0, f1⟩ := hzd.cells))
        all_goals
          go_wp2
          go_meet
          first
            | exact ⟨_, Bd, kd, rfl, rfl, rfl, hzd.put hId hne, below_put hBd hpz _ _⟩
            | exact ⟨_, Bd, kd, rfl, rfl, rfl, Bx.new hId, bel_al hBd hBd.size _⟩
    case rest =>
      as_aux_lemma =>
        obtain ⟨p6, B6, k6, rfl, rfl, rfl, hX6, hb6⟩ := hcut
        have X6 := Lib.hid hX6
        have Z6 := Lib.hid (Z4.out.below hb6)
        have HB6 : Hid (Below w.heap.size w wc) := Lib.hid (HB4.out.trans (hb6.mono HB4.out.size))
        clear hX6 hb6
        by_cases q2 : e2 = 0
        · have d2 : (e2 != 0) = false := by simp [q2]
          by_cases q3 : e3 = 0
          · have d3 : (e3 != 0) = false := by simp [q3]
            obtain ⟨f1, f2, f3⟩ := HF.out.1 q2 q3
            have HS := Lib.hid (sameCache_any R2 R3 B4 B6 k4 k6 M2 M3 wc Z6.out.ints X6.out.ints)
            rw [show decide (R2 = R3 ∧ M2 = M3) = true by simp [f1, f2]] at HS
            have hw : IntKind.i64.wrap (h1 + h2) = h1 + h2 := by rw [IntKind.wrap_i64]; omega
            have d4 : (h3 == h1 + h2) = true := by simpa using f3
            clear q2 q3 f1 f2 f3
            obtain ⟨-, x1, x2, -⟩ := X6.out
            obtain ⟨-, z1, z2, -⟩ := Z6.out
            go_wp2_with fail
            refine HS.out.mono ?_
            rintro e w7 ⟨rfl, hb7⟩
            have HB7 : Hid (Below w.heap.size w w7) := Lib.hid (HB6.out.trans (hb7.mono HB6.out.size))
            clear hb7 x1 x2 z1 z2
            go_wp2
            go_ret
            exact ⟨rfl, HB7.out⟩
          · have d3 : (e3 != 0) = true := by simpa using q3
            have d5 : (e2 == e3) = false := by simp [q2]; exact fun e => q3 e.symm
            have d6 : (e3 == 2) = true := by simpa using HF.out.2 (Or.inr q3) (by rw [q2]; exact fun e => q3 e.symm)
            clear q2 q3
            go_wp2
            go_ret
            exact ⟨rfl, HB6.out⟩
        · have d2 : (e2 != 0) = true := by simpa using q2
          by_cases q4 : e2 = e3
          · have d5 : (e2 == e3) = true := by simpa using q4
            clear q2 q4
            go_wp2
            go_ret
            exact ⟨rfl, HB6.out⟩
          · have d5 : (e2 == e3) = false := by simpa using q4
            have d6 : (e3 == 2) = true := by simpa using HF.out.2 (Or.inl q2) q4
            clear q2 q4
            go_wp2
            go_ret
            exact ⟨rfl, HB6.out⟩
  · have HE := Lib.hid (bad_facts q1)
    have d1 : (rnE r L xs != 0) = true := by simpa using q1
    have d2 : (rnH r L xs == 0) = true := by simpa using HE.out.1
    have d3 : (((rnL r L xs).length : Int) == 0) = true := by have := HE.out.2; simp [this]
    clear q1
    generalize rnR r L xs = R1 at *
    generalize rnL r L xs = M1 at *
    generalize rnH r L xs = h1 at *
    generalize rnE r L xs = e1 at *
    obtain ⟨-, x1, x2, -⟩ := X0.out
    go_enter Try.func5, Try.ntmps5
    go_wp2_with fail
    refine (HR1.out _ X0.out.ints (HJ.out.below HB0.out)).mono ?_
    rintro e w1 ⟨B1, d1', rfl, hI1, -, hb1⟩
    have Y1 := Lib.hid (Bx.new (r := R1) hI1)
    have HB1 : Hid (Below w.heap.size w (w1.alloc (co R1 B1 d1' M1))) := Lib.hid (bel_al (HB0.out.trans (hb1.mono HB0.out.size)) (Nat.le_trans HB0.out.size hb1.size) _)
    clear hI1 hb1 x1 x2
    go_wp2_with fail
    refine (begun_any _).mono ?_
    rintro e w3 ⟨rfl, hb3⟩
    have Y3 := Lib.hid (Y1.out.below hb3)
    have HB3 : Hid (Below w.heap.size w w3) := Lib.hid (HB1.out.trans (hb3.mono HB1.out.size))
    clear hb3
    obtain ⟨-, y1, y2, -⟩ := Y3.out
    generalize M1.length = n1 at *
    go_wp2
    go_ret
    exact ⟨rfl, HB3.out⟩

end Go.Proofs.Ytplgobggicojjaa.Lru
