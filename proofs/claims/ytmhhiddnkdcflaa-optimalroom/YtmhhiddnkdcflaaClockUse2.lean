/-
  Package clock: use.
-/
import Derived.Test.YtmhhiddnkdcflaaClockUse
import Derived.Deep.AppendLies
import Derived.Laws.AppendOwn
import Derived.Laws.AppendOwnNone
namespace Go.Proofs.Ytmhhiddnkdcflaa.Clk
open Go.RowKit
open Lru (isRm isK keysE keysE_zero traceE trace_zero)
set_option linter.unusedVariables false
set_option maxRecDepth 100000

theorem OwnF.below {w w' : World} {base : Nat} {v : Value} {F : List Fr} (h : OwnF w base v F) (hb : Below w.heap.size w w') : OwnF w' base v F :=
  World.ownsRow.kept (row := none) h ⟨hb.os, hb.tape, hb.output, hb.size, fun k hk _ => hb.block k hk⟩ (by cases v.ownBlock with | none => exact .inl rfl | some k => exact .inr (by simp))
/-- One frame in a block of its own. -/
theorem frs_one (w : World) (f : Fr) : Frs (w.alloc (fo f)) (some ⟨w.heap.size, 0, none⟩) 1 [f] := by
  refine ⟨Nat.le_refl _, by unfold maxLen; decide, fun e => (by cases e), fun _ => ⟨w.heap.size, 0, rfl, by simp, fun i hi => ?_⟩⟩
  obtain rfl : i = 0 := by simp at hi; omega
  exact ⟨by simp [go_sem, gf], by simp [go_sem, gf]⟩
theorem wpList_append_frs {w : World} {ops : Array Oper} {rest : List Oper} {o : Oper} {a : Act} {Q : Exit → Act → World → Prop} (hgd : o.guard = none) (s x : Operand)
    (ho : o.op = .call { callee := .builtin .append, args := #[s, x], argTypes := #[40, 40] })
    (base : Nat) (v : Value) (L : List Fr) (hs : a.eval s = v) (hown : OwnF w base v L) (B : Option Addr) (d m : Nat) (M : List Fr) (hm : m = M.length) (hx : a.eval x = .slice B m d) (hM : Frs w B d M)
    (hn : L.length + m ≤ 16777216) (hbase : base ≤ w.heap.size)
    (h : ∀ v' w', OwnF w' base v' (L ++ M) → w.grownBy w' v.ownBlock → wpList Try.prog ops Q rest (a.put o.dst v') w') : wpList Try.prog ops Q (o :: rest) a w := by
  subst hm
  obtain ⟨i0, hi0, hz0, hz1, hz2⟩ := info_parts frame_info
  cases B with
  | none =>
    have hd := hM.2.2.1 rfl
    subst hd
    have e : M = [] := List.length_eq_zero_iff.1 (by have := hM.1; omega)
    subst e
    refine wpList_append_own_none hgd s x _ ho base 83 i0 2 Try.underlying40 hi0 v L.length (encFs L) hs hown hx (h v w (by simpa using hown) ⟨rfl, rfl, rfl, Nat.le_refl _, fun _ _ _ => rfl⟩)
  | some ad =>
    refine wpList_append_own w hgd s x _ ho base 83 i0 _ 2 16 Try.underlying40 hi0 hz0 hz1 hz2 rfl (by decide) v L.length (encFs L) hs hown ad M.length d (encFs M) hx (encFs_len M) ?_ (encFs_one M) (by unfold maxLen; omega) (by omega) hbase ?_
    · intro j u hj
      have hl : j < M.length * 2 := by rw [← encFs_len]; exact (List.getElem?_eq_some_iff.1 hj).1
      obtain ⟨b, o, e, ht⟩ := hM.2.2.2 (by omega)
      cases e
      rw [Addr.add_lit]
      exact frs_cells ht j u hj
    · intro v' w' h1 h2 _
      refine h v' w' ?_ h2
      unfold OwnF
      rw [encFs_app, List.length_append]
      exact h1

/-- What use gives. -/
def UR (r : Int) (s : St) (x : Int) (base p : Nat) (w : World) (e : Ending) (w' : World) : Prop :=
  ∃ v', e = .returned (.tuple #[.bool (decide (x ∈ keys s.2)), .int .i64 (gone r s x)]) ∧ Kb w' p r ((tch r s x).1 : Int) v' ∧ OwnF w' base v' (tch r s x).2 ∧ Below base w w'

set_option maxHeartbeats 2000000 in
theorem use_any (base p : Nat) (r : Int) (h : Nat) (v : Value) (F : List Fr) (x : Int) (w : World) (K : Kb w p r (h : Int) v) (O : OwnF w base v F) (hp : base ≤ p) (hbw : base ≤ w.heap.size) (hg : Good r (h : Int) F) :
    Calls Try.prog 34 #[.pointer (some ⟨p, 0, none⟩), .int .i64 x] w (UR r (h, F) x base p w) := by
  obtain ⟨A, c, rfl, hF, hA⟩ := frs_of_own O
  have hr := hg.room
  have hf := hg.few
  have h40 : F.length ≤ 40 := by have := hr.2; omega
  have HK := Lib.hid K
  have HO := Lib.hid O
  have HP := Lib.hid hp
  have HW := Lib.hid hbw
  have HX := Lib.hid (find_any A c F x w hF)
  have HG := Lib.hid hg
  obtain ⟨x1, x2, x3, y1, y2, y3⟩ := K.cells
  clear K O hp hbw hF hA hg
  rw [fnd_eq] at HX
  by_cases hx : x ∈ keys F
  · obtain ⟨hk, hky⟩ := idx_key hx
    rw [if_pos hx] at HX
    have HT : Hid (tch r (h, F) x = (h, F.set ((keys F).idxOf x) ⟨x, true⟩)) := Lib.hid (tch_hit (s := (h, F)) hx)
    have HGo : Hid (gone r (h, F) x = -1) := Lib.hid (by unfold gone; rw [if_pos hx])
    have HD : Hid (decide (x ∈ keys F) = true) := Lib.hid (by simpa using hx)
    generalize (keys F).idxOf x = k at *
    obtain ⟨g, c', e, hgb⟩ := HO.out.form (by omega)
    cases e
    have q1 : decide ((0 : Int) ≤ (k : Int)) = true := by simp
    have i1 : (k : Int) < (F.length : Int) := by omega
    have i2 : (0 : Int) ≤ (k : Int) := by omega
    go_enter Try.func34, Try.ntmps34
    go_wp2_with fail
    refine HX.out.mono ?_
    rintro e w1 ⟨rfl, hb1⟩
    have HK1 := Lib.hid (HK.out.below hb1)
    have HO1 := Lib.hid (HO.out.below hb1)
    have HB1 : Hid (Below base w w1) := Lib.hid (hb1.mono HW.out)
    clear hb1 x1 x2 x3 y1 y2 y3
    obtain ⟨x1, x2, x3, y1, y2, y3⟩ := HK1.out.cells
    obtain ⟨z1, z2, z3, z4⟩ := HO1.out.cells rfl (i := k) hk
    have HO2 := Lib.hid (HO1.out.putU rfl (i := k) hk true)
    rw [hky] at HO2
    have HK2 := Lib.hid (HK1.out.other (a := ⟨g, k * 2 + 1, none⟩) (fun e => HK1.out.own HO1.out (by rw [e]; rfl)) (.bool true))
    have HB2 := Lib.hid (bel_set HB1.out (a := ⟨g, k * 2 + 1, none⟩) hgb (.bool true))
    clear hky hr hf
    generalize F.length = n at *
    go_wp2
    refine bodyPost_ret (v := .tuple #[.bool true, .int .i64 (-1)]) (by simp [results, Try.results34, go_sem]) rfl ?_
    exact ⟨_, by rw [HGo.out]; show _ = Ending.returned (.tuple #[.bool (decide (x ∈ keys F)), _]); rw [HD.out], by rw [HT.out]; exact HK2.out, by rw [HT.out]; exact HO2.out, HB2.out⟩
  · have HD : Hid (decide (x ∈ keys F) = false) := Lib.hid (by simpa using hx)
    rw [if_neg hx] at HX
    have q1 : decide ((0 : Int) ≤ -1) = false := by decide
    by_cases hl : (F.length : Int) < r
    · have HT : Hid (tch r (h, F) x = (h, F ++ [⟨x, false⟩])) := Lib.hid (tch_room (s := (h, F)) hx hl)
      have HGo : Hid (gone r (h, F) x = -1) := Lib.hid (by unfold gone; rw [if_neg hx, if_pos hl])
      have q2 : decide ((F.length : Int) < r) = true := by simpa using hl
      have H40 := Lib.hid h40
      clear hx hr hf hl h40
      go_enter Try.func34, Try.ntmps34
      go_wp2_with fail
      refine HX.out.mono ?_
      rintro e w1 ⟨rfl, hb1⟩
      have HK1 := Lib.hid (HK.out.below hb1)
      have HO1 := Lib.hid (HO.out.below hb1)
      have HB1 : Hid (Below base w w1) := Lib.hid (hb1.mono HW.out)
      clear hb1 x1 x2 x3 y1 y2 y3
      obtain ⟨x1, x2, x3, y1, y2, y3⟩ := HK1.out.cells
      go_wp2_with fail
      go_quiet (fail)
      have HK2 : Hid (Kb (w1.drewN nq) p r (h : Int) (.slice A F.length c)) := HK1
      have HO2 : Hid (OwnF (w1.drewN nq) base (.slice A F.length c) F) := HO1
      have HB2 := Lib.hid (bel_drewN HB1.out nq)
      clear x1 x2 x3 y1 y2 y3
      generalize (w1.drewN nq) = w2 at *
      have HK3 := Lib.hid (HK2.out.alloc (fo ⟨x, false⟩))
      have HO3 := Lib.hid (HO2.out.alloc (fo ⟨x, false⟩))
      have HM3 := Lib.hid (frs_one w2 ⟨x, false⟩)
      have HLn : Hid (F.length + 1 ≤ 16777216) := Lib.hid (by have := H40.out; omega)
      have HZ2 : Hid (base ≤ w2.heap.size) := Lib.hid (Nat.le_trans HW.out HB2.out.size)
      have HZ3 : Hid (base ≤ (w2.alloc (fo ⟨x, false⟩)).heap.size) := Lib.hid (Nat.le_trans HZ2.out (by simp))
      have HB3 := Lib.hid (bel_al HB2.out HZ2.out (fo ⟨x, false⟩))
      obtain ⟨x1, x2, x3, y1, y2, y3⟩ := HK2.out.cells
      go_wp2_with (at_builtin; refine wpList_append_frs (by rfl) _ _ (by rfl) base _ F (by rfl) HO3.out (some ⟨w2.heap.size, 0, none⟩) 1 _ [⟨x, false⟩] rfl (by rfl) HM3.out HLn.out HZ3.out ?_; intro v4 w4 hown4 hg4; obtain ⟨A4, c4, hv4, -, -⟩ := frs_of_own hown4; generalize (F ++ [(⟨x, false⟩ : Fr)]).length = n4 at hv4; subst hv4; have hK4 := HK3.out.grown HO3.out hg4; obtain ⟨u1, u2, u3, u4, u5, u6⟩ := hK4.cells)
      have HK5 := Lib.hid (hK4.setV (.slice A4 n4 c4))
      have HO5 := Lib.hid (OwnF.set hown4 (hK4.own hown4) 2 (.slice A4 n4 c4))
      have HB5 : Hid (Below base w (w4.setCell ⟨p, 2, none⟩ (.slice A4 n4 c4))) := Lib.hid (bel_set (HB3.out.grown hg4 HZ3.out (fun k hk => (HO3.out.lt k hk).1)) (a := ⟨p, 2, none⟩) HP.out (.slice A4 n4 c4))
      clear hown4 hg4 hK4 u1 u2 u3 u4 u5 u6 x1 x2 x3 y1 y2 y3
      go_wp2
      refine bodyPost_ret (v := .tuple #[.bool false, .int .i64 (-1)]) (by simp [results, Try.results34, go_sem]) rfl ?_
      exact ⟨_, by rw [HGo.out]; show _ = Ending.returned (.tuple #[.bool (decide (x ∈ keys F)), _]); rw [HD.out], by rw [HT.out]; exact HK5.out, by rw [HT.out]; exact HO5.out, HB5.out⟩
    · have HT : Hid (tch r (h, F) x = rep (h, F) x) := Lib.hid (tch_full (s := (h, F)) hx hl)
      have HGo : Hid (gone r (h, F) x = gon (h, F)) := Lib.hid (by unfold gone; rw [if_neg hx, if_neg hl])
      have q2 : decide ((F.length : Int) < r) = false := by simpa using hl
      have hh := HG.out.hand
      unfold handOk at hh
      have hr1 := hr.1
      have hh1 : h < F.length := by omega
      obtain ⟨g, c', e, hgb⟩ := HO.out.form (by omega)
      cases e
      have HRp := Lib.hid (fun (W : World) (hK : Kb W p r (h : Int) (.slice (some ⟨g, 0, none⟩) F.length c)) (hO : OwnF W base (.slice (some ⟨g, 0, none⟩) F.length c) F) => replace_any base p r h g F.length c F x W hK hO HP.out hgb rfl h40 hh1)
      clear hx hr hf hl hh hr1
      go_enter Try.func34, Try.ntmps34
      go_wp2_with fail
      refine HX.out.mono ?_
      rintro e w1 ⟨rfl, hb1⟩
      have HK1 := Lib.hid (HK.out.below hb1)
      have HO1 := Lib.hid (HO.out.below hb1)
      have HB1 : Hid (Below base w w1) := Lib.hid (hb1.mono HW.out)
      clear hb1 x1 x2 x3 y1 y2 y3
      obtain ⟨x1, x2, x3, y1, y2, y3⟩ := HK1.out.cells
      go_wp2_with fail
      go_quiet (fail)
      have HK2 : Hid (Kb (w1.drewN nq) p r (h : Int) (.slice (some ⟨g, 0, none⟩) F.length c)) := HK1
      have HO2 : Hid (OwnF (w1.drewN nq) base (.slice (some ⟨g, 0, none⟩) F.length c) F) := HO1
      have HB2 := Lib.hid (bel_drewN HB1.out nq)
      clear x1 x2 x3 y1 y2 y3
      generalize (w1.drewN nq) = w2 at *
      go_wp2_with fail
      refine (HRp.out _ HK2.out HO2.out).mono ?_
      rintro e w3 ⟨rfl, hK3, hO3, hb3⟩
      have HK3 := Lib.hid hK3
      have HO3 := Lib.hid hO3
      have HB3 := Lib.hid (HB2.out.trans hb3)
      clear hK3 hO3 hb3
      go_wp2
      refine bodyPost_ret (v := .tuple #[.bool false, .int .i64 (gon (h, F))]) (by simp [results, Try.results34, go_sem]) rfl ?_
      exact ⟨_, by rw [HGo.out]; show _ = Ending.returned (.tuple #[.bool (decide (x ∈ keys F)), _]); rw [HD.out], by rw [HT.out]; exact HK3.out, by rw [HT.out]; exact HO3.out, HB3.out⟩

end Go.Proofs.Ytmhhiddnkdcflaa.Clk
