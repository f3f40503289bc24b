/-
  Advancing in two steps.
-/
import Derived.Test.YtdhcbdoiodgfhaaWheelBegun
namespace Go.Proofs.Ytdhcbdoiodgfhaa.Whl
open Go.RowKit Go.Maps
set_option linter.unusedVariables false

theorem late_late {L : List Tm} {a b : Int} (h : a ≤ b) : lateT (lateT L a) b = lateT L b := by
  unfold lateT
  rw [List.filter_filter]
  congr 1
  funext u
  by_cases h1 : b < u.tm
  · have : a < u.tm := by omega
    simp [h1, this]
  · simp [h1]
theorem gone_gone {L : List Tm} {a b : Int} (hs : Sorted L) (h : a ≤ b) : goneT L b = goneT L a ++ goneT (lateT L a) b := by
  refine sorted_ext (List.Pairwise.filter _ hs) ?_ (fun t => ?_)
  · unfold Sorted
    rw [List.pairwise_append]
    refine ⟨List.Pairwise.filter _ hs, List.Pairwise.filter _ (List.Pairwise.filter _ hs), fun x hx y hy => ?_⟩
    have h1 := (List.mem_filter.1 hx).2
    have h2 := (List.mem_filter.1 (List.mem_filter.1 hy).1).2
    simp only [decide_eq_true_eq] at h1 h2
    exact .inl (by omega)
  · unfold goneT lateT
    rw [List.mem_append, List.mem_filter, List.mem_filter, List.mem_filter, List.mem_filter]
    simp only [decide_eq_true_eq]
    by_cases h1 : t.tm ≤ a
    · constructor
      · rintro ⟨h2, _⟩; exact .inl ⟨h2, h1⟩
      · rintro (⟨h2, _⟩ | ⟨⟨h2, _⟩, h3⟩)
        · exact ⟨h2, by omega⟩
        · exact ⟨h2, h3⟩
    · constructor
      · rintro ⟨h2, h3⟩; exact .inr ⟨⟨h2, by omega⟩, h3⟩
      · rintro (⟨h2, h3⟩ | ⟨⟨h2, _⟩, h3⟩)
        · exact absurd h3 h1
        · exact ⟨h2, h3⟩
theorem errV_ok {W : Whl} {a : Int} (h : errV W a = 0) : checkW W = 0 ∧ isT a ∧ W.now ≤ a := by
  unfold errV at h
  by_cases h0 : checkW W = 0
  · rw [if_pos h0] at h
    by_cases h1 : isT a
    · rw [if_pos h1] at h
      by_cases h2 : a < W.now
      · rw [if_pos h2] at h; exact absurd h (by decide)
      · exact ⟨h0, h1, by omega⟩
    · rw [if_neg h1] at h; exact absurd h (by decide)
  · rw [if_neg h0] at h; exact absurd h h0
theorem advM_ok {W : Whl} {a : Int} (h : errV W a = 0) : advM W a = wheelOf a (lateT W.all a) ∧ advG W a = goneT W.all a ∧ Good a (lateT W.all a) := by
  obtain ⟨h0, h1, h2⟩ := errV_ok h
  exact ⟨by unfold advM; rw [if_pos h], by unfold advG; rw [if_pos h], good_late (good_of h0) h1⟩
theorem advG_no {W : Whl} {a : Int} (h : errV W a ≠ 0) : advG W a = [] := by unfold advG; rw [if_neg h]
theorem parts_law {W : Whl} {a b : Int} (ha : errV W a = 0) (hb : errV (advM W a) b = 0) :
    errV W b = 0 ∧ advM W b = advM (advM W a) b ∧ advG W b = advG W a ++ advG (advM W a) b ∧ checkW (advM (advM W a) b) = 0 := by
  obtain ⟨e1, e2, g1⟩ := advM_ok ha
  obtain ⟨h0, h1, h2⟩ := errV_ok ha
  obtain ⟨k0, k1, k2⟩ := errV_ok hb
  obtain ⟨f1, f2, g2⟩ := advM_ok hb
  have hn : (advM W a).now = a := by rw [e1]; rfl
  rw [hn] at k2
  have hB : errV W b = 0 := by unfold errV; rw [if_pos h0, if_pos k1, if_neg (by omega)]
  obtain ⟨d1, d2, d3⟩ := advM_ok hB
  have hal : (advM W a).all = lateT W.all a := by rw [e1]; exact all_of g1
  rw [hal] at f1 f2 g2
  rw [late_late k2] at f1 g2
  refine ⟨hB, by rw [d1, f1], by rw [d2, e2, f2]; exact gone_gone (good_of h0).sorted k2, by rw [f1]; exact good_check g2⟩
theorem gone_len {L : List Tm} {a : Int} {now : Int} (h : Good now L) : (goneT L a).length ≤ 60 := Nat.le_trans (List.length_filter_le _ _) h.few
theorem advG_len (W : Whl) (a : Int) : (advG W a).length ≤ 60 := by
  by_cases h : errV W a = 0
  · rw [(advM_ok h).2.1]; exact gone_len (good_of (errV_ok h).1)
  · rw [advG_no h]; simp

/-- 'append(v, xs...)' under a guard that holds. -/
theorem wpList_append_want {w : World} {ops : Array Oper} {rest : List Oper} {o : Oper} {a : Act} {Q : Exit → Act → World → Prop} (hw : Region.wanted o (yielded ops a.tmps) = true) (s x : Operand)
    (ho : o.op = .call { callee := .builtin .append, args := #[s, x], argTypes := #[32, 32] })
    (base : Nat) (v : Value) (L : List Tm) (hs : a.eval s = v) (hown : OwnT w base v L) (B : Option Addr) (d : Nat) (M : List Tm) (hx : a.eval x = .slice B M.length d) (hM : Tms w B d M)
    (hn : L.length + M.length ≤ 1048576) (hbase : base ≤ w.heap.size)
    (h : ∀ v' w', OwnT w' base v' (L ++ M) → w.grownBy w' v.ownBlock → wpList Try.prog ops Q rest (a.put o.dst v') w') : wpList Try.prog ops Q (o :: rest) a w := by
  obtain ⟨i0, hi0, hz0, hz1, hz2⟩ := info_parts timer_info
  refine wpList_step fun K hK => ?_
  rw [if_pos hw]
  cases B with
  | none =>
    have hd := hM.2.2.1 rfl
    subst hd
    have e : M = [] := List.length_eq_zero_iff.1 (by have := hM.1; omega)
    subst e
    have hrun := run_append_owned_none (P := Try.prog) (w := w) base 32 o.type 26 i0 2 Try.underlying32 hi0 v L.length (encTs L) hown
    unfold Oper.wp
    simp only [List.length_nil] at hx
    simp [execOp, ho, resolve, invoke, builtin, hs, hx, hrun, Result.andThen]
    exact hK _ _ (h v w (by simpa using hown) ⟨rfl, rfl, rfl, Nat.le_refl _, fun _ _ _ => rfl⟩)
  | some ad =>
    refine wp_append_own w s x _ ho base 26 i0 _ 2 16 Try.underlying32 hi0 hz0 hz1 hz2 rfl (by decide) v L.length (encTs L) hs hown ad M.length d (encTs M) hx (encTs_len M) ?_ (encTs_one M) (by unfold maxLen; omega) (by omega) hbase ?_
    · intro j u hj
      have hl : j < M.length * 2 := by rw [← encTs_len]; exact (List.getElem?_eq_some_iff.1 hj).1
      obtain ⟨b, o, e, ht⟩ := hM.2.2.2 (by omega)
      cases e
      rw [Addr.add_lit]
      exact tms_cells ht j u hj
    · intro v' w' h1 h2 _
      exact hK _ _ (h v' w' (by unfold OwnT; rw [List.length_append, encTs_app]; exact h1) h2)

theorem own_empty (w : World) : OwnT (w.alloc (.cells #[] 26)) w.heap.size (.slice (some ⟨w.heap.size, 0, none⟩) 0 0) [] :=
  World.ownsRow_made w _ _ (Nat.le_refl _) (Nat.zero_le _) rfl

set_option maxRecDepth 100000 in
set_option maxHeartbeats 8000000 in
theorem wheelParts_walk (W : Whl) (A : Option Addr) (c : Nat) (a b : Int) (w : World) (hG : Grid 0 w A c W.slots) :
    Calls Try.prog 4 #[wv W A c, .int .i64 a, .int .i64 b] w fun e w' => e = .returned (.bool true) ∧ Below w.heap.size w w' := by
  have X0 := Lib.hid (Bx.new (W := W) hG)
  have HB0 : Hid (Below w.heap.size w (w.alloc (wo W A c))) := Lib.hid (bel_al (Below.refl _ _) (Nat.le_refl _) _)
  have HV0 := Lib.hid (advance_any W A c a _ X0.out.grid)
  have HL0 := Lib.hid (advG_len W a)
  have HN0 : Hid (errV W a ≠ 0 → advG W a = []) := Lib.hid advG_no
  have HP : Hid (errV W a = 0 → errV (advM W a) b = 0 → errV W b = 0 ∧ advM W b = advM (advM W a) b ∧ advG W b = advG W a ++ advG (advM W a) b ∧ checkW (advM (advM W a) b) = 0) := Lib.hid parts_law
  clear hG
  generalize advM W a = X at *
  generalize advG W a = P at *
  generalize errV W a = ea at *
  have HL1 := Lib.hid (advG_len X b)
  have HN1 : Hid (errV X b ≠ 0 → advG X b = []) := Lib.hid advG_no
  obtain ⟨-, x1, x2, -⟩ := X0.out
  go_enter Try.func4, Try.ntmps4
  go_wp2_with fail
  refine HV0.out.mono ?_
  rintro e w1 ⟨A1, c1, P1, d1, rfl, hg1, hT1, hA1, hb1⟩
  have X1 := Lib.hid ((X0.out.below hb1).alloc (wo X A1 c1))
  have Y1 := Lib.hid (Bx.new (W := X) (hg1.mono (Nat.zero_le _)))
  have T1 := Lib.hid (hT1.alloc (wo X A1 c1))
  have HB1 : Hid (Below w.heap.size w (w1.alloc (wo X A1 c1))) := Lib.hid (bel_al (HB0.out.trans (hb1.mono HB0.out.size)) (Nat.le_trans HB0.out.size hb1.size) _)
  clear x1 x2 hg1 hT1 hA1 hb1
  go_wp2_with fail
  refine (begun_any _).mono ?_
  rintro e w2 ⟨rfl, hb2⟩
  have X2 := Lib.hid (X1.out.below hb2)
  have Y2 := Lib.hid (Y1.out.below hb2)
  have T2 := Lib.hid (T1.out.below hb2)
  have HB2 : Hid (Below w.heap.size w w2) := Lib.hid (HB1.out.trans (hb2.mono HB1.out.size))
  have HT2 : Hid (T1.out = T1.out) := Lib.hid rfl
  clear hb2 HT2
  by_cases h0 : ea = 0
  · subst h0
    have HP1 := Lib.hid (HP.out rfl)
    obtain ⟨-, x1, x2, -⟩ := X2.out
    obtain ⟨-, y1, y2, -⟩ := Y2.out
    generalize w1.heap.size = p1 at *
    go_wp2_with fail
    refine (advance_any X A1 c1 b _ Y2.out.grid).mono ?_
    rintro e w3 ⟨A3, c3, P3, d3, rfl, hg3, hT3, hA3, hb3⟩
    generalize advM X b = Y at *
    generalize advG X b = Q at *
    generalize errV X b = eb at *
    have X3 := Lib.hid ((X2.out.below hb3).alloc (wo Y A3 c3))
    have Z3 := Lib.hid (Bx.new (W := Y) (hg3.mono (Nat.zero_le _)))
    have T3 := Lib.hid ((T2.out.below hb3).alloc (wo Y A3 c3))
    have U3 := Lib.hid (hT3.alloc (wo Y A3 c3))
    have HB3 : Hid (Below w.heap.size w (w3.alloc (wo Y A3 c3))) := Lib.hid (bel_al (HB2.out.trans (hb3.mono HB2.out.size)) (Nat.le_trans HB2.out.size hb3.size) _)
    clear x1 x2 y1 y2 hg3 hT3 hA3 hb3
    by_cases h1 : eb = 0
    · subst h1
      obtain ⟨hE, hM, hGn, hC⟩ := HP1.out rfl
      have HV4 := Lib.hid (advance_any W A c b _ X3.out.grid)
      rw [hE, hM, hGn] at HV4
      have HC := Lib.hid hC
      clear hE hM hGn hC
      obtain ⟨-, x1, x2, -⟩ := X3.out
      go_wp2_with fail
      refine HV4.out.mono ?_
      rintro e w4 ⟨A4, c4, P4, d4, rfl, hg4, hT4, hA4, hb4⟩
      have Z4 := Lib.hid ((Z3.out.below hb4).alloc (wo Y A4 c4))
      have Y4 := Lib.hid (Bx.new (W := Y) (hg4.mono (Nat.zero_le _)))
      have T4 := Lib.hid ((T3.out.below hb4).alloc (wo Y A4 c4))
      have U4 := Lib.hid ((U3.out.below hb4).alloc (wo Y A4 c4))
      have V4 := Lib.hid (hT4.alloc (wo Y A4 c4))
      have HB4 : Hid (Below w.heap.size w (w4.alloc (wo Y A4 c4))) := Lib.hid (bel_al (HB3.out.trans (hb4.mono HB3.out.size)) (Nat.le_trans HB3.out.size hb4.size) _)
      clear x1 x2 hg4 hT4 hA4 hb4
      obtain ⟨-, x1, x2, -⟩ := Z4.out
      obtain ⟨-, y1, y2, -⟩ := Y4.out
      go_wp2_with fail
      refine (sameWheel_eq A3 A4 c3 c4 Y _ Z4.out.grid Y4.out.grid).mono ?_
      rintro e w5 ⟨rfl, hb5⟩
      have Z5 := Lib.hid (Z4.out.below hb5)
      have T5 := Lib.hid (T4.out.below hb5)
      have U5 := Lib.hid (U4.out.below hb5)
      have V5 := Lib.hid (V4.out.below hb5)
      have HB5 : Hid (Below w.heap.size w w5) := Lib.hid (HB4.out.trans (hb5.mono HB4.out.size))
      clear x1 x2 y1 y2 hb5
      generalize w3.heap.size = p3 at *
      have HO5 := Lib.hid (own_empty w5)
      have HB5' : Hid (Below w5.heap.size w5 (w5.alloc (.cells #[] 26))) := Lib.hid (bel_al (Below.refl _ _) (Nat.le_refl _) _)
      go_wp2_with (first
        | (at_builtin; refine wpList_append_want (by rfl) _ _ (by rfl) w5.heap.size _ [] (by rfl) HO5.out P1 d1 P (by rfl) (T5.out.alloc _) (by have := HL0.out; simp; omega) HB5'.out.size ?_; intro v6 w6 hown6 hg6; have HO6 : Hid (OwnT w6 w5.heap.size v6 P) := Lib.hid hown6; have HB6 : Hid (Below w5.heap.size w5 w6) := Lib.hid (HB5'.out.grown hg6 HB5'.out.size (fun q hq => (HO5.out.lt q hq).1)); clear hown6 hg6)
        | (at_builtin; refine wpList_append_want (by rfl) _ _ (by rfl) w5.heap.size _ P (by rfl) HO6.out P3 d3 Q (by rfl) (U5.out.below HB6.out) (by have := HL0.out; have := HL1.out; omega) HB6.out.size ?_; intro v7 w7 hown7 hg7; obtain ⟨A7, c7, rfl, hT7, -⟩ := tms_of_own hown7))
      have HB7 : Hid (Below w5.heap.size w5 w7) := Lib.hid (HB6.out.grown hg7 HB6.out.size (fun q hq => (HO6.out.lt q hq).1))
      have T7 := Lib.hid hT7
      have V7 := Lib.hid (V5.out.below HB7.out)
      have Z7 := Lib.hid (Z5.out.below HB7.out)
      have HB8 : Hid (Below w.heap.size w w7) := Lib.hid (HB5.out.trans (HB7.out.mono HB5.out.size))
      clear hown7 hg7 hT7
      have HST := sameTimers_eq P4 A7 d4 c7 (P ++ Q) w7 V7.out T7.out
      rw [List.length_append] at HST
      have HST := Lib.hid HST
      refine HST.out.mono ?_
      rintro e w8 ⟨rfl, hb8⟩
      have Z8 := Lib.hid (Z7.out.below hb8)
      have HB9 : Hid (Below w.heap.size w w8) := Lib.hid (HB8.out.trans (hb8.mono HB8.out.size))
      clear hb8 HST
      obtain ⟨-, x1, x2, -⟩ := Z8.out
      go_wp2_with fail
      refine (check_any Y A3 c3 _ Z8.out.grid).mono ?_
      rintro e w9 ⟨rfl, hb9⟩
      rw [HC.out]
      have HB10 : Hid (Below w.heap.size w w9) := Lib.hid (HB9.out.trans (hb9.mono HB9.out.size))
      clear hb9 x1 x2
      go_wp2
      go_ret
      exact ⟨rfl, HB10.out⟩
    · have q : (eb != 0) = true := by simpa using h1
      have hP := HN1.out h1
      clear h1
      subst hP
      go_wp2
      go_ret
      exact ⟨rfl, HB3.out⟩
  · have q : (ea != 0) = true := by simpa using h0
    have hP := HN0.out h0
    clear h0
    subst hP
    go_wp2
    go_ret
    exact ⟨rfl, HB2.out⟩

end Go.Proofs.Ytdhcbdoiodgfhaa.Whl
