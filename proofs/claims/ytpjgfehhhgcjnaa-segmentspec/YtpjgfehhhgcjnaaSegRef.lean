/-
  The reference of package segment: butKey, HallsCheck.
-/
import Derived.Test.YtpjgfehhhgcjnaaSegInts
import Derived.Test.YtpjgfehhhgcjnaaSegFacts
import Derived.Test.YtpjgfehhhgcjnaaKeysRef
import Derived.Deep.AppendLies
namespace Go.Proofs.Ytpjgfehhhgcjnaa.Seg
open Go.RowKit Go.Maps
open Lru (isRm isK keysE keysE_zero traceE trace_zero touch take_one)
set_option linter.unusedVariables false
set_option maxRecDepth 100000

/-- 'append(v, n)': the row lies where it lay, or at a new block. -/
theorem wpList_append_lies1 {w : World} {ops : Array Oper} {rest : List Oper} {o : Oper} {a : Act} {Q : Exit → Act → World → Prop} (hgd : o.guard = none) (s x : Operand)
    (ho : o.op = .call { callee := .builtin .append, args := #[s, x], argTypes := #[22, 22] })
    (base : Nat) (v : Value) (L : List Int) (hs : a.eval s = v) (hown : OwnI w base v L) (n : Int) (t : TypeId) (hx : a.eval x = .slice (some ⟨w.heap.size, 0, none⟩) 1 1)
    (hn : L.length ≤ 1000) (hbase : base ≤ w.heap.size)
    (h : ∀ g cap w', OwnI w' base (.slice (some ⟨g, 0, none⟩) (L.length + 1) cap) (L ++ [n]) → (w.alloc (.cells #[.int .i64 n] t)).grownBy w' v.ownBlock → (v.ownBlock = some g ∨ g = w.heap.size + 1) → wpList Try.prog ops Q rest (a.put o.dst (.slice (some ⟨g, 0, none⟩) (L.length + 1) cap)) w') : wpList Try.prog ops Q (o :: rest) a (w.alloc (.cells #[.int .i64 n] t)) := by
  obtain ⟨i0, hi0, hz0, hz1, hz2⟩ := info_parts int_info
  refine wpList_step fun K hK => ?_
  refine step_append_lies (w.alloc (.cells #[.int .i64 n] t)) hgd s x 22 ho base 3 i0 _ 1 8 Try.underlying22 hi0 hz0 hz1 hz2 rfl (by omega) v L.length (L.map encI) hs (own_al hown _) ⟨w.heap.size, 0, none⟩ 1 1 [encI n] hx (by rfl) ?_ ?_ (by omega) (by unfold maxLen; omega) (by omega) (by simp; omega) (w.heap.size + 1) (by simp) ?_
  · intro j u hj
    rw [Addr.add_lit, Nat.zero_add]
    cases j with
    | zero => simp at hj; rw [← hj]; simp [go_sem]
    | succ j => simp at hj
  · intro u hu
    simp only [List.mem_cons, List.not_mem_nil, or_false] at hu
    subst hu
    rfl
  · intro g cap w1 hown1 hgr hat _
    have e : L.map encI ++ [encI n] = (L ++ [n]).map encI := by simp
    rw [e] at hown1
    refine hK _ _ (h g cap w1 ?_ hgr hat)
    show World.ownsRow _ _ _ _ _ (L ++ [n]).length _
    rw [show (L ++ [n]).length = L.length + 1 by simp]
    exact hown1

/-! ### butKey -/
def bkA (P L : List Int) (x : Int) (k : Nat) : List Int := P ++ (L.take k).filter (· != x)
theorem bkA_hit {P L : List Int} {x : Int} {k : Nat} (hk : k < L.length) (h : gi L k = x) : bkA P L x (k + 1) = bkA P L x k := by
  unfold bkA
  rw [take_one hk, List.filter_append, h]
  simp
theorem bkA_miss {P L : List Int} {x : Int} {k : Nat} (hk : k < L.length) (h : gi L k ≠ x) : bkA P L x (k + 1) = bkA P L x k ++ [gi L k] := by
  unfold bkA
  rw [take_one hk, List.filter_append, ← List.append_assoc]
  congr 1
  simp [h]
theorem cut_room {X : List Int} {R : Nat} {e : Int} (h : (X.take R).length < R) : (X ++ [e]).take R = X.take R ++ [e] ∧ (X ++ [e]).drop R = X.drop R := by
  rw [List.length_take] at h
  rw [List.take_of_length_le (by simp; omega), List.take_of_length_le (by omega), List.drop_of_length_le (by simp; omega), List.drop_of_length_le (by omega)]
  exact ⟨rfl, rfl⟩
theorem cut_full {X : List Int} {R : Nat} {e : Int} (h : ¬ (X.take R).length < R) : (X ++ [e]).take R = X.take R ∧ (X ++ [e]).drop R = X.drop R ++ [e] := by
  rw [List.length_take] at h
  rw [List.take_append_of_le_length (by omega), List.drop_append_of_le_length (by omega)]
  exact ⟨rfl, rfl⟩
theorem apart_step {w w' : World} {base g n c : Nat} {v u : Value} {M : List Int} (hA : Apart v u) (hu : OwnI w base u M) (h : v.ownBlock = some g ∨ g = w.heap.size + 1) : Apart (.slice (some ⟨g, 0, none⟩) n c) u := by
  intro g' e e2
  have e : g = g' := by cases e; rfl
  subst e
  rcases h with h | h
  · exact hA g h e2
  · have := (hu.lt _ e2).2; omega

set_option maxHeartbeats 16000000 in
theorem butKey_any (A : Option Addr) (c n : Nat) (L : List Int) (x first r : Int) (P : List Int) (w : World) (hn : L.length = n) (hI : Ints w A c L) (hr : 1 ≤ r) (hr2 : r ≤ 40) (hl : n ≤ 40) (hP : P = if 0 ≤ first then [first] else []) :
    Calls Try.prog 26 #[.slice A n c, .int .i64 x, .int .i64 first, .int .i64 r] w fun e w' => ∃ A' c' n' B' d' m', e = .returned (.tuple #[.slice A' n' c', .slice B' m' d']) ∧ OwnI w' w.heap.size (.slice A' n' c') ((P ++ L.filter (· != x)).take r.toNat) ∧ OwnI w' w.heap.size (.slice B' m' d') ((P ++ L.filter (· != x)).drop r.toNat) ∧ Below w.heap.size w w' := by
  have HI := Lib.hid hI
  have HLN := Lib.hid hn
  have HR : Hid (1 ≤ r.toNat ∧ r.toNat ≤ 40 ∧ (r.toNat : Int) = r) := Lib.hid ⟨by omega, by omega, by omega⟩
  obtain ⟨R, hR⟩ : ∃ R, r.toNat = R := ⟨_, rfl⟩
  rw [hR] at HR ⊢
  clear hI hn hR
  have HP0 : Hid (P.length ≤ 1) := Lib.hid (by rw [hP]; split <;> simp)
  have HE : Hid ((P ++ L.filter (· != x)) = bkA P L x n) := Lib.hid (by unfold bkA; rw [← HLN.out, List.take_length])
  by_cases hf : 0 ≤ first
  case' pos =>
    have q0 : decide ((0 : Int) ≤ first) = true := by simpa using hf
    rw [if_pos hf] at hP
    have H0 : Hid ((bkA P L x 0).take R = [] ++ [first] ∧ (bkA P L x 0).drop R = []) := Lib.hid (by
      rw [hP]; unfold bkA; simp only [List.take_zero, List.filter_nil, List.append_nil]
      exact ⟨List.take_of_length_le (by have := HR.out.1; simp; omega), List.drop_of_length_le (by have := HR.out.1; simp; omega)⟩)
    clear hf hP
    go_enter Try.func26, Try.ntmps26
    go_wp2_with (first
      | (at_builtin; refine wpList_append_lies1 rfl _ _ rfl w.heap.size _ [] rfl (own_none w _) first _ rfl (by simp) (Nat.le_refl _) ?_)
      | go_in)
    intro g0 cap0 w1 h3 h4 h5
    have HO1 : Hid (OwnI w1 w.heap.size (.slice (some ⟨g0, 0, none⟩) (([] : List Int).length + 1) cap0) ((bkA P L x 0).take R)) := Lib.hid (by rw [H0.out.1]; exact h3)
    have HG1 : Hid (OwnI w1 w.heap.size (.slice none 0 0) ((bkA P L x 0).drop R)) := Lib.hid (by rw [H0.out.2]; exact own_none _ _)
    have HA1 : Hid (Apart (.slice (some ⟨g0, 0, none⟩) (([] : List Int).length + 1) cap0) (.slice none 0 0)) := Lib.hid (fun _ _ e => by cases e)
    have HB1 : Hid (Below w.heap.size w w1) := Lib.hid (by
      have hb := bel_al (Below.refl w.heap.size w) (Nat.le_refl _) (.cells #[.int .i64 first] 3)
      exact hb.grown h4 hb.size (fun k hk => by cases hk))
    clear h3 h4 h5 q0
    go_wp2
  case' neg =>
    have q0 : decide ((0 : Int) ≤ first) = false := by simpa using hf
    rw [if_neg hf] at hP
    have H0 : Hid ((bkA P L x 0).take R = [] ∧ (bkA P L x 0).drop R = []) := Lib.hid (by rw [hP]; unfold bkA; simp)
    clear hf hP
    have HO1 : Hid (OwnI w w.heap.size (.slice none 0 0) ((bkA P L x 0).take R)) := Lib.hid (by rw [H0.out.1]; exact own_none _ _)
    have HG1 : Hid (OwnI w w.heap.size (.slice none 0 0) ((bkA P L x 0).drop R)) := Lib.hid (by rw [H0.out.2]; exact own_none _ _)
    have HA1 : Hid (Apart (.slice none 0 0) (.slice none 0 0)) := Lib.hid (fun _ _ e => by cases e)
    have HB1 : Hid (Below w.heap.size w w) := Lib.hid (Below.refl _ _)
    go_enter Try.func26, Try.ntmps26
    go_wp2
  all_goals
    go_loopw [10, 11, 12] (fun vo vg i wr => ∃ k : Nat, k ≤ n ∧ i = .int .i64 (k : Int) ∧ OwnI wr w.heap.size vo ((bkA P L x k).take R) ∧ OwnI wr w.heap.size vg ((bkA P L x k).drop R) ∧ Hid (Apart vo vg) ∧ Below w.heap.size w wr) (fun _ _ i _ => n - (intOf i).toNat)
    case atStart => exact ⟨0, by omega, rfl, HO1.out, HG1.out, HA1, HB1.out⟩
    case round =>
      clear HO1 HG1 HA1 HB1 H0
      obtain ⟨k, hk, rfl, ho, hg, HAp, hb⟩ := hrel
      obtain ⟨Ao, co, rfl, -⟩ := ints_of_own ho
      obtain ⟨Ag, cg, rfl, -⟩ := ints_of_own hg
      have HO := Lib.hid ho
      have HG := Lib.hid hg
      have HB := Lib.hid hb
      have HIr := Lib.hid (HI.out.below hb)
      have HBs := Lib.hid hb.size
      clear ho hg hb
      by_cases hlt : k < n
      · have hin : (k : Int) < (n : Int) := by omega
        have hiB : (0 : Int) ≤ (k : Int) := by omega
        have hkL : k < L.length := by rw [HLN.out]; exact hlt
        obtain ⟨b, o, rfl, ht⟩ := HIr.out.2.2.2 (by omega)
        have e1 := ht.2 k hkL
        clear ht
        have HX : Hid (((bkA P L x k).take R).length ≤ 1000 ∧ ((bkA P L x k).drop R).length ≤ 1000) := Lib.hid (by
          have h1 : (bkA P L x k).length ≤ 41 := by
            unfold bkA
            rw [List.length_append]
            have h2 := List.length_filter_le (· != x) (L.take k)
            rw [List.length_take] at h2
            have := HP0.out
            omega
          rw [List.length_take, List.length_drop]
          omega)
        by_cases q1 : gi L k = x
        · have d1 : (gi L k == x) = true := by simpa using q1
          have HS := Lib.hid (bkA_hit (P := P) hkL q1)
          clear q1 hkL
          generalize gi L k = y at *
          go_wp2
          go_roundw
          case rel => exact ⟨k + 1, by omega, by go_num, by rw [HS.out]; exact HO.out, by rw [HS.out]; exact HG.out, HAp, HB.out⟩
          case measure => simp [intOf]; omega
        · have d1 : (gi L k == x) = false := by simpa using q1
          have HS := Lib.hid (bkA_miss (P := P) hkL q1)
          clear q1 hkL
          generalize gi L k = y at *
          generalize bkA P L x k = X at *
          by_cases q2 : (X.take R).length < R
          · have d2 : decide (((X.take R).length : Int) < r) = true := by have := HR.out.2.2; simp; simp at q2; omega
            have HC := Lib.hid (cut_room (e := y) q2)
            clear q2
            generalize X.take R = T at *
            generalize X.drop R = D at *
            generalize hTn : T.length = tn at *
            have HTn := Lib.hid hTn
            clear hTn
            go_wp2_with (first
              | (at_builtin; refine wpList_append_lies1 rfl _ _ rfl w.heap.size _ T rfl HO.out y _ rfl (by rw [HTn.out]; exact HX.out.1) HBs.out ?_)
              | go_in)
            intro g cap w2 h3 h4 h5
            have HO2 := Lib.hid h3
            have HG2 := Lib.hid (own_grown (own_al HG.out _) h4 HAp.out.symm)
            have HA2 := Lib.hid (apart_step (w' := w2) (n := T.length + 1) (c := cap) HAp.out HG.out h5)
            have HB2 := Lib.hid ((bel_al HB.out HBs.out _).grown h4 (Nat.le_trans HBs.out (by simp)) (fun q hq => (HO.out.lt q hq).1))
            clear h3 h4 h5 e1
            go_wp2
            go_roundw
            case rel => exact ⟨k + 1, by omega, by go_num, by rw [HS.out, HC.out.1]; exact HO2.out, by rw [HS.out, HC.out.2]; exact HG2.out, HA2, HB2.out⟩
            case measure => simp [intOf]; omega
          · have d2 : decide (((X.take R).length : Int) < r) = false := by have := HR.out.2.2; simp; simp at q2; omega
            have HC := Lib.hid (cut_full (e := y) q2)
            clear q2
            generalize X.take R = T at *
            generalize X.drop R = D at *
            generalize hTn : T.length = tn at *
            generalize hDn : D.length = dn at *
            have HTn := Lib.hid hTn
            have HDn := Lib.hid hDn
            clear hTn hDn
            go_wp2_with (first
              | (at_builtin; refine wpList_append_lies1 rfl _ _ rfl w.heap.size _ D rfl HG.out y _ rfl (by rw [HDn.out]; exact HX.out.2) HBs.out ?_)
              | go_in)
            intro g cap w2 h3 h4 h5
            have HG2 := Lib.hid h3
            have HO2 := Lib.hid (own_grown (own_al HO.out _) h4 HAp.out)
            have HA2 := Lib.hid (Apart.symm (apart_step (w' := w2) (n := D.length + 1) (c := cap) HAp.out.symm HO.out h5))
            have HB2 := Lib.hid ((bel_al HB.out HBs.out _).grown h4 (Nat.le_trans HBs.out (by simp)) (fun q hq => (HG.out.lt q hq).1))
            clear h3 h4 h5 e1
            go_wp2
            go_roundw
            case rel => exact ⟨k + 1, by omega, by go_num, by rw [HS.out, HC.out.1]; exact HO2.out, by rw [HS.out, HC.out.2]; exact HG2.out, HA2, HB2.out⟩
            case measure => simp [intOf]; omega
      · obtain rfl : k = n := by omega
        obtain ⟨tn, hTn⟩ : ∃ t, ((bkA P L x k).take R).length = t := ⟨_, rfl⟩
        obtain ⟨dn, hDn⟩ : ∃ t, ((bkA P L x k).drop R).length = t := ⟨_, rfl⟩
        rw [hTn] at HO ⊢
        rw [hDn] at HG ⊢
        rw [← HE.out] at HO HG
        clear hTn hDn hlt
        go_wp2
        refine bodyPost_ret (v := .tuple #[.slice Ao tn co, .slice Ag dn cg]) (by simp [results, Try.results26, go_sem]) rfl ?_
        exact ⟨Ao, co, tn, Ag, cg, dn, rfl, HO.out, HG.out, HB.out⟩

end Go.Proofs.Ytpjgfehhhgcjnaa.Seg
