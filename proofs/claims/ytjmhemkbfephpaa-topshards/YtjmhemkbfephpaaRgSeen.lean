/-
  The set of places that Add of package ring fills: a map of the call's own; collide.
-/
import Derived.Test.YtjmhemkbfephpaaRgCheck
import Derived.Maps.OwnSet
import Derived.Maps.OwnOps
namespace Go.Proofs.Ytjmhemkbfephpaa.Rng
open Go.RowKit Go.Maps
set_option linter.unusedVariables false
set_option maxRecDepth 100000

theorem plainElem_bool_inv {H : Type} {P : Program} {e : TypeId} (he : P.underlying e = some .bool) {v : Value} {z : DataW H × List MemPlace} (h : plainElem P e v = some z) : ∃ x, v = .bool x ∧ z = (.lit (.bool x), []) := by
  unfold plainElem at h
  rw [he] at h
  cases v <;> simp at h
  exact ⟨_, rfl, h.symm⟩

theorem keyInt : Keyed Try.prog 3 := int_keyed Try.underlying3
theorem zeroB (w : World) : (zeroValue 4).run Try.prog w = .ok (.bool false) w := by kernel_rfl

/-- Block b is the set of these ids. -/
def Seen (w : World) (b : Nat) (ids : List Int) : Prop :=
  ∃ D : DataW Unit, w.ownsMap Try.prog 3 (plainElem Try.prog 4) b ids.length D ∧ IsMap D ∧ (∀ x : Int, D.atKey (.int .i64 x) (.lit (.bool false)) = .lit (.bool (decide (x ∈ ids)))) ∧ Maps.size D = ids.length ∧ ∀ x : Int, Maps.has D (.int .i64 x) = decide (x ∈ ids)
section
variable {w w' : World} {b : Nat} {ids : List Int}
theorem Seen.lt (h : Seen w b ids) : b < w.heap.size := by
  obtain ⟨D, ⟨es, clock, hb, _⟩, _⟩ := h
  exact (Array.getElem?_eq_some_iff.1 hb).1
theorem Seen.below (h : Seen w b ids) (hb : Below w.heap.size w w') : Seen w' b ids := by
  obtain ⟨D, h1, h2⟩ := h
  have hg : w.grownBy w' none := ⟨hb.os, hb.tape, hb.output, hb.size, fun k hk _ => hb.block k hk⟩
  exact ⟨D, h1.kept hg (by simp), h2⟩
theorem Seen.kept (h : Seen w b ids) {B : Nat} (hB : b < B) (hb : Below B w w') : Seen w' b ids := by
  have hl := h.lt
  obtain ⟨D, ⟨es, clock, h1, h2⟩, h3⟩ := h
  exact ⟨D, ⟨es, clock, (hb.block b hB).trans h1, h2⟩, h3⟩
theorem Seen.new (w : World) : Seen (w.alloc (.map #[] 0)) w.heap.size [] :=
  ⟨.map [], World.ownsMap_made _ _ _ _, isMap_empty, fun x => by rfl, rfl, fun x => by rfl⟩
theorem Seen.look (h : Seen w b ids) {x : Int} (hx : (Lit.int .i64 x).wf = true) : (Instr.lookup 73 (.map (some b)) (.int .i64 x) false).run Try.prog w = .ok (.bool (decide (x ∈ ids))) w := by
  obtain ⟨D, h1, h2, h3, h4⟩ := h
  obtain ⟨v, ps, hrun, hv⟩ := h1.lookup keyInt Try.underlying73 (zeroB w) (plainElem_bool Try.underlying4 false) (keyOf_int_mk Try.underlying3 hx)
  obtain ⟨y, rfl, hy⟩ := plainElem_bool_inv Try.underlying4 hv
  simp only [Prod.mk.injEq] at hy
  have := hy.1
  rw [h3 x] at this
  simp only [DataW.lit.injEq, Lit.bool.injEq] at this
  rw [hrun, this]
theorem Seen.len (h : Seen w b ids) (ty : TypeId) : (Builtin.len_ #[73] ty #[.map (some b)]).run Try.prog w = .ok (.int .i64 (ids.length : Int)) w := by
  obtain ⟨D, h1, h2, h3, h4, h5⟩ := h
  rw [h1.len Try.underlying73 ty, h4]
theorem Seen.put (h : Seen w b ids) {x : Int} (hx : (Lit.int .i64 x).wf = true) (hn : x ∉ ids) (hl : ids.length ≤ 1048577) :
    ∃ w', (Instr.mapUpdate 73 (.map (some b)) (.int .i64 x) (.bool true)).run Try.prog w = .ok () w' ∧ Seen w' b (ids ++ [x]) ∧ w.grownBy w' (some b) := by
  obtain ⟨D, h1, h2, h3, h4, h5⟩ := h
  obtain ⟨w', hrun, hown, hg⟩ := h1.update keyInt Try.underlying73 (by unfold maxLen; omega) (keyOf_int_mk Try.underlying3 hx) (plainElem_bool Try.underlying4 true)
  have htd := h1.tidy keyInt
  refine ⟨w', hrun, ⟨D.put (.int .i64 x) (.lit (.bool true)), ?_, ?_, fun y => ?_, ?_, fun y => ?_⟩, hg⟩
  · rw [List.length_append]; exact hown
  · exact (hown.tidy keyInt).isMap
  · by_cases e : y = x
    · subst e
      rw [atKey_put_same h2 (by trivial)]
      simp
    · rw [atKey_put_other (by simpa using e), h3 y]
      simp [e]
  · rw [size_put htd, h5 x]
    simp [hn, h4]
  · by_cases e : y = x
    · subst e
      rw [has_put_same h2 (by trivial)]
      simp
    · rw [has_put_other (by simpa using e), h5 y]
      simp [e]
end

theorem nodup_le : ∀ (N : Nat) (l : List Int), l.Nodup → (∀ x ∈ l, 0 ≤ x ∧ x < (N : Int)) → l.length ≤ N := by
  intro N
  induction N with
  | zero =>
    intro l _ h
    cases l with
    | nil => simp
    | cons a l => have := h a (by simp); omega
  | succ N ih =>
    intro l hn h
    by_cases hm : (N : Int) ∈ l
    · have h1 := ih (l.erase (N : Int)) (hn.erase _) (fun x hx => by
        have h2 := (hn.mem_erase_iff).1 hx
        have h3 := h x h2.2
        have := h2.1
        omega)
      rw [List.length_erase_of_mem hm] at h1
      omega
    · have := ih l hn (fun x hx => by
        have h3 := h x hx
        have : x ≠ (N : Int) := fun e => hm (e ▸ hx)
        omega)
      omega

/-! ### collide -/
theorem nd_in {M : List Int} {j : Nat} (h : j < M.length) (hm : gi M j ∈ M.take j) : ¬ M.Nodup := by
  intro hn
  rw [← List.take_append_drop j M, List.nodup_append] at hn
  refine hn.2.2 _ hm (gi M j) ?_ rfl
  rw [List.drop_eq_getElem_cons h, gi_get h]
  exact List.mem_cons_self ..
theorem take_one {M : List Int} {j : Nat} (h : j < M.length) : M.take (j + 1) = M.take j ++ [gi M j] := by
  rw [List.take_add_one, List.getElem?_eq_getElem h, gi_get h]; rfl
theorem nd_new {M : List Int} {j : Nat} (h : j < M.length) (hn : (M.take j).Nodup) (hm : gi M j ∉ M.take j) : (M.take (j + 1)).Nodup := by
  rw [take_one h, List.nodup_append]
  exact ⟨hn, by simp, fun a ha b hb e => by simp at hb; subst hb; subst e; exact hm ha⟩
theorem nd_old {M : List Int} {j : Nat} (h : j < M.length) (hn : M.Nodup) : gi M j ∉ M.take j := fun hm => nd_in h hm hn
/-- The places of the points, then those asked for. -/
def plcs (L : List Pt) (P : List Int) : List Int := L.map (·.at_) ++ P
theorem plcs_len (L : List Pt) (P : List Int) : (plcs L P).length = L.length + P.length := by simp [plcs]
theorem plcs_l {L : List Pt} {P : List Int} {k : Nat} (h : k < L.length) : gi (plcs L P) k = (gp L k).at_ := by
  rw [gi_get (by rw [plcs_len]; omega), gp_get h]
  simp [plcs, List.getElem_append_left, h]
theorem plcs_r {L : List Pt} {P : List Int} {k : Nat} (h : k < P.length) : gi (plcs L P) (L.length + k) = gi P k := by
  rw [gi_get (by rw [plcs_len]; omega), gi_get h]
  simp [plcs, List.getElem_append_right]
theorem plcs_at (L : List Pt) (P : List Int) : (plcs L P).take L.length = L.map (·.at_) := by
  unfold plcs; rw [List.take_left' (by simp)]
theorem asc_nodup {L : List Pt} (hA : Asc L) : (L.map (·.at_)).Nodup := by
  unfold Asc at hA
  unfold List.Nodup
  rw [List.pairwise_map]
  exact hA.imp (fun h => by omega)
theorem free_iff {L : List Pt} {P : List Int} (hA : Asc L) : Free L P ↔ (plcs L P).Nodup := by
  unfold plcs Free
  rw [List.nodup_append]
  constructor
  · rintro ⟨h1, h2⟩
    exact ⟨asc_nodup hA, h1, fun a ha b hb e => by obtain ⟨q, hq, rfl⟩ := List.mem_map.1 ha; subst e; exact h2 q hq hb⟩
  · rintro ⟨-, h1, h2⟩
    exact ⟨h1, fun q hq hm => h2 _ (List.mem_map.2 ⟨q, hq, rfl⟩) _ hm rfl⟩
theorem plcs_pl {L : List Pt} {P : List Int} (hG : Good L) (hP : allP P = true) {x : Int} (h : x ∈ plcs L P) : isP x := by
  unfold plcs at h
  rcases List.mem_append.1 h with h | h
  · obtain ⟨q, hq, rfl⟩ := List.mem_map.1 h
    exact (hG.ok q hq).2
  · exact allP_mem hP h
theorem pl_few {M : List Int} {j : Nat} (hn : (M.take j).Nodup) (h : ∀ x ∈ M, isP x) : (M.take j).length ≤ 1048577 := by
  have := nodup_le 65536 (M.take j) hn (fun x hx => by have := h x (List.mem_of_mem_take hx); unfold isP at this; omega)
  omega
theorem pl_wf {x : Int} (h : isP x) : (Lit.int .i64 x).wf = true := by
  unfold isP at h
  simp [Lit.wf, IntKind.min, IntKind.max, IntKind.bits, IntKind.signed]; omega
theorem seen_bel {w w' u : World} {b B : Nat} (h : w.grownBy w' (some b)) (hb : B ≤ b) (hB : B ≤ w.heap.size) (h0 : Below B u w) : Below B u w' :=
  h0.grown h hB (fun k hk => by cases hk; exact hb)

theorem run_makeMap (w : World) : (Instr.makeMap 73 none).run Try.prog w = .ok (.map (some w.heap.size)) (w.alloc (.map #[] 0)) := by kernel_rfl
set_option maxHeartbeats 4000000 in
theorem collide_any (A B : Option Addr) (c d : Nat) (L : List Pt) (P : List Int) (w : World) (hL : Pts w A c L) (hP : Ints w B d P) (hG : Good L) (hA : allP P = true) :
    Calls Try.prog 28 #[.slice A L.length c, .slice B P.length d] w fun e w' => e = .returned (.bool (decide (¬ Free L P))) ∧ Below w.heap.size w w' := by
  have HM : Hid (∀ x ∈ plcs L P, isP x) := Lib.hid (fun x hx => plcs_pl hG hA hx)
  have HF : Hid (Free L P ↔ (plcs L P).Nodup) := Lib.hid (free_iff hG.asc)
  have HN : Hid ((plcs L P).take L.length).Nodup := Lib.hid (by rw [plcs_at]; exact asc_nodup hG.asc)
  have HL := Lib.hid hL
  have HP := Lib.hid hP
  have hl1 := hL.len
  have hl2 := hP.len
  obtain ⟨ln, hln⟩ : ∃ ln, L.length = ln := ⟨_, rfl⟩
  obtain ⟨lp, hlp⟩ : ∃ lp, P.length = lp := ⟨_, rfl⟩
  have HLN := Lib.hid hln
  have HLP := Lib.hid hlp
  have HLM : Hid ((plcs L P).length = ln + lp) := Lib.hid (by rw [plcs_len, hln, hlp])
  have HGL : Hid (∀ k, k < ln → gi (plcs L P) k = (gp L k).at_) := Lib.hid (fun k hk => plcs_l (by omega))
  have HGR : Hid (∀ k, k < lp → gi (plcs L P) (ln + k) = gi P k) := Lib.hid (fun k hk => by rw [← hln]; exact plcs_r (by omega))
  rw [hln] at HN hl1 ⊢
  rw [hlp] at hl2 ⊢
  have hb0 : Below w.heap.size w (w.alloc (.map #[] 0)) := (Below.refl _ _).alloc (Nat.le_refl _) _
  have HB0 := Lib.hid hb0
  have HS0 := Lib.hid (Seen.new w)
  have hmm := run_makeMap w
  clear hL hP hG hA hln hlp hb0
  generalize plcs L P = M at *
  go_enter Try.func28, Try.ntmps28
  go_wp2
  obtain ⟨g, hg⟩ : ∃ g, g = w.heap.size := ⟨_, rfl⟩
  have HG := Lib.hid hg
  rw [← hg] at HS0 HB0 ⊢
  clear hg
  generalize w.alloc (.map #[] 0) = w1 at *
  go_loopw [13] (fun i wr => ∃ k : Nat, k ≤ ln ∧ i = .int .i64 (k : Int) ∧ Hid (Seen wr g (M.take k)) ∧ Hid (Below g w wr)) (fun i _ => ln - (intOf i).toNat)
  case atStart => exact ⟨0, by omega, rfl, by rw [List.take_zero]; exact HS0, HB0⟩
  case round =>
    obtain ⟨k, hk, rfl, HS, HBr⟩ := hrel
    by_cases hlt : k < ln
    · have hin : (k : Int) < (ln : Int) := by omega
      have hiB : (0 : Int) ≤ (k : Int) := by omega
      have HKM : Hid (k < M.length) := Lib.hid (by rw [HLM.out]; omega)
      have HLr := Lib.hid (HL.out.below (HBr.out.mono (by rw [HG.out]; exact Nat.le_refl _)))
      obtain ⟨b, o, rfl, e1, e2⟩ := HLr.out.pt (k := k) (by rw [HLN.out]; exact hlt)
      have HX : Hid (gi M k = (gp L k).at_) := Lib.hid (HGL.out k hlt)
      have HT : Hid (M.take (k + 1) = M.take k ++ [(gp L k).at_]) := Lib.hid (by rw [take_one HKM.out, HX.out])
      have hnk : (M.take (k + 1)).Nodup := List.Nodup.sublist (List.take_sublist_take_left (by omega)) HN.out
      have HXN : Hid ((gp L k).at_ ∉ M.take k) := Lib.hid (fun hm => by
        rw [HT.out, List.nodup_append] at hnk
        exact hnk.2.2 _ hm _ (by simp) rfl)
      have HFW : Hid ((M.take k).length ≤ 1048577) := Lib.hid (pl_few (List.Nodup.sublist (List.take_sublist_take_left (by omega)) HN.out) HM.out)
      have HW : Hid ((Lit.int .i64 (gp L k).at_).wf = true) := Lib.hid (pl_wf (HM.out _ (by rw [← HX.out, gi_get HKM.out]; exact List.getElem_mem _)))
      have hba : Below wr.heap.size wr (wr.alloc (fo (gp L k))) := bel_al (Below.refl _ _) (Nat.le_refl _) _
      have HSa := Lib.hid (HS.out.below hba)
      have HBa : Hid (Below g w (wr.alloc (fo (gp L k)))) := Lib.hid (HBr.out.trans (hba.mono (by have := HS.out.lt; omega)))
      have HIa : Hid (Sb (wr.alloc (fo (gp L k))) wr.heap.size (gp L k)) := Lib.hid (Sb.new wr _)
      clear hnk hba
      generalize gp L k = f at *
      obtain ⟨at0, sh0⟩ := f
      dsimp only at e1 e2 HX HT HXN HW
      obtain ⟨i0, i1⟩ := HIa.out.cells
      dsimp only at i0 i1
      obtain ⟨w4, hrun, hS4, hg4⟩ := HSa.out.put HW.out HXN.out HFW.out
      have HS4 : Hid (Seen w4 g (M.take (k + 1))) := Lib.hid (by rw [HT.out]; exact hS4)
      have HB4 : Hid (Below g w w4) := Lib.hid (seen_bel hg4 (Nat.le_refl _) (by have := HSa.out.lt; omega) HBa.out)
      clear hS4 hg4
      go_wp2
      go_roundw
      case rel => exact ⟨k + 1, by omega, by go_num, HS4, HB4⟩
      case measure => simp [intOf]; omega
    · obtain rfl : k = ln := by omega
      have HS' := HS
      have HBr' := HBr
      clear HS HBr HB0 HS0
      go_wp2
      generalize wr = wq at *
      go_loopw [23] (fun i wr => ∃ j : Nat, j ≤ lp ∧ i = .int .i64 (j : Int) ∧ Hid (M.take (k + j)).Nodup ∧ Hid (Seen wr g (M.take (k + j))) ∧ Hid (Below g w wr)) (fun i _ => lp - (intOf i).toNat)
      case atStart => exact ⟨0, by omega, rfl, HN, HS', HBr'⟩
      case round =>
        obtain ⟨j, hj, rfl, HNj, HS, HBr⟩ := hrel
        by_cases hlt2 : j < lp
        · have hin : (j : Int) < (lp : Int) := by omega
          have hiB : (0 : Int) ≤ (j : Int) := by omega
          have HKM : Hid (k + j < M.length) := Lib.hid (by rw [HLM.out]; omega)
          have HPr := Lib.hid (HP.out.below (HBr.out.mono (by rw [HG.out]; exact Nat.le_refl _)))
          have hkl : j < P.length := by rw [HLP.out]; exact hlt2
          obtain ⟨b, o, rfl, ht⟩ := HPr.out.2.2.2 (by omega)
          have e1 := ht.2 j hkl
          clear ht hkl
          have HX : Hid (gi M (k + j) = gi P j) := Lib.hid (HGR.out j hlt2)
          have HT : Hid (M.take (k + (j + 1)) = M.take (k + j) ++ [gi P j]) := Lib.hid (by rw [← HX.out]; exact take_one HKM.out)
          have HFW : Hid ((M.take (k + j)).length ≤ 1048577) := Lib.hid (pl_few HNj.out HM.out)
          have HW : Hid ((Lit.int .i64 (gi P j)).wf = true) := Lib.hid (pl_wf (HM.out _ (by rw [← HX.out, gi_get HKM.out]; exact List.getElem_mem _)))
          have HIN : Hid (gi P j ∈ M.take (k + j) → ¬ M.Nodup) := Lib.hid (fun h => nd_in HKM.out (by rw [HX.out]; exact h))
          have HNEW : Hid (gi P j ∉ M.take (k + j) → (M.take (k + (j + 1))).Nodup) := Lib.hid (fun h => by
            have k1 : gi M (k + j) ∉ M.take (k + j) := by rw [HX.out]; exact h
            exact nd_new HKM.out HNj.out k1)
          generalize gi P j = x at *
          have hlk := HS.out.look HW.out
          by_cases q : x ∈ M.take (k + j)
          · have HR : Hid (decide (¬ Free L P) = true) := Lib.hid (by simp only [decide_eq_true_eq]; rw [HF.out]; exact HIN.out q)
            have q1 : decide (x ∈ M.take (k + j)) = true := by simpa using q
            rw [q1] at hlk
            have HBe : Hid (Below w.heap.size w wr) := Lib.hid (HBr.out.mono (by rw [HG.out]; exact Nat.le_refl _))
            clear q q1
            go_wp2
            go_ret
            exact ⟨ret_bool HR.out.symm, HBe.out⟩
          · have q1 : decide (x ∈ M.take (k + j)) = false := by simpa using q
            rw [q1] at hlk
            obtain ⟨w4, hrun, hS4, hg4⟩ := HS.out.put HW.out q HFW.out
            have HN4 := Lib.hid (HNEW.out q)
            have HS4 : Hid (Seen w4 g (M.take (k + (j + 1)))) := Lib.hid (by rw [HT.out]; exact hS4)
            have HB4 : Hid (Below g w w4) := Lib.hid (seen_bel hg4 (Nat.le_refl _) (by have := HS.out.lt; omega) HBr.out)
            clear hS4 hg4 q q1
            go_wp2
            go_roundw
            case rel => exact ⟨j + 1, by omega, by go_num, HN4, HS4, HB4⟩
            case measure => simp [intOf]; omega
        · obtain rfl : j = lp := by omega
          have HR : Hid (decide (¬ Free L P) = false) := Lib.hid (by
            have := HNj.out
            rw [← HLM.out, List.take_length] at this
            simp only [decide_eq_false_iff_not, Decidable.not_not]
            exact HF.out.2 this)
          have HBe : Hid (Below w.heap.size w wr) := Lib.hid (HBr.out.mono (by rw [HG.out]; exact Nat.le_refl _))
          go_wp2
          go_ret
          exact ⟨ret_bool HR.out.symm, HBe.out⟩

end Go.Proofs.Ytjmhemkbfephpaa.Rng
