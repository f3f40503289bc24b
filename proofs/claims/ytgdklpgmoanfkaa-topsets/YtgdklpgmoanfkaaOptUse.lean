/-
  Package optimal: the index of a key, makeRoom; a row of ints that is filled.
-/
import Derived.Test.YtgdklpgmoanfkaaOptWalks
import Derived.Test.YtgdklpgmoanfkaaIntsLib2
import Derived.Test.YtgdklpgmoanfkaaShelf
import Derived.Deep.AppendLies
import Derived.Laws.AppendOwn
import Derived.Laws.AppendOwnNone
namespace Go.Proofs.Ytgdklpgmoanfkaa.Opt
open Go.RowKit
open Bst
open Lfu (Us gu gu_get gu_mem gu_set keys keys_len keys_get keys_mem)
open Lru (isRm isK keysE keysE_zero traceE trace_zero)
set_option linter.unusedVariables false
set_option maxRecDepth 100000

/-- The first place of a key, or -1. -/
def fnd (F : List Us) (x : Int) : Int := Lib.idxBy (fun _ y => y.key == x) F default
theorem fndF_eq (x : Int) : ∀ (F : List Us) (i : Nat), Lib.idxByFrom (fun _ y => y.key == x) default F i = if x ∈ keys F then ((i + (keys F).idxOf x : Nat) : Int) else -1 := by
  intro F
  induction F with
  | nil => intro i; rfl
  | cons a F ih =>
    intro i
    by_cases h : a.key = x
    · have e : keys (a :: F) = x :: keys F := by simp [keys, h]
      rw [e, if_pos (by simp), List.idxOf_cons_self]
      simp [Lib.idxByFrom, h]
    · have e : keys (a :: F) = a.key :: keys F := by simp [keys]
      have hb : ¬ (a.key == x) = true := by simpa using h
      simp only [Lib.idxByFrom, beq_iff_eq, h, if_false]
      rw [ih (i + 1), e]
      by_cases hm : x ∈ keys F
      · rw [if_pos hm, if_pos (by simp [hm]), List.idxOf_cons, show (a.key == x) = false by simpa using h, cond_false]; omega
      · rw [if_neg hm, if_neg (by simp only [List.mem_cons, not_or]; exact ⟨fun e => h e.symm, hm⟩)]
theorem fnd_eq (F : List Us) (x : Int) : fnd F x = if x ∈ keys F then (((keys F).idxOf x : Nat) : Int) else -1 := by
  unfold fnd Lib.idxBy; rw [fndF_eq]; simp

theorem byKey_any (f : Us) (x : Int) (p : Nat) (w : World) (hp : p < w.heap.size) (h : w.cell? ⟨p, 0, none⟩ = some (.int .i64 x)) :
    Calls Try.prog 37 #[fv f, .pointer (some ⟨p, 0, none⟩)] w fun e w' => e = .returned (.bool (f.key == x)) ∧ Below w.heap.size w w' := by
  obtain ⟨i, a⟩ := f
  have hb : Below w.heap.size w (w.alloc (fo ⟨i, a⟩)) := (Below.refl _ _).alloc (Nat.le_refl _) _
  have hc : (w.alloc (fo ⟨i, a⟩)).cell? ⟨p, 0, none⟩ = some (.int .i64 x) := (hb.cell (p := ⟨p, 0, none⟩) hp).trans h
  have HB := Lib.hid hb
  clear hb
  generalize hq : (i == x) = q
  go_enter Try.func37, Try.ntmps37
  go_wp2
  go_ret
  exact ⟨by first | rfl | rw [← hq] | simp [hq], HB.out⟩

theorem uss_cells {w : World} {b o : Nat} {F : List Us} (h : UsAt w b o F) : ∀ j u, (encUs F)[j]? = some u → w.cell? ⟨b, o + j, none⟩ = some u := by
  intro j u hu
  have hl : j < F.length * 2 := by rw [← encUs_len]; exact (List.getElem?_eq_some_iff.1 hu).1
  obtain ⟨h1, h2⟩ := encUs_get F (j / 2) (by omega)
  obtain ⟨g1, g2⟩ := h.2 (j / 2) (by omega)
  rcases (by omega : j = j / 2 * 2 ∨ j = j / 2 * 2 + 1) with e | e
  · rw [← e] at h1 g1; rw [hu] at h1; rw [g1, h1]
  · rw [← e] at h2; rw [Nat.add_assoc, ← e] at g2; rw [hu] at h2; rw [g2, h2]

theorem index_any (A : Option Addr) (c : Nat) (F : List Us) (x : Int) (p : Nat) (w : World) (h : Uss w A c F) (hp : p < w.heap.size) (hx : w.cell? ⟨p, 0, none⟩ = some (.int .i64 x)) :
    Calls Try.prog 36 #[.slice A F.length c, .func (.func 37) #[] #[.pointer (some ⟨p, 0, none⟩)]] w fun e w' => e = .returned (.int .i64 (fnd F x)) ∧ Below w.heap.size w w' := by
  have hlen := h.len
  by_cases h0 : 0 < F.length
  · obtain ⟨b, o, rfl, ht⟩ := h.2.2.2 h0
    have eg : ∀ args w, (callFunc 37 args).run Try.prog w = .ok (.enter 37 args) w := enters_of Try.func37 (by kernel_rfl) rfl
    have k := AnyQ.slices_IndexFunc Try.indexC 2 Try.isAgg56 Try.sizeOf56 encU (fun _ => rfl) (fun y => y.key == x) 37 #[.pointer (some ⟨p, 0, none⟩)] eg b o F.length c F w
      (fun W y hW => (byKey_any y x p W (Nat.lt_of_lt_of_le hp hW.size) ((hW.cell (p := ⟨p, 0, none⟩) hp).trans hx)).mono (fun e w' ⟨h1, h2⟩ => ⟨h1, hW.trans (h2.mono hW.size)⟩))
      (Nat.le_refl _) hlen ht.1 (fun j hj i v hv => by
        have e : F[j]! = gu F j := by rw [gu_get hj, getElem!_pos F j hj]
        rw [e] at hv
        obtain ⟨g1, g2⟩ := ht.2 j hj
        cases i with
        | zero => simp [encU] at hv; rw [← hv]; exact g1
        | succ i =>
          cases i with
          | zero => simp [encU] at hv; rw [← hv]; exact g2
          | succ i => simp [encU] at hv)
    rw [List.take_length] at k
    exact k
  · have e1 : F = [] := List.length_eq_zero_iff.1 (by omega)
    subst e1
    clear h hlen h0 hp hx
    show Calls _ _ #[.slice A 0 c, _] _ _
    go_enter Try.func36, Try.ntmps36
    go_wp2
    go_loopw [8] (fun i wr => i = .int .i64 0 ∧ w = wr) (fun i _ => 0)
    case atStart => exact ⟨rfl, rfl⟩
    case round =>
      obtain ⟨rfl, rfl⟩ := hrel
      go_wp2
      go_ret
      exact ⟨rfl, Below.refl _ _⟩

theorem info_parts {P : Program} {t : TypeId} {z : Option Value} {s b : Nat} (h : (P.info? t).map (fun i => (i.zero, i.size, i.bytes)) = some (z, s, b)) :
    ∃ i, P.info? t = some i ∧ i.zero = z ∧ i.size = s ∧ i.bytes = b := by
  cases hi : P.info? t with
  | none => rw [hi] at h; cases h
  | some i => rw [hi] at h; simp only [Option.map_some, Option.some.injEq, Prod.mk.injEq] at h; exact ⟨i, rfl, h.1, h.2.1, h.2.2⟩
theorem use_info : (Try.prog.info? 56).map (fun i => (i.zero, i.size, i.bytes)) = some (some (.agg #[.int .i64 0, .int .i64 0]), 2, 16) := by kernel_rfl
/-- One key in a block of its own. -/
theorem uss_one (w : World) (f : Us) : Uss (w.alloc (fo f)) (some ⟨w.heap.size, 0, none⟩) 1 [f] := by
  refine ⟨Nat.le_refl _, by unfold maxLen; decide, fun e => (by cases e), fun _ => ⟨w.heap.size, 0, rfl, by simp, fun i hi => ?_⟩⟩
  obtain rfl : i = 0 := by simp at hi; omega
  exact ⟨by simp [go_sem, gu], by simp [go_sem, gu]⟩
theorem wpList_append_uss {w : World} {ops : Array Oper} {rest : List Oper} {o : Oper} {a : Act} {Q : Exit → Act → World → Prop} (hgd : o.guard = none) (s x : Operand)
    (ho : o.op = .call { callee := .builtin .append, args := #[s, x], argTypes := #[53, 53] })
    (base : Nat) (v : Value) (L : List Us) (hs : a.eval s = v) (hown : OwnU w base v L) (B : Option Addr) (d m : Nat) (M : List Us) (hm : m = M.length) (hx : a.eval x = .slice B m d) (hM : Uss w B d M)
    (hn : L.length + m ≤ 16777216) (hbase : base ≤ w.heap.size)
    (h : ∀ v' w', OwnU w' base v' (L ++ M) → w.grownBy w' v.ownBlock → wpList Try.prog ops Q rest (a.put o.dst v') w') : wpList Try.prog ops Q (o :: rest) a w := by
  subst hm
  obtain ⟨i0, hi0, hz0, hz1, hz2⟩ := info_parts use_info
  cases B with
  | none =>
    have hd := hM.2.2.1 rfl
    subst hd
    have e : M = [] := List.length_eq_zero_iff.1 (by have := hM.1; omega)
    subst e
    refine wpList_append_own_none hgd s x _ ho base 56 i0 2 Try.underlying53 hi0 v L.length (encUs L) hs hown hx (h v w (by simpa using hown) ⟨rfl, rfl, rfl, Nat.le_refl _, fun _ _ _ => rfl⟩)
  | some ad =>
    refine wpList_append_own w hgd s x _ ho base 56 i0 _ 2 16 Try.underlying53 hi0 hz0 hz1 hz2 rfl (by decide) v L.length (encUs L) hs hown ad M.length d (encUs M) hx (encUs_len M) ?_ (encUs_one M) (by unfold maxLen; omega) (by omega) hbase ?_
    · intro j u hj
      have hl : j < M.length * 2 := by rw [← encUs_len]; exact (List.getElem?_eq_some_iff.1 hj).1
      obtain ⟨b, o, e, ht⟩ := hM.2.2.2 (by omega)
      cases e
      rw [Addr.add_lit]
      exact uss_cells ht j u hj
    · intro v' w' h1 h2 _
      refine h v' w' ?_ h2
      unfold OwnU
      rw [encUs_app, List.length_append]
      exact h1

/-! ### A row of the call's own -/
theorem map_set_enc (L : List Int) (j : Nat) (x : Int) : (L.map encI).set j (encI x) = (L.set j x).map encI := by rw [List.map_set]
theorem run_make_ints (n : Nat) (hn : n ≤ 1048576) (w : World) :
    (Instr.makeSlice 22 (.int .i64 (n : Int)) (.int .i64 (n : Int))).run Try.prog w = .ok (.slice (some ⟨w.heap.size, 0, none⟩) n n) (w.alloc (.cells (List.replicate n (encI 0)).toArray 3)) := by
  obtain ⟨i0, hi0, hz0, hz1, hz2⟩ := Go.Proofs.Ytgdklpgmoanfkaa.info_parts int_info
  have hr := run_make (P := Try.prog) w 22 3 i0 _ Try.underlying22 hi0 hz0 .i64 .i64 (n : Int) (n : Int) (by omega) (by omega) (by rw [hz2]; omega) (by omega)
  rw [Int.toNat_natCast, hz1, Nat.mul_one] at hr
  rw [hr]
  congr 3
  apply Array.ext'
  exact toList_madeCells_one _ _
/-- Block g is a row of n ints of the call's own. -/
def RowI (w : World) (g : Nat) (L : List Int) : Prop := w.heap[g]? = some (.cells (L.map encI).toArray 3 (0, 0))
section
variable {w w' : World} {g : Nat} {L : List Int}
theorem RowI.lt (h : RowI w g L) : g < w.heap.size := (Array.getElem?_eq_some_iff.1 h).1
theorem RowI.new (w : World) (n : Nat) : RowI (w.alloc (.cells (List.replicate n (encI 0)).toArray 3)) w.heap.size (List.replicate n 0) := by
  unfold RowI
  rw [List.map_replicate]
  exact heap_alloc_new w _
theorem RowI.below {B : Nat} (h : RowI w g L) (hb : Below B w w') (hg : g < B) : RowI w' g L := (hb.block g hg).trans h
theorem RowI.set (h : RowI w g L) (j : Nat) (x : Int) : RowI (w.setCell ⟨g, j, none⟩ (.int .i64 x)) g (L.set j x) := by
  unfold RowI at *
  rw [heap_setCell_same w g j _ _ _ h, List.setIfInBounds_toArray, ← map_set_enc]
theorem RowI.cell (h : RowI w g L) {j : Nat} (hj : j < L.length) : w.cell? ⟨g, j, none⟩ = some (.int .i64 (gi L j)) := by
  rw [cell_of_row w g j _ _ (0, 0) h, List.getElem?_toArray, List.getElem?_map, List.getElem?_eq_getElem hj, gi_get hj]
  rfl
theorem RowI.frozen (h : RowI w g L) (j : Nat) : w.frozen? ⟨g, j, none⟩ = false := by
  unfold RowI at h; simp [World.frozen?, h]
theorem RowI.own (h : RowI w g L) (base : Nat) (hb : base ≤ g) (hl : L.length ≤ 1048576) : OwnI w base (.slice (some ⟨g, 0, none⟩) L.length L.length) L :=
  ⟨by simp, .inr ⟨g, L.length, _, rfl, hb, h, Nat.le_refl _, by unfold maxLen; omega, by simp, by rw [Nat.mul_one, List.take_of_length_le (by simp)]⟩⟩
end


set_option maxHeartbeats 2000000 in
theorem make_any (base : Nat) (v : Value) (L : List Us) (r : Int) (w : World) (hown : OwnU w base v L) (hB : base ≤ w.heap.size) (hr : isRm r) (hl : (L.length : Int) ≤ r) :
    Calls Try.prog 38 #[v, .int .i64 r] w fun e w' => ∃ v', e = .returned (.tuple #[v', .int .i64 (mkA r.toNat L : Int), .int .i64 (mkE r.toNat L)]) ∧ OwnU w' base v' (mkL r.toNat L) ∧ Below base w w' ∧ ∀ q, q < w.heap.size → some q ≠ v.ownBlock → w'.heap[q]? = w.heap[q]? := by
  obtain ⟨A, c, rfl, hF, hA⟩ := uss_of_own hown
  have hr1 := hr.1
  have hr2 := hr.2
  have HO := Lib.hid hown
  have HF := Lib.hid hF
  have HB := Lib.hid hB
  clear hown hF hA hB hr
  by_cases h : (L.length : Int) < r
  · have h' : L.length < r.toNat := by omega
    have HM : Hid (mkL r.toNat L = L ++ [⟨0, 0⟩] ∧ mkA r.toNat L = L.length ∧ mkE r.toNat L = -1) := Lib.hid (by unfold mkL mkA mkE; simp only [if_pos h', and_self])
    have hd : decide ((L.length : Int) < r) = true := by simpa using h
    have HLk : Hid (L.length + 1 ≤ 16777216) := Lib.hid (by omega)
    have HO1 := Lib.hid (HO.out.alloc (fo ⟨0, 0⟩))
    have HBa : Hid (Below base w (w.alloc (fo ⟨0, 0⟩))) := Lib.hid (bel_al (Below.refl _ _) HB.out _)
    have HZa : Hid (base ≤ (w.alloc (fo ⟨0, 0⟩)).heap.size) := Lib.hid (Nat.le_trans HB.out (by simp))
    rw [HM.out.2.1, HM.out.2.2, HM.out.1]
    clear h h' hr1 hr2 HM hl
    generalize hn : L.length = n at HO HO1 hd ⊢
    clear hn
    go_enter Try.func38, Try.ntmps38
    go_wp2_with (at_builtin; refine wpList_append_uss (by rfl) _ _ (by rfl) base _ L (by rfl) HO1.out (some ⟨w.heap.size, 0, none⟩) 1 _ [⟨0, 0⟩] rfl (by rfl) (uss_one w ⟨0, 0⟩) HLk.out HZa.out ?_; intro v3 w3 hown3 hg3)
    have HO3 := Lib.hid hown3
    have HB3 : Hid (Below base w w3) := Lib.hid (HBa.out.grown hg3 HZa.out (fun q hq => (HO1.out.lt q hq).1))
    have HQ3 : Hid (∀ q, q < w.heap.size → some q ≠ (Value.slice A n c).ownBlock → w3.heap[q]? = w.heap[q]?) := Lib.hid (fun q hq hne => (hg3.block q (Nat.lt_of_lt_of_le hq (by simp)) hne).trans (((Below.refl w.heap.size w).alloc (Nat.le_refl _) (fo ⟨0, 0⟩)).block q hq))
    clear hown3 hg3
    go_wp2
    refine bodyPost_ret (v := .tuple #[v3, .int .i64 n, .int .i64 (-1)]) (by simp [results, Try.results38, go_sem]) rfl ?_
    exact ⟨v3, rfl, HO3.out, HB3.out, HQ3.out⟩
  · have h' : ¬ L.length < r.toNat := by omega
    have h0 : 0 < L.length := by omega
    have HM : Hid (mkL r.toNat L = L ∧ mkA r.toNat L = vicC L L.length ∧ mkE r.toNat L = (gu L (vicC L L.length)).key) := Lib.hid (by unfold mkL mkA mkE; simp only [if_neg h', and_self])
    have hd : decide ((L.length : Int) < r) = false := by simp; omega
    have hv := vicC_lt L L.length h0
    have HV := Lib.hid (victim_any A c L w HF.out h0 (by omega))
    rw [HM.out.2.1, HM.out.2.2, HM.out.1]
    generalize vicC L L.length = k at *
    have i1 : (k : Int) < (L.length : Int) := by omega
    have i2 : (0 : Int) ≤ (k : Int) := by omega
    obtain ⟨b, o, rfl, e1, -⟩ := HF.out.us hv
    have hbl : b < w.heap.size := by
      obtain ⟨b2, o2, e, ht⟩ := HF.out.2.2.2 h0
      cases e
      exact ht.1
    clear h h' hr1 hr2 HM hl h0 hv
    generalize (gu L k).key = ky at *
    generalize L.length = n at *
    go_enter Try.func38, Try.ntmps38
    go_wp2_with fail
    refine HV.out.mono ?_
    rintro e w2 ⟨rfl, hb2⟩
    have e2 := (hb2.cell (p := ⟨b, _, none⟩) hbl).trans e1
    have HO2 := Lib.hid (HO.out.below hb2)
    have HB2 : Hid (Below base w w2) := Lib.hid (hb2.mono HB.out)
    have HQ2 : Hid (∀ q, q < w.heap.size → w2.heap[q]? = w.heap[q]?) := Lib.hid (fun q hq => hb2.block q hq)
    clear hb2 e1 hbl
    go_wp2_with fail
    go_region
    go_wp2
    refine bodyPost_ret (v := .tuple #[.slice (some ⟨b, o, none⟩) n c, .int .i64 k, .int .i64 ky]) (by simp [results, Try.results38, go_sem]) rfl ?_
    exact ⟨_, rfl, HO2.out, HB2.out.drew, fun q hq _ => HQ2.out q hq⟩

end Go.Proofs.Ytgdklpgmoanfkaa.Opt
