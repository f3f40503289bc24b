/-
  Package greedy: isSize, isItem, find, clone, initial, total, victim, Delete.
-/
import Derived.Test.YtmobohamlimhdaaGrMem
import Derived.Test.YtmobohamlimhdaaShelf
import Derived.Test.YtmobohamlimhdaaLruLib
import Derived.Deep.RegionHeld3
import Derived.Deep.RegionLaw
import Derived.StillTailTactics
import Derived.Laws.AppendOwn
import Derived.Laws.AppendOwnNone
import Derived.BigQuiet
import Derived.Shelf.Spec.SlicesInsertGrow
namespace Go.Proofs.Ytmobohamlimhdaa.Grd
open Go.RowKit
open Lru (isK)
set_option linter.unusedVariables false
set_option maxRecDepth 100000

instance : Inhabited It := ⟨⟨0, 0, 0, 0⟩⟩
theorem isSize_any (n : Int) (w : World) : Calls Try.prog 30 #[.int .i64 n] w fun e w' => e = .returned (.bool (decide (isSz n))) ∧ w = w' := by
  by_cases h : 1 ≤ n
  · have hd : decide (1 ≤ n) = true := by simpa using h
    have HE : Hid (decide (isSz n) = decide (n ≤ 1048576)) := Lib.hid (by simp [isSz, h])
    clear h
    go_enter Try.func30, Try.ntmps30
    go_wp2
    go_ret
    exact ⟨ret_bool HE.out.symm, rfl⟩
  · have hd : decide (1 ≤ n) = false := by simpa using h
    have HE : Hid (decide (isSz n) = false) := Lib.hid (decide_eq_false (fun hh => h hh.1))
    clear h
    go_enter Try.func30, Try.ntmps30
    go_wp2
    go_ret
    exact ⟨ret_bool HE.out.symm, rfl⟩

set_option maxHeartbeats 4000000 in
theorem isItem_any (f : It) (w : World) : Calls Try.prog 21 #[fv f] w fun e w' => e = .returned (.bool (decide (okI f))) ∧ Below w.heap.size w w' := by
  obtain ⟨k, z, c, u⟩ := f
  have HB0 : Hid (Below w.heap.size w (w.alloc (fo ⟨k, z, c, u⟩))) := Lib.hid (bel_al (Below.refl _ _) (Nat.le_refl _) _)
  obtain ⟨x0, x1, x2, x3⟩ := (Ib.new w ⟨k, z, c, u⟩).cells
  have HS : Hid (∀ W : World, Calls Try.prog 30 #[.int .i64 z] W fun e w' => e = .returned (.bool (decide (isSz z))) ∧ W = w') := Lib.hid (fun W => isSize_any z W)
  by_cases q1 : 0 ≤ k
  · have p1 : decide ((0 : Int) ≤ k) = true := decide_eq_true q1
    by_cases q2 : k ≤ 1048576
    · have p2 : decide (k ≤ 1048576) = true := decide_eq_true q2
      by_cases q3 : isSz z
      · have p3 : decide (isSz z) = true := decide_eq_true q3
        rw [p3] at HS
        by_cases q4 : 0 ≤ c
        · have p4 : decide ((0 : Int) ≤ c) = true := decide_eq_true q4
          by_cases q5 : c ≤ 1048576
          · have p5 : decide (c ≤ 1048576) = true := decide_eq_true q5
            have HE : Hid (decide (okI ⟨k, z, c, u⟩) = true) := Lib.hid (decide_eq_true ⟨⟨q1, q2⟩, q3, q4, q5⟩)
            clear q1 q2 q3 q4 q5
            go_enter Try.func21, Try.ntmps21
            go_wp2_with (with_reducible refine (HS.out _).mono ?_; rintro e w2 ⟨rfl, rfl⟩)
            go_ret
            exact ⟨ret_bool HE.out.symm, HB0.out⟩
          · have p5 : decide (c ≤ 1048576) = false := decide_eq_false q5
            have HE : Hid (decide (okI ⟨k, z, c, u⟩) = false) := Lib.hid (decide_eq_false (fun hh => q5 hh.2.2.2))
            clear q1 q2 q3 q4 q5
            go_enter Try.func21, Try.ntmps21
            go_wp2_with (with_reducible refine (HS.out _).mono ?_; rintro e w2 ⟨rfl, rfl⟩)
            go_ret
            exact ⟨ret_bool HE.out.symm, HB0.out⟩
        · have p4 : decide ((0 : Int) ≤ c) = false := decide_eq_false q4
          have HE : Hid (decide (okI ⟨k, z, c, u⟩) = false) := Lib.hid (decide_eq_false (fun hh => q4 hh.2.2.1))
          clear q1 q2 q3 q4
          go_enter Try.func21, Try.ntmps21
          go_wp2_with (with_reducible refine (HS.out _).mono ?_; rintro e w2 ⟨rfl, rfl⟩)
          go_ret
          exact ⟨ret_bool HE.out.symm, HB0.out⟩
      · have p3 : decide (isSz z) = false := decide_eq_false q3
        rw [p3] at HS
        have HE : Hid (decide (okI ⟨k, z, c, u⟩) = false) := Lib.hid (decide_eq_false (fun hh => q3 hh.2.1))
        clear q1 q2 q3
        go_enter Try.func21, Try.ntmps21
        go_wp2_with (with_reducible refine (HS.out _).mono ?_; rintro e w2 ⟨rfl, rfl⟩)
        go_ret
        exact ⟨ret_bool HE.out.symm, HB0.out⟩
    · have p2 : decide (k ≤ 1048576) = false := decide_eq_false q2
      have HE : Hid (decide (okI ⟨k, z, c, u⟩) = false) := Lib.hid (decide_eq_false (fun hh => q2 hh.1.2))
      clear q1 q2
      go_enter Try.func21, Try.ntmps21
      go_wp2_with (with_reducible refine (HS.out _).mono ?_; rintro e w2 ⟨rfl, rfl⟩)
      go_ret
      exact ⟨ret_bool HE.out.symm, HB0.out⟩
  · have p1 : decide ((0 : Int) ≤ k) = false := decide_eq_false q1
    have HE : Hid (decide (okI ⟨k, z, c, u⟩) = false) := Lib.hid (decide_eq_false (fun hh => q1 hh.1.1))
    clear q1
    go_enter Try.func21, Try.ntmps21
    go_wp2_with (with_reducible refine (HS.out _).mono ?_; rintro e w2 ⟨rfl, rfl⟩)
    go_ret
    exact ⟨ret_bool HE.out.symm, HB0.out⟩

/-- The first place of a key, or -1. -/
def fnd (F : List It) (x : Int) : Int := Lib.idxBy (fun _ y => y.key == x) F default
theorem fndF_eq (x : Int) : ∀ (F : List It) (i : Nat), Lib.idxByFrom (fun _ y => y.key == x) default F i = if x ∈ keys F then ((i + (keys F).idxOf x : Nat) : Int) else -1 := by
  intro F
  induction F with
  | nil => intro i; rfl
  | cons a F ih =>
    intro i
    by_cases h : a.key = x
    · have e : keys (a :: F) = x :: keys F := by simp [keys, h]
      rw [e, if_pos (by simp), List.idxOf_cons_self]
      simp [Lib.idxByFrom, h]
    · have e : keys (a :: F) = a.key :: keys F := by simp [keys]
      have hb : ¬ (a.key == x) = true := by simpa using h
      simp only [Lib.idxByFrom, beq_iff_eq, h, if_false]
      rw [ih (i + 1), e]
      by_cases hm : x ∈ keys F
      · rw [if_pos hm, if_pos (by simp [hm]), List.idxOf_cons, show (a.key == x) = false by simpa using h, cond_false]; omega
      · rw [if_neg hm, if_neg (by simp only [List.mem_cons, not_or]; exact ⟨fun e => h e.symm, hm⟩)]
theorem fnd_eq (F : List It) (x : Int) : fnd F x = if x ∈ keys F then (((keys F).idxOf x : Nat) : Int) else -1 := by
  unfold fnd Lib.idxBy; rw [fndF_eq]; simp

theorem byKey_any (f : It) (x : Int) (p : Nat) (w : World) (hp : p < w.heap.size) (h : w.cell? ⟨p, 0, none⟩ = some (.int .i64 x)) :
    Calls Try.prog 32 #[fv f, .pointer (some ⟨p, 0, none⟩)] w fun e w' => e = .returned (.bool (f.key == x)) ∧ Below w.heap.size w w' := by
  obtain ⟨i, a, a2, a3⟩ := f
  have hb : Below w.heap.size w (w.alloc (fo ⟨i, a, a2, a3⟩)) := (Below.refl _ _).alloc (Nat.le_refl _) _
  have hc : (w.alloc (fo ⟨i, a, a2, a3⟩)).cell? ⟨p, 0, none⟩ = some (.int .i64 x) := (hb.cell (p := ⟨p, 0, none⟩) hp).trans h
  have HB := Lib.hid hb
  clear hb
  generalize hq : (i == x) = q
  go_enter Try.func32, Try.ntmps32
  go_wp2
  go_ret
  exact ⟨by first | rfl | rw [← hq] | simp [hq], HB.out⟩

theorem find_any (A : Option Addr) (c : Nat) (F : List It) (x : Int) (w : World) (h : Tss w A c F) :
    Calls Try.prog 23 #[.slice A F.length c, .int .i64 x] w fun e w' => e = .returned (.int .i64 (fnd F x)) ∧ Below w.heap.size w w' := by
  have hb0 : Below w.heap.size w (w.alloc (.cells #[.int .i64 x] 3)) := (Below.refl _ _).alloc (Nat.le_refl _) _
  have hlen := h.len
  have hcon : Calls Try.prog 31 #[.slice A F.length c, .func (.func 32) #[] #[.pointer (some ⟨w.heap.size, 0, none⟩)]] (w.alloc (.cells #[.int .i64 x] 3)) fun e w' => e = .returned (.int .i64 (fnd F x)) ∧ Below w.heap.size w w' := by
    by_cases h0 : 0 < F.length
    · obtain ⟨b, o, rfl, ht⟩ := h.2.2.2 h0
      have eg : ∀ args w, (callFunc 32 args).run Try.prog w = .ok (.enter 32 args) w := enters_of Try.func32 (by kernel_rfl) rfl
      have ht' := ht.below ht.1 hb0
      have k := AnyQ.slices_IndexFunc Try.indexIt 4 Try.isAgg26 Try.sizeOf26 encT (fun _ => rfl) (fun y => y.key == x) 32 #[.pointer (some ⟨w.heap.size, 0, none⟩)] eg b o F.length c F (w.alloc (.cells #[.int .i64 x] 3))
        (fun W y hW => (byKey_any y x w.heap.size W (by have := hW.size; simp at this; omega) ((hW.cell (p := ⟨w.heap.size, 0, none⟩) (by simp)).trans (by simp [go_sem]))).mono (fun e w' ⟨h1, h2⟩ => ⟨h1, hW.trans (h2.mono hW.size)⟩))
        (Nat.le_refl _) hlen ht'.1 (fun j hj i v hv => by
          have e : F[j]! = gt F j := by rw [gt_get hj, getElem!_pos F j hj]
          rw [e] at hv
          obtain ⟨g1, g2, g3, g4⟩ := ht'.2 j hj
          rcases i with _ | _ | _ | _ | i
          · simp [encT] at hv; rw [← hv]; exact g1
          · simp [encT] at hv; rw [← hv]; exact g2
          · simp [encT] at hv; rw [← hv]; exact g3
          · simp [encT] at hv; rw [← hv]; exact g4
          · simp [encT] at hv)
      rw [List.take_length] at k
      exact k.mono (fun e w' ⟨h1, h2⟩ => ⟨h1, hb0.trans (h2.mono (by simp))⟩)
    · have e1 : F = [] := List.length_eq_zero_iff.1 (by omega)
      subst e1
      have HB := Lib.hid hb0
      clear h hb0 hlen h0
      show Calls _ _ #[.slice A 0 c, _] _ _
      generalize w.alloc (.cells #[.int .i64 x] 3) = w1 at *
      go_enter Try.func31, Try.ntmps31
      go_wp2
      go_loopw [8] (fun i wr => i = .int .i64 0 ∧ w1 = wr) (fun i _ => 0)
      case atStart => exact ⟨rfl, rfl⟩
      case round =>
        obtain ⟨rfl, rfl⟩ := hrel
        go_wp2
        go_ret
        exact ⟨rfl, HB.out⟩
  have HC := Lib.hid hcon
  clear hcon hb0
  go_enter Try.func23, Try.ntmps23
  go_wp2_with fail
  refine HC.out.mono ?_
  rintro e w' ⟨rfl, hb⟩
  have HB := Lib.hid hb
  clear hb
  go_wp2
  go_ret
  exact ⟨rfl, HB.out⟩

/-! ### clone -/
theorem info_parts {P : Program} {t : TypeId} {z : Option Value} {s b : Nat} (h : (P.info? t).map (fun i => (i.zero, i.size, i.bytes)) = some (z, s, b)) :
    ∃ i, P.info? t = some i ∧ i.zero = z ∧ i.size = s ∧ i.bytes = b := by
  cases hi : P.info? t with
  | none => rw [hi] at h; cases h
  | some i => rw [hi] at h; simp only [Option.map_some, Option.some.injEq, Prod.mk.injEq] at h; exact ⟨i, rfl, h.1, h.2.1, h.2.2⟩
theorem use_info : (Try.prog.info? 26).map (fun i => (i.zero, i.size, i.bytes)) = some (some (.agg #[.int .i64 0, .int .i64 0, .int .i64 0, .int .i64 0]), 4, 32) := by kernel_rfl
theorem sclone_any (A : Option Addr) (c : Nat) (F : List It) (w : World) (h : Tss w A c F) (hs : F.length ≤ 1048576) :
    Calls Try.prog 22 #[.slice A F.length c] w fun e w' => ∃ v, e = .returned v ∧ OwnT w' w.heap.size v F ∧ Below w.heap.size w w' := by
  cases A with
  | none =>
    have e0 : F = [] := List.length_eq_zero_iff.1 (by have := h.1; have := h.2.2.1 rfl; omega)
    subst e0
    exact (AnyE.slices_Clone_nil Try.cloneIt 0 c w).mono (fun e w' ⟨h1, h2⟩ => ⟨_, h1, World.ownsRow_nil _ _ _ _, by rw [h2]; exact Below.refl _ _⟩)
  | some a =>
    obtain ⟨i0, hi0, hz0, hz1, hz2⟩ := info_parts use_info
    by_cases h0 : 0 < F.length
    · obtain ⟨b, o, e, ht⟩ := h.2.2.2 h0
      obtain rfl := Option.some.inj e
      have hc := tss_cells ht
      have k := AnyE.slices_Clone Try.cloneIt i0 _ 4 32 hi0 hz0 hz1 hz2 rfl (by omega) Try.sizeOf26 b o F.length c (encTs F) w (encTs_len F) h.len' (by omega) hc (encTs_one F)
      refine k.mono ?_
      rintro e w' ⟨v, rfl, h1, -, h3⟩
      exact ⟨v, rfl, h1, h3⟩
    · have e0 : F = [] := List.length_eq_zero_iff.1 (by omega)
      subst e0
      clear h hs h0
      show Calls _ _ #[.slice (some a) 0 c] _ _
      have q22 : ∀ (w : World) (a : Option Addr) (n c n' c' : Nat), (binOp .eql 22 (.slice a n c) (.slice none n' c')).run Try.prog w = .ok (.bool a.isNone) w := fun w a n c n' c' => Lib.run_eql_slice_nil w _ _ a n c n' c' Try.underlying22
      have HO := Lib.hid (World.ownsRow_made (e := 26) (size := 4) w #[] 0 (Nat.le_refl w.heap.size) (Nat.zero_le _) (by simp))
      go_enter Try.func22, Try.ntmps22
      go_wp2_with (at_builtin; refine wpList_append_own _ rfl _ _ 22 rfl w.heap.size 26 i0 _ 4 32 Try.underlying22 hi0 hz0 hz1 hz2 rfl (by decide) _ 0 [] rfl HO.out a 0 c [] rfl rfl (fun j u hj => by simp at hj) (fun u hu => by simp at hu) (by unfold maxLen; omega) (by omega) (by simp) ?_; intro v' w1 hown hgrow hnil)
      have hb : Below w.heap.size w w1 := ((Below.refl _ w).alloc (Nat.le_refl _) _).grown hgrow (by simp) (fun k hk => (HO.out.lt k hk).1)
      have HOw := Lib.hid hown
      have HB := Lib.hid hb
      clear hown hgrow hnil hb
      go_wp2
      go_ret
      exact ⟨v', rfl, HOw.out, HB.out⟩

theorem wpList_append_tss {w : World} {ops : Array Oper} {rest : List Oper} {o : Oper} {a : Act} {Q : Exit → Act → World → Prop} (hgd : o.guard = none) (s x : Operand)
    (ho : o.op = .call { callee := .builtin .append, args := #[s, x], argTypes := #[22, 22] })
    (base : Nat) (v : Value) (L : List It) (hs : a.eval s = v) (hown : OwnT w base v L) (B : Option Addr) (d m : Nat) (M : List It) (hm : m = M.length) (hx : a.eval x = .slice B m d) (hM : Tss w B d M)
    (hn : L.length + m ≤ 16777216) (hbase : base ≤ w.heap.size)
    (h : ∀ v' w', OwnT w' base v' (L ++ M) → w.grownBy w' v.ownBlock → wpList Try.prog ops Q rest (a.put o.dst v') w') : wpList Try.prog ops Q (o :: rest) a w := by
  subst hm
  obtain ⟨i0, hi0, hz0, hz1, hz2⟩ := info_parts use_info
  cases B with
  | none =>
    have hd := hM.2.2.1 rfl
    subst hd
    have e : M = [] := List.length_eq_zero_iff.1 (by have := hM.1; omega)
    subst e
    refine wpList_append_own_none hgd s x _ ho base 26 i0 4 Try.underlying22 hi0 v L.length (encTs L) hs hown hx (h v w (by simpa using hown) ⟨rfl, rfl, rfl, Nat.le_refl _, fun _ _ _ => rfl⟩)
  | some ad =>
    refine wpList_append_own w hgd s x _ ho base 26 i0 _ 4 32 Try.underlying22 hi0 hz0 hz1 hz2 rfl (by decide) v L.length (encTs L) hs hown ad M.length d (encTs M) hx (encTs_len M) ?_ (encTs_one M) (by unfold maxLen; omega) (by omega) hbase ?_
    · intro j u hj
      have hl : j < M.length * 4 := by rw [← encTs_len]; exact (List.getElem?_eq_some_iff.1 hj).1
      obtain ⟨b, o, e, ht⟩ := hM.2.2.2 (by omega)
      cases e
      rw [Addr.add_lit]
      exact tss_cells ht j u hj
    · intro v' w' h1 h2 _
      refine h v' w' ?_ h2
      unfold OwnT
      rw [encTs_app, List.length_append]
      exact h1

/-! ### Parts of a row -/
theorem elemU : Try.prog.underlying 22 = some (.slice (Try.prog.elem 22)) := by kernel_rfl
theorem sizeU (w : World) : (sizeOf (Try.prog.elem 22)).run Try.prog w = .ok 4 w := by kernel_rfl
theorem tss_upto {A : Option Addr} {c : Nat} {F : List It} {k : Nat} {w : World} (hT : Tss w A c F) (hk : k ≤ F.length) :
    ∃ A', (∀ W : World, (Instr.slice 22 (.slice A F.length c) none (some (.int .i64 (k : Int))) none).run Try.prog W = .ok (.slice A' k c) W) ∧ Tss w A' c (F.take k) := by
  have hc := hT.1
  have hl : (F.take k).length = k := by rw [List.length_take]; omega
  refine ⟨if c = 0 then A else A.map (·.add 0), fun W => ?_, ?_⟩
  · rw [run_slice_h W _ A F.length c elemU .i64 (k : Int) (by omega) (by omega), sizeU]
    simp [sliced]
  · refine ⟨by omega, hT.2.1, fun e => ?_, fun h0 => ?_⟩
    · split at e
      · assumption
      · exact hT.2.2.1 (by cases A with | none => rfl | some a => simp at e)
    · obtain ⟨b, o, rfl, ht⟩ := (hT.take k).2.2.2 h0
      rw [if_neg (by omega)]
      exact ⟨b, o, by simp [Addr.add_lit], ht⟩
theorem idx_neg {F : List It} {x : Int} : decide ((0 : Int) ≤ fnd F x) = decide (x ∈ keys F) := by
  rw [fnd_eq]
  by_cases h : x ∈ keys F
  · rw [if_pos h]; simp [h]
  · rw [if_neg h]; simp [h]

theorem below_setCells {B g : Nat} {w0 w : World} (hb : Below B w0 w) (hg : B ≤ g) (o : Nat) (vs : List Value) : Below B w0 (w.setCells g o vs) := by
  induction vs generalizing w o with
  | nil => exact hb
  | cons v vs ih => exact ih (hb.setCell (p := ⟨g, o, none⟩) hg v) (o + 1)

/-- A block of the call's own whose cells read as L. -/
theorem own_of_tss {w : World} {base g cap : Nat} {cur : Array Value} {L : List It} (hg : w.heap[g]? = some (.cells cur 26 (0, 0))) (hs : cur.size = cap * 4) (hb : base ≤ g) (h : Tss w (some ⟨g, 0, none⟩) cap L) :
    OwnT w base (.slice (some ⟨g, 0, none⟩) L.length cap) L := by
  refine ⟨encTs_len L, .inr ⟨g, cap, cur, rfl, hb, hg, h.1, h.2.1, hs, ?_⟩⟩
  have h1 := h.1
  apply List.ext_getElem?
  intro j
  by_cases hj : j < L.length * 4
  · rw [List.getElem?_take_of_lt (by omega)]
    obtain ⟨b, o, e, ht⟩ := h.2.2.2 (by omega)
    cases e
    have hjl : j < (encTs L).length := by rw [encTs_len]; exact hj
    have := tss_cells ht j _ (List.getElem?_eq_getElem hjl)
    rw [Nat.zero_add, cell_of_row w g j _ _ (0, 0) hg] at this
    rw [List.getElem?_eq_getElem hjl, ← this]
    simp
  · rw [List.getElem?_eq_none (by simp; omega), List.getElem?_eq_none (by rw [encTs_len]; omega)]

theorem run_clear4 (w : World) (ty : TypeId) (b o c : Nat) (hc : ∀ j, j < 4 → (w.cell? ⟨b, o + j, none⟩).isSome = true) (hf : ∀ j, j < 4 → w.frozen? ⟨b, o + j, none⟩ = false) :
    (Builtin.clear_ #[22] ty #[.slice (some ⟨b, o, none⟩) 1 c]).run Try.prog w = .ok (.tuple #[]) (w.setCells b o (encT ⟨0, 0, 0, 0⟩)) := by
  have hst := run_storeCells_cells (P := Try.prog) b o (encT ⟨0, 0, 0, 0⟩) 0 w (by simpa [encT] using hc) (by simpa [encT] using hf) (fun v hv => by simp only [encT, List.mem_cons, List.not_mem_nil, or_false] at hv; rcases hv with rfl | rfl | rfl | rfl <;> rfl)
  have hz : (Builtin.zeroCells (Value.agg #[.int .i64 0, .int .i64 0, .int .i64 0, .int .i64 0]).cells 1).toList = encT ⟨0, 0, 0, 0⟩ := by simp [Builtin.zeroCells, Value.cells, encT]; rfl
  have hv : ∀ w, (zeroValue 26).run Try.prog w = .ok (Value.agg #[.int .i64 0, .int .i64 0, .int .i64 0, .int .i64 0]) w := Try.zeroValue26
  simp [Builtin.clear_, run_underlying Try.underlying22, hv, hz, hst]

set_option maxHeartbeats 4000000 in
theorem delete_row (g cap k n : Nat) (L : List It) (cur : Array Value) (w : World) (hn : L.length = n) (hk : k < n) (hnc : n ≤ cap) (hcap : cap ≤ 9223372036854775807)
    (hg : w.heap[g]? = some (.cells cur 26 (0, 0))) (hsz : cur.size = cap * 4) (htk : cur.toList.take (n * 4) = encTs L) :
    Calls Try.prog 33 #[.slice (some ⟨g, 0, none⟩) n cap, .int .i64 (k : Int), .int .i64 ((k : Int) + 1)] w fun e w' =>
      e = .returned (.slice (some ⟨g, 0, none⟩) (n - 1) cap) ∧ w' = (w.drew.setCells g (k * 4) (encTs (L.drop (k + 1)))).setCells g ((n - 1) * 4) (encT ⟨0, 0, 0, 0⟩) := by
  obtain ⟨i0, hi0, hz0, hz1, hz2⟩ := info_parts use_info
  have hwc : ∀ j, w.cell? ⟨g, j, none⟩ = cur[j]? := fun j => cell_of_row w g j _ _ (0, 0) hg
  have hcs : ∀ j v, (encTs L)[j]? = some v → w.cell? ⟨g, j, none⟩ = some v := fun j v hv => by
    rw [hwc]
    rw [← htk, List.getElem?_take] at hv
    split at hv
    · simpa using hv
    · cases hv
  have hsp : ∀ j, j < cap * 4 → (w.cell? ⟨g, j, none⟩).isSome = true := fun j hj => by rw [hwc, Array.getElem?_eq_getElem (by omega)]; rfl
  have hfz : ∀ j, w.frozen? ⟨g, j, none⟩ = false := fun j => by simp [World.frozen?, hg]
  obtain ⟨news, hnews⟩ : ∃ news, news = encTs (L.drop (k + 1)) := ⟨_, rfl⟩
  have hdl : news.length = (n - (k + 1)) * 4 := by rw [hnews, encTs_len, List.length_drop, hn]
  have hdrop : ∀ j, news[j]? = (encTs L)[(k + 1) * 4 + j]? := fun j => by
    have e : encTs L = encTs (L.take (k + 1)) ++ encTs (L.drop (k + 1)) := by rw [← encTs_app, List.take_append_drop]
    have el : (encTs (L.take (k + 1))).length = (k + 1) * 4 := by rw [encTs_len, List.length_take, hn, Nat.min_eq_left (by omega)]
    rw [hnews, e, List.getElem?_append_right (by omega), el, Nat.add_sub_cancel_left]
  obtain ⟨A, hA, hsrc⟩ : ∃ A : Addr, (if cap = k + 1 then some (⟨g, 0, none⟩ : Addr) else some ⟨g, (k + 1) * 4, none⟩) = some A ∧ Hid (∀ t u, news[t]? = some u → w.drew.cell? (A.add t) = some u) := by
    by_cases h : cap = k + 1
    · refine ⟨⟨g, 0, none⟩, by simp [h], Lib.hid (fun t u hu => ?_)⟩
      have h0 : news.length = 0 := by rw [hdl]; omega
      rw [List.length_eq_zero_iff.1 h0] at hu
      simp at hu
    · refine ⟨⟨g, (k + 1) * 4, none⟩, by simp [h], Lib.hid (fun t u hu => ?_)⟩
      rw [Addr.add_lit]
      exact hcs _ u (by rw [← hdrop]; exact hu)
  have s2 : Hid (∀ u ∈ news, u.oneCell' = true) := Lib.hid (by rw [hnews]; exact encTs_one _)
  have s1 : Hid (news.length = (n - (k + 1)) * 4) := Lib.hid hdl
  have s3 : Hid (∀ t, t < news.length → (w.drew.cell? ⟨g, 0 + k * 4 + t, none⟩).isSome = true ∧ w.drew.frozen? ⟨g, 0 + k * 4 + t, none⟩ = false) := Lib.hid (fun t ht => ⟨hsp _ (by omega), hfz _⟩)
  obtain ⟨W1, hW1⟩ : ∃ W1, W1 = w.drew.setCells g (0 + k * 4) news := ⟨_, rfl⟩
  have hcl : ∀ ty cc, (Builtin.clear_ #[22] ty #[.slice (some ⟨g, (n - 1) * 4, none⟩) 1 cc]).run Try.prog W1 = .ok (.tuple #[]) (W1.setCells g ((n - 1) * 4) (encT ⟨0, 0, 0, 0⟩)) := fun ty cc =>
    run_clear4 W1 ty g ((n - 1) * 4) cc (fun j hj => by
      rw [hW1]
      exact isSome_setCells g news (0 + k * 4) w.drew (fun j' hj' => hsp _ (by omega)) _ (hsp _ (by omega)))
      (fun j hj => by rw [hW1, World.frozen?_setCells]; exact hfz _)
  have HW1 := Lib.hid hW1
  have HE : Hid (W1.setCells g ((n - 1) * 4) (encT ⟨0, 0, 0, 0⟩) = (w.drew.setCells g (k * 4) (encTs (L.drop (k + 1)))).setCells g ((n - 1) * 4) (encT ⟨0, 0, 0, 0⟩)) := Lib.hid (by rw [hW1, hnews, Nat.zero_add])
  obtain ⟨m, hm⟩ : ∃ m, n = m + 1 := ⟨n - 1, by omega⟩
  subst hm
  rw [show m + 1 - 1 = m by omega] at hcl HE ⊢
  have hHi0 := Lib.hid (And.intro hi0 hz1)
  clear hi0 hz0 hz1 hz2 hwc hcs hsp hfz hdl hdrop hW1 hg hsz htk hn hnews
  have hic : k ≤ cap := by omega
  have hjc : k + 1 ≤ cap := by omega
  have hkm : k + (m + 1 - (k + 1)) = m := by omega
  have hcm : ¬ (cap = m) := by omega
  have hb1 : (0 : Int) ≤ (k : Int) + 1 := by omega
  have htn : ((k : Int) + 1).toNat = k + 1 := by omega
  have hkm2 : k ≤ m := by omega
  have hle : (k : Int) + 1 ≤ (m : Int) + 1 := by omega
  have hle2 : (k : Int) ≤ (m : Int) := by omega
  go_enter Try.func33, Try.ntmps33
  go_wp2_with fail
  go_region_law (refine step_append_room rfl (.tmp 22) (.tmp 25) 22 rfl 26 i0 4 Try.underlying22 hHi0.out.1 hHi0.out.2 g 0 k cap (by simp [Act.eval, Act.put]) A (m + 1 - (k + 1)) (cap - (k + 1)) news (by simp [Act.eval, Act.put]) s1.out hsrc.out s2.out (by omega) s3.out ?_; rw [← HW1.out])
  go_wp2
  go_ret
  exact ⟨rfl, HE.out⟩

theorem tss_delete {w w' : World} {g cap k n : Nat} {L : List It} {cur : Array Value} (hn : L.length = n) (hk : k < n) (hnc : n ≤ cap) (hcap : cap ≤ maxLen)
    (hg : w.heap[g]? = some (.cells cur 26 (0, 0))) (hsz : cur.size = cap * 4) (htk : cur.toList.take (n * 4) = encTs L)
    (hw : w' = (w.drew.setCells g (k * 4) (encTs (L.drop (k + 1)))).setCells g ((n - 1) * 4) (encT ⟨0, 0, 0, 0⟩)) :
    Tss w' (some ⟨g, 0, none⟩) cap (L.take k ++ L.drop (k + 1)) ∧ ∀ B, B ≤ g → Below B w w' := by
  have hwc : ∀ j, w.cell? ⟨g, j, none⟩ = cur[j]? := fun j => cell_of_row w g j _ _ (0, 0) hg
  have hsp : ∀ j, j < cap * 4 → (w.cell? ⟨g, j, none⟩).isSome = true := fun j hj => by rw [hwc, Array.getElem?_eq_getElem (by omega)]; rfl
  have hdl : (encTs (L.drop (k + 1))).length = (n - (k + 1)) * 4 := by rw [encTs_len, List.length_drop, hn]
  have el : (encTs (L.take k)).length = k * 4 := by rw [encTs_len, List.length_take, hn, Nat.min_eq_left (by omega)]
  have hlen : (L.take k ++ L.drop (k + 1)).length = n - 1 := by simp [hn]; omega
  have hcell : ∀ j v, (encTs (L.take k ++ L.drop (k + 1)))[j]? = some v → w'.cell? ⟨g, j, none⟩ = some v := fun j v hv => by
    have hjl : j < (n - 1) * 4 := by
      have := (List.getElem?_eq_some_iff.1 hv).1
      rwa [encTs_len, hlen] at this
    rw [encTs_app] at hv
    rw [hw, World.cell?_setCells_out g _ _ _ ⟨g, j, none⟩ (fun _ _ => .inl hjl)]
    by_cases h1 : j < k * 4
    · rw [List.getElem?_append_left (by omega)] at hv
      rw [World.cell?_setCells_out g _ _ _ ⟨g, j, none⟩ (fun _ _ => .inl h1)]
      show w.cell? ⟨g, j, none⟩ = some v
      have e2 : encTs L = encTs (L.take k) ++ encTs (L.drop k) := by rw [← encTs_app, List.take_append_drop]
      have : (encTs L)[j]? = some v := by rw [e2, List.getElem?_append_left (by omega)]; exact hv
      rw [← htk, List.getElem?_take, if_pos (by omega)] at this
      rw [hwc]; simpa using this
    · rw [List.getElem?_append_right (by omega), el] at hv
      have hjl2 : j - k * 4 < (encTs (L.drop (k + 1))).length := (List.getElem?_eq_some_iff.1 hv).1
      have hk2 := World.cell?_setCells_in g (encTs (L.drop (k + 1))) (k * 4) w.drew (fun j' hj' => hsp _ (by omega)) (j - k * 4) hjl2
      rw [show k * 4 + (j - k * 4) = j by omega] at hk2
      rw [hk2, ← hv, List.getElem?_eq_getElem hjl2]
  have hbw : ∀ B, B ≤ g → Below B w w' := fun B hB => by
    rw [hw]
    exact below_setCells (below_setCells ((Below.refl _ _).drew) hB _ _) hB _ _
  refine ⟨⟨by omega, hcap, fun e => (by cases e), fun h0 => ⟨g, 0, rfl, ?_, fun i hi => ?_⟩⟩, hbw⟩
  · exact Nat.lt_of_lt_of_le (Array.getElem?_eq_some_iff.1 hg).1 (hbw g (Nat.le_refl _)).size
  · obtain ⟨e1, e2, e3, e4⟩ := encTs_get _ i hi
    rw [Nat.zero_add]
    exact ⟨hcell _ _ e1, hcell _ _ e2, hcell _ _ e3, hcell _ _ e4⟩

theorem delete_any (base : Nat) (v : Value) (L : List It) (k : Nat) (w : World) (hown : OwnT w base v L) (hk : k < L.length) :
    Calls Try.prog 33 #[v, .int .i64 (k : Int), .int .i64 ((k : Int) + 1)] w fun e w' =>
      ∃ v', e = .returned v' ∧ OwnT w' base v' (rem L k) ∧ Below base w w' := by
  rcases hown.2 with ⟨rfl, h0⟩ | ⟨g, cap, cur, rfl, hb, hg, hn, hm, hs, ht⟩
  · omega
  · refine (delete_row g cap k L.length L cur w rfl hk hn (by unfold maxLen at hm; omega) hg hs ht).mono ?_
    rintro e w' ⟨rfl, hw⟩
    obtain ⟨h1, h2⟩ := tss_delete rfl hk hn hm hg hs ht hw
    have hlen : (L.take k ++ L.drop (k + 1)).length = L.length - 1 := by simp; omega
    obtain ⟨c1, k1, k2⟩ := Lru.blk_setCells (encTs (L.drop (k + 1))) (k * 4) w.drew cur hg
    obtain ⟨c2, k3, k4⟩ := Lru.blk_setCells (encT ⟨0, 0, 0, 0⟩) ((L.length - 1) * 4) _ c1 k1
    rw [← hw] at k3
    have h9 := own_of_tss k3 (by omega) hb h1
    rw [hlen] at h9
    exact ⟨_, rfl, h9, h2 base hb⟩

end Go.Proofs.Ytmobohamlimhdaa.Grd
