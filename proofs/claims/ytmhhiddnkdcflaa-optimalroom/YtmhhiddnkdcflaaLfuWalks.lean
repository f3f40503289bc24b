/-
  Package lfu: isKey, find, clone.
-/
import Derived.Test.YtmhhiddnkdcflaaLfuMem
import Derived.Test.YtmhhiddnkdcflaaShelf
import Derived.Deep.RegionHeld3
import Derived.StillTailTactics
import Derived.Laws.AppendOwn
import Derived.Laws.AppendOwnNone
import Derived.BigQuiet
namespace Go.Proofs.Ytmhhiddnkdcflaa.Lfu
open Go.RowKit
open Lru (isRm isK keysE keysE_zero traceE trace_zero)
set_option linter.unusedVariables false
set_option maxRecDepth 100000

theorem bel_drewN {B : Nat} {w w' : World} (h : Below B w w') (n : Nat) : Below B w (w'.drewN n) := h.trans ⟨rfl, rfl, rfl, Nat.le_refl _, fun _ _ => rfl⟩
theorem isKey_any (n : Int) (w : World) : Calls Try.prog 50 #[.int .i64 n] w fun e w' => e = .returned (.bool (decide (isK n))) ∧ w = w' := by
  by_cases h : 0 ≤ n
  · have hd : decide (0 ≤ n) = true := by simpa using h
    have HE : Hid (decide (isK n) = decide (n ≤ 1048576)) := Lib.hid (by simp [isK, h])
    clear h
    go_enter Try.func50, Try.ntmps50
    go_wp2
    go_ret
    exact ⟨ret_bool HE.out.symm, rfl⟩
  · have hd : decide (0 ≤ n) = false := by simpa using h
    have HE : Hid (decide (isK n) = false) := Lib.hid (decide_eq_false (fun hh => h hh.1))
    clear h
    go_enter Try.func50, Try.ntmps50
    go_wp2
    go_ret
    exact ⟨ret_bool HE.out.symm, rfl⟩

/-- The first place of a key, or -1. -/
def fnd (F : List Us) (x : Int) : Int := Lib.idxBy (fun _ y => y.key == x) F default
theorem fndF_eq (x : Int) : ∀ (F : List Us) (i : Nat), Lib.idxByFrom (fun _ y => y.key == x) default F i = if x ∈ keys F then ((i + (keys F).idxOf x : Nat) : Int) else -1 := by
  intro F
  induction F with
  | nil => intro i; rfl
  | cons a F ih =>
    intro i
    by_cases h : a.key = x
    · have e : keys (a :: F) = x :: keys F := by simp [keys, h]
      rw [e, if_pos (by simp), List.idxOf_cons_self]
      simp [Lib.idxByFrom, h]
    · have e : keys (a :: F) = a.key :: keys F := by simp [keys]
      have hb : ¬ (a.key == x) = true := by simpa using h
      simp only [Lib.idxByFrom, beq_iff_eq, h, if_false]
      rw [ih (i + 1), e]
      by_cases hm : x ∈ keys F
      · rw [if_pos hm, if_pos (by simp [hm]), List.idxOf_cons, show (a.key == x) = false by simpa using h, cond_false]; omega
      · rw [if_neg hm, if_neg (by simp only [List.mem_cons, not_or]; exact ⟨fun e => h e.symm, hm⟩)]
theorem fnd_eq (F : List Us) (x : Int) : fnd F x = if x ∈ keys F then (((keys F).idxOf x : Nat) : Int) else -1 := by
  unfold fnd Lib.idxBy; rw [fndF_eq]; simp

theorem byKey_any (f : Us) (x : Int) (p : Nat) (w : World) (hp : p < w.heap.size) (h : w.cell? ⟨p, 0, none⟩ = some (.int .i64 x)) :
    Calls Try.prog 62 #[fv f, .pointer (some ⟨p, 0, none⟩)] w fun e w' => e = .returned (.bool (f.key == x)) ∧ Below w.heap.size w w' := by
  obtain ⟨i, a⟩ := f
  have hb : Below w.heap.size w (w.alloc (fo ⟨i, a⟩)) := (Below.refl _ _).alloc (Nat.le_refl _) _
  have hc : (w.alloc (fo ⟨i, a⟩)).cell? ⟨p, 0, none⟩ = some (.int .i64 x) := (hb.cell (p := ⟨p, 0, none⟩) hp).trans h
  have HB := Lib.hid hb
  clear hb
  generalize hq : (i == x) = q
  go_enter Try.func62, Try.ntmps62
  go_wp2
  go_ret
  exact ⟨by first | rfl | rw [← hq] | simp [hq], HB.out⟩

theorem uss_cells {w : World} {b o : Nat} {F : List Us} (h : UsAt w b o F) : ∀ j u, (encUs F)[j]? = some u → w.cell? ⟨b, o + j, none⟩ = some u := by
  intro j u hu
  have hl : j < F.length * 2 := by rw [← encUs_len]; exact (List.getElem?_eq_some_iff.1 hu).1
  obtain ⟨h1, h2⟩ := encUs_get F (j / 2) (by omega)
  obtain ⟨g1, g2⟩ := h.2 (j / 2) (by omega)
  rcases (by omega : j = j / 2 * 2 ∨ j = j / 2 * 2 + 1) with e | e
  · rw [← e] at h1 g1; rw [hu] at h1; rw [g1, h1]
  · rw [← e] at h2; rw [Nat.add_assoc, ← e] at g2; rw [hu] at h2; rw [g2, h2]

theorem find_any (A : Option Addr) (c : Nat) (F : List Us) (x : Int) (w : World) (h : Uss w A c F) :
    Calls Try.prog 51 #[.slice A F.length c, .int .i64 x] w fun e w' => e = .returned (.int .i64 (fnd F x)) ∧ Below w.heap.size w w' := by
  have hb0 : Below w.heap.size w (w.alloc (.cells #[.int .i64 x] 3)) := (Below.refl _ _).alloc (Nat.le_refl _) _
  have hlen := h.len
  have hcon : Calls Try.prog 61 #[.slice A F.length c, .func (.func 62) #[] #[.pointer (some ⟨w.heap.size, 0, none⟩)]] (w.alloc (.cells #[.int .i64 x] 3)) fun e w' => e = .returned (.int .i64 (fnd F x)) ∧ Below w.heap.size w w' := by
    by_cases h0 : 0 < F.length
    · obtain ⟨b, o, rfl, ht⟩ := h.2.2.2 h0
      have eg : ∀ args w, (callFunc 62 args).run Try.prog w = .ok (.enter 62 args) w := enters_of Try.func62 (by kernel_rfl) rfl
      have ht' := ht.below ht.1 hb0
      have k := AnyQ.slices_IndexFunc Try.indexU 2 Try.isAgg75 Try.sizeOf75 encU (fun _ => rfl) (fun y => y.key == x) 62 #[.pointer (some ⟨w.heap.size, 0, none⟩)] eg b o F.length c F (w.alloc (.cells #[.int .i64 x] 3))
        (fun W y hW => (byKey_any y x w.heap.size W (by have := hW.size; simp at this; omega) ((hW.cell (p := ⟨w.heap.size, 0, none⟩) (by simp)).trans (by simp [go_sem]))).mono (fun e w' ⟨h1, h2⟩ => ⟨h1, hW.trans (h2.mono hW.size)⟩))
        (Nat.le_refl _) hlen ht'.1 (fun j hj i v hv => by
          have e : F[j]! = gu F j := by rw [gu_get hj, getElem!_pos F j hj]
          rw [e] at hv
          obtain ⟨g1, g2⟩ := ht'.2 j hj
          cases i with
          | zero => simp [encU] at hv; rw [← hv]; exact g1
          | succ i =>
            cases i with
            | zero => simp [encU] at hv; rw [← hv]; exact g2
            | succ i => simp [encU] at hv)
      rw [List.take_length] at k
      exact k.mono (fun e w' ⟨h1, h2⟩ => ⟨h1, hb0.trans (h2.mono (by simp))⟩)
    · have e1 : F = [] := List.length_eq_zero_iff.1 (by omega)
      subst e1
      have HB := Lib.hid hb0
      clear h hb0 hlen h0
      show Calls _ _ #[.slice A 0 c, _] _ _
      generalize w.alloc (.cells #[.int .i64 x] 3) = w1 at *
      go_enter Try.func61, Try.ntmps61
      go_wp2
      go_loopw [8] (fun i wr => i = .int .i64 0 ∧ w1 = wr) (fun i _ => 0)
      case atStart => exact ⟨rfl, rfl⟩
      case round =>
        obtain ⟨rfl, rfl⟩ := hrel
        go_wp2
        go_ret
        exact ⟨rfl, HB.out⟩
  have HC := Lib.hid hcon
  clear hcon hb0
  go_enter Try.func51, Try.ntmps51
  go_wp2_with fail
  refine HC.out.mono ?_
  rintro e w' ⟨rfl, hb⟩
  have HB := Lib.hid hb
  clear hb
  go_wp2
  go_ret
  exact ⟨rfl, HB.out⟩

/-! ### clone -/
theorem info_parts {P : Program} {t : TypeId} {z : Option Value} {s b : Nat} (h : (P.info? t).map (fun i => (i.zero, i.size, i.bytes)) = some (z, s, b)) :
    ∃ i, P.info? t = some i ∧ i.zero = z ∧ i.size = s ∧ i.bytes = b := by
  cases hi : P.info? t with
  | none => rw [hi] at h; cases h
  | some i => rw [hi] at h; simp only [Option.map_some, Option.some.injEq, Prod.mk.injEq] at h; exact ⟨i, rfl, h.1, h.2.1, h.2.2⟩
theorem use_info : (Try.prog.info? 75).map (fun i => (i.zero, i.size, i.bytes)) = some (some (.agg #[.int .i64 0, .int .i64 0]), 2, 16) := by kernel_rfl
theorem sclone_any (A : Option Addr) (c : Nat) (F : List Us) (w : World) (h : Uss w A c F) (hs : F.length ≤ 1048576) :
    Calls Try.prog 36 #[.slice A F.length c] w fun e w' => ∃ v, e = .returned v ∧ OwnU w' w.heap.size v F ∧ Below w.heap.size w w' := by
  cases A with
  | none =>
    have e0 : F = [] := List.length_eq_zero_iff.1 (by have := h.1; have := h.2.2.1 rfl; omega)
    subst e0
    exact (AnyE.slices_Clone_nil Try.cloneU 0 c w).mono (fun e w' ⟨h1, h2⟩ => ⟨_, h1, World.ownsRow_nil _ _ _ _, by rw [h2]; exact Below.refl _ _⟩)
  | some a =>
    obtain ⟨i0, hi0, hz0, hz1, hz2⟩ := info_parts use_info
    by_cases h0 : 0 < F.length
    · obtain ⟨b, o, e, ht⟩ := h.2.2.2 h0
      obtain rfl := Option.some.inj e
      have hc := uss_cells ht
      have k := AnyE.slices_Clone Try.cloneU i0 _ 2 16 hi0 hz0 hz1 hz2 rfl (by omega) Try.sizeOf75 b o F.length c (encUs F) w (encUs_len F) h.len' (by omega) hc (encUs_one F)
      refine k.mono ?_
      rintro e w' ⟨v, rfl, h1, -, h3⟩
      exact ⟨v, rfl, h1, h3⟩
    · have e0 : F = [] := List.length_eq_zero_iff.1 (by omega)
      subst e0
      clear h hs h0
      show Calls _ _ #[.slice (some a) 0 c] _ _
      have q22 : ∀ (w : World) (a : Option Addr) (n c n' c' : Nat), (binOp .eql 45 (.slice a n c) (.slice none n' c')).run Try.prog w = .ok (.bool a.isNone) w := fun w a n c n' c' => Lib.run_eql_slice_nil w _ _ a n c n' c' Try.underlying45
      have HO := Lib.hid (World.ownsRow_made (e := 75) (size := 2) w #[] 0 (Nat.le_refl w.heap.size) (Nat.zero_le _) (by simp))
      go_enter Try.func36, Try.ntmps36
      go_wp2_with (at_builtin; refine wpList_append_own _ rfl _ _ 45 rfl w.heap.size 75 i0 _ 2 16 Try.underlying45 hi0 hz0 hz1 hz2 rfl (by decide) _ 0 [] rfl HO.out a 0 c [] rfl rfl (fun j u hj => by simp at hj) (fun u hu => by simp at hu) (by unfold maxLen; omega) (by omega) (by simp) ?_; intro v' w1 hown hgrow hnil)
      have hb : Below w.heap.size w w1 := ((Below.refl _ w).alloc (Nat.le_refl _) _).grown hgrow (by simp) (fun k hk => (HO.out.lt k hk).1)
      have HOw := Lib.hid hown
      have HB := Lib.hid hb
      clear hown hgrow hnil hb
      go_wp2
      go_ret
      exact ⟨v', rfl, HOw.out, HB.out⟩

/-- One key in a block of its own. -/
theorem uss_one (w : World) (f : Us) : Uss (w.alloc (fo f)) (some ⟨w.heap.size, 0, none⟩) 1 [f] := by
  refine ⟨Nat.le_refl _, by unfold maxLen; decide, fun e => (by cases e), fun _ => ⟨w.heap.size, 0, rfl, by simp, fun i hi => ?_⟩⟩
  obtain rfl : i = 0 := by simp at hi; omega
  exact ⟨by simp [go_sem, gu], by simp [go_sem, gu]⟩
theorem wpList_append_uss {w : World} {ops : Array Oper} {rest : List Oper} {o : Oper} {a : Act} {Q : Exit → Act → World → Prop} (hgd : o.guard = none) (s x : Operand)
    (ho : o.op = .call { callee := .builtin .append, args := #[s, x], argTypes := #[45, 45] })
    (base : Nat) (v : Value) (L : List Us) (hs : a.eval s = v) (hown : OwnU w base v L) (B : Option Addr) (d m : Nat) (M : List Us) (hm : m = M.length) (hx : a.eval x = .slice B m d) (hM : Uss w B d M)
    (hn : L.length + m ≤ 16777216) (hbase : base ≤ w.heap.size)
    (h : ∀ v' w', OwnU w' base v' (L ++ M) → w.grownBy w' v.ownBlock → wpList Try.prog ops Q rest (a.put o.dst v') w') : wpList Try.prog ops Q (o :: rest) a w := by
  subst hm
  obtain ⟨i0, hi0, hz0, hz1, hz2⟩ := info_parts use_info
  cases B with
  | none =>
    have hd := hM.2.2.1 rfl
    subst hd
    have e : M = [] := List.length_eq_zero_iff.1 (by have := hM.1; omega)
    subst e
    refine wpList_append_own_none hgd s x _ ho base 75 i0 2 Try.underlying45 hi0 v L.length (encUs L) hs hown hx (h v w (by simpa using hown) ⟨rfl, rfl, rfl, Nat.le_refl _, fun _ _ _ => rfl⟩)
  | some ad =>
    refine wpList_append_own w hgd s x _ ho base 75 i0 _ 2 16 Try.underlying45 hi0 hz0 hz1 hz2 rfl (by decide) v L.length (encUs L) hs hown ad M.length d (encUs M) hx (encUs_len M) ?_ (encUs_one M) (by unfold maxLen; omega) (by omega) hbase ?_
    · intro j u hj
      have hl : j < M.length * 2 := by rw [← encUs_len]; exact (List.getElem?_eq_some_iff.1 hj).1
      obtain ⟨b, o, e, ht⟩ := hM.2.2.2 (by omega)
      cases e
      rw [Addr.add_lit]
      exact uss_cells ht j u hj
    · intro v' w' h1 h2 _
      refine h v' w' ?_ h2
      unfold OwnU
      rw [encUs_app, List.length_append]
      exact h1

/-! ### Parts of a row -/
theorem elemU : Try.prog.underlying 45 = some (.slice (Try.prog.elem 45)) := by kernel_rfl
theorem sizeU (w : World) : (sizeOf (Try.prog.elem 45)).run Try.prog w = .ok 2 w := by kernel_rfl
theorem uss_upto {A : Option Addr} {c : Nat} {F : List Us} {k : Nat} {w : World} (hT : Uss w A c F) (hk : k ≤ F.length) :
    ∃ A', (∀ W : World, (Instr.slice 45 (.slice A F.length c) none (some (.int .i64 (k : Int))) none).run Try.prog W = .ok (.slice A' k c) W) ∧ Uss w A' c (F.take k) := by
  have hc := hT.1
  have hl : (F.take k).length = k := by rw [List.length_take]; omega
  refine ⟨if c = 0 then A else A.map (·.add 0), fun W => ?_, ?_⟩
  · rw [run_slice_h W _ A F.length c elemU .i64 (k : Int) (by omega) (by omega), sizeU]
    simp [sliced]
  · refine ⟨by omega, hT.2.1, fun e => ?_, fun h0 => ?_⟩
    · split at e
      · assumption
      · exact hT.2.2.1 (by cases A with | none => rfl | some a => simp at e)
    · obtain ⟨b, o, rfl, ht⟩ := (hT.take k).2.2.2 h0
      rw [if_neg (by omega)]
      exact ⟨b, o, by simp [Addr.add_lit], ht⟩
theorem Uss.us {w : World} {A : Option Addr} {c k : Nat} {F : List Us} (h : Uss w A c F) (hk : k < F.length) : ∃ b o, A = some ⟨b, o, none⟩ ∧ w.cell? ⟨b, o + k * 2, none⟩ = some (.int .i64 (gu F k).key) ∧ w.cell? ⟨b, o + k * 2 + 1, none⟩ = some (.int .i64 (gu F k).cnt) := by
  obtain ⟨b, o, e, ht⟩ := h.2.2.2 (by omega)
  exact ⟨b, o, e, ht.2 k hk⟩

theorem keysK_at {L : List Int} {k : Nat} {x : Int} (hk : k < L.length) (hx : L[k] = x) : keysE (L.take k) (L.drop k) = if isK x then (if x ∈ L.take k then 6 else keysE (L.take (k + 1)) (L.drop (k + 1))) else 3 := by
  subst hx
  rw [List.drop_eq_getElem_cons hk]
  have : L.take (k + 1) = L.take k ++ [L[k]] := by rw [List.take_add_one, List.getElem?_eq_getElem hk]; rfl
  rw [this]
  rfl
theorem idx_neg {F : List Us} {x : Int} : decide ((0 : Int) ≤ fnd F x) = decide (x ∈ keys F) := by
  rw [fnd_eq]
  by_cases h : x ∈ keys F
  · rw [if_pos h]; simp [h]
  · rw [if_neg h]; simp [h]

end Go.Proofs.Ytmhhiddnkdcflaa.Lfu
