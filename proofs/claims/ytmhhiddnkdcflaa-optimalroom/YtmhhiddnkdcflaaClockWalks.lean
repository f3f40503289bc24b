/-
  Package clock: isKey, find, clone.
-/
import Derived.Test.YtmhhiddnkdcflaaClockMem
import Derived.Test.YtmhhiddnkdcflaaShelf
import Derived.Deep.RegionHeld3
import Derived.StillTailTactics
import Derived.Laws.AppendOwn
namespace Go.Proofs.Ytmhhiddnkdcflaa.Clk
open Go.RowKit
open Lru (isRm isK keysE keysE_zero traceE trace_zero)
set_option linter.unusedVariables false

theorem isKey_any (n : Int) (w : World) : Calls Try.prog 46 #[.int .i64 n] w fun e w' => e = .returned (.bool (decide (isK n))) ∧ w = w' := by
  by_cases h : 0 ≤ n
  · have hd : decide (0 ≤ n) = true := by simpa using h
    have HE : Hid (decide (isK n) = decide (n ≤ 1048576)) := Lib.hid (by simp [isK, h])
    clear h
    go_enter Try.func46, Try.ntmps46
    go_wp2
    go_ret
    exact ⟨ret_bool HE.out.symm, rfl⟩
  · have hd : decide (0 ≤ n) = false := by simpa using h
    have HE : Hid (decide (isK n) = false) := Lib.hid (decide_eq_false (fun hh => h hh.1))
    clear h
    go_enter Try.func46, Try.ntmps46
    go_wp2
    go_ret
    exact ⟨ret_bool HE.out.symm, rfl⟩

/-- The first place of a key, or -1. -/
def fnd (F : List Fr) (x : Int) : Int := Lib.idxBy (fun _ y => y.key == x) F default
theorem fndF_eq (x : Int) : ∀ (F : List Fr) (i : Nat), Lib.idxByFrom (fun _ y => y.key == x) default F i = if x ∈ keys F then ((i + (keys F).idxOf x : Nat) : Int) else -1 := by
  intro F
  induction F with
  | nil => intro i; rfl
  | cons a F ih =>
    intro i
    by_cases h : a.key = x
    · have e : keys (a :: F) = x :: keys F := by simp [keys, h]
      rw [e, if_pos (by simp), List.idxOf_cons_self]
      simp [Lib.idxByFrom, h]
    · have e : keys (a :: F) = a.key :: keys F := by simp [keys]
      have hb : ¬ (a.key == x) = true := by simpa using h
      simp only [Lib.idxByFrom, beq_iff_eq, h, if_false]
      rw [ih (i + 1), e]
      by_cases hm : x ∈ keys F
      · rw [if_pos hm, if_pos (by simp [hm]), List.idxOf_cons, show (a.key == x) = false by simpa using h, cond_false]; omega
      · rw [if_neg hm, if_neg (by simp only [List.mem_cons, not_or]; exact ⟨fun e => h e.symm, hm⟩)]
theorem fnd_eq (F : List Fr) (x : Int) : fnd F x = if x ∈ keys F then (((keys F).idxOf x : Nat) : Int) else -1 := by
  unfold fnd Lib.idxBy; rw [fndF_eq]; simp

theorem byKey_any (f : Fr) (x : Int) (p : Nat) (w : World) (hp : p < w.heap.size) (h : w.cell? ⟨p, 0, none⟩ = some (.int .i64 x)) :
    Calls Try.prog 59 #[fv f, .pointer (some ⟨p, 0, none⟩)] w fun e w' => e = .returned (.bool (f.key == x)) ∧ Below w.heap.size w w' := by
  obtain ⟨i, a⟩ := f
  have hb : Below w.heap.size w (w.alloc (fo ⟨i, a⟩)) := (Below.refl _ _).alloc (Nat.le_refl _) _
  have hc : (w.alloc (fo ⟨i, a⟩)).cell? ⟨p, 0, none⟩ = some (.int .i64 x) := (hb.cell (p := ⟨p, 0, none⟩) hp).trans h
  have HB := Lib.hid hb
  clear hb
  generalize hq : (i == x) = q
  go_enter Try.func59, Try.ntmps59
  go_wp2
  go_ret
  exact ⟨by first | rfl | rw [← hq] | simp [hq], HB.out⟩

theorem frs_cells {w : World} {b o : Nat} {F : List Fr} (h : FrAt w b o F) : ∀ j u, (encFs F)[j]? = some u → w.cell? ⟨b, o + j, none⟩ = some u := by
  intro j u hu
  have hl : j < F.length * 2 := by rw [← encFs_len]; exact (List.getElem?_eq_some_iff.1 hu).1
  obtain ⟨h1, h2⟩ := encFs_get F (j / 2) (by omega)
  obtain ⟨g1, g2⟩ := h.2 (j / 2) (by omega)
  rcases (by omega : j = j / 2 * 2 ∨ j = j / 2 * 2 + 1) with e | e
  · rw [← e] at h1 g1; rw [hu] at h1; rw [g1, h1]
  · rw [← e] at h2; rw [Nat.add_assoc, ← e] at g2; rw [hu] at h2; rw [g2, h2]

theorem find_any (A : Option Addr) (c : Nat) (F : List Fr) (x : Int) (w : World) (h : Frs w A c F) :
    Calls Try.prog 47 #[.slice A F.length c, .int .i64 x] w fun e w' => e = .returned (.int .i64 (fnd F x)) ∧ Below w.heap.size w w' := by
  have hb0 : Below w.heap.size w (w.alloc (.cells #[.int .i64 x] 3)) := (Below.refl _ _).alloc (Nat.le_refl _) _
  have hlen := h.len
  have hcon : Calls Try.prog 58 #[.slice A F.length c, .func (.func 59) #[] #[.pointer (some ⟨w.heap.size, 0, none⟩)]] (w.alloc (.cells #[.int .i64 x] 3)) fun e w' => e = .returned (.int .i64 (fnd F x)) ∧ Below w.heap.size w w' := by
    by_cases h0 : 0 < F.length
    · obtain ⟨b, o, rfl, ht⟩ := h.2.2.2 h0
      have eg : ∀ args w, (callFunc 59 args).run Try.prog w = .ok (.enter 59 args) w := enters_of Try.func59 (by kernel_rfl) rfl
      have ht' := ht.below ht.1 hb0
      have k := AnyQ.slices_IndexFunc Try.indexF 2 Try.isAgg83 Try.sizeOf83 encF (fun _ => rfl) (fun y => y.key == x) 59 #[.pointer (some ⟨w.heap.size, 0, none⟩)] eg b o F.length c F (w.alloc (.cells #[.int .i64 x] 3))
        (fun W y hW => (byKey_any y x w.heap.size W (by have := hW.size; simp at this; omega) ((hW.cell (p := ⟨w.heap.size, 0, none⟩) (by simp)).trans (by simp [go_sem]))).mono (fun e w' ⟨h1, h2⟩ => ⟨h1, hW.trans (h2.mono hW.size)⟩))
        (Nat.le_refl _) hlen ht'.1 (fun j hj i v hv => by
          have e : F[j]! = gf F j := by rw [gf_get hj, getElem!_pos F j hj]
          rw [e] at hv
          obtain ⟨g1, g2⟩ := ht'.2 j hj
          cases i with
          | zero => simp [encF] at hv; rw [← hv]; exact g1
          | succ i =>
            cases i with
            | zero => simp [encF] at hv; rw [← hv]; exact g2
            | succ i => simp [encF] at hv)
      rw [List.take_length] at k
      exact k.mono (fun e w' ⟨h1, h2⟩ => ⟨h1, hb0.trans (h2.mono (by simp))⟩)
    · have e1 : F = [] := List.length_eq_zero_iff.1 (by omega)
      subst e1
      have HB := Lib.hid hb0
      clear h hb0 hlen h0
      show Calls _ _ #[.slice A 0 c, _] _ _
      generalize w.alloc (.cells #[.int .i64 x] 3) = w1 at *
      go_enter Try.func58, Try.ntmps58
      go_wp2
      go_loopw [8] (fun i wr => i = .int .i64 0 ∧ w1 = wr) (fun i _ => 0)
      case atStart => exact ⟨rfl, rfl⟩
      case round =>
        obtain ⟨rfl, rfl⟩ := hrel
        go_wp2
        go_ret
        exact ⟨rfl, HB.out⟩
  have HC := Lib.hid hcon
  clear hcon hb0
  go_enter Try.func47, Try.ntmps47
  go_wp2_with fail
  refine HC.out.mono ?_
  rintro e w' ⟨rfl, hb⟩
  have HB := Lib.hid hb
  clear hb
  go_wp2
  go_ret
  exact ⟨rfl, HB.out⟩

/-! ### clone -/
theorem info_parts {P : Program} {t : TypeId} {z : Option Value} {s b : Nat} (h : (P.info? t).map (fun i => (i.zero, i.size, i.bytes)) = some (z, s, b)) :
    ∃ i, P.info? t = some i ∧ i.zero = z ∧ i.size = s ∧ i.bytes = b := by
  cases hi : P.info? t with
  | none => rw [hi] at h; cases h
  | some i => rw [hi] at h; simp only [Option.map_some, Option.some.injEq, Prod.mk.injEq] at h; exact ⟨i, rfl, h.1, h.2.1, h.2.2⟩
theorem frame_info : (Try.prog.info? 83).map (fun i => (i.zero, i.size, i.bytes)) = some (some (.agg #[.int .i64 0, .bool false]), 2, 16) := by kernel_rfl
theorem sclone_any (A : Option Addr) (c : Nat) (F : List Fr) (w : World) (h : Frs w A c F) (hs : F.length ≤ 1048576) :
    Calls Try.prog 48 #[.slice A F.length c] w fun e w' => ∃ v, e = .returned v ∧ OwnF w' w.heap.size v F ∧ Below w.heap.size w w' := by
  cases A with
  | none =>
    have e0 : F = [] := List.length_eq_zero_iff.1 (by have := h.1; have := h.2.2.1 rfl; omega)
    subst e0
    exact (AnyE.slices_Clone_nil Try.cloneF 0 c w).mono (fun e w' ⟨h1, h2⟩ => ⟨_, h1, World.ownsRow_nil _ _ _ _, by rw [h2]; exact Below.refl _ _⟩)
  | some a =>
    obtain ⟨i0, hi0, hz0, hz1, hz2⟩ := info_parts frame_info
    by_cases h0 : 0 < F.length
    · obtain ⟨b, o, e, ht⟩ := h.2.2.2 h0
      obtain rfl := Option.some.inj e
      have hc := frs_cells ht
      have k := AnyE.slices_Clone Try.cloneF i0 _ 2 16 hi0 hz0 hz1 hz2 rfl (by omega) Try.sizeOf83 b o F.length c (encFs F) w (encFs_len F) h.len' (by omega) hc (encFs_one F)
      refine k.mono ?_
      rintro e w' ⟨v, rfl, h1, -, h3⟩
      exact ⟨v, rfl, h1, h3⟩
    · have e0 : F = [] := List.length_eq_zero_iff.1 (by omega)
      subst e0
      clear h hs h0
      show Calls _ _ #[.slice (some a) 0 c] _ _
      have q22 : ∀ (w : World) (a : Option Addr) (n c n' c' : Nat), (binOp .eql 40 (.slice a n c) (.slice none n' c')).run Try.prog w = .ok (.bool a.isNone) w := fun w a n c n' c' => Lib.run_eql_slice_nil w _ _ a n c n' c' Try.underlying40
      have HO := Lib.hid (World.ownsRow_made (e := 83) (size := 2) w #[] 0 (Nat.le_refl w.heap.size) (Nat.zero_le _) (by simp))
      go_enter Try.func48, Try.ntmps48
      go_wp2_with (at_builtin; refine wpList_append_own _ rfl _ _ 40 rfl w.heap.size 83 i0 _ 2 16 Try.underlying40 hi0 hz0 hz1 hz2 rfl (by decide) _ 0 [] rfl HO.out a 0 c [] rfl rfl (fun j u hj => by simp at hj) (fun u hu => by simp at hu) (by unfold maxLen; omega) (by omega) (by simp) ?_; intro v' w1 hown hgrow hnil)
      have hb : Below w.heap.size w w1 := ((Below.refl _ w).alloc (Nat.le_refl _) _).grown hgrow (by simp) (fun k hk => (HO.out.lt k hk).1)
      have HOw := Lib.hid hown
      have HB := Lib.hid hb
      clear hown hgrow hnil hb
      go_wp2
      go_ret
      exact ⟨v', rfl, HOw.out, HB.out⟩

end Go.Proofs.Ytmhhiddnkdcflaa.Clk
