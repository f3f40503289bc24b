/-
  Package shard: hasName; a part of a list of shards.
-/
import Derived.Test.YtjmhemkbfephpaaShMem
import Derived.Test.YtjmhemkbfephpaaHashWalks
import Derived.Test.YtjmhemkbfephpaaShelf
import Derived.Deep.RegionHeld3
import Derived.StillTailTactics
import Derived.BigQuiet
namespace Go.Proofs.Ytjmhemkbfephpaa.Shd
open Go.RowKit
set_option linter.unusedVariables false
set_option maxRecDepth 100000

theorem str_eq {s t : ByteArray} (h : s = t) : (s.toList == t.toList) = true := by subst h; simp
theorem str_ne {a b : ByteArray} (h : a ≠ b) : (a.toList == b.toList) = false := by
  rw [Bool.eq_false_iff]; intro hx; rw [beq_iff_eq, ByteArray.toList_eq, ByteArray.toList_eq] at hx; exact h (ByteArray.ext (Array.toList_inj.mp hx))
/-- The names are texts. -/
def Nms (L : List Sh) : Prop := ∀ i, i < L.length → (gs L i).name.size ≤ maxLen
/-- A shard of the list has the name. -/
def hn (L : List Sh) (x : ByteArray) : Bool := L.any (fun y => y.name.toList == x.toList)
theorem idxF_neg (p : Sh → Bool) : ∀ (F : List Sh) (i : Nat), decide ((0 : Int) ≤ Lib.idxByFrom (fun _ y => p y) default F i) = F.any p := by
  intro F
  induction F with
  | nil => intro i; rfl
  | cons a F ih =>
    intro i
    cases h : p a with
    | true => simp [Lib.idxByFrom, h]
    | false => simp only [Lib.idxByFrom, h, List.any_cons, Bool.false_or]; exact ih (i + 1)
theorem idx_neg (p : Sh → Bool) (F : List Sh) : decide ((0 : Int) ≤ Lib.idxBy (fun _ y => p y) F default) = F.any p := idxF_neg p F 0

theorem byName_any (f : Sh) (x : ByteArray) (p : Nat) (w : World) (hp : p < w.heap.size) (h : w.cell? ⟨p, 0, none⟩ = some (.string x)) :
    Calls Try.prog 73 #[fv f, .pointer (some ⟨p, 0, none⟩)] w fun e w' => e = .returned (.bool (f.name.toList == x.toList)) ∧ Below w.heap.size w w' := by
  obtain ⟨i, a⟩ := f
  have hb : Below w.heap.size w (w.alloc (fo ⟨i, a⟩)) := (Below.refl _ _).alloc (Nat.le_refl _) _
  have hc : (w.alloc (fo ⟨i, a⟩)).cell? ⟨p, 0, none⟩ = some (.string x) := (hb.cell (p := ⟨p, 0, none⟩) hp).trans h
  have HB := Lib.hid hb
  clear hb
  show Calls _ _ _ _ (fun e w' => e = .returned (.bool (i.toList == x.toList)) ∧ Below w.heap.size w w')
  generalize hq : (i.toList == x.toList) = q
  go_enter Try.func73, Try.ntmps73
  go_wp2
  go_ret
  exact ⟨by first | rfl | rw [← hq] | simp [hq], HB.out⟩

theorem hasName_any (A : Option Addr) (c : Nat) (F : List Sh) (x : ByteArray) (w : World) (h : Shs w A c F) :
    Calls Try.prog 63 #[.slice A F.length c, .string x] w fun e w' => e = .returned (.bool (hn F x)) ∧ Below w.heap.size w w' := by
  have hb0 : Below w.heap.size w (w.alloc (.cells #[.string x] 9)) := (Below.refl _ _).alloc (Nat.le_refl _) _
  have hlen := h.len
  have hcon : Calls Try.prog 76 #[.slice A F.length c, .func (.func 73) #[] #[.pointer (some ⟨w.heap.size, 0, none⟩)]] (w.alloc (.cells #[.string x] 9)) fun e w' => (∃ n : Int, e = .returned (.int .i64 n) ∧ decide ((0 : Int) ≤ n) = hn F x) ∧ Below w.heap.size w w' := by
    by_cases h0 : 0 < F.length
    · obtain ⟨b, o, rfl, ht⟩ := h.2.2.2 h0
      have eg : ∀ args w, (callFunc 73 args).run Try.prog w = .ok (.enter 73 args) w := enters_of Try.func73 (by kernel_rfl) rfl
      have ht' := ht.below ht.1 hb0
      have k := AnyQ.slices_IndexFunc Try.indexS 2 Try.isAgg81 Try.sizeOf81 encS (fun _ => rfl) (fun y => y.name.toList == x.toList) 73 #[.pointer (some ⟨w.heap.size, 0, none⟩)] eg b o F.length c F (w.alloc (.cells #[.string x] 9))
        (fun W y hW => (byName_any y x w.heap.size W (by have := hW.size; simp at this; omega) ((hW.cell (p := ⟨w.heap.size, 0, none⟩) (by simp)).trans (by simp [go_sem]))).mono (fun e w' ⟨h1, h2⟩ => ⟨h1, hW.trans (h2.mono hW.size)⟩))
        (Nat.le_refl _) hlen ht'.1 (fun j hj i v hv => by
          have e : F[j]! = gs F j := by rw [gs_get hj, getElem!_pos F j hj]
          rw [e] at hv
          obtain ⟨g1, g2⟩ := ht'.2 j hj
          rcases i with _ | _ | i
          · simp [encS] at hv; rw [← hv]; exact g1
          · simp [encS] at hv; rw [← hv]; exact g2
          · simp [encS] at hv)
      rw [List.take_length] at k
      exact k.mono (fun e w' ⟨h1, h2⟩ => ⟨⟨_, h1, idx_neg _ F⟩, hb0.trans (h2.mono (by simp))⟩)
    · have e1 : F = [] := List.length_eq_zero_iff.1 (by omega)
      subst e1
      have HB := Lib.hid hb0
      clear h hb0 hlen h0
      show Calls _ _ #[.slice A 0 c, _] _ _
      generalize w.alloc (.cells #[.string x] 9) = w1 at *
      go_enter Try.func76, Try.ntmps76
      go_wp2
      go_loopw [8] (fun i wr => i = .int .i64 0 ∧ w1 = wr) (fun i _ => 0)
      case atStart => exact ⟨rfl, rfl⟩
      case round =>
        obtain ⟨rfl, rfl⟩ := hrel
        go_wp2
        go_ret
        exact ⟨⟨-1, rfl, rfl⟩, HB.out⟩
  have HC := Lib.hid hcon
  have HD : Hid (Calls Try.prog 72 #[.slice A F.length c, .func (.func 73) #[] #[.pointer (some ⟨w.heap.size, 0, none⟩)]] (w.alloc (.cells #[.string x] 9)) fun e w' => e = .returned (.bool (hn F x)) ∧ Below w.heap.size w w') := by
    clear hcon hb0 h
    generalize w.alloc (.cells #[.string x] 9) = w1 at *
    refine Lib.hid ?_
    go_enter Try.func72, Try.ntmps72
    go_wp2_with fail
    refine HC.out.mono ?_
    rintro e w' ⟨⟨n, rfl, hn'⟩, hb⟩
    have HB := Lib.hid hb
    have HE := Lib.hid hn'
    clear hb hn'
    go_wp2
    go_ret
    exact ⟨ret_bool HE.out, HB.out⟩
  clear hcon hb0 HC h
  go_enter Try.func63, Try.ntmps63
  go_wp2_with fail
  refine HD.out.mono ?_
  rintro e w' ⟨rfl, hb⟩
  have HB := Lib.hid hb
  clear hb
  go_wp2
  go_ret
  exact ⟨rfl, HB.out⟩

theorem elemS : Try.prog.underlying 42 = some (.slice (Try.prog.elem 42)) := by kernel_rfl
theorem sizeS (w : World) : (sizeOf (Try.prog.elem 42)).run Try.prog w = .ok 2 w := by kernel_rfl
/-- list[:k] -/
theorem shs_upto {A : Option Addr} {c : Nat} {F : List Sh} {k : Nat} {w : World} (hT : Shs w A c F) (hk : k ≤ F.length) :
    ∃ A', (∀ W : World, (Instr.slice 42 (.slice A F.length c) none (some (.int .i64 (k : Int))) none).run Try.prog W = .ok (.slice A' k c) W) ∧ Shs w A' c (F.take k) := by
  have hc := hT.1
  have hl : (F.take k).length = k := by rw [List.length_take]; omega
  refine ⟨if c = 0 then A else A.map (·.add 0), fun W => ?_, ?_⟩
  · rw [run_slice_h W _ A F.length c elemS .i64 (k : Int) (by omega) (by omega), sizeS]
    simp [sliced]
  · refine ⟨by omega, hT.2.1, fun e => ?_, fun h0 => ?_⟩
    · split at e
      · assumption
      · exact hT.2.2.1 (by cases A with | none => rfl | some a => simp at e)
    · obtain ⟨b, o, rfl, ht⟩ := (hT.take k).2.2.2 h0
      rw [if_neg (by omega)]
      exact ⟨b, o, by simp [Addr.add_lit], ht⟩
theorem hn_dup {L : List Sh} {i : Nat} (h : i < L.length) : hn (L.take i) (gs L i).name = true ↔ dup L i := by
  unfold hn dup
  rw [List.any_eq_true]
  constructor
  · rintro ⟨y, hy, e⟩
    obtain ⟨k, hk, rfl⟩ := List.mem_iff_getElem.1 hy
    rw [List.length_take] at hk
    refine ⟨k, by omega, Classical.byContradiction fun hne => ?_⟩
    rw [← gs_get (by rw [List.length_take]; omega), gs_take (by omega), str_ne hne] at e
    cases e
  · rintro ⟨k, hk, e⟩
    refine ⟨gs L k, ?_, str_eq e⟩
    rw [← gs_take hk]
    exact gs_mem (by rw [List.length_take]; omega)

end Go.Proofs.Ytjmhemkbfephpaa.Shd
