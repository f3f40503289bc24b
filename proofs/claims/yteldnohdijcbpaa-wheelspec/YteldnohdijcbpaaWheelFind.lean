/-
  What find of package wheel returns; a copy of a row of timers.
-/
import Derived.Test.YteldnohdijcbpaaWheelPlace
namespace Go.Proofs.Yteldnohdijcbpaa.Whl
open Go.RowKit
set_option linter.unusedVariables false

/-- The first place of an id, or -1. -/
def fnd (L : List Tm) (id : Int) : Int := Lib.idxBy (fun _ y => y.id == id) L default
theorem fndF_cases (id : Int) : ∀ (L : List Tm) (i : Nat), (Lib.idxByFrom (fun _ y => y.id == id) default L i = -1 ∧ ∀ t ∈ L, t.id ≠ id) ∨ ∃ k : Nat, Lib.idxByFrom (fun _ y => y.id == id) default L i = ((i + k : Nat) : Int) ∧ k < L.length ∧ (gt L k).id = id := by
  intro L
  induction L with
  | nil => intro i; exact .inl ⟨rfl, fun t ht => by simp at ht⟩
  | cons a L ih =>
    intro i
    by_cases h : a.id = id
    · refine .inr ⟨0, ?_, by simp, by simpa [gt] using h⟩
      simp [Lib.idxByFrom, h]
    · rcases ih (i + 1) with ⟨h1, h2⟩ | ⟨k, h1, h2, h3⟩
      · refine .inl ⟨?_, fun t ht => ?_⟩
        · simp only [Lib.idxByFrom, beq_iff_eq, h, if_false]; exact h1
        · rcases List.mem_cons.1 ht with e | m
          · rw [e]; exact h
          · exact h2 t m
      · refine .inr ⟨k + 1, ?_, by simpa using h2, by simpa [gt] using h3⟩
        simp only [Lib.idxByFrom, beq_iff_eq, h, if_false]
        rw [h1]; omega
theorem fnd_cases (L : List Tm) (id : Int) : (fnd L id = -1 ∧ ∀ t ∈ L, t.id ≠ id) ∨ ∃ k : Nat, fnd L id = (k : Int) ∧ k < L.length ∧ (gt L k).id = id := by
  rcases fndF_cases id L 0 with h | ⟨k, h1, h2, h3⟩
  · exact .inl h
  · exact .inr ⟨k, by unfold fnd Lib.idxBy; simpa using h1, h2, h3⟩

theorem byId_any (t : Tm) (id : Int) (p : Nat) (w : World) (hp : p < w.heap.size) (h : w.cell? ⟨p, 0, none⟩ = some (.int .i64 id)) :
    Calls Try.prog 36 #[tv t, .pointer (some ⟨p, 0, none⟩)] w fun e w' => e = .returned (.bool (t.id == id)) ∧ Below w.heap.size w w' := by
  obtain ⟨i, a⟩ := t
  have hb : Below w.heap.size w (w.alloc (tbo ⟨i, a⟩)) := (Below.refl _ _).alloc (Nat.le_refl _) _
  have hc : (w.alloc (tbo ⟨i, a⟩)).cell? ⟨p, 0, none⟩ = some (.int .i64 id) := (hb.cell (p := ⟨p, 0, none⟩) hp).trans h
  have HB := Lib.hid hb
  clear hb
  generalize hq : (i == id) = q
  go_enter Try.func36, Try.ntmps36
  go_wp2
  go_ret
  exact ⟨by first | rfl | rw [← hq] | simp [hq], HB.out⟩

theorem tms_cells {w : World} {b o : Nat} {L : List Tm} (h : TmAt w b o L) : ∀ j u, (encTs L)[j]? = some u → w.cell? ⟨b, o + j, none⟩ = some u := by
  intro j u hu
  have hl : j < L.length * 2 := by rw [← encTs_len]; exact (List.getElem?_eq_some_iff.1 hu).1
  obtain ⟨h1, h2⟩ := encTs_get L (j / 2) (by omega)
  obtain ⟨g1, g2⟩ := h.2 (j / 2) (by omega)
  rcases (by omega : j = j / 2 * 2 ∨ j = j / 2 * 2 + 1) with e | e
  · rw [← e] at h1 g1; rw [hu] at h1; rw [g1, h1]
  · rw [← e] at h2; rw [Nat.add_assoc, ← e] at g2; rw [hu] at h2; rw [g2, h2]

theorem find_any (A : Option Addr) (c : Nat) (L : List Tm) (id : Int) (w : World) (h : Tms w A c L) :
    Calls Try.prog 23 #[.slice A L.length c, .int .i64 id] w fun e w' => e = .returned (.int .i64 (fnd L id)) ∧ Below w.heap.size w w' := by
  have hb0 : Below w.heap.size w (w.alloc (.cells #[.int .i64 id] 3)) := (Below.refl _ _).alloc (Nat.le_refl _) _
  have hlen := h.len
  have hcon : Calls Try.prog 35 #[.slice A L.length c, .func (.func 36) #[] #[.pointer (some ⟨w.heap.size, 0, none⟩)]] (w.alloc (.cells #[.int .i64 id] 3)) fun e w' => e = .returned (.int .i64 (fnd L id)) ∧ Below w.heap.size w w' := by
    by_cases h0 : 0 < L.length
    · obtain ⟨b, o, rfl, ht⟩ := h.2.2.2 h0
      have eg : ∀ args w, (callFunc 36 args).run Try.prog w = .ok (.enter 36 args) w := enters_of Try.func36 (by kernel_rfl) rfl
      have ht' := ht.below ht.1 hb0
      have k := AnyQ.slices_IndexFunc Try.indexT 2 Try.isAgg26 Try.sizeOf26 encT (fun _ => rfl) (fun x => x.id == id) 36 #[.pointer (some ⟨w.heap.size, 0, none⟩)] eg b o L.length c L (w.alloc (.cells #[.int .i64 id] 3))
        (fun W x hW => (byId_any x id w.heap.size W (by have := hW.size; simp at this; omega) ((hW.cell (p := ⟨w.heap.size, 0, none⟩) (by simp)).trans (by simp [go_sem]))).mono (fun e w' ⟨h1, h2⟩ => ⟨h1, hW.trans (h2.mono hW.size)⟩))
        (Nat.le_refl _) hlen ht'.1 (fun j hj i v hv => by
          have e : L[j]! = gt L j := by rw [gt_get hj, getElem!_pos L j hj]
          rw [e] at hv
          obtain ⟨g1, g2⟩ := ht'.2 j hj
          cases i with
          | zero => simp [encT] at hv; rw [← hv]; exact g1
          | succ i =>
            cases i with
            | zero => simp [encT] at hv; rw [← hv]; exact g2
            | succ i => simp [encT] at hv)
      rw [List.take_length] at k
      exact k.mono (fun e w' ⟨h1, h2⟩ => ⟨h1, hb0.trans (h2.mono (by simp))⟩)
    · have e1 : L = [] := List.length_eq_zero_iff.1 (by omega)
      subst e1
      have HB := Lib.hid hb0
      clear h hb0 hlen h0
      show Calls _ _ #[.slice A 0 c, _] _ _
      generalize w.alloc (.cells #[.int .i64 id] 3) = w1 at *
      go_enter Try.func35, Try.ntmps35
      go_wp2
      go_loopw [8] (fun i wr => i = .int .i64 0 ∧ w1 = wr) (fun i _ => 0)
      case atStart => exact ⟨rfl, rfl⟩
      case round =>
        obtain ⟨rfl, rfl⟩ := hrel
        go_wp2
        go_ret
        exact ⟨rfl, HB.out⟩
  have HC := Lib.hid hcon
  clear hcon hb0
  go_enter Try.func23, Try.ntmps23
  go_wp2_with fail
  refine HC.out.mono ?_
  rintro e w' ⟨rfl, hb⟩
  have HB := Lib.hid hb
  clear hb
  go_wp2
  go_ret
  exact ⟨rfl, HB.out⟩

/-! ### slices.Clone -/
theorem info_parts {P : Program} {t : TypeId} {z : Option Value} {s b : Nat} (h : (P.info? t).map (fun i => (i.zero, i.size, i.bytes)) = some (z, s, b)) :
    ∃ i, P.info? t = some i ∧ i.zero = z ∧ i.size = s ∧ i.bytes = b := by
  cases hi : P.info? t with
  | none => rw [hi] at h; cases h
  | some i => rw [hi] at h; simp only [Option.map_some, Option.some.injEq, Prod.mk.injEq] at h; exact ⟨i, rfl, h.1, h.2.1, h.2.2⟩
theorem timer_info : (Try.prog.info? 26).map (fun i => (i.zero, i.size, i.bytes)) = some (some (.agg #[.int .i64 0, .int .i64 0]), 2, 16) := by kernel_rfl
theorem clone_any (A : Option Addr) (c : Nat) (L : List Tm) (w : World) (h : Tms w A c L) (hA : ∀ a, A = some a → a.spot = none) (hs : L.length ≤ 1048576) :
    Calls Try.prog 28 #[.slice A L.length c] w fun e w' => ∃ A' c', e = .returned (.slice A' L.length c') ∧ Tms w' A' c' L ∧ (∀ a, A' = some a → w.heap.size ≤ a.block) ∧ Below w.heap.size w w' := by
  cases A with
  | none =>
    have e0 : L = [] := List.length_eq_zero_iff.1 (by have := h.1; have := h.2.2.1 rfl; omega)
    subst e0
    exact (AnyE.slices_Clone_nil Try.cloneT 0 c w).mono (fun e w' ⟨h1, h2⟩ => ⟨none, 0, h1, by rw [h2]; exact Tms.none_ w, fun a e => (by cases e), by rw [h2]; exact Below.refl _ _⟩)
  | some a =>
    obtain ⟨i0, hi0, hz0, hz1, hz2⟩ := info_parts timer_info
    obtain ⟨b, o, ha, hc⟩ : ∃ b o, a = ⟨b, o, none⟩ ∧ ∀ j u, (encTs L)[j]? = some u → w.cell? ⟨b, o + j, none⟩ = some u := by
      by_cases h0 : 0 < L.length
      · obtain ⟨b, o, e, ht⟩ := h.2.2.2 h0
        exact ⟨b, o, Option.some.inj e, tms_cells ht⟩
      · have e0 : L = [] := List.length_eq_zero_iff.1 (by omega)
        subst e0
        obtain ⟨b, o, q⟩ := a
        obtain rfl : q = none := hA _ rfl
        exact ⟨b, o, rfl, fun j u hu => by simp [encTs] at hu⟩
    subst ha
    have k := AnyE.slices_Clone Try.cloneT i0 _ 2 16 hi0 hz0 hz1 hz2 rfl (by omega) Try.sizeOf26 b o L.length c (encTs L) w (encTs_len L) h.len' (by omega) hc (encTs_one L)
    refine k.mono ?_
    rintro e w' ⟨v, rfl, h1, -, h3⟩
    obtain ⟨A', c', rfl, g1, g2⟩ := tms_of_own h1
    exact ⟨A', c', rfl, g1, g2, h3⟩

end Go.Proofs.Yteldnohdijcbpaa.Whl
