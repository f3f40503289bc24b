/-
  Sketches of the call's own in variables, whose counters are written one at a time.
-/
import Derived.Test.YtmjoiakggckeoaaSketchRef2
import Derived.Test.YtmjoiakggckeoaaSketchAddsLaw0
import Derived.Deep.DeepCutAuto
namespace Go.Proofs.Ytmjoiakggckeoaa.Skt
open Go.RowKit
set_option linter.unusedVariables false

theorem gb_next {w w' w'' : World} {row : Option Nat} {N : Nat} (h : w.grownBy w' row) (hN : w.heap.size ≤ N) (hb : Below N w' w'') : w.grownBy w'' row :=
  ⟨hb.os.trans h.os, hb.tape.trans h.tape, hb.output.trans h.output, Nat.le_trans h.size hb.size, fun k hk hr => (hb.block k (by omega)).trans (h.block k hk hr)⟩
theorem gb_refl (w : World) (row : Option Nat) : w.grownBy w row := ⟨rfl, rfl, rfl, Nat.le_refl _, fun _ _ _ => rfl⟩
theorem gb_set {w w' : World} {p : Nat} (h : w.grownBy w' (some p)) (j : Nat) (u : Value) : w.grownBy (w'.setCell ⟨p, j, none⟩ u) (some p) :=
  ⟨h.os, h.tape, h.output, by simpa [World.setCell] using h.size, fun k hk hr => (Below.heap_setCell _ _ _ _ (fun e => hr (by rw [e]))).trans (h.block k hk hr)⟩
theorem gb_below {w w' : World} {p B : Nat} (h : w.grownBy w' (some p)) (hB : B ≤ p) (hw : B ≤ w.heap.size) : Below B w w' :=
  ⟨h.os, h.tape, h.output, h.size, fun k hk => h.block k (by omega) (fun e => by cases e; omega)⟩

abbrev z2 : Obj := .cells #[.int .i64 0, .slice none 0 0] 24

/-! ### One counter -/
def setg (LL : List (List Int)) (r j : Nat) (x : Int) : List (List Int) := LL.set r ((gl LL r).set j x)
theorem setg_len (LL : List (List Int)) (r j : Nat) (x : Int) : (setg LL r j x).length = LL.length := by simp [setg]
theorem gl_setg {LL : List (List Int)} {r j i : Nat} (hr : r < LL.length) (x : Int) : gl (setg LL r j x) i = if i = r then (gl LL r).set j x else gl LL i := by
  unfold setg
  generalize (gl LL r).set j x = R
  unfold gl
  rw [List.getD_eq_getElem?_getD, List.getD_eq_getElem?_getD, List.getElem?_set]
  by_cases e : i = r
  · subst e; simp [hr]
  · rw [if_neg (fun h => e h.symm), if_neg e]
theorem len_setg {LL : List (List Int)} {r j i : Nat} (hr : r < LL.length) (x : Int) : (gl (setg LL r j x) i).length = (gl LL i).length := by
  rw [gl_setg hr]; split
  · rename_i h; subst h; simp
  · rfl
theorem gi_setg {LL : List (List Int)} {r j i t : Nat} (hr : r < LL.length) (hj : j < (gl LL r).length) (x : Int) : gi (gl (setg LL r j x) i) t = if i = r ∧ t = j then x else gi (gl LL i) t := by
  rw [gl_setg hr]
  by_cases e : i = r
  · subst e
    rw [if_pos rfl, gi_set hj]
    by_cases f : t = j
    · rw [if_pos f, if_pos ⟨rfl, f⟩]
    · rw [if_neg f, if_neg (fun h => f h.2)]
  · rw [if_neg e, if_neg (fun h => e h.1)]

theorem MG.at {w : World} {base : Nat} {A : Option Addr} {c : Nat} {LL : List (List Int)} (h : MG w base (.slice A LL.length c) LL) {r j : Nat} (hr : r < LL.length) (hj : j < (gl LL r).length) :
    ∃ g hb cp, A = some ⟨g, 0, none⟩ ∧ base ≤ g ∧ g ≠ hb ∧ base ≤ hb ∧ w.cell? ⟨g, r, none⟩ = some (.slice (some ⟨hb, 0, none⟩) (gl LL r).length cp) ∧ w.cell? ⟨hb, j, none⟩ = some (.int .i64 (gi (gl LL r) j)) ∧ w.frozen? ⟨hb, j, none⟩ = false ∧
      ∀ x, MG (w.setCell ⟨hb, j, none⟩ (.int .i64 x)) base (.slice A LL.length c) (setg LL r j x) := by
  obtain ⟨xs, ho, hs, cs, h3, h4⟩ := h
  have hxl : xs.length = LL.length := by have := ho.1; omega
  rcases ho.2 with ⟨e, h0⟩ | ⟨g, cap, cur, e, hb, hg, hn, hm, hsz, ht⟩
  · omega
  · simp only [Value.slice.injEq] at e
    obtain ⟨rfl, _, rfl⟩ := e
    obtain ⟨a1, a2, a3, a4⟩ := h3 r hr
    have hne : g ≠ hs r := fun e => a4 (by rw [e]; rfl)
    have hcell : ∀ i, i < LL.length → w.cell? ⟨g, i, none⟩ = xs[i]? := fun i hi => by
      rw [cell_of_row w g i _ _ (0, 0) hg, ← ht, List.getElem?_take, if_pos (by omega)]; simp
    refine ⟨g, hs r, cs r, rfl, hb, hne, a3, (hcell r hr).trans a1, a2.cell hj, a2.frozen j, fun x => ⟨xs, ?_, hs, cs, fun i hi => ?_, fun i k hik hk => ?_⟩⟩
    · rw [setg_len]
      refine ⟨ho.1, .inr ⟨g, c, cur, rfl, hb, (Below.heap_setCell _ _ _ _ hne).trans hg, hn, hm, hsz, ht⟩⟩
    · rw [setg_len] at hi
      obtain ⟨b1, b2, b3, b4⟩ := h3 i hi
      refine ⟨by rw [len_setg hr]; exact b1, ?_, b3, b4⟩
      rw [gl_setg hr]
      by_cases e : i = r
      · subst e; rw [if_pos rfl]; exact b2.set hj x
      · rw [if_neg e]
        refine b2.kept (Below.heap_setCell _ _ _ _ ?_)
        show hs i ≠ hs r
        rcases Nat.lt_or_gt_of_ne e with h | h
        · exact h4 i r h hr
        · exact fun e2 => h4 r i h hi e2.symm
    · rw [setg_len] at hk
      exact h4 i k hik hk
theorem MG.grid0 {w : World} {base : Nat} {A : Option Addr} {c : Nat} {LL : List (List Int)} (h : MG w base (.slice A LL.length c) LL) : Grid 0 w A c LL := by
  obtain ⟨xs, h⟩ := h
  obtain ⟨A', c', e, hG⟩ := h.grid
  simp only [Value.slice.injEq, true_and] at e
  obtain ⟨rfl, rfl⟩ := e
  exact hG.mono (Nat.zero_le _)
theorem MG.gb {w w' : World} {base p : Nat} {v : Value} {LL : List (List Int)} (h : MG w base v LL) (hg : w.grownBy w' (some p)) (hp : p < base) : MG w' base v LL := by
  obtain ⟨xs, ho, hs, cs, h3, h4⟩ := h
  refine ⟨xs, ho.kept hg (.inr (fun e => by have := (ho.lt p e).1; omega)), hs, cs, fun i hi => ?_, h4⟩
  obtain ⟨a1, a2, a3, a4⟩ := h3 i hi
  exact ⟨a1, a2.kept (hg.block _ a2.lt (fun e => by cases e; omega)), a3, a4⟩

/-- Block q holds the sketch G, whose rows are the call's own (blocks from base on); all of it can be written. -/
def VQ (w : World) (base q : Nat) (G : Sk) : Prop :=
  q < w.heap.size ∧ q < base ∧ w.cell? ⟨q, 0, none⟩ = some (.int .i64 G.wide) ∧ w.frozen? ⟨q, 0, none⟩ = false ∧ w.frozen? ⟨q, 1, none⟩ = false ∧ ∃ A c, w.cell? ⟨q, 1, none⟩ = some (.slice A G.rows.length c) ∧ MG w base (.slice A G.rows.length c) G.rows
section
variable {w w' : World} {base p q : Nat} {G : Sk}
theorem VQ.below (h : VQ w base q G) (hb : Below w.heap.size w w') : VQ w' base q G := by
  obtain ⟨h0, h1, h2, h3, h4, A, c, h5, h6⟩ := h
  exact ⟨Nat.lt_of_lt_of_le h0 hb.size, h1, (hb.cell (p := ⟨q, 0, none⟩) h0).trans h2, (hb.frozen (p := ⟨q, 0, none⟩) h0).trans h3, (hb.frozen (p := ⟨q, 1, none⟩) h0).trans h4, A, c, (hb.cell (p := ⟨q, 1, none⟩) h0).trans h5, h6.below hb⟩
theorem VQ.gb (h : VQ w base q G) (hg : w.grownBy w' (some p)) (hpq : p ≠ q) (hp : p < base) : VQ w' base q G := by
  obtain ⟨h0, h1, h2, h3, h4, A, c, h5, h6⟩ := h
  have hb : w'.heap[q]? = w.heap[q]? := hg.block q h0 (fun e => hpq (by cases e; rfl))
  exact ⟨Nat.lt_of_lt_of_le h0 hg.size, h1, (World.cell?_of_block (w := w) hb).trans h2, (World.frozen?_of_block (w := w) hb).trans h3, (World.frozen?_of_block (w := w) hb).trans h4, A, c, (World.cell?_of_block (w := w) hb).trans h5, h6.gb hg hp⟩
theorem VQ.put {B : Nat} {H : Sk} {A : Option Addr} {c : Nat} (h : VQ w base q G) (hm : MG w B (.slice A H.rows.length c) H.rows) (hB : base ≤ B) :
    VQ ((w.setCell ⟨q, 0, none⟩ (.int .i64 H.wide)).setCell ⟨q, 1, none⟩ (.slice A H.rows.length c)) base q H := by
  obtain ⟨h0, h1, h2, h3, h4, A', c', h5, h6⟩ := h
  exact ⟨by simpa [World.setCell] using h0, h1, by simp [go_sem, h2], by simpa [go_sem] using h3, by simpa [go_sem] using h4, A, c, by simp [go_sem, h5], ((hm.mono hB).setCell (p := ⟨q, 0, none⟩) h1 _).setCell (p := ⟨q, 1, none⟩) h1 _⟩
theorem VQ.bx (h : VQ w base q G) : ∃ A c, Bx w q G A c := by
  obtain ⟨h0, h1, h2, h3, h4, A, c, h5, h6⟩ := h
  exact ⟨A, c, h0, h2, h5, h6.grid0⟩
end
theorem mg_no (w : World) (base : Nat) : MG w base (.slice none Sk.no.rows.length 0) Sk.no.rows := ⟨[], MGx.nil w base⟩
theorem vq_new {w : World} {base : Nat} (o : Obj) (ho : o = .cells #[.int .i64 0, .slice none 0 0] 24) (hb : w.heap.size < base) : VQ (w.alloc o) base w.heap.size Sk.no := by
  subst ho
  exact ⟨by simp, hb, by simp [go_sem, Sk.no], by simp [go_sem], by simp [go_sem], none, 0, by simp [go_sem, Sk.no], mg_no _ _⟩

/-! ### Counters changed so far -/
def part (F : Nat → Nat → Int → Int) (LL : List (List Int)) (k j : Nat) : List (List Int) := chg (fun r i x => if r < k ∨ (r = k ∧ i < j) then F r i x else x) LL
theorem part_len (F : Nat → Nat → Int → Int) (LL : List (List Int)) (k j : Nat) : (part F LL k j).length = LL.length := chg_len _ _
theorem len_part (F : Nat → Nat → Int → Int) (LL : List (List Int)) (k j r : Nat) : (gl (part F LL k j) r).length = (gl LL r).length := len_gl_chg _ _ _
theorem gi_part (F : Nat → Nat → Int → Int) (LL : List (List Int)) {k j r i : Nat} (h : i < (gl LL r).length) : gi (gl (part F LL k j) r) i = if r < k ∨ (r = k ∧ i < j) then F r i (gi (gl LL r) i) else gi (gl LL r) i := gi_chg _ _ h
theorem part_ext {L M : List (List Int)} (h : L.length = M.length) (hl : ∀ r, r < L.length → (gl L r).length = (gl M r).length) (he : ∀ r i, r < L.length → i < (gl L r).length → gi (gl L r) i = gi (gl M r) i) : L = M :=
  grid_ext h (fun r hr => row_ext (hl r hr) (fun i hi => he r i hr hi))
theorem part_zero (F : Nat → Nat → Int → Int) (LL : List (List Int)) : part F LL 0 0 = LL :=
  part_ext (part_len _ _ _ _) (fun r _ => len_part _ _ _ _ _) (fun r i hr hi => by
    rw [len_part] at hi
    rw [gi_part _ _ hi, if_neg (by omega)])
theorem part_all (F : Nat → Nat → Int → Int) (LL : List (List Int)) : part F LL LL.length 0 = chg F LL :=
  part_ext ((part_len _ _ _ _).trans (chg_len _ _).symm) (fun r _ => (len_part _ _ _ _ _).trans (len_gl_chg _ _ _).symm) (fun r i hr hi => by
    rw [part_len] at hr
    rw [len_part] at hi
    rw [gi_part _ _ hi, if_pos (.inl hr), gi_chg _ _ hi])
theorem part_row (F : Nat → Nat → Int → Int) (LL : List (List Int)) (k : Nat) : part F LL k (gl LL k).length = part F LL (k + 1) 0 :=
  part_ext ((part_len _ _ _ _).trans (part_len _ _ _ _).symm) (fun r _ => (len_part _ _ _ _ _).trans (len_part _ _ _ _ _).symm) (fun r i hr hi => by
    rw [len_part] at hi
    rw [gi_part _ _ hi, gi_part _ _ hi]
    by_cases h : r < k + 1
    · have h2 : r < k ∨ (r = k ∧ i < (gl LL k).length) := by
        by_cases e : r = k
        · subst e; exact .inr ⟨rfl, hi⟩
        · exact .inl (by omega)
      rw [if_pos h2, if_pos (.inl h)]
    · rw [if_neg (by omega), if_neg (by omega)])
theorem part_step {F : Nat → Nat → Int → Int} {LL : List (List Int)} {k j : Nat} (hk : k < LL.length) (hj : j < (gl LL k).length) : setg (part F LL k j) k j (F k j (gi (gl LL k) j)) = part F LL k (j + 1) := by
  have hk' : k < (part F LL k j).length := by rw [part_len]; exact hk
  refine part_ext ((setg_len _ _ _ _).trans ((part_len _ _ _ _).trans (part_len _ _ _ _).symm)) (fun r _ => (len_setg hk' _).trans ((len_part _ _ _ _ _).trans (len_part _ _ _ _ _).symm)) (fun r i hr hi => ?_)
  rw [len_setg hk', len_part] at hi
  rw [gi_setg hk' (by rw [len_part]; exact hj), gi_part _ _ hi, gi_part _ _ hi]
  by_cases h : r = k ∧ i = j
  · obtain ⟨rfl, rfl⟩ := h
    rw [if_pos ⟨rfl, rfl⟩, if_pos (.inr ⟨rfl, by omega⟩)]
  · rw [if_neg h]
    by_cases h2 : r < k ∨ r = k ∧ i < j
    · rw [if_pos h2, if_pos (by omega)]
    · rw [if_neg h2, if_neg (by omega)]
theorem part_add {S : Sk} {s : ByteArray} {n : Int} {k : Nat} (hk : k < S.rows.length) (hp : plc S s k < (gl S.rows k).length) :
    setg (part (addF S s n) S.rows k 0) k (plc S s k) (gi (gl S.rows k) (plc S s k) + n) = part (addF S s n) S.rows (k + 1) 0 := by
  have hk' : k < (part (addF S s n) S.rows k 0).length := by rw [part_len]; exact hk
  refine part_ext ((setg_len _ _ _ _).trans ((part_len _ _ _ _).trans (part_len _ _ _ _).symm)) (fun r _ => (len_setg hk' _).trans ((len_part _ _ _ _ _).trans (len_part _ _ _ _ _).symm)) (fun r i hr hi => ?_)
  rw [len_setg hk', len_part] at hi
  rw [gi_setg hk' (by rw [len_part]; exact hp), gi_part _ _ hi, gi_part _ _ hi]
  by_cases h : r = k ∧ i = plc S s k
  · obtain ⟨rfl, rfl⟩ := h
    rw [if_pos ⟨rfl, rfl⟩, if_pos (.inl (by omega))]
    unfold addF; rw [if_pos rfl]
  · rw [if_neg h]
    by_cases h2 : r < k
    · rw [if_pos (.inl h2), if_pos (.inl (by omega))]
    · rw [if_neg (by omega)]
      by_cases h3 : r = k
      · subst h3
        rw [if_pos (.inl (by omega))]
        unfold addF
        rw [if_neg (fun e => h ⟨rfl, e⟩)]
      · rw [if_neg (by omega)]
theorem part_at {F : Nat → Nat → Int → Int} {LL : List (List Int)} {k j i : Nat} (hi : i < (gl LL k).length) (hj : j ≤ i) : gi (gl (part F LL k j) k) i = gi (gl LL k) i := by
  rw [gi_part _ _ hi, if_neg (by omega)]


/-! ### The least counter, from a greater start -/
def est2 (f : Nat → Int) : Nat → Int
  | 0 => 2199023255552
  | n + 1 => min (est2 f n) (f n)
theorem est2_eq {f : Nat → Int} : ∀ {n : Nat}, (∀ r, r < n → f r ≤ 1099511627776) → 1 ≤ n → est2 f n = est f n
  | 0, _, h => by omega
  | n + 1, hf, _ => by
    have h0 := hf n (by omega)
    unfold est2 est
    by_cases e : n = 0
    · subst e; unfold est2 est; omega
    · rw [est2_eq (fun r hr => hf r (by omega)) (by omega)]

noncomputable def gk (S : Sk) (s : ByteArray) (n : Int) (k : Nat) : Sk := if 1 ≤ n ∧ n ≤ 1099511627776 then ⟨S.wide, part (addF S s n) S.rows k 0⟩ else S
theorem gk_rows (S : Sk) (s : ByteArray) (n : Int) (k : Nat) : (gk S s n k).rows.length = S.rows.length := by
  unfold gk; split
  · exact part_len _ _ _ _
  · rfl
theorem gk_wide (S : Sk) (s : ByteArray) (n : Int) (k : Nat) : (gk S s n k).wide = S.wide := by unfold gk; split <;> rfl
theorem gk_zero (S : Sk) (s : ByteArray) (n : Int) : (gk S s n 0).rows = S.rows := by
  unfold gk; split
  · exact part_zero _ _
  · rfl
theorem gk_in {S : Sk} {s : ByteArray} {n : Int} (h : 1 ≤ n ∧ n ≤ 1099511627776) (k : Nat) : (gk S s n k).rows = part (addF S s n) S.rows k 0 := by unfold gk; rw [if_pos h]
theorem gk_out {S : Sk} {s : ByteArray} {n : Int} (h : ¬ (1 ≤ n ∧ n ≤ 1099511627776)) (k : Nat) : (gk S s n k).rows = S.rows := by unfold gk; rw [if_neg h]
theorem gk_all {S : Sk} {s : ByteArray} {n : Int} (h : 1 ≤ n ∧ n ≤ 1099511627776) : gk S s n S.rows.length = addL S s n := by
  unfold gk; rw [if_pos h, part_all]; rfl

end Go.Proofs.Ytmjoiakggckeoaa.Skt
