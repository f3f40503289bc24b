/-
  What must be in any case: the laws' first test (shardBegun) is true.
-/
import Derived.Test.YtgecmgldamdpgaaShMoved
namespace Go.Proofs.Ytgecmgldamdpgaa.Shd
open Go.RowKit
open Two (REO RE own_none own_bel)
set_option linter.unusedVariables false
set_option maxRecDepth 100000

theorem shs_lit (w : World) (F : List Sh) (hF : F.length ≤ 20) : Shs (w.alloc (.cells (encSs F).toArray 35)) (some ⟨w.heap.size, 0, none⟩) F.length F := by
  have hb : (w.alloc (.cells (encSs F).toArray 35)).heap[w.heap.size]? = some (.cells (encSs F).toArray 35 (0, 0)) := heap_alloc_new w _
  refine ⟨Nat.le_refl _, by unfold maxLen; omega, fun e => (by cases e), fun _ => ⟨w.heap.size, 0, rfl, by simp, fun i hi => ?_⟩⟩
  obtain ⟨e1, e2⟩ := encSs_get F i hi
  rw [Nat.zero_add, cell_of_row _ _ _ _ _ (0, 0) hb, cell_of_row _ _ _ _ _ (0, 0) hb]
  exact ⟨by rw [List.getElem?_toArray]; exact e1, by rw [List.getElem?_toArray]; exact e2⟩
theorem strs_lit2 (w : World) (x y : ByteArray) : Strs (w.alloc (.cells #[.string x, .string y] 9)) (some ⟨w.heap.size, 0, none⟩) 2 [x, y] := by
  have hb : (w.alloc (.cells #[.string x, .string y] 9)).heap[w.heap.size]? = some (.cells #[.string x, .string y] 9 (0, 0)) := heap_alloc_new w _
  refine ⟨Nat.le_refl _, by unfold maxLen; decide, fun _ => ⟨w.heap.size, 0, rfl, by simp, fun i hi => ?_⟩⟩
  have hi : i < 2 := hi
  rw [Nat.zero_add, cell_of_row _ _ _ _ _ (0, 0) hb]
  rcases (by omega : i = 0 ∨ i = 1) with rfl | rfl <;> rfl

def tri : List Sh := [⟨⟨#[97]⟩, 1⟩, ⟨⟨#[98]⟩, 2⟩, ⟨⟨#[99]⟩, 1⟩]
theorem below3 {i : Nat} (h : i < 3) : i = 0 ∨ i = 1 ∨ i = 2 := by omega
theorem tri_ok : Ok tri := by
  refine ⟨by decide, fun i hi => ?_, fun i hi => ?_, fun i j hi hj e => ?_⟩
  · rcases below3 hi with rfl | rfl | rfl <;> decide
  · rcases below3 hi with rfl | rfl | rfl <;> decide
  · have e' : (gs tri i).name.data = (gs tri j).name.data := by rw [e]
    rcases below3 hi with rfl | rfl | rfl <;> rcases below3 hj with rfl | rfl | rfl <;> first | rfl | (exact absurd e' (by decide))
theorem ok_take {L : List Sh} (h : Ok L) (k : Nat) : Ok (L.take k) := by
  have hl : (L.take k).length ≤ L.length := by rw [List.length_take]; omega
  have hg : ∀ i, i < (L.take k).length → gs (L.take k) i = gs L i := fun i hi => gs_take (by rw [List.length_take] at hi; omega)
  refine ⟨by have := h.few; omega, fun i hi => ?_, fun i hi => ?_, fun i j hi hj e => ?_⟩
  · rw [hg i hi]; exact h.wt i (by omega)
  · rw [hg i hi]; exact h.name i (by omega)
  · rw [hg i hi, hg j hj] at e; exact h.once i j (by omega) (by omega) e
theorem ok_nms {L : List Sh} (h : Ok L) : Nms L := fun i hi => Nat.le_trans (h.name i hi) (by unfold maxLen; decide)
theorem tri_err (s : ByteArray) (h : s.size ≤ 40) : err tri s = 0 := err_zero.2 ⟨tri_ok, h, by decide⟩
theorem tri2_err (s : ByteArray) (h : s.size ≤ 40) : err (tri.take 2) s = 0 := err_zero.2 ⟨ok_take tri_ok 2, h, by decide⟩
theorem nil_err (s : ByteArray) (h : s.size ≤ 40) : err [] s = 5 := by
  have : chk [] = 0 := chk_zero.2 ⟨by decide, fun i hi => absurd hi (by simp), fun i hi => absurd hi (by simp), fun i j hi => absurd hi (by simp)⟩
  unfold err
  rw [if_neg (fun h => h this), if_neg (by omega)]; rfl
theorem twice_chk : chk [⟨ByteArray.empty, 1⟩, ⟨ByteArray.empty, 2⟩] = 6 := by
  have a0 : atE [⟨ByteArray.empty, 1⟩, ⟨ByteArray.empty, 2⟩] 0 = 0 := atE_ok (by decide) (fun ⟨k, hk, _⟩ => by omega)
  have a1 : atE [⟨ByteArray.empty, 1⟩, ⟨ByteArray.empty, 2⟩] 1 = 6 := atE_dup (by decide) ⟨0, by omega, rfl⟩
  unfold chk
  rw [if_neg (by decide)]
  show (if atE _ 0 = 0 then (if atE _ 1 = 0 then _ else atE _ 1) else atE _ 0) = 6
  rw [if_pos a0, a1]; rfl
theorem movE_zero {L M : List Sh} {K : List ByteArray} (h : K.length ≤ 200) (hk : ∀ i, i < K.length → err L (ky K i) = 0 ∧ err M (ky K i) = 0) : movE L M K = 0 := by
  unfold movE
  rw [if_neg (by omega), scan_zero]
  intro j _ hj
  obtain ⟨h1, h2⟩ := hk j (by omega)
  unfold keyE
  rw [if_neg (fun e => e h1)]; exact h2
def kk : ByteArray := ⟨#[107]⟩
def kl : ByteArray := ⟨#[108]⟩
theorem begun_mov : movE tri (tri.take 2) [kk, kl] = 0 := movE_zero (by decide) (fun i hi => by
  have hi : i < 2 := hi
  rcases (by omega : i = 0 ∨ i = 1) with rfl | rfl <;> exact ⟨tri_err _ (by decide), tri2_err _ (by decide)⟩)

theorem trio_any (w : World) : Calls Try.prog 29 #[] w fun e w' => (∃ g, e = .returned (.slice (some ⟨g, 0, none⟩) 3 3) ∧ ShA w' (some ⟨g, 0, none⟩) 3 tri) ∧ Below w.heap.size w w' := by
  have HT : Hid (Shs (w.alloc (.cells #[.string ⟨#[97]⟩, .int .i64 1, .string ⟨#[98]⟩, .int .i64 2, .string ⟨#[99]⟩, .int .i64 1] 35)) (some ⟨w.heap.size, 0, none⟩) 3 tri) := Lib.hid (shs_lit w tri (by decide))
  have HB := Lib.hid (bel_al (Below.refl w.heap.size w) (Nat.le_refl _) (.cells #[.string ⟨#[97]⟩, .int .i64 1, .string ⟨#[98]⟩, .int .i64 2, .string ⟨#[99]⟩, .int .i64 1] 35))
  go_enter Try.func29, Try.ntmps29
  go_wp2
  go_ret
  exact ⟨⟨w.heap.size, rfl, HT.out, ok_nms tri_ok⟩, HB.out⟩

set_option maxHeartbeats 4000000 in
theorem begun_any (w : World) : Calls Try.prog 14 #[] w fun e w' => e = .returned (.bool true) ∧ Below w.heap.size w w' := by
  have hkk : kk.size ≤ maxLen := by unfold maxLen; decide
  have HT := Lib.hid trio_any
  have hO : ∀ (g : Nat) (W : World), ShA W (some ⟨g, 0, none⟩) 3 tri → Calls Try.prog 8 #[.slice (some ⟨g, 0, none⟩) 3 3, .string ⟨#[107]⟩, .int .i64 3] W fun e w' => ∃ b o c, e = .returned (.tuple #[.slice (some ⟨b, o, none⟩) 3 c, .int .i64 0]) ∧ w'.cell? ⟨b, o, none⟩ = some (.int .i64 ((own tri kk : Nat) : Int)) ∧ b < w'.heap.size ∧ Below W.heap.size W w' := by
    intro g W h
    refine (owners_ok (some ⟨g, 0, none⟩) 3 tri kk 3 W ⟨h.sh, h.nm, hkk⟩ (tri_err _ (by decide)) (by decide) (by decide)).mono ?_
    rintro e w' ⟨A, c, rfl, hI, hb⟩
    have hl : (zs ((ord (sc tri kk) (tri.length - 1)).take 3)).length = 3 := by
      rw [List.length_map, List.length_take, ord_len]; rfl
    obtain ⟨b, o, rfl, hlt, hc⟩ := hI.2.2.2 (by rw [hl]; decide)
    refine ⟨b, o, c, by rw [hl], ?_, hlt, hb⟩
    have := hc 0 (by rw [hl]; decide)
    rw [Nat.add_zero] at this
    rw [this]
    congr 2
    rw [gi_get (by rw [hl]; decide)]
    simp only [List.getElem_map, List.getElem_take]
    unfold own
    rw [List.getD_eq_getElem?_getD, List.getElem?_eq_getElem (by rw [ord_len]; omega)]
    rfl
  have HO := Lib.hid hO
  have HW : Hid (∀ (g : Nat) (W : World), ShA W (some ⟨g, 0, none⟩) 3 tri → Calls Try.prog 7 #[.slice (some ⟨g, 0, none⟩) 3 3, .string ⟨#[107]⟩] W fun e w' => e = .returned (.tuple #[.int .i64 ((own tri kk : Nat) : Int), .int .i64 0]) ∧ Below W.heap.size W w') :=
    Lib.hid (fun g W h => owner_own (some ⟨g, 0, none⟩) 3 tri kk W h hkk (tri_err _ (by decide)))
  have HN : Hid (∀ (W : World), Calls Try.prog 7 #[.slice none 0 0, .string ⟨#[107]⟩] W fun e w' => e = .returned (.tuple #[.int .i64 0, .int .i64 5]) ∧ Below W.heap.size W w') :=
    Lib.hid (fun W => by
      have h := owner_bad none 0 [] kk W ⟨Shs.none_ W, fun i hi => absurd hi (by simp), hkk⟩ (by rw [nil_err _ (by decide)]; decide)
      rwa [nil_err _ (by decide)] at h)
  have HM : Hid (∀ (g g2 g3 : Nat) (W : World), ShA W (some ⟨g, 0, none⟩) 3 tri → ShA W (some ⟨g2, 0, none⟩) 3 (tri.take 2) → Strs W (some ⟨g3, 0, none⟩) 2 [kk, kl] → Calls Try.prog 18 #[.slice (some ⟨g, 0, none⟩) 3 3, .slice (some ⟨g2, 0, none⟩) 2 3, .slice (some ⟨g3, 0, none⟩) 2 2] W fun e w' => ∃ A n c, e = .returned (.tuple #[.slice A n c, .int .i64 0]) ∧ n ≤ 2 ∧ Below W.heap.size W w') :=
    Lib.hid (fun g g2 g3 W h1 h2 h3 => by
      refine (moved_any (some ⟨g, 0, none⟩) (some ⟨g2, 0, none⟩) (some ⟨g3, 0, none⟩) 3 3 2 tri (tri.take 2) [kk, kl] W h1 h2 h3 (fun i hi => by
        have hi : i < 2 := hi
        rcases (by omega : i = 0 ∨ i = 1) with rfl | rfl <;> (unfold maxLen; decide))).mono ?_
      rintro e w' ⟨v, rfl, ho, hb⟩
      obtain ⟨A, c, rfl, hI⟩ := ints_of_own ho
      rw [begun_mov]
      refine ⟨A, _, c, rfl, ?_, hb⟩
      unfold movL
      rw [if_pos begun_mov]
      exact movN_len _ _ _ _)
  have HC : Hid (∀ (W : World), Calls Try.prog 15 #[.slice (some ⟨W.heap.size, 0, none⟩) 2 2] (W.alloc (.cells #[.string ⟨#[]⟩, .int .i64 1, .string ⟨#[]⟩, .int .i64 2] 35)) fun e w' => e = .returned (.int .i64 6) ∧ Below W.heap.size W w') := Lib.hid (fun W => by
    have h := check_any (some ⟨W.heap.size, 0, none⟩) 2 [⟨ByteArray.empty, 1⟩, ⟨ByteArray.empty, 2⟩] _ (shs_lit W [⟨ByteArray.empty, 1⟩, ⟨ByteArray.empty, 2⟩] (by decide)) (fun i hi => by
      have hi : i < 2 := hi
      rcases (by omega : i = 0 ∨ i = 1) with rfl | rfl <;> (unfold maxLen; decide))
    rw [twice_chk] at h
    exact h.mono (fun e w' ⟨h1, h2⟩ => ⟨h1, fromAlloc (h2.mono (by simp))⟩))
  have HUP : Hid (∀ (g : Nat) (W : World), (Instr.slice 22 (.slice (some ⟨g, 0, none⟩) 3 3) none (some (.int .i64 2)) none).run Try.prog W = .ok (.slice (some ⟨g, 0, none⟩) 2 3) W) := Lib.hid (fun g W => by
    have := run_slice_h (P := Try.prog) W _ (some ⟨g, 0, none⟩) 3 3 elemS .i64 2 (by omega) (by omega)
    rw [sizeS] at this
    rw [this]
    simp [sliced, Addr.add_lit])
  clear hO
  generalize own tri kk = ow at *
  go_enter Try.func14, Try.ntmps14
  go_wp2_with fail
  refine (HT.out _).mono ?_
  rintro e w1 ⟨⟨g1, rfl, hs1⟩, hb1⟩
  go_wp2_with fail
  refine (HO.out _ _ hs1).mono ?_
  rintro e w2 ⟨b, o, c, rfl, hc2, hl2, hb2⟩
  have hB2 : Below w.heap.size w w2 := hb1.trans (hb2.mono hb1.size)
  clear hs1 hb1 hb2
  have HC2 := Lib.hid hc2
  have HB2 := Lib.hid hB2
  clear hc2 hB2
  go_wp2_with fail
  refine (HT.out _).mono ?_
  rintro e w3 ⟨⟨g3, rfl, hs3⟩, hb3⟩
  go_wp2_with fail
  refine (HW.out _ _ hs3).mono ?_
  rintro e w4 ⟨rfl, hb4⟩
  have hb24 : Below w2.heap.size w2 w4 := hb3.trans (hb4.mono hb3.size)
  have HC4 := Lib.hid ((hb24.cell (p := ⟨b, o, none⟩) hl2).trans HC2.out)
  have hl4 := Nat.lt_of_lt_of_le hl2 hb24.size
  have HB4 := Lib.hid (HB2.out.trans (hb24.mono HB2.out.size))
  clear hs3 hb3 hb4 hb24 hl2
  go_wp2_with fail
  refine (HT.out _).mono ?_
  rintro e w5 ⟨⟨g5, rfl, hs5⟩, hb5⟩
  go_wp2_with fail
  refine (HT.out _).mono ?_
  rintro e w6 ⟨⟨g6, rfl, hs6⟩, hb6⟩
  have HS5 := Lib.hid (hs5.below hb6)
  have HS6 : Hid (ShA w6 (some ⟨g6, 0, none⟩) 3 (tri.take 2)) := Lib.hid ⟨hs6.sh.take 2, ok_nms (ok_take tri_ok 2)⟩
  have hb46 : Below w4.heap.size w4 w6 := hb5.trans (hb6.mono hb5.size)
  have HL6 := Lib.hid (bel_al (Below.refl w6.heap.size w6) (Nat.le_refl _) (.cells #[.string kk, .string kl] 9))
  have HSt := Lib.hid (strs_lit2 w6 kk kl)
  have hu := HUP.out g6
  clear hs5 hs6 hb5 hb6
  go_wp2_with fail
  refine (HM.out _ _ _ _ (HS5.out.below HL6.out) (HS6.out.below HL6.out) HSt.out).mono ?_
  rintro e w7 ⟨A7, n7, c7, rfl, hn7, hb7⟩
  have hb47 : Below w4.heap.size w4 w7 := hb46.trans ((fromAlloc (hb7.mono HL6.out.size)).mono hb46.size)
  have HC7 := Lib.hid ((hb47.cell (p := ⟨b, o, none⟩) hl4).trans HC4.out)
  have hl7 := Nat.lt_of_lt_of_le hl4 hb47.size
  have HB7 := Lib.hid (HB4.out.trans (hb47.mono HB4.out.size))
  have q7 : decide ((n7 : Int) ≤ 2) = true := by simp; omega
  have q7' : decide (n7 ≤ 2) = true := by simp; omega
  clear hb46 hb47 hb7 hu hl4 hn7
  go_wp2_with fail
  refine (HN.out _).mono ?_
  rintro e w8 ⟨rfl, hb8⟩
  have c8 := (hb8.cell (p := ⟨b, o, none⟩) hl7).trans HC7.out
  have HB8 := Lib.hid (HB7.out.trans (hb8.mono HB7.out.size))
  clear hb8 hl7
  go_wp2_with fail
  refine (HC.out _).mono ?_
  rintro e w9 ⟨rfl, hb9⟩
  have HB9 := Lib.hid (HB8.out.trans (hb9.mono HB8.out.size))
  clear hb9 c8
  go_wp2
  go_ret
  exact ⟨rfl, HB9.out⟩

end Go.Proofs.Ytgecmgldamdpgaa.Shd
