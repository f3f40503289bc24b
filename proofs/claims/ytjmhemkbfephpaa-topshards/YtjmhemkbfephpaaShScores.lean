/-
  Package shard: scores, Score, Owner.
-/
import Derived.Test.YtjmhemkbfephpaaShScore
import Derived.Laws.MakeOwn
namespace Go.Proofs.Ytjmhemkbfephpaa.Shd
open Go.RowKit
set_option linter.unusedVariables false
set_option maxRecDepth 100000

theorem info_parts {P : Program} {t : TypeId} {z : Option Value} {s b : Nat} (h : (P.info? t).map (fun i => (i.zero, i.size, i.bytes)) = some (z, s, b)) :
    ∃ i, P.info? t = some i ∧ i.zero = z ∧ i.size = s ∧ i.bytes = b := by
  cases hi : P.info? t with
  | none => rw [hi] at h; cases h
  | some i => rw [hi] at h; simp only [Option.map_some, Option.some.injEq, Prod.mk.injEq] at h; exact ⟨i, rfl, h.1, h.2.1, h.2.2⟩
theorem u64_info : (Try.prog.info? 66).map (fun i => (i.zero, i.size, i.bytes)) = some (some (.int .u64 0), 1, 8) := by kernel_rfl
theorem run_make_u64 (n : Nat) (hn : n ≤ 1048576) (w : World) :
    (Instr.makeSlice 62 (.int .i64 (n : Int)) (.int .i64 (n : Int))).run Try.prog w = .ok (.slice (some ⟨w.heap.size, 0, none⟩) n n) (w.alloc (.cells (Array.replicate n (Value.int .u64 0)) 66)) := by
  obtain ⟨i0, hi0, hz0, hz1, hz2⟩ := info_parts u64_info
  have hr := run_make (P := Try.prog) w 62 66 i0 _ Try.underlying62 hi0 hz0 .i64 .i64 (n : Int) (n : Int) (by omega) (by omega) (by rw [hz2]; omega) (by omega)
  rw [Int.toNat_natCast, hz1, Nat.mul_one] at hr
  rw [hr]
  congr 3
  apply Array.ext'
  exact (toList_madeCells_one _ _).trans (by simp)
/-- The first k of the scores. -/
def rowU (f : Nat → Nat) (n k : Nat) : List Value := (List.range n).map (fun i => Value.int .u64 (((if i < k then f i else 0 : Nat)) : Int))
theorem rowU_zero (f : Nat → Nat) (n : Nat) : rowU f n 0 = List.replicate n (Value.int .u64 0) := by
  unfold rowU
  apply List.ext_getElem
  · simp
  · intro i h1 h2; simp
theorem rowU_set (f : Nat → Nat) {n k : Nat} (hk : k < n) : (rowU f n k).set k (.int .u64 ((f k : Nat) : Int)) = rowU f n (k + 1) := by
  unfold rowU
  apply List.ext_getElem
  · simp
  · intro i h1 h2
    rw [List.getElem_set]
    by_cases e : k = i
    · subst e; simp
    · rw [if_neg e]
      simp only [List.getElem_map, List.getElem_range]
      by_cases h : i < k
      · rw [if_pos h, if_pos (by omega)]
      · rw [if_neg h, if_neg (by omega)]
def RowU (w : World) (g : Nat) (f : Nat → Nat) (n k : Nat) : Prop := w.heap[g]? = some (.cells (rowU f n k).toArray 66 (0, 0))
section
variable {w w' : World} {g n k : Nat} {f : Nat → Nat}
theorem RowU.new (w : World) (f : Nat → Nat) (n : Nat) : RowU (w.alloc (.cells (Array.replicate n (Value.int .u64 0)) 66)) w.heap.size f n 0 := by
  unfold RowU
  rw [rowU_zero, ← List.toArray_replicate]
  exact heap_alloc_new w _
theorem RowU.lt (h : RowU w g f n k) : g < w.heap.size := (Array.getElem?_eq_some_iff.1 h).1
theorem RowU.below (h : RowU w g f n k) (hb : Below w.heap.size w w') : RowU w' g f n k := (hb.block g h.lt).trans h
theorem RowU.set (h : RowU w g f n k) (hk : k < n) : RowU (w.setCell ⟨g, k, none⟩ (.int .u64 ((f k : Nat) : Int))) g f n (k + 1) := by
  unfold RowU at *
  rw [heap_setCell_same w g k _ _ _ h, List.setIfInBounds_toArray, rowU_set f hk]
theorem RowU.cell (h : RowU w g f n k) {j : Nat} (hj : j < n) : w.cell? ⟨g, j, none⟩ = some (.int .u64 (((if j < k then f j else 0 : Nat)) : Int)) := by
  rw [cell_of_row w g j _ _ (0, 0) h]
  simp [rowU, hj]
theorem RowU.frozen (h : RowU w g f n k) (j : Nat) : w.frozen? ⟨g, j, none⟩ = false := by
  unfold RowU at h; simp [World.frozen?, h]
theorem RowU.scs (h : RowU w g f n n) : Scs w g n f := ⟨h.lt, fun i hi => by rw [h.cell hi, if_pos hi]⟩
end

/-- What scores needs to know of its arguments. -/
structure Arg (w : World) (A : Option Addr) (c : Nat) (L : List Sh) (s : ByteArray) : Prop where
  sh : Shs w A c L
  nm : Nms L
  key : s.size ≤ maxLen
theorem Arg.below {w w' : World} {A : Option Addr} {c : Nat} {L : List Sh} {s : ByteArray} (h : Arg w A c L s) (hb : Below w.heap.size w w') : Arg w' A c L s := ⟨h.sh.below hb, h.nm, h.key⟩

theorem scores_bad (A : Option Addr) (c : Nat) (L : List Sh) (s : ByteArray) (w : World) (h : Arg w A c L s) (he : err L s ≠ 0) :
    Calls Try.prog 34 #[.slice A L.length c, .string s] w fun e w' => e = .returned (.tuple #[.slice none 0 0, .int .i64 (err L s)]) ∧ Below w.heap.size w w' := by
  have HC := Lib.hid (check_any A c L w h.sh h.nm)
  have hs := h.key
  unfold err at he ⊢
  by_cases h1 : chk L = 0
  · rw [if_neg (fun e => e h1)] at he ⊢
    rw [h1] at HC
    by_cases h2 : 40 < s.size
    · rw [if_pos h2] at he ⊢
      have HS := Lib.hid (fun W : World => sum_long s W hs h2)
      clear he h1 h2 h hs
      go_enter Try.func34, Try.ntmps34
      go_wp2_with (first | (go_at_call 45; with_reducible refine HC.out.mono ?_; rintro e w2 ⟨rfl, hb⟩; have HB := Lib.hid hb; clear hb) | (go_at_call 46; with_reducible refine (HS.out _).mono ?_; rintro e w3 ⟨rfl, rfl⟩))
      go_ret2
      exact ⟨rfl, HB.out⟩
    · rw [if_neg h2] at he ⊢
      by_cases h3 : L.length = 0
      · rw [if_pos h3] at he ⊢
        have HS := Lib.hid (fun W : World => sum_any s W (by omega))
        rw [h3] at HC ⊢
        clear he h1 h2 h3 h hs
        go_enter Try.func34, Try.ntmps34
        go_wp2_with (first | (go_at_call 45; with_reducible refine HC.out.mono ?_; rintro e w2 ⟨rfl, hb⟩; have HB := Lib.hid hb; clear hb) | (go_at_call 46; with_reducible refine (HS.out _).mono ?_; rintro e w3 ⟨rfl, rfl⟩))
        go_ret2
        exact ⟨rfl, HB.out⟩
      · rw [if_neg h3] at he; exact absurd rfl he
  · rw [if_pos h1] at he ⊢
    have hb1 := bd_ne h1
    clear he h1 h hs
    generalize chk L = q at *
    go_enter Try.func34, Try.ntmps34
    go_wp2_with (first | (go_at_call 45; with_reducible refine HC.out.mono ?_; rintro e w2 ⟨rfl, hb⟩; have HB := Lib.hid hb; clear hb))
    go_ret2
    exact ⟨rfl, HB.out⟩

set_option maxHeartbeats 4000000 in
theorem scores_ok (A : Option Addr) (c : Nat) (L : List Sh) (s : ByteArray) (w : World) (h : Arg w A c L s) (he : err L s = 0) :
    Calls Try.prog 34 #[.slice A L.length c, .string s] w fun e w' => (∃ g, e = .returned (.tuple #[.slice (some ⟨g, 0, none⟩) L.length L.length, .int .i64 0]) ∧ Scs w' g L.length (sc L s)) ∧ Below w.heap.size w w' := by
  have HC := Lib.hid (check_any A c L w h.sh h.nm)
  obtain ⟨hO, hk, h0⟩ := err_zero.1 he
  have HO := Lib.hid hO
  have hlen := hO.few
  rw [chk_zero.2 hO] at HC
  have HS := Lib.hid (fun W : World => sum_any s W hk)
  have HF := Lib.hid h.sh
  have HSC : Hid (∀ i, sc L s i = scH (gs L i) (fnv s.data.toList)) := Lib.hid (fun i => rfl)
  generalize sc L s = f at *
  clear h hO hk he
  generalize fnv s.data.toList = kh at *
  obtain ⟨ln, hln⟩ : ∃ ln, L.length = ln := ⟨_, rfl⟩
  have HLN := Lib.hid hln
  rw [hln] at HC h0 hlen ⊢
  have z1 : ((ln : Int) == 0) = false := by rw [beq_eq_false_iff_ne]; omega
  have z2 : (ln == 0) = false := by rw [beq_eq_false_iff_ne]; omega
  have HMK := fun (W : World) => run_make_u64 ln (by omega) W
  clear hln h0
  go_enter Try.func34, Try.ntmps34
  go_wp2_with (first | (go_at_call 45; with_reducible refine HC.out.mono ?_; rintro e w2 ⟨rfl, hb⟩; have HB := Lib.hid hb; clear hb) | (go_at_call 46; with_reducible refine (HS.out _).mono ?_; rintro e w3 ⟨rfl, rfl⟩))
  have HR := Lib.hid (RowU.new w2 f ln)
  have HB2 := Lib.hid (bel_al HB.out HB.out.size (.cells (Array.replicate ln (Value.int .u64 0)) 66))
  have HG : Hid (w.heap.size ≤ w2.heap.size) := Lib.hid HB.out.size
  generalize w2.alloc (.cells (Array.replicate ln (Value.int .u64 0)) 66) = w3 at *
  obtain ⟨g, hg⟩ : ∃ g, g = w2.heap.size := ⟨_, rfl⟩
  rw [← hg] at HR HG ⊢
  clear hg HMK
  go_loopw [33] (fun i wr => ∃ k : Nat, k ≤ ln ∧ i = .int .i64 (k : Int) ∧ Hid (RowU wr g f ln k) ∧ Hid (Below w.heap.size w wr)) (fun i _ => ln - (intOf i).toNat)
  case atStart => exact ⟨0, by omega, rfl, HR, HB2⟩
  case round =>
    obtain ⟨k, hk, rfl, HRr, HBr⟩ := hrel
    clear z1 z2
    have HFr := Lib.hid (HF.out.below HBr.out)
    by_cases hlt : k < ln
    · have hin : (k : Int) < (ln : Int) := by omega
      have hiB : (0 : Int) ≤ (k : Int) := by omega
      have HKL : Hid (k < L.length) := Lib.hid (by rw [HLN.out]; exact hlt)
      obtain ⟨b, o, rfl, e1, e2⟩ := HFr.out.sh HKL.out
      have HS1 := Lib.hid (fun W : World => score_any (gs L k) kh W (HO.out.wt k HKL.out) (HO.out.name k HKL.out))
      have HSk := HSC.out k
      rw [← HSk] at HS1
      have HIa : Hid (Sb (wr.alloc (fo (gs L k))) wr.heap.size (gs L k)) := Lib.hid (Sb.new wr _)
      have HBa : Hid (Below wr.heap.size wr (wr.alloc (fo (gs L k)))) := Lib.hid (bel_al (Below.refl _ _) (Nat.le_refl _) _)
      clear HSk
      generalize gs L k = fk at *
      obtain ⟨nm, wt⟩ := fk
      dsimp only at e1 e2
      obtain ⟨i0, i1⟩ := HIa.out.cells
      dsimp only at i0 i1
      have HX : Hid (∀ W, Below (wr.alloc (fo ⟨nm, wt⟩)).heap.size (wr.alloc (fo ⟨nm, wt⟩)) W → RowU W g f ln k ∧ Below w.heap.size w W) := Lib.hid (fun W hW => ⟨HRr.out.below (HBa.out.trans (hW.mono HBa.out.size)), HBr.out.trans ((HBa.out.trans (hW.mono HBa.out.size)).mono HBr.out.size)⟩)
      go_wp2_with (go_at_call 47; with_reducible refine (HS1.out _).mono ?_; rintro e w5 ⟨rfl, hb5⟩; obtain ⟨hr5, hB5⟩ := HX.out _ hb5; have c5 := hr5.cell hlt; have f5 := hr5.frozen k; have HR5 := Lib.hid (hr5.set hlt); have HB5 := Lib.hid (bel_set hB5 (a := ⟨g, k, none⟩) HG.out (.int .u64 ((f k : Nat) : Int))); clear hb5 hr5 hB5 i0 i1)
      go_roundw
      case rel => exact ⟨k + 1, by omega, by go_num, HR5, HB5⟩
      case measure => simp [intOf]; omega
    · obtain rfl : k = ln := by omega
      go_wp2
      go_ret2
      exact ⟨⟨g, rfl, HRr.out.scs⟩, HBr.out⟩

/-! ### Owner -/
theorem owner_bad (A : Option Addr) (c : Nat) (L : List Sh) (s : ByteArray) (w : World) (h : Arg w A c L s) (he : err L s ≠ 0) :
    Calls Try.prog 21 #[.slice A L.length c, .string s] w fun e w' => e = .returned (.tuple #[.int .i64 0, .int .i64 (err L s)]) ∧ Below w.heap.size w w' := by
  have HS := Lib.hid (scores_bad A c L s w h he)
  have hb1 := bd_ne he
  generalize err L s = q at *
  clear he h
  go_enter Try.func21, Try.ntmps21
  go_wp2_with (go_at_call 34; with_reducible refine HS.out.mono ?_; rintro e w5 ⟨rfl, hb5⟩; have HB5 := Lib.hid hb5; clear hb5)
  go_ret2
  exact ⟨rfl, HB5.out⟩
theorem owner_ok (A : Option Addr) (c : Nat) (L : List Sh) (s : ByteArray) (w : World) (h : Arg w A c L s) (he : err L s = 0) :
    Calls Try.prog 21 #[.slice A L.length c, .string s] w fun e w' => (∃ i : Nat, e = .returned (.tuple #[.int .i64 (i : Int), .int .i64 0]) ∧ Best (sc L s) L.length i) ∧ Below w.heap.size w w' := by
  have HS := Lib.hid (scores_ok A c L s w h he)
  obtain ⟨hO, hk, h0⟩ := err_zero.1 he
  have hlen := hO.few
  have H0 := Lib.hid h0
  generalize sc L s = f at *
  generalize L.length = n at *
  clear he h hO hk h0
  go_enter Try.func21, Try.ntmps21
  go_wp2_with (first | (go_at_call 34; with_reducible refine HS.out.mono ?_; rintro e w5 ⟨⟨g, rfl, hsc⟩, hb5⟩; have HB5 := Lib.hid hb5; have HSC := Lib.hid hsc; clear hb5 hsc) | (go_at_call 36; refine (max_any g n n f _ HSC.out H0.out (by omega)).mono ?_; rintro e w6 ⟨⟨i, rfl, hbi⟩, rfl⟩; have HBI := Lib.hid hbi; clear hbi) | (go_at_call 35; refine (index_any g n n i f _ HSC.out HBI.out (by omega)).mono ?_; rintro e w6 ⟨rfl, rfl⟩))
  go_ret2
  exact ⟨⟨i, rfl, HBI.out⟩, HB5.out⟩

end Go.Proofs.Ytjmhemkbfephpaa.Shd
