/-
  Package clock: clone, Check.
-/
import Derived.Test.YtmhhiddnkdcflaaClockUse2
import Derived.Test.YtmhhiddnkdcflaaLruWalks
namespace Go.Proofs.Ytmhhiddnkdcflaa.Clk
open Go.RowKit
open Lru (isRm isK keysE keysE_zero traceE trace_zero)
set_option linter.unusedVariables false
set_option maxRecDepth 100000

/-! ### Parts of a row -/
theorem elemF : Try.prog.underlying 40 = some (.slice (Try.prog.elem 40)) := by kernel_rfl
theorem sizeF (w : World) : (sizeOf (Try.prog.elem 40)).run Try.prog w = .ok 2 w := by kernel_rfl
theorem frs_upto {A : Option Addr} {c : Nat} {F : List Fr} {k : Nat} {w : World} (hT : Frs w A c F) (hk : k ≤ F.length) :
    ∃ A', (∀ W : World, (Instr.slice 40 (.slice A F.length c) none (some (.int .i64 (k : Int))) none).run Try.prog W = .ok (.slice A' k c) W) ∧ Frs w A' c (F.take k) := by
  have hc := hT.1
  have hl : (F.take k).length = k := by rw [List.length_take]; omega
  refine ⟨if c = 0 then A else A.map (·.add 0), fun W => ?_, ?_⟩
  · rw [run_slice_h W _ A F.length c elemF .i64 (k : Int) (by omega) (by omega), sizeF]
    simp [sliced]
  · refine ⟨by omega, hT.2.1, fun e => ?_, fun h0 => ?_⟩
    · split at e
      · assumption
      · exact hT.2.2.1 (by cases A with | none => rfl | some a => simp at e)
    · obtain ⟨b, o, rfl, ht⟩ := (hT.take k).2.2.2 h0
      rw [if_neg (by omega)]
      exact ⟨b, o, by simp [Addr.add_lit], ht⟩
theorem Frs.fr {w : World} {A : Option Addr} {c k : Nat} {F : List Fr} (h : Frs w A c F) (hk : k < F.length) : ∃ b o, A = some ⟨b, o, none⟩ ∧ w.cell? ⟨b, o + k * 2, none⟩ = some (.int .i64 (gf F k).key) ∧ w.cell? ⟨b, o + k * 2 + 1, none⟩ = some (.bool (gf F k).used) := by
  obtain ⟨b, o, e, ht⟩ := h.2.2.2 (by omega)
  exact ⟨b, o, e, ht.2 k hk⟩

/-! ### clone -/
theorem OwnF.set3 {w : World} {base p : Nat} {v : Value} {F : List Fr} (h : OwnF w base v F) (hp : v.ownBlock ≠ some p) (a b c : Value) : OwnF (((w.setCell ⟨p, 0, none⟩ a).setCell ⟨p, 1, none⟩ b).setCell ⟨p, 2, none⟩ c) base v F := ((h.set hp 0 a).set hp 1 b).set hp 2 c
theorem bel_set3 {B : Nat} {w w' : World} (h : Below B w w') {p : Nat} (hp : B ≤ p) (a b c : Value) : Below B w (((w'.setCell ⟨p, 0, none⟩ a).setCell ⟨p, 1, none⟩ b).setCell ⟨p, 2, none⟩ c) :=
  bel_set (bel_set (bel_set h (a := ⟨p, 0, none⟩) hp a) (a := ⟨p, 1, none⟩) hp b) (a := ⟨p, 2, none⟩) hp c
abbrev zk : Obj := ko 0 0 (.slice none 0 0)
set_option maxHeartbeats 1000000 in
theorem clone_any (r h : Int) (A : Option Addr) (c : Nat) (F : List Fr) (w : World) (hF : Frs w A c F) (hs : F.length ≤ 1048576) :
    Calls Try.prog 33 #[kv r h (.slice A F.length c)] w fun e w' => ∃ A' c', e = .returned (kv r h (.slice A' F.length c')) ∧ OwnF w' w.heap.size (.slice A' F.length c') F ∧ Below w.heap.size w w' := by
  have HK0 : Hid (Kb ((w.alloc (ko r h (.slice A F.length c))).alloc zk) w.heap.size r h (.slice A F.length c)) := Lib.hid ((Kb.new w r h _).alloc _)
  have HZ0 : Hid (Kb ((w.alloc (ko r h (.slice A F.length c))).alloc zk) (w.heap.size + 1) 0 0 (.slice none 0 0)) := Lib.hid (by have := Kb.new (w.alloc (ko r h (.slice A F.length c))) 0 0 (.slice none 0 0); rwa [show (w.alloc (ko r h (.slice A F.length c))).heap.size = w.heap.size + 1 by simp] at this)
  have HB0 : Hid (Below w.heap.size w ((w.alloc (ko r h (.slice A F.length c))).alloc zk)) := Lib.hid (bel_al (bel_al (Below.refl _ _) (Nat.le_refl _) _) (by simp) _)
  have HF := Lib.hid hF
  have HS := Lib.hid hs
  clear hF hs
  obtain ⟨x1, x2, x3, y1, y2, y3⟩ := HK0.out.cells
  have HC := Lib.hid (fun (W : World) (hW : Frs W A c F) => sclone_any A c F W hW HS.out)
  obtain ⟨n, hn⟩ : ∃ n, F.length = n := ⟨_, rfl⟩
  have HN := Lib.hid hn
  rw [hn] at HK0 HZ0 HB0 x1 x2 x3 y1 y2 y3
  simp only [hn] at HC
  rw [hn]
  clear hn
  go_enter Try.func33, Try.ntmps33
  go_wp2_with fail
  refine (HC.out _ (HF.out.below HB0.out)).mono ?_
  rintro e w1 ⟨v, rfl, ho, hb⟩
  have HK1 := Lib.hid (HK0.out.below hb)
  have HZ1 := Lib.hid (HZ0.out.below hb)
  have HB1 := Lib.hid (HB0.out.trans (hb.mono HB0.out.size))
  have ho' : OwnF w1 w.heap.size v F := ⟨ho.1, ho.2.elim .inl (fun ⟨g, cap, cur, e, h1, h2⟩ => .inr ⟨g, cap, cur, e, Nat.le_trans (Nat.le_trans (Nat.le_add_right _ 2) (by simp)) h1, h2⟩)⟩
  obtain ⟨A1, c1, rfl, -, -⟩ := frs_of_own ho'
  rw [HN.out] at ho' ⊢
  have HO1 := Lib.hid ho'
  clear ho ho' hb x1 x2 x3 y1 y2 y3
  obtain ⟨x1, x2, x3, y1, y2, y3⟩ := HK1.out.cells
  obtain ⟨z1, z2, z3, u1, u2, u3⟩ := HZ1.out.cells
  go_wp2
  refine bodyPost_ret (v := kv r h (.slice A1 n c1)) (by simp [results, Try.results33, go_sem, z1, z2, z3]) rfl ?_
  refine ⟨A1, c1, rfl, ?_, ?_⟩
  · exact (HO1.out.set (HK1.out.own HO1.out) 2 _).set3 (HZ1.out.own HO1.out) _ _ _
  · exact bel_set3 (bel_set HB1.out (a := ⟨w.heap.size, 2, none⟩) (Nat.le_refl _) _) (p := w.heap.size + 1) (by omega) _ _ _

/-! ### Check -/
theorem keysK_at {L : List Int} {k : Nat} {x : Int} (hk : k < L.length) (hx : L[k] = x) : keysE (L.take k) (L.drop k) = if isK x then (if x ∈ L.take k then 6 else keysE (L.take (k + 1)) (L.drop (k + 1))) else 3 := by
  subst hx
  rw [List.drop_eq_getElem_cons hk]
  have : L.take (k + 1) = L.take k ++ [L[k]] := by rw [List.take_add_one, List.getElem?_eq_getElem hk]; rfl
  rw [this]
  rfl
theorem keys_take (F : List Fr) (k : Nat) : keys (F.take k) = (keys F).take k := by unfold keys; rw [List.map_take]
theorem idx_neg {F : List Fr} {x : Int} : decide ((0 : Int) ≤ fnd F x) = decide (x ∈ keys F) := by
  rw [fnd_eq]
  by_cases h : x ∈ keys F
  · rw [if_pos h]; simp [h]
  · rw [if_neg h]; simp [h]

set_option maxHeartbeats 4000000 in
theorem check_any (r h : Int) (A : Option Addr) (c : Nat) (F : List Fr) (w : World) (hF : Frs w A c F) :
    Calls Try.prog 32 #[kv r h (.slice A F.length c)] w fun e w' => e = .returned (.int .i64 (checkK r h F)) ∧ Below w.heap.size w w' := by
  have HK0 : Hid (Kb (w.alloc (ko r h (.slice A F.length c))) w.heap.size r h (.slice A F.length c)) := Lib.hid (Kb.new w r h _)
  have HB0 : Hid (Below w.heap.size w (w.alloc (ko r h (.slice A F.length c)))) := Lib.hid (bel_al (Below.refl _ _) (Nat.le_refl _) _)
  have HF1 : Hid (Frs (w.alloc (ko r h (.slice A F.length c))) A c F) := Lib.hid (hF.alloc _)
  have hlen := hF.len
  obtain ⟨x1, x2, x3, -, -, -⟩ := HK0.out.cells
  clear hF
  by_cases h1 : 1 ≤ r
  · have p1 : decide (r < 1) = false := by simp; omega
    by_cases h2 : r ≤ 40
    · have p2 : decide (40 < r) = false := by simp; omega
      have hR : isRm r := ⟨h1, h2⟩
      by_cases h3 : r < (F.length : Int)
      · have p3 : decide (r < (F.length : Int)) = true := by simpa using h3
        have HE : Hid (checkK r h F = 2) := Lib.hid (by unfold checkK; rw [if_pos hR, if_pos h3])
        clear hR h1 h2 h3
        go_enter Try.func32, Try.ntmps32
        go_wp2
        go_ret
        exact ⟨ret_int HE.out.symm, HB0.out⟩
      · have p3 : decide (r < (F.length : Int)) = false := by simpa using h3
        have HE : Hid (checkK r h F = if keysE [] (keys F) = 0 then (if handOk h F.length then 0 else 4) else keysE [] (keys F)) := Lib.hid (by unfold checkK; rw [if_pos hR, if_neg h3])
        clear hR h1 h2 h3
        obtain ⟨ln, hln⟩ : ∃ ln, F.length = ln := ⟨_, rfl⟩
        have HLN := Lib.hid hln
        rw [hln] at HK0 HB0 HF1 x1 x2 x3 p3 hlen HE
        rw [hln]
        clear hln
        go_enter Try.func32, Try.ntmps32
        go_wp2
        go_loopw [22] (fun i wr => ∃ k : Nat, k ≤ ln ∧ i = .int .i64 (k : Int) ∧ Hid (keysE [] (keys F) = keysE ((keys F).take k) ((keys F).drop k)) ∧ Hid (Below (w.alloc (ko r h (.slice A ln c))).heap.size (w.alloc (ko r h (.slice A ln c))) wr)) (fun i _ => ln - (intOf i).toNat)
        case atStart => exact ⟨0, by omega, rfl, Lib.hid rfl, Lib.hid (Below.refl _ _)⟩
        case round =>
          obtain ⟨k, hk, rfl, HA, HBr⟩ := hrel
          clear x1 x2 x3
          have HKr := Lib.hid (HK0.out.below HBr.out)
          have HFr := Lib.hid (HF1.out.below HBr.out)
          by_cases hlt : k < ln
          · have hin : (k : Int) < (ln : Int) := by omega
            have hiB : (0 : Int) ≤ (k : Int) := by omega
            have HKL : Hid (k < F.length) := Lib.hid (by rw [HLN.out]; exact hlt)
            obtain ⟨b, o, rfl, e1, e2⟩ := HFr.out.fr HKL.out
            have HAt := Lib.hid (keysK_at (L := keys F) (k := k) (x := (gf F k).key) (by rw [keys_len]; exact HKL.out) (keys_get HKL.out))
            obtain ⟨A', hsl, hT'⟩ := frs_upto HFr.out (k := k) (by rw [HLN.out]; exact hk)
            have HT' := Lib.hid hT'
            rw [HLN.out] at hsl
            have hw1 := bel_al (Below.refl wr.heap.size wr) (Nat.le_refl _) (fo (gf F k))
            have HW1 := Lib.hid hw1
            have HFi := Lib.hid (fun (W : World) (hW : Below wr.heap.size wr W) => find_any A' c (F.take k) (gf F k).key W (HT'.out.below hW))
            rw [List.length_take, HLN.out, Nat.min_eq_left hk] at HFi
            have HKa : Hid (Kb (wr.alloc (fo (gf F k))) w.heap.size r h (.slice (some ⟨b, o, none⟩) ln c)) := Lib.hid (HKr.out.below HW1.out)
            clear hw1 hT'
            generalize gf F k = f at *
            obtain ⟨x, u⟩ := f
            dsimp only at e1 e2 HAt HFi
            obtain ⟨x1, x2, x3, -, -, -⟩ := HKr.out.cells
            by_cases q1 : isK x
            · have d1 : decide (isK x) = true := by simpa using q1
              rw [if_pos q1] at HAt
              clear q1
              have HD := Lib.hid (idx_neg (F := F.take k) (x := x))
              rw [keys_take] at HD
              by_cases q2 : x ∈ (keys F).take k
              · rw [if_pos q2] at HAt
                have d2 : decide ((0 : Int) ≤ fnd (F.take k) x) = true := HD.out.trans (by simpa using q2)
                have HR : Hid (checkK r h F = 6) := Lib.hid (by have e : keysE [] (keys F) = 6 := HA.out.trans HAt.out; rw [HE.out, e]; rfl)
                clear q2
                generalize fnd (F.take k) x = fi at *
                go_wp2_with fail
                refine (isKey_any x _).mono ?_
                rintro e w2 ⟨rfl, rfl⟩
                rw [d1]
                clear x1 x2 x3 e1 e2
                have HXa : Hid ((wr.alloc (fo ⟨x, u⟩)).cell? ⟨wr.heap.size, 0, none⟩ = some (.int .i64 x)) := Lib.hid (by simp [go_sem])
                have HS : Hid (∀ W, Below (wr.alloc (fo ⟨x, u⟩)).heap.size (wr.alloc (fo ⟨x, u⟩)) W → W.cell? ⟨w.heap.size, 2, none⟩ = some (.slice (some ⟨b, o, none⟩) ln c) ∧ W.cell? ⟨wr.heap.size, 0, none⟩ = some (.int .i64 x)) := Lib.hid (fun W hW => ⟨(HKa.out.below hW).cells.2.2.1, (hW.cell (p := ⟨wr.heap.size, 0, none⟩) (by simp)).trans HXa.out⟩)
                have HW2 : Hid (∀ W, Below (wr.alloc (fo ⟨x, u⟩)).heap.size (wr.alloc (fo ⟨x, u⟩)) W → Below wr.heap.size wr W) := Lib.hid (fun W hW => HW1.out.trans (hW.mono HW1.out.size))
                obtain ⟨pp, hpp⟩ : ∃ pp, pp = wr.heap.size := ⟨_, rfl⟩
                rw [← hpp] at HS ⊢
                clear hpp HXa
                generalize wr.alloc (.cells #[.int .i64 x, .bool u] 83) = wa at *
                have HF2 := Lib.hid (HFi.out wa.drew (HW2.out _ (Below.refl _ _).drew))
                go_wp2
                go_region_held3 (fun w' => w'.cell? ⟨w.heap.size, 2, none⟩ = some (.slice (some ⟨b, o, none⟩) ln c) ∧ w'.cell? ⟨pp, 0, none⟩ = some (.int .i64 x))
                  (first | exact HS.out _ hB5 | exact HS.out _ (Below.refl _ _).drew)
                  (first | (go_at_call 47; refine HF2.out.mono ?_; rintro e w5 ⟨rfl, hb5⟩; have hB5 : Below wa.heap.size wa w5 := (Below.refl _ _).drew.trans hb5))
                rename_i hHH
                have HB5 : Hid (Below w.heap.size w w5) := Lib.hid (HB0.out.trans ((HBr.out.trans ((HW2.out _ hB5).mono HBr.out.size)).mono HB0.out.size))
                have HB6 := Lib.hid (HBr.out.trans ((HW2.out _ hB5).mono HBr.out.size))
                clear hHH hB5 hb5
                go_wp2
                go_ret
                exact ⟨ret_int HR.out.symm, HB5.out⟩
              · rw [if_neg q2] at HAt
                have d2 : decide ((0 : Int) ≤ fnd (F.take k) x) = false := HD.out.trans (by simpa using q2)
                clear q2
                generalize fnd (F.take k) x = fi at *
                go_wp2_with fail
                refine (isKey_any x _).mono ?_
                rintro e w2 ⟨rfl, rfl⟩
                rw [d1]
                clear x1 x2 x3 e1 e2
                have HXa : Hid ((wr.alloc (fo ⟨x, u⟩)).cell? ⟨wr.heap.size, 0, none⟩ = some (.int .i64 x)) := Lib.hid (by simp [go_sem])
                have HS : Hid (∀ W, Below (wr.alloc (fo ⟨x, u⟩)).heap.size (wr.alloc (fo ⟨x, u⟩)) W → W.cell? ⟨w.heap.size, 2, none⟩ = some (.slice (some ⟨b, o, none⟩) ln c) ∧ W.cell? ⟨wr.heap.size, 0, none⟩ = some (.int .i64 x)) := Lib.hid (fun W hW => ⟨(HKa.out.below hW).cells.2.2.1, (hW.cell (p := ⟨wr.heap.size, 0, none⟩) (by simp)).trans HXa.out⟩)
                have HW2 : Hid (∀ W, Below (wr.alloc (fo ⟨x, u⟩)).heap.size (wr.alloc (fo ⟨x, u⟩)) W → Below wr.heap.size wr W) := Lib.hid (fun W hW => HW1.out.trans (hW.mono HW1.out.size))
                obtain ⟨pp, hpp⟩ : ∃ pp, pp = wr.heap.size := ⟨_, rfl⟩
                rw [← hpp] at HS ⊢
                clear hpp HXa
                generalize wr.alloc (.cells #[.int .i64 x, .bool u] 83) = wa at *
                have HF2 := Lib.hid (HFi.out wa.drew (HW2.out _ (Below.refl _ _).drew))
                go_wp2
                go_region_held3 (fun w' => w'.cell? ⟨w.heap.size, 2, none⟩ = some (.slice (some ⟨b, o, none⟩) ln c) ∧ w'.cell? ⟨pp, 0, none⟩ = some (.int .i64 x))
                  (first | exact HS.out _ hB5 | exact HS.out _ (Below.refl _ _).drew)
                  (first | (go_at_call 47; refine HF2.out.mono ?_; rintro e w5 ⟨rfl, hb5⟩; have hB5 : Below wa.heap.size wa w5 := (Below.refl _ _).drew.trans hb5))
                rename_i hHH
                have HB5 : Hid (Below w.heap.size w w5) := Lib.hid (HB0.out.trans ((HBr.out.trans ((HW2.out _ hB5).mono HBr.out.size)).mono HB0.out.size))
                have HB6 := Lib.hid (HBr.out.trans ((HW2.out _ hB5).mono HBr.out.size))
                clear hHH hB5 hb5
                go_wp2
                go_roundw
                case rel => exact ⟨k + 1, by omega, by go_num, Lib.hid (HA.out.trans HAt.out), HB6⟩
                case measure => simp [intOf]; omega
            · have d1 : decide (isK x) = false := by simpa using q1
              rw [if_neg q1] at HAt
              have HR : Hid (checkK r h F = 3) := Lib.hid (by have e : keysE [] (keys F) = 3 := HA.out.trans HAt.out; rw [HE.out, e]; rfl)
              have HB5 : Hid (Below w.heap.size w (wr.alloc (fo ⟨x, u⟩))) := Lib.hid (HB0.out.trans ((HBr.out.trans (HW1.out.mono HBr.out.size)).mono HB0.out.size))
              clear q1
              go_wp2_with fail
              refine (isKey_any x _).mono ?_
              rintro e w2 ⟨rfl, rfl⟩
              rw [d1]
              go_wp2
              go_ret
              exact ⟨ret_int HR.out.symm, HB5.out⟩
          · obtain rfl : k = ln := by omega
            have HK9 : Hid (keysE [] (keys F) = 0) := Lib.hid (by rw [HA.out, List.drop_of_length_le (by rw [keys_len, HLN.out]; exact Nat.le_refl _)]; cases (keys F).take k <;> rfl)
            have HE2 : Hid (checkK r h F = if handOk h k then 0 else 4) := Lib.hid (by rw [HE.out, if_pos HK9.out])
            have HB5 : Hid (Below w.heap.size w wr) := Lib.hid (HB0.out.trans (HBr.out.mono HB0.out.size))
            obtain ⟨x1, x2, x3, -, -, -⟩ := HKr.out.cells
            obtain ⟨mx, hmx⟩ : ∃ mx : Int, max (k : Int) 1 = mx := ⟨_, rfl⟩
            have hmx2 : ((max k 1 : Nat) : Int) = mx := by rw [← hmx]; omega
            clear hlt
            by_cases q1 : h < 0
            · have d1 : decide (h < 0) = true := by simpa using q1
              have HR : Hid (checkK r h F = 4) := Lib.hid (by rw [HE2.out, if_neg (fun hh => by have := hh.1; omega)])
              clear q1 hmx2
              go_wp2
              go_ret
              exact ⟨ret_int HR.out.symm, HB5.out⟩
            · have d1 : decide (h < 0) = false := by simpa using q1
              by_cases q2 : mx ≤ h
              · have d2 : decide (mx ≤ h) = true := by simpa using q2
                have HR : Hid (checkK r h F = 4) := Lib.hid (by rw [HE2.out, if_neg (fun hh => by have := hh.2; omega)])
                clear q1 q2 hmx2
                go_wp2
                go_ret
                exact ⟨ret_int HR.out.symm, HB5.out⟩
              · have d2 : decide (mx ≤ h) = false := by simpa using q2
                have HR : Hid (checkK r h F = 0) := Lib.hid (by rw [HE2.out, if_pos ⟨by omega, by omega⟩])
                clear q1 q2 hmx2
                go_wp2
                go_ret
                exact ⟨ret_int HR.out.symm, HB5.out⟩
    · have p2 : decide (40 < r) = true := by simp; omega
      have HE : Hid (checkK r h F = 3) := Lib.hid (by unfold checkK; rw [if_neg (fun hh => h2 hh.2)])
      clear h1 h2
      go_enter Try.func32, Try.ntmps32
      go_wp2
      go_ret
      exact ⟨ret_int HE.out.symm, HB0.out⟩
  · have p1 : decide (r < 1) = true := by simp; omega
    have HE : Hid (checkK r h F = 3) := Lib.hid (by unfold checkK; rw [if_neg (fun hh => h1 hh.1)])
    clear h1
    go_enter Try.func32, Try.ntmps32
    go_wp2
    go_ret
    exact ⟨ret_int HE.out.symm, HB0.out⟩

end Go.Proofs.Ytmhhiddnkdcflaa.Clk
