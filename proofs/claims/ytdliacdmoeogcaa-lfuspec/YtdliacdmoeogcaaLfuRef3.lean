/-
  The reference of package lfu: LfuRun.
-/
import Derived.Test.YtdliacdmoeogcaaLfuRef2
namespace Go.Proofs.Ytdliacdmoeogcaa.Lfu
open Go.RowKit Go.Maps
open Lru (isRm isK keysE keysE_zero traceE trace_zero)
set_option linter.unusedVariables false
set_option maxRecDepth 100000

theorem Uss.put2 {w : World} {A : Option Addr} {c p : Nat} {F : List Us} (h : Uss w A c F) (hp : 0 < F.length → ∀ a, A = some a → p ≠ a.block) (a b : Value) : Uss ((w.setCell ⟨p, 0, none⟩ a).setCell ⟨p, 1, none⟩ b) A c F := by
  by_cases h0 : 0 < F.length
  · exact h.set2 (hp h0) a b
  · exact ⟨h.1, h.2.1, h.2.2.1, fun h1 => absurd h1 h0⟩
/-- Where the keys lie: where the cache's lay, or in new memory. -/
def Wh (A : Option Addr) (F : List Us) (b : Nat) (Av : Option Addr) (M : List Us) : Prop := ∀ a, Av = some a → (A = some a ∧ M = F) ∨ b ≤ a.block
theorem Uss.lt {w : World} {A : Option Addr} {c : Nat} {F : List Us} (h : Uss w A c F) (h0 : 0 < F.length) : ∀ a, A = some a → a.block < w.heap.size := fun a ha => by
  obtain ⟨b, o, e, ht⟩ := h.2.2.2 h0
  rw [e] at ha; cases ha; exact ht.1

set_option maxHeartbeats 8000000 in
theorem runRef_any (r : Int) (A B : Option Addr) (c d : Nat) (F : List Us) (xs : List Int) (w : World) (hI : Uss w A c F) (hJ : Ints w B d xs) (hG : Good r F) (hx : ∀ x ∈ xs, isK x) (hl : xs.length ≤ 200) :
    Calls Try.prog 14 #[kv r (.slice A F.length c), .slice B xs.length d] w fun e w' => ∃ A' c', e = .returned (.tuple #[kv r (.slice A' (runU r F xs).length c'), .int .i64 (hitsU r F xs : Int)]) ∧ Uss w' A' c' (runU r F xs) ∧ Wh A F w.heap.size A' (runU r F xs) ∧ Below w.heap.size w w' := by
  obtain ⟨hk0, hz0, hb0⟩ := box2 w r (.slice A F.length c)
  have HK0 := Lib.hid hk0
  have HZ0 := Lib.hid hz0
  have HB0 := Lib.hid hb0
  have HF0 := Lib.hid (hI.below hb0)
  have HAl := Lib.hid hI.lt
  have HJ := Lib.hid hJ
  have HG := Lib.hid hG
  have HX := Lib.hid hx
  clear hk0 hz0 hb0 hI hJ hG hx
  obtain ⟨ln, hln⟩ : ∃ ln, xs.length = ln := ⟨_, rfl⟩
  have HLN := Lib.hid hln
  rw [hln] at hl ⊢
  clear hln
  go_enter Try.func14, Try.ntmps14
  go_wp2
  generalize ((w.alloc (ko r (.slice A F.length c))).alloc zk) = w1 at *
  generalize hn : w.heap.size = n at *
  have HN := Lib.hid hn
  clear hn
  go_loopw [6, 7] (fun q i wr => ∃ (k : Nat) (Av : Option Addr) (cv' : Nat), k ≤ ln ∧ i = .int .i64 (k : Int) ∧ q = .int .i64 (hitsU r F (xs.take k) : Int) ∧ Kb wr n r (.slice Av (runU r F (xs.take k)).length cv') ∧ Uss wr Av cv' (runU r F (xs.take k)) ∧ Wh A F (n + 2) Av (runU r F (xs.take k)) ∧ Kb wr (n + 1) 0 (.slice none 0 0) ∧ Below n w wr) (fun _ i _ => ln - (intOf i).toNat)
  case atStart => exact ⟨0, A, c, by omega, rfl, rfl, HK0.out, HF0.out, fun a ha => .inl ⟨ha, rfl⟩, HZ0.out, HB0.out⟩
  case round =>
    obtain ⟨k, Av, cv', hk, rfl, rfl, hV, hIv, hW, hZ, hb⟩ := hrel
    have HV := Lib.hid hV
    have HIv := Lib.hid hIv
    have HW := Lib.hid hW
    have HZ := Lib.hid hZ
    have HBr := Lib.hid hb
    have HSz : Hid (n + 2 ≤ wr.heap.size) := Lib.hid hZ.lt
    have HJr : Hid (Ints wr B d xs) := Lib.hid (HJ.out.below (by rw [HN.out]; exact hb))
    clear hV hIv hW hZ hb
    have HGr : Hid (Good r (runU r F (xs.take k))) := Lib.hid (runU_good HG.out (fun x hx => HX.out x (List.mem_of_mem_take hx)))
    have hhl : hitsU r F (xs.take k) ≤ 200 := by have := hitsU_le r F (xs.take k); rw [List.length_take] at this; omega
    by_cases hlt : k < ln
    · have hin : (k : Int) < (ln : Int) := by omega
      have hiB : (0 : Int) ≤ (k : Int) := by omega
      have hkx : k < xs.length := by rw [HLN.out]; exact hlt
      obtain ⟨bb, o, rfl, ht⟩ := HJr.out.2.2.2 (by omega)
      have e1 := ht.2 k hkx
      have HBt := Lib.hid ht.1
      clear ht
      have HT1 := Lib.hid (take_one hkx)
      have HXk : Hid (isK (gi xs k)) := Lib.hid (HX.out _ (gi_mem hkx))
      have HR1 : Hid (runU r F (xs.take (k + 1)) = tch r (runU r F (xs.take k)) (gi xs k)) := Lib.hid (by rw [HT1.out, runU_snoc])
      have HH1 : Hid (hitsU r F (xs.take (k + 1)) = hitsU r F (xs.take k) + (if gi xs k ∈ keys (runU r F (xs.take k)) then 1 else 0)) := Lib.hid (by rw [HT1.out, hitsU_snoc])
      have HU := Lib.hid (fun (W : World) (a : Uss W Av cv' (runU r F (xs.take k))) => touchRef_any r Av cv' (runU r F (xs.take k)) (gi xs k) W a HGr.out HXk.out)
      unfold TR at HU
      clear hkx
      generalize gi xs k = x at *
      generalize runU r F (xs.take k) = M at *
      generalize hitsU r F (xs.take k) = hh at *
      generalize gone r M x = gg at *
      obtain ⟨T, hT⟩ : ∃ T, tch r M x = T := ⟨_, rfl⟩
      rw [hT] at HU HR1
      clear hT
      obtain ⟨lT, hlT⟩ : ∃ lT, T.length = lT := ⟨_, rfl⟩
      obtain ⟨lM, hlM⟩ : ∃ lM, M.length = lM := ⟨_, rfl⟩
      have HLT := Lib.hid hlT
      simp only [hlT, hlM] at HU
      rw [hlM] at HV
      clear hlT hlM
      have HKr : Hid (∀ w' : World, Below wr.heap.size wr w' → w'.cell? ⟨n, 0, none⟩ = some (.int .i64 r) ∧ w'.cell? ⟨n, 1, none⟩ = some (.slice Av lM cv') ∧ w'.cell? ⟨bb, o + k, none⟩ = some (.int .i64 x)) := Lib.hid (fun w' hb => by
        obtain ⟨a1, a2, -⟩ := (HV.out.below hb).cells
        exact ⟨a1, a2, (hb.cell (p := ⟨bb, o + k, none⟩) HBt.out).trans e1⟩)
      have HBz : Hid (Below wr.heap.size wr (wr.alloc zk).drew) := Lib.hid (bel_al (Below.refl _ _) (Nat.le_refl _) _).drew
      obtain ⟨bx, hbx⟩ : ∃ bx, decide (x ∈ keys M) = bx := ⟨_, rfl⟩
      have HBx := Lib.hid hbx
      simp only [hbx] at HU
      clear hbx
      go_wp2
      clear e1
      go_region_held3 (fun w' => w'.cell? ⟨n, 0, none⟩ = some (.int .i64 r) ∧ w'.cell? ⟨n, 1, none⟩ = some (.slice Av lM cv') ∧ w'.cell? ⟨bb, o + k, none⟩ = some (.int .i64 x))
        (first | exact HKr.out _ (bel_set2 hBd hpz _ _) | exact HKr.out _ (bel_al hBd hBd.size _) | exact HKr.out _ hBd | exact HKr.out _ HBz.out | exact HKr.out _ (Below.refl _ _).drew)
        (first
          | (go_at_call 12; (with_reducible refine (HU.out wr.drew HIv.out.drew).mono ?_); rintro e wd ⟨Bd, kd, rfl, hId, hAd, hbd⟩; have hBd : Below wr.heap.size wr wd := (Below.refl _ _).drew.trans hbd)
          | (go_at_call 12; (with_reducible refine (HU.out (wr.alloc zk).drew (HIv.out.below HBz.out)).mono ?_); rintro e wd ⟨Bd, kd, rfl, hId, hAd, hbd⟩; have hBd := HBz.out.trans (hbd.mono HBz.out.size); have hzd := (Kb.new wr 0 (.slice none 0 0)).drew.below hbd; have hne := (Kb.new wr 0 (.slice none 0 0)).drew.neF hAd; have hpz : wr.heap.size ≤ wr.heap.size := Nat.le_refl _; obtain ⟨r0, r1, f0, f1⟩ := hzd.cells))
      · have hW6 : Below wr.heap.size wr (wd.alloc (ko r (.slice Bd lT kd))) := bel_al hBd hBd.size _
        have HX6 : Hid (Kb (wd.alloc (ko r (.slice Bd lT kd))) wd.heap.size r (.slice Bd lT kd) ∧ Uss (wd.alloc (ko r (.slice Bd lT kd))) Bd kd T ∧ Kb (wd.alloc (ko r (.slice Bd lT kd))) n r (.slice Av lM cv') ∧ Kb (wd.alloc (ko r (.slice Bd lT kd))) (n + 1) 0 (.slice none 0 0) ∧ Below wr.heap.size wr (wd.alloc (ko r (.slice Bd lT kd))) ∧ ∀ a, Bd = some a → n + 2 ≤ a.block) := Lib.hid ⟨Kb.new _ _ _, hId.alloc _, HV.out.below hW6, HZ.out.below hW6, hW6, fun a ha => Nat.le_trans HSz.out (hAd a ha)⟩
        rename_i hHH
        clear hHH hW6 hBd hId hAd hbd
        generalize wd.heap.size = p6 at *
        generalize wd.alloc (ko r (.slice Bd lT kd)) = w6 at *
        obtain ⟨h1, h2, h3, h4, h5, h6⟩ := HX6.out
        have HXa := Lib.hid h1
        have HFa := Lib.hid h2
        have HVa := Lib.hid h3
        have HZa := Lib.hid h4
        have HBa := Lib.hid h5
        have HAa := Lib.hid h6
        clear h1 h2 h3 h4 h5 h6 HX6
        obtain ⟨y1, y2, -, -⟩ := HXa.out.cells
        obtain ⟨v1, v2, v3, v4⟩ := HVa.out.cells
        have HK6 := Lib.hid (HVa.out.put2 r (.slice Bd lT kd))
        have HF6 := Lib.hid (HFa.out.set2 (p := n) (fun a ha => by have := HAa.out a ha; omega) (.int .i64 r) (.slice Bd lT kd))
        have HZ6 := Lib.hid ((HZa.out.other (a := ⟨n, 0, none⟩) (by show n + 1 ≠ n; omega) (.int .i64 r)).other (a := ⟨n, 1, none⟩) (by show n + 1 ≠ n; omega) (.slice Bd lT kd))
        have HB6 := Lib.hid (bel_set2 (HBr.out.trans (HBa.out.mono (by have := HSz.out; omega))) (p := n) (Nat.le_refl _) (.int .i64 r) (.slice Bd lT kd))
        have HW6 : Hid (Wh A F (n + 2) Bd T) := Lib.hid (fun a ha => .inr (HAa.out a ha))
        cases bx with
        | true =>
          rw [if_pos (of_decide_eq_true HBx.out)] at HH1
          go_wp2
          generalize ((w6.setCell ⟨n, 0, none⟩ (.int .i64 r)).setCell ⟨n, 1, none⟩ (.slice Bd lT kd)) = w8 at *
          go_roundw
          case rel => exact ⟨k + 1, Bd, kd, by omega, by go_num, by rw [HH1.out]; go_num, by rw [HR1.out, HLT.out]; exact HK6.out, by rw [HR1.out]; exact HF6.out, by rw [HR1.out]; exact HW6.out, HZ6.out, HB6.out⟩
          case measure => simp [intOf]; omega
        | false =>
          rw [if_neg (of_decide_eq_false HBx.out)] at HH1
          go_wp2
          generalize ((w6.setCell ⟨n, 0, none⟩ (.int .i64 r)).setCell ⟨n, 1, none⟩ (.slice Bd lT kd)) = w8 at *
          go_roundw
          case rel => exact ⟨k + 1, Bd, kd, by omega, by go_num, by rw [HH1.out]; rfl, by rw [HR1.out, HLT.out]; exact HK6.out, by rw [HR1.out]; exact HF6.out, by rw [HR1.out]; exact HW6.out, HZ6.out, HB6.out⟩
          case measure => simp [intOf]; omega
      · have hW6 : Below wr.heap.size wr ((wd.setCell ⟨wr.heap.size, 0, none⟩ (.int .i64 r)).setCell ⟨wr.heap.size, 1, none⟩ (.slice Bd lT kd)) := bel_set2 hBd hpz _ _
        have HX6 : Hid (Kb ((wd.setCell ⟨wr.heap.size, 0, none⟩ (.int .i64 r)).setCell ⟨wr.heap.size, 1, none⟩ (.slice Bd lT kd)) wr.heap.size r (.slice Bd lT kd) ∧ Uss ((wd.setCell ⟨wr.heap.size, 0, none⟩ (.int .i64 r)).setCell ⟨wr.heap.size, 1, none⟩ (.slice Bd lT kd)) Bd kd T ∧ Kb ((wd.setCell ⟨wr.heap.size, 0, none⟩ (.int .i64 r)).setCell ⟨wr.heap.size, 1, none⟩ (.slice Bd lT kd)) n r (.slice Av lM cv') ∧ Kb ((wd.setCell ⟨wr.heap.size, 0, none⟩ (.int .i64 r)).setCell ⟨wr.heap.size, 1, none⟩ (.slice Bd lT kd)) (n + 1) 0 (.slice none 0 0) ∧ Below wr.heap.size wr ((wd.setCell ⟨wr.heap.size, 0, none⟩ (.int .i64 r)).setCell ⟨wr.heap.size, 1, none⟩ (.slice Bd lT kd)) ∧ ∀ a, Bd = some a → n + 2 ≤ a.block) := Lib.hid ⟨hzd.put2 _ _, hId.set2 hne _ _, HV.out.below hW6, HZ.out.below hW6, hW6, fun a ha => by have h1 := hAd a ha; have h2 : wr.heap.size ≤ (wr.alloc zk).drew.heap.size := HBz.out.size; have h3 := HSz.out; exact Nat.le_trans h3 (Nat.le_trans h2 h1)⟩
        rename_i hHH
        clear hHH hW6 hBd hId hAd hbd hzd hne hpz r0 r1 f0 f1
        generalize ((wd.setCell ⟨wr.heap.size, 0, none⟩ (.int .i64 r)).setCell ⟨wr.heap.size, 1, none⟩ (.slice Bd lT kd)) = w6 at *
        obtain ⟨h1, h2, h3, h4, h5, h6⟩ := HX6.out
        have HXa := Lib.hid h1
        have HFa := Lib.hid h2
        have HVa := Lib.hid h3
        have HZa := Lib.hid h4
        have HBa := Lib.hid h5
        have HAa := Lib.hid h6
        clear h1 h2 h3 h4 h5 h6 HX6
        obtain ⟨y1, y2, -, -⟩ := HXa.out.cells
        obtain ⟨v1, v2, v3, v4⟩ := HVa.out.cells
        have HK6 := Lib.hid (HVa.out.put2 r (.slice Bd lT kd))
        have HF6 := Lib.hid (HFa.out.set2 (p := n) (fun a ha => by have := HAa.out a ha; omega) (.int .i64 r) (.slice Bd lT kd))
        have HZ6 := Lib.hid ((HZa.out.other (a := ⟨n, 0, none⟩) (by show n + 1 ≠ n; omega) (.int .i64 r)).other (a := ⟨n, 1, none⟩) (by show n + 1 ≠ n; omega) (.slice Bd lT kd))
        have HB6 := Lib.hid (bel_set2 (HBr.out.trans (HBa.out.mono (by have := HSz.out; omega))) (p := n) (Nat.le_refl _) (.int .i64 r) (.slice Bd lT kd))
        have HW6 : Hid (Wh A F (n + 2) Bd T) := Lib.hid (fun a ha => .inr (HAa.out a ha))
        cases bx with
        | true =>
          rw [if_pos (of_decide_eq_true HBx.out)] at HH1
          go_wp2
          generalize ((w6.setCell ⟨n, 0, none⟩ (.int .i64 r)).setCell ⟨n, 1, none⟩ (.slice Bd lT kd)) = w8 at *
          go_roundw
          case rel => exact ⟨k + 1, Bd, kd, by omega, by go_num, by rw [HH1.out]; go_num, by rw [HR1.out, HLT.out]; exact HK6.out, by rw [HR1.out]; exact HF6.out, by rw [HR1.out]; exact HW6.out, HZ6.out, HB6.out⟩
          case measure => simp [intOf]; omega
        | false =>
          rw [if_neg (of_decide_eq_false HBx.out)] at HH1
          go_wp2
          generalize ((w6.setCell ⟨n, 0, none⟩ (.int .i64 r)).setCell ⟨n, 1, none⟩ (.slice Bd lT kd)) = w8 at *
          go_roundw
          case rel => exact ⟨k + 1, Bd, kd, by omega, by go_num, by rw [HH1.out]; rfl, by rw [HR1.out, HLT.out]; exact HK6.out, by rw [HR1.out]; exact HF6.out, by rw [HR1.out]; exact HW6.out, HZ6.out, HB6.out⟩
          case measure => simp [intOf]; omega
    · obtain rfl : k = ln := by omega
      have HtL : Hid (xs.take k = xs) := Lib.hid (by rw [← HLN.out]; exact List.take_length)
      rw [HtL.out] at HV HIv HW hhl ⊢
      clear hlt
      obtain ⟨z1, z2, z3, z4⟩ := HZ.out.cells
      obtain ⟨M, hM⟩ : ∃ M, runU r F xs = M := ⟨_, rfl⟩
      rw [hM] at HV HIv HW
      have HMe := Lib.hid hM
      clear hM HGr
      obtain ⟨lM, hlM⟩ : ∃ lM, M.length = lM := ⟨_, rfl⟩
      rw [hlM] at HV
      have HLM := Lib.hid hlM
      clear hlM
      obtain ⟨v1, v2, -, -⟩ := HV.out.cells
      go_wp2
      refine bodyPost_ret (v := .tuple #[kv r (.slice Av lM cv'), .int .i64 (hitsU r F xs : Int)]) (by simp [results, Try.results14, go_sem, z1, z2]) rfl ?_
      have hne : 0 < M.length → ∀ a, Av = some a → n + 1 ≠ a.block := fun h0 a ha => by
        rcases HW.out a ha with ⟨h1, h2⟩ | h1
        · have := HAl.out (by rw [← h2]; exact h0) a h1; omega
        · omega
      rw [HMe.out, HLM.out]
      exact ⟨Av, cv', rfl, HIv.out.put2 hne _ _, fun a ha => (HW.out a ha).imp id (fun h => by rw [HN.out]; omega), by rw [HN.out]; exact bel_set2 HBr.out (p := n + 1) (by omega) _ _⟩

end Go.Proofs.Ytdliacdmoeogcaa.Lfu
