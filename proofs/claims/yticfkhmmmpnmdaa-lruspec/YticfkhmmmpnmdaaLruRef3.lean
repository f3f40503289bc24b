/-
  The reference of package lru: LruRun.
-/
import Derived.Test.YticfkhmmmpnmdaaLruRef2
namespace Go.Proofs.Yticfkhmmmpnmdaa.Lru
open Go.RowKit Go.Maps
set_option linter.unusedVariables false

theorem ints_set {w : World} {A : Option Addr} {c p : Nat} {L : List Int} (h : Ints w A c L) (hp : 0 < L.length → ∀ a, A = some a → a.block ≠ p) (j : Nat) (u : Value) : Ints (w.setCell ⟨p, j, none⟩ u) A c L := by
  by_cases h0 : 0 < L.length
  · exact h.setCell (p := ⟨p, j, none⟩) (hp h0) u
  · exact ⟨h.1, h.2.1, h.2.2.1, fun h1 => absurd h1 h0⟩
theorem Vb.put2 {w : World} {p : Nat} {r q : Int} {v : Value} (h : Vb w p r v) (u : Value) : Vb ((w.setCell ⟨p, 0, none⟩ (.int .i64 q)).setCell ⟨p, 1, none⟩ u) p q u := by
  have h : w.heap[p]? = some (.cells #[.int .i64 r, v] 24 (0, 0)) := h
  show ((w.setCell ⟨p, 0, none⟩ (.int .i64 q)).setCell ⟨p, 1, none⟩ u).heap[p]? = _
  simp [World.setCell, Array.getElem?_modify, h]
theorem Zb.put2 {w : World} {p : Nat} {q : Int} (h : Zb w p) (u : Value) : Vb ((w.setCell ⟨p, 0, none⟩ (.int .i64 q)).setCell ⟨p, 1, none⟩ u) p q u := Vb.put2 (v := .slice none 0 0) (r := 0) h u
theorem Zb.other {w : World} {p q : Nat} (h : Zb w p) (hq : p ≠ q) (j : Nat) (u : Value) : Zb (w.setCell ⟨q, j, none⟩ u) p := (Below.heap_setCell w ⟨q, j, none⟩ u p hq).trans h
/-- Where the keys lie: where the cache's lay, or in new memory. -/
def Wh (A : Option Addr) (L : List Int) (b : Nat) (Av : Option Addr) (M : List Int) : Prop := ∀ a, Av = some a → (A = some a ∧ M = L) ∨ b ≤ a.block

set_option maxHeartbeats 8000000 in
theorem runRef_any (r : Int) (A B : Option Addr) (c d : Nat) (L xs : List Int) (w : World) (hI : Ints w A c L) (hJ : Ints w B d xs) (hG : Good r L) (hx : ∀ x ∈ xs, isK x) (hl : xs.length ≤ 200) :
    Calls Try.prog 16 #[cv r A c L, .slice B xs.length d] w fun e w' => ∃ A' c', e = .returned (.tuple #[cv r A' c' (runL r L xs), .int .i64 (hitsM r L xs : Int)]) ∧ Ints w' A' c' (runL r L xs) ∧ Wh A L w.heap.size A' (runL r L xs) ∧ Below w.heap.size w w' := by
  have HI := Lib.hid hI
  have HJ := Lib.hid hJ
  have HG := Lib.hid hG
  have HX := Lib.hid hx
  have hs1 : (w.alloc (co r A c L)).heap.size = w.heap.size + 1 := by simp
  have HV0 : Hid (Vb ((w.alloc (co r A c L)).alloc zo) w.heap.size r (.slice A L.length c)) := Lib.hid ((Vb.new w r (.slice A L.length c)).below (bel_al (Below.refl _ _) (Nat.le_refl _) _))
  have HZ0 : Hid (Zb ((w.alloc (co r A c L)).alloc zo) (w.heap.size + 1)) := Lib.hid (by have h := Zb.new (w.alloc (co r A c L)); rwa [hs1] at h)
  have HB0 : Hid (Below w.heap.size w ((w.alloc (co r A c L)).alloc zo)) := Lib.hid (bel_al (bel_al (Below.refl _ _) (Nat.le_refl _) _) (by simp) _)
  have HAl : Hid (0 < L.length → ∀ a, A = some a → a.block < w.heap.size) := Lib.hid (fun h0 a ha => by
    obtain ⟨b, o, e, ht⟩ := HI.out.2.2.2 h0
    rw [e] at ha; cases ha; exact ht.1)
  have HJl : Hid (0 < xs.length → ∀ a, B = some a → a.block < w.heap.size) := Lib.hid (fun h0 a ha => by
    obtain ⟨b, o, e, ht⟩ := HJ.out.2.2.2 h0
    rw [e] at ha; cases ha; exact ht.1)
  clear hI hJ hG hx hs1
  go_enter Try.func16, Try.ntmps16
  go_wp2
  generalize ((w.alloc (co r A c L)).alloc zo) = w1 at *
  generalize (w.alloc (co r A c L)) = w0 at *
  generalize hn : w.heap.size = n at *
  have HN := Lib.hid hn
  clear hn
  -- the result's cells, the box, the keys
  go_loopw [6, 7] (fun h i wr => ∃ (k : Nat) (Av : Option Addr) (cv' : Nat), k ≤ xs.length ∧ i = .int .i64 (k : Int) ∧ h = .int .i64 (hitsM r L (xs.take k) : Int) ∧ Vb wr n r (.slice Av (runL r L (xs.take k)).length cv') ∧ Ints wr Av cv' (runL r L (xs.take k)) ∧ Wh A L (n + 1 + 1) Av (runL r L (xs.take k)) ∧ Zb wr (n + 1) ∧ n + 1 + 1 ≤ wr.heap.size ∧ Below n w wr) (fun _ i _ => xs.length - (intOf i).toNat)
  case atStart => exact ⟨0, A, c, by omega, rfl, rfl, HV0.out, HI.out.below (by rw [HN.out]; exact HB0.out), fun a ha => .inl ⟨ha, rfl⟩, HZ0.out, by have := HZ0.out.lt; omega, HB0.out⟩
  case round =>
    obtain ⟨k, Av, cv', hk, rfl, rfl, hV, hIv, hW, hZ, hs, hb⟩ := hrel
    have HV := Lib.hid hV
    have HIv := Lib.hid hIv
    have HW := Lib.hid hW
    have HZ := Lib.hid hZ
    have HSz := Lib.hid hs
    have HBr := Lib.hid hb
    have HJr : Hid (Ints wr B d xs) := Lib.hid (HJ.out.below (by rw [HN.out]; exact hb))
    clear hV hIv hW hZ hs hb
    have HGr : Hid (Good r (runL r L (xs.take k))) := Lib.hid (runL_good HG.out (fun x hx => HX.out x (List.mem_of_mem_take hx)))
    have hhl : hitsM r L (xs.take k) ≤ 200 := by have := hitsM_le r L (xs.take k); rw [List.length_take] at this; omega
    obtain ⟨v1, v2, v3, v4⟩ := HV.out.cells
    by_cases hlt : k < xs.length
    · have hin : (k : Int) < (xs.length : Int) := by omega
      have hiB : (0 : Int) ≤ (k : Int) := by omega
      obtain ⟨bb, o, rfl, ht⟩ := HJr.out.2.2.2 (by omega)
      have e1 := ht.2 k hlt
      have HBt := Lib.hid ht.1
      clear ht
      have HT1 := Lib.hid (take_one hlt)
      have HR1 : Hid (runL r L (xs.take (k + 1)) = touch r (runL r L (xs.take k)) (gi xs k)) := Lib.hid (by rw [HT1.out, runL_snoc])
      have HH1 : Hid (hitsM r L (xs.take (k + 1)) = hitsM r L (xs.take k) + (if gi xs k ∈ runL r L (xs.take k) then 1 else 0)) := Lib.hid (by rw [HT1.out, hitsM_snoc])
      have HU := Lib.hid (fun (W : World) (h : Ints W Av cv' (runL r L (xs.take k))) => touchRef_any r Av cv' (runL r L (xs.take k)) (gi xs k) W h HGr.out)
      generalize gi xs k = x at *
      generalize runL r L (xs.take k) = M at *
      generalize hitsM r L (xs.take k) = hh at *
      generalize hT : touch r M x = T at *
      have HTe := Lib.hid hT
      clear hT
      have HKr : Hid (∀ w' : World, Below wr.heap.size wr w' → w'.cell? ⟨n, 0, none⟩ = some (.int .i64 r) ∧ w'.cell? ⟨n, 1, none⟩ = some (.slice Av M.length cv') ∧ w'.cell? ⟨bb, o + k, none⟩ = some (.int .i64 x)) := Lib.hid (fun w' hb => ⟨(HV.out.below hb).cells.1, (HV.out.below hb).cells.2.1, (hb.cell (p := ⟨bb, o + k, none⟩) HBt.out).trans e1⟩)
      have HBz : Hid (Below wr.heap.size wr (wr.alloc zo).drew) := Lib.hid (bel_al (Below.refl _ _) (Nat.le_refl _) _).drew
      obtain ⟨bx, hbx⟩ : ∃ bx, decide (x ∈ M) = bx := ⟨_, rfl⟩
      have HBx := Lib.hid hbx
      simp only [hbx] at HU
      clear hbx
      go_wp2
      clear v1 v2 v3 v4 e1
      go_region_held3 (fun w' => w'.cell? ⟨n, 0, none⟩ = some (.int .i64 r) ∧ w'.cell? ⟨n, 1, none⟩ = some (.slice Av M.length cv') ∧ w'.cell? ⟨bb, o + k, none⟩ = some (.int .i64 x))
        (first | exact HKr.out _ (below_put hBd hpz _ _) | exact HKr.out _ (below_put (bel_al hBd hBd.size _) hBd.size _ _) | exact HKr.out _ (bel_al hBd hBd.size _) | exact HKr.out _ hBd | exact HKr.out _ HBz.out | exact HKr.out _ (Below.refl _ _).drew)
        (first
          | (go_at_call 14; (with_reducible refine (HU.out wr.drew HIv.out.drew).mono ?_); rintro e wd ⟨Bd, kd, rfl, hId, hAd, hbd⟩; have hBd := below_undrew hbd)
          | (go_at_call 14; (with_reducible refine (HU.out (wr.alloc zo).drew (HIv.out.below HBz.out)).mono ?_); rintro e wd ⟨Bd, kd, rfl, hId, hAd, hbd⟩; have hBd := HBz.out.trans (hbd.mono HBz.out.size); have hzd := (Zb.new wr).drew.below hbd; have hne := (Zb.new wr).drew.ne hAd; have hpz : wr.heap.size ≤ wr.heap.size := Nat.le_refl _; obtain ⟨r0, r1, f0, f1⟩ := hzd.cells))
      · have hW6 : Below wr.heap.size wr (wd.alloc (co r Bd kd T)) := bel_al hBd hBd.size _
        have HX6 : Hid (Bx (wd.alloc (co r Bd kd T)) wd.heap.size r Bd kd T ∧ Vb (wd.alloc (co r Bd kd T)) n r (.slice Av M.length cv') ∧ Zb (wd.alloc (co r Bd kd T)) (n + 1) ∧ Below wr.heap.size wr (wd.alloc (co r Bd kd T)) ∧ ∀ a, Bd = some a → n + 1 + 1 ≤ a.block) := Lib.hid ⟨Bx.new hId, HV.out.below hW6, HZ.out.below hW6, hW6, fun a ha => Nat.le_trans HSz.out (hAd a ha)⟩
        rename_i hHH
        clear hHH hW6 hBd hId hAd hbd
        generalize wd.heap.size = p6 at *
        generalize wd.alloc (co r Bd kd T) = w6 at *
        obtain ⟨h1, h2, h3, h4, h5⟩ := HX6.out
        have HXa := Lib.hid h1
        have HVa := Lib.hid h2
        have HZa := Lib.hid h3
        have HBa := Lib.hid h4
        have HAa := Lib.hid h5
        clear h1 h2 h3 h4 h5 HX6
        obtain ⟨-, y1, y2, -⟩ := HXa.out
        obtain ⟨v1, v2, v3, v4⟩ := HVa.out.cells
        have hne : 0 < T.length → ∀ a, Bd = some a → a.block ≠ n := fun _ a ha => by have := HAa.out a ha; omega
        have HK6 : Hid (Vb ((w6.setCell ⟨n, 0, none⟩ (.int .i64 r)).setCell ⟨n, 1, none⟩ (.slice Bd T.length kd)) n r (.slice Bd T.length kd) ∧ Ints ((w6.setCell ⟨n, 0, none⟩ (.int .i64 r)).setCell ⟨n, 1, none⟩ (.slice Bd T.length kd)) Bd kd T ∧ Wh A L (n + 1 + 1) Bd T ∧ Zb ((w6.setCell ⟨n, 0, none⟩ (.int .i64 r)).setCell ⟨n, 1, none⟩ (.slice Bd T.length kd)) (n + 1) ∧ n + 1 + 1 ≤ ((w6.setCell ⟨n, 0, none⟩ (.int .i64 r)).setCell ⟨n, 1, none⟩ (.slice Bd T.length kd)).heap.size ∧ Below n w ((w6.setCell ⟨n, 0, none⟩ (.int .i64 r)).setCell ⟨n, 1, none⟩ (.slice Bd T.length kd))) := Lib.hid ⟨HVa.out.put2 _, ints_set (ints_set HXa.out.ints hne 0 _) hne 1 _, fun a ha => .inr (HAa.out a ha), (HZa.out.other (by omega) 0 _).other (by omega) 1 _, by simp only [World.setCell, Array.size_modify]; exact Nat.le_trans HSz.out HBa.out.size, ((HBr.out.trans (HBa.out.mono (by have := HSz.out; omega))).setCell (p := ⟨n, 0, none⟩) (Nat.le_refl _) _).setCell (p := ⟨n, 1, none⟩) (Nat.le_refl _) _⟩
        clear hne
        cases bx with
        | true =>
          rw [if_pos (of_decide_eq_true HBx.out)] at HH1
          go_wp2
          generalize ((w6.setCell ⟨n, 0, none⟩ (.int .i64 r)).setCell ⟨n, 1, none⟩ (.slice Bd T.length kd)) = w8 at *
          go_roundw
          case rel => exact ⟨k + 1, Bd, kd, by omega, by go_num, by rw [HH1.out]; go_num, by rw [HR1.out]; exact HK6.out.1, by rw [HR1.out]; exact HK6.out.2.1, by rw [HR1.out]; exact HK6.out.2.2.1, HK6.out.2.2.2⟩
          case measure => simp [intOf]; omega
        | false =>
          rw [if_neg (of_decide_eq_false HBx.out)] at HH1
          go_wp2
          generalize ((w6.setCell ⟨n, 0, none⟩ (.int .i64 r)).setCell ⟨n, 1, none⟩ (.slice Bd T.length kd)) = w8 at *
          go_roundw
          case rel => exact ⟨k + 1, Bd, kd, by omega, by go_num, by rw [HH1.out]; rfl, by rw [HR1.out]; exact HK6.out.1, by rw [HR1.out]; exact HK6.out.2.1, by rw [HR1.out]; exact HK6.out.2.2.1, HK6.out.2.2.2⟩
          case measure => simp [intOf]; omega
      · have hW6 : Below wr.heap.size wr ((wd.setCell ⟨wr.heap.size, 0, none⟩ (.int .i64 r)).setCell ⟨wr.heap.size, 1, none⟩ (.slice Bd T.length kd)) := below_put hBd hpz _ _
        have HX6 : Hid (Bx ((wd.setCell ⟨wr.heap.size, 0, none⟩ (.int .i64 r)).setCell ⟨wr.heap.size, 1, none⟩ (.slice Bd T.length kd)) wr.heap.size r Bd kd T ∧ Vb ((wd.setCell ⟨wr.heap.size, 0, none⟩ (.int .i64 r)).setCell ⟨wr.heap.size, 1, none⟩ (.slice Bd T.length kd)) n r (.slice Av M.length cv') ∧ Zb ((wd.setCell ⟨wr.heap.size, 0, none⟩ (.int .i64 r)).setCell ⟨wr.heap.size, 1, none⟩ (.slice Bd T.length kd)) (n + 1) ∧ Below wr.heap.size wr ((wd.setCell ⟨wr.heap.size, 0, none⟩ (.int .i64 r)).setCell ⟨wr.heap.size, 1, none⟩ (.slice Bd T.length kd)) ∧ ∀ a, Bd = some a → n + 1 + 1 ≤ a.block) := Lib.hid ⟨hzd.put hId hne, HV.out.below hW6, HZ.out.below hW6, hW6, fun a ha => by have h1 := hAd a ha; have h2 : wr.heap.size ≤ (wr.alloc zo).drew.heap.size := HBz.out.size; have h3 := HSz.out; exact Nat.le_trans h3 (Nat.le_trans h2 h1)⟩
        rename_i hHH
        clear hHH hW6 hBd hId hAd hbd hzd hne hpz r0 r1 f0 f1
        generalize ((wd.setCell ⟨wr.heap.size, 0, none⟩ (.int .i64 r)).setCell ⟨wr.heap.size, 1, none⟩ (.slice Bd T.length kd)) = w6 at *
        obtain ⟨h1, h2, h3, h4, h5⟩ := HX6.out
        have HXa := Lib.hid h1
        have HVa := Lib.hid h2
        have HZa := Lib.hid h3
        have HBa := Lib.hid h4
        have HAa := Lib.hid h5
        clear h1 h2 h3 h4 h5 HX6
        obtain ⟨-, y1, y2, -⟩ := HXa.out
        obtain ⟨v1, v2, v3, v4⟩ := HVa.out.cells
        have hne : 0 < T.length → ∀ a, Bd = some a → a.block ≠ n := fun _ a ha => by have := HAa.out a ha; omega
        have HK6 : Hid (Vb ((w6.setCell ⟨n, 0, none⟩ (.int .i64 r)).setCell ⟨n, 1, none⟩ (.slice Bd T.length kd)) n r (.slice Bd T.length kd) ∧ Ints ((w6.setCell ⟨n, 0, none⟩ (.int .i64 r)).setCell ⟨n, 1, none⟩ (.slice Bd T.length kd)) Bd kd T ∧ Wh A L (n + 1 + 1) Bd T ∧ Zb ((w6.setCell ⟨n, 0, none⟩ (.int .i64 r)).setCell ⟨n, 1, none⟩ (.slice Bd T.length kd)) (n + 1) ∧ n + 1 + 1 ≤ ((w6.setCell ⟨n, 0, none⟩ (.int .i64 r)).setCell ⟨n, 1, none⟩ (.slice Bd T.length kd)).heap.size ∧ Below n w ((w6.setCell ⟨n, 0, none⟩ (.int .i64 r)).setCell ⟨n, 1, none⟩ (.slice Bd T.length kd))) := Lib.hid ⟨HVa.out.put2 _, ints_set (ints_set HXa.out.ints hne 0 _) hne 1 _, fun a ha => .inr (HAa.out a ha), (HZa.out.other (by omega) 0 _).other (by omega) 1 _, by simp only [World.setCell, Array.size_modify]; exact Nat.le_trans HSz.out HBa.out.size, ((HBr.out.trans (HBa.out.mono (by have := HSz.out; omega))).setCell (p := ⟨n, 0, none⟩) (Nat.le_refl _) _).setCell (p := ⟨n, 1, none⟩) (Nat.le_refl _) _⟩
        clear hne
        cases bx with
        | true =>
          rw [if_pos (of_decide_eq_true HBx.out)] at HH1
          go_wp2
          generalize ((w6.setCell ⟨n, 0, none⟩ (.int .i64 r)).setCell ⟨n, 1, none⟩ (.slice Bd T.length kd)) = w8 at *
          go_roundw
          case rel => exact ⟨k + 1, Bd, kd, by omega, by go_num, by rw [HH1.out]; go_num, by rw [HR1.out]; exact HK6.out.1, by rw [HR1.out]; exact HK6.out.2.1, by rw [HR1.out]; exact HK6.out.2.2.1, HK6.out.2.2.2⟩
          case measure => simp [intOf]; omega
        | false =>
          rw [if_neg (of_decide_eq_false HBx.out)] at HH1
          go_wp2
          generalize ((w6.setCell ⟨n, 0, none⟩ (.int .i64 r)).setCell ⟨n, 1, none⟩ (.slice Bd T.length kd)) = w8 at *
          go_roundw
          case rel => exact ⟨k + 1, Bd, kd, by omega, by go_num, by rw [HH1.out]; rfl, by rw [HR1.out]; exact HK6.out.1, by rw [HR1.out]; exact HK6.out.2.1, by rw [HR1.out]; exact HK6.out.2.2.1, HK6.out.2.2.2⟩
          case measure => simp [intOf]; omega
    · obtain rfl : k = xs.length := by omega
      have HtL : Hid (xs.take xs.length = xs) := Lib.hid List.take_length
      rw [HtL.out] at HV HIv HW hhl ⊢
      clear hlt
      obtain ⟨z1, z2, z3, z4⟩ := HZ.out.cells
      generalize hM : runL r L xs = M at *
      have HMe := Lib.hid hM
      clear hM
      clear v1 v2 v3 v4
      obtain ⟨v1, v2, v3, v4⟩ := HV.out.cells
      go_wp2
      refine bodyPost_ret (v := .tuple #[cv r Av cv' M, .int .i64 (hitsM r L xs : Int)]) (by simp [results, Try.results16, go_sem, z1, z2]) rfl ?_
      have hne : 0 < M.length → ∀ a, Av = some a → a.block ≠ n + 1 := fun h0 a ha => by
        rcases HW.out a ha with ⟨h1, h2⟩ | h1
        · have := HAl.out (by rw [← h2]; exact h0) a h1; omega
        · omega
      rw [HMe.out]
      exact ⟨Av, cv', rfl, ints_set (ints_set HIv.out hne 0 _) hne 1 _, fun a ha => (HW.out a ha).imp id (fun h => by rw [HN.out]; omega), by rw [HN.out]; exact (HBr.out.setCell (p := ⟨n + 1, 0, none⟩) (by show n ≤ n + 1; omega) _).setCell (p := ⟨n + 1, 1, none⟩) (by show n ≤ n + 1; omega) _⟩

end Go.Proofs.Yticfkhmmmpnmdaa.Lru
