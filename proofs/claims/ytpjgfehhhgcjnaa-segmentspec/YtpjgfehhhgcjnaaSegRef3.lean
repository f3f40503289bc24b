/-
  The reference of package segment: HallsRun.
-/
import Derived.Test.YtpjgfehhhgcjnaaSegRef2
namespace Go.Proofs.Ytpjgfehhhgcjnaa.Seg
open Go.RowKit Go.Maps
open Lru (isRm isK keysE keysE_zero traceE trace_zero touch take_one)
set_option linter.unusedVariables false
set_option maxRecDepth 100000

theorem ints_set {w : World} {A : Option Addr} {c p : Nat} {L : List Int} (h : Ints w A c L) (hp : 0 < L.length → ∀ a, A = some a → a.block ≠ p) (j : Nat) (u : Value) : Ints (w.setCell ⟨p, j, none⟩ u) A c L := by
  by_cases h0 : 0 < L.length
  · exact h.setCell (p := ⟨p, j, none⟩) (hp h0) u
  · exact ⟨h.1, h.2.1, h.2.2.1, fun h1 => absurd h1 h0⟩
theorem ints_set4 {w : World} {A : Option Addr} {c p : Nat} {L : List Int} (h : Ints w A c L) (hp : 0 < L.length → ∀ a, A = some a → a.block ≠ p) (x y z u : Value) : Ints (set4 w p x y z u) A c L :=
  ints_set (ints_set (ints_set (ints_set h hp 0 x) hp 1 y) hp 2 z) hp 3 u
/-- Where the keys lie: where the cache's lay, or in new memory. -/
def Wh (A : Option Addr) (L : List Int) (b : Nat) (Av : Option Addr) (M : List Int) : Prop := ∀ a, Av = some a → (A = some a ∧ M = L) ∨ b ≤ a.block
theorem wh_own {A B : Option Addr} {L M : List Int} {b base n c : Nat} {w : World} (h : OwnI w base (.slice B n c) M) (hb : b ≤ base) : Wh A L b B M := fun a ha => by
  obtain ⟨A', c', e, -, hA⟩ := Lru.ints_of_own2 h
  cases e
  exact .inr (Nat.le_trans hb (hA a ha))
theorem ints_lt {w : World} {A : Option Addr} {c : Nat} {L : List Int} (h : Ints w A c L) (h0 : 0 < L.length) : ∀ a, A = some a → a.block < w.heap.size := fun a ha => by
  obtain ⟨b, o, e, ht⟩ := h.2.2.2 h0
  rw [e] at ha; cases ha; exact ht.1
/-- The rows are kept where another block is written. -/
theorem Wh.ne {A Av : Option Addr} {L M : List Int} {n p : Nat} (h : Wh A L (n + 2) Av M) (hA : 0 < L.length → ∀ a, A = some a → a.block < n) (hp : n ≤ p) (hp2 : p < n + 2) : 0 < M.length → ∀ a, Av = some a → a.block ≠ p := fun h0 a ha => by
  rcases h a ha with ⟨h1, h2⟩ | h1
  · have := hA (by rw [← h2]; exact h0) a h1; omega
  · omega

set_option maxHeartbeats 16000000 in
theorem runRef_any (f s : Int) (A B : Option Addr) (c d n m : Nat) (N O : List Int) (D : Option Addr) (dd ln : Nat) (xs : List Int) (w : World) (hn : N.length = n) (hm : O.length = m) (hln : xs.length = ln) (hN : Ints w A c N) (hO : Ints w B d O) (hJ : Ints w D dd xs) (hG : Good f s N O) (hx : ∀ x ∈ xs, isK x) (hl : ln ≤ 200) :
    Calls Try.prog 13 #[kv f s (.slice A n c) (.slice B m d), .slice D ln dd] w fun e w' => ∃ A' c' n' B' d' m', e = .returned (.tuple #[kv f s (.slice A' n' c') (.slice B' m' d'), .int .i64 (hitsS f s (N, O) xs : Int)]) ∧ (runS f s (N, O) xs).1.length = n' ∧ (runS f s (N, O) xs).2.length = m' ∧ Ints w' A' c' (runS f s (N, O) xs).1 ∧ Ints w' B' d' (runS f s (N, O) xs).2 ∧ Wh A N w.heap.size A' (runS f s (N, O) xs).1 ∧ Wh B O w.heap.size B' (runS f s (N, O) xs).2 ∧ Below w.heap.size w w' := by
  obtain ⟨hk0, hz0, hb0⟩ := box2 w f s (.slice A n c) (.slice B m d)
  have HK0 := Lib.hid hk0
  have HZ0 := Lib.hid hz0
  have HB0 := Lib.hid hb0
  have HN0 := Lib.hid (hN.below hb0)
  have HO0 := Lib.hid (hO.below hb0)
  have HAl := Lib.hid (ints_lt hN)
  have HBl := Lib.hid (ints_lt hO)
  have HJ := Lib.hid hJ
  have HG := Lib.hid hG
  have HX := Lib.hid hx
  have Hn := Lib.hid hn
  have Hm := Lib.hid hm
  have HLN := Lib.hid hln
  clear hk0 hz0 hb0 hN hO hJ hG hx hn hm hln
  go_enter Try.func13, Try.ntmps13
  go_wp2
  generalize ((w.alloc (ko f s (.slice A n c) (.slice B m d))).alloc zk) = w1 at *
  generalize hn0 : w.heap.size = n0 at *
  have HN1 := Lib.hid hn0
  clear hn0
  go_loopw [6, 7] (fun q i wr => ∃ (k : Nat) (Av : Option Addr) (nv cv : Nat) (Bv : Option Addr) (mv dv : Nat), k ≤ ln ∧ i = .int .i64 (k : Int) ∧ q = .int .i64 (hitsS f s (N, O) (xs.take k) : Int) ∧ Kb wr n0 f s (.slice Av nv cv) (.slice Bv mv dv) ∧ Hid ((runS f s (N, O) (xs.take k)).1.length = nv) ∧ Hid ((runS f s (N, O) (xs.take k)).2.length = mv) ∧ Ints wr Av cv (runS f s (N, O) (xs.take k)).1 ∧ Ints wr Bv dv (runS f s (N, O) (xs.take k)).2 ∧ Wh A N (n0 + 2) Av (runS f s (N, O) (xs.take k)).1 ∧ Wh B O (n0 + 2) Bv (runS f s (N, O) (xs.take k)).2 ∧ Kb wr (n0 + 1) 0 0 (.slice none 0 0) (.slice none 0 0) ∧ Below n0 w wr) (fun _ i _ => ln - (intOf i).toNat)
  case atStart => exact ⟨0, A, n, c, B, m, d, by omega, rfl, rfl, HK0.out, Hn, Hm, HN0.out, HO0.out, fun a ha => .inl ⟨ha, rfl⟩, fun a ha => .inl ⟨ha, rfl⟩, HZ0.out, HB0.out⟩
  case round =>
    obtain ⟨k, Av, nv, cv, Bv, mv, dv, hk, rfl, rfl, hV, Hnv, Hmv, hIv, hJv, hW, hW2, hZ, hb⟩ := hrel
    have HV := Lib.hid hV
    have HIv := Lib.hid hIv
    have HJv := Lib.hid hJv
    have HW := Lib.hid hW
    have HW2 := Lib.hid hW2
    have HZ := Lib.hid hZ
    have HBr := Lib.hid hb
    have HSz : Hid (n0 + 2 ≤ wr.heap.size) := Lib.hid hZ.lt
    have HJr : Hid (Ints wr D dd xs) := Lib.hid (HJ.out.below (by rw [HN1.out]; exact hb))
    clear hV hIv hJv hW hW2 hZ hb
    have HGr : Hid (Good f s (runS f s (N, O) (xs.take k)).1 (runS f s (N, O) (xs.take k)).2) := Lib.hid (runS_good (t := (N, O)) HG.out (fun x hx => HX.out x (List.mem_of_mem_take hx)))
    have hhl : hitsS f s (N, O) (xs.take k) ≤ 200 := by have := hitsS_le f s (N, O) (xs.take k); rw [List.length_take] at this; omega
    by_cases hlt : k < ln
    · have hin : (k : Int) < (ln : Int) := by omega
      have hiB : (0 : Int) ≤ (k : Int) := by omega
      have hkx : k < xs.length := by rw [HLN.out]; exact hlt
      obtain ⟨bb, o, rfl, ht⟩ := HJr.out.2.2.2 (by omega)
      have e1 := ht.2 k hkx
      have HBt := Lib.hid ht.1
      clear ht
      have HT1 := Lib.hid (take_one hkx)
      have HXk : Hid (isK (gi xs k)) := Lib.hid (HX.out _ (gi_mem hkx))
      have HR1 : Hid (runS f s (N, O) (xs.take (k + 1)) = tch f s (runS f s (N, O) (xs.take k)) (gi xs k)) := Lib.hid (by rw [HT1.out, runS_snoc])
      have HH1 : Hid (hitsS f s (N, O) (xs.take (k + 1)) = hitsS f s (N, O) (xs.take k) + (if isHit (runS f s (N, O) (xs.take k)) (gi xs k) then 1 else 0)) := Lib.hid (by rw [HT1.out, hitsS_snoc])
      have HU := Lib.hid (fun (W : World) (a : Ints W Av cv (runS f s (N, O) (xs.take k)).1) (b : Ints W Bv dv (runS f s (N, O) (xs.take k)).2) => touchRef_any f s Av Bv cv dv nv mv (runS f s (N, O) (xs.take k)).1 (runS f s (N, O) (xs.take k)).2 (gi xs k) W Hnv.out Hmv.out a b HGr.out HXk.out)
      clear hkx
      generalize gi xs k = x at *
      generalize runS f s (N, O) (xs.take k) = M at *
      generalize hitsS f s (N, O) (xs.take k) = hh at *
      obtain ⟨M1, M2⟩ := M
      dsimp only at HU HIv HJv HW HW2 HGr Hnv Hmv
      unfold TR at HU
      generalize lost f s (M1, M2) x = gg at *
      obtain ⟨T, hT⟩ : ∃ T, tch f s (M1, M2) x = T := ⟨_, rfl⟩
      rw [hT] at HU HR1
      clear hT
      obtain ⟨T1, T2⟩ := T
      dsimp only at HU
      have HKr : Hid (∀ w' : World, Below wr.heap.size wr w' → w'.cell? ⟨n0, 0, none⟩ = some (.int .i64 f) ∧ w'.cell? ⟨n0, 1, none⟩ = some (.int .i64 s) ∧ w'.cell? ⟨n0, 2, none⟩ = some (.slice Av nv cv) ∧ w'.cell? ⟨n0, 3, none⟩ = some (.slice Bv mv dv) ∧ w'.cell? ⟨bb, o + k, none⟩ = some (.int .i64 x)) := Lib.hid (fun w' hb => by
        obtain ⟨a1, a2, a3, a4⟩ := (HV.out.below hb).cells
        exact ⟨a1, a2, a3, a4, (hb.cell (p := ⟨bb, o + k, none⟩) HBt.out).trans e1⟩)
      have HBz : Hid (Below wr.heap.size wr (wr.alloc zk).drew) := Lib.hid (bel_al (Below.refl _ _) (Nat.le_refl _) _).drew
      obtain ⟨bx, hbx⟩ : ∃ bx, decide (isHit (M1, M2) x) = bx := ⟨_, rfl⟩
      have HBx := Lib.hid hbx
      simp only [hbx] at HU
      clear hbx
      go_wp2
      clear e1
      go_region_held3 (fun w' => w'.cell? ⟨n0, 0, none⟩ = some (.int .i64 f) ∧ w'.cell? ⟨n0, 1, none⟩ = some (.int .i64 s) ∧ w'.cell? ⟨n0, 2, none⟩ = some (.slice Av nv cv) ∧ w'.cell? ⟨n0, 3, none⟩ = some (.slice Bv mv dv) ∧ w'.cell? ⟨bb, o + k, none⟩ = some (.int .i64 x))
        (first | exact HKr.out _ (bel_set4 hBd hpz _ _ _ _) | exact HKr.out _ (bel_set4 (bel_al hBd hBd.size _) hBd.size _ _ _ _) | exact HKr.out _ (bel_al hBd hBd.size _) | exact HKr.out _ hBd | exact HKr.out _ HBz.out | exact HKr.out _ (Below.refl _ _).drew)
        (first
          | (go_at_call 11; (with_reducible refine (HU.out wr.drew HIv.out.drew HJv.out.drew).mono ?_); rintro e wd ⟨Bd, kd, nT, Cd, ld, mT, Ed, hd, jd, rfl, hId, hJd, -, hbd⟩; have hBd : Below wr.heap.size wr wd := (Below.refl _ _).drew.trans hbd)
          | (go_at_call 11; (with_reducible refine (HU.out (wr.alloc zk).drew (HIv.out.below HBz.out) (HJv.out.below HBz.out)).mono ?_); rintro e wd ⟨Bd, kd, nT, Cd, ld, mT, Ed, hd, jd, rfl, hId, hJd, -, hbd⟩; have hBd := HBz.out.trans (hbd.mono HBz.out.size); have hzd := (Kb.new wr 0 0 (.slice none 0 0) (.slice none 0 0)).drew.below hbd; have hpz : wr.heap.size ≤ wr.heap.size := Nat.le_refl _; obtain ⟨r0, r1, r2, r3⟩ := hzd.cells; obtain ⟨f0, f1, f2, f3⟩ := hzd.free))
      · have hW6 : Below wr.heap.size wr (wd.alloc (ko f s (.slice Bd nT kd) (.slice Cd mT ld))) := bel_al hBd hBd.size _
        have HX6 : Hid (Kb (wd.alloc (ko f s (.slice Bd nT kd) (.slice Cd mT ld))) wd.heap.size f s (.slice Bd nT kd) (.slice Cd mT ld) ∧ OwnI (wd.alloc (ko f s (.slice Bd nT kd) (.slice Cd mT ld))) wr.heap.size (.slice Bd nT kd) T1 ∧ OwnI (wd.alloc (ko f s (.slice Bd nT kd) (.slice Cd mT ld))) wr.heap.size (.slice Cd mT ld) T2 ∧ Kb (wd.alloc (ko f s (.slice Bd nT kd) (.slice Cd mT ld))) n0 f s (.slice Av nv cv) (.slice Bv mv dv) ∧ Kb (wd.alloc (ko f s (.slice Bd nT kd) (.slice Cd mT ld))) (n0 + 1) 0 0 (.slice none 0 0) (.slice none 0 0) ∧ Below wr.heap.size wr (wd.alloc (ko f s (.slice Bd nT kd) (.slice Cd mT ld)))) := Lib.hid ⟨Kb.new _ _ _ _ _, own_al hId _, own_al hJd _, HV.out.below hW6, HZ.out.below hW6, hW6⟩
        rename_i hHH
        clear hHH hW6 hBd hId hJd hbd
        generalize wd.heap.size = p6 at *
        generalize wd.alloc (ko f s (.slice Bd nT kd) (.slice Cd mT ld)) = w6 at *
        have HSzP := HSz
        obtain ⟨h1, h2, h3, h4, h5, h6⟩ := HX6.out
        have HXa := Lib.hid h1
        have HIa := Lib.hid h2
        have HJa := Lib.hid h3
        have HVa := Lib.hid h4
        have HZa := Lib.hid h5
        have HBa := Lib.hid h6
        clear h1 h2 h3 h4 h5 h6 HX6
        obtain ⟨y1, y2, y3, y4⟩ := HXa.out.cells
        obtain ⟨v1, v2, v3, v4⟩ := HVa.out.cells
        obtain ⟨u1, u2, u3, u4⟩ := HVa.out.free
        have HK8 := Lib.hid (HVa.out.put4 f s (.slice Bd nT kd) (.slice Cd mT ld))
        have HI8 := Lib.hid (own_set4 HIa.out (HVa.out.own HIa.out) (.int .i64 f) (.int .i64 s) (.slice Bd nT kd) (.slice Cd mT ld))
        have HJ8 := Lib.hid (own_set4 HJa.out (HVa.out.own HJa.out) (.int .i64 f) (.int .i64 s) (.slice Bd nT kd) (.slice Cd mT ld))
        have HZ8 := Lib.hid (HZa.out.other4 (q := n0) (by omega) (.int .i64 f) (.int .i64 s) (.slice Bd nT kd) (.slice Cd mT ld))
        have HB8 := Lib.hid (bel_set4 (HBr.out.trans (HBa.out.mono (by have := HSz.out; omega))) (p := n0) (Nat.le_refl _) (.int .i64 f) (.int .i64 s) (.slice Bd nT kd) (.slice Cd mT ld))
        have HWa : Hid (Wh A N (n0 + 2) Bd T1) := Lib.hid (wh_own HI8.out HSzP.out)
        have HWb : Hid (Wh B O (n0 + 2) Cd T2) := Lib.hid (wh_own HJ8.out HSzP.out)
        have HI9 := Lib.hid (ints_own HI8.out).2
        have HJ9 := Lib.hid (ints_own HJ8.out).2
        have HnT : Hid (T1.length = nT) := Lib.hid (ints_own HI8.out).1.symm
        have HmT : Hid (T2.length = mT) := Lib.hid (ints_own HJ8.out).1.symm
        clear HI8 HJ8
        cases bx with
        | true =>
          rw [if_pos (of_decide_eq_true HBx.out)] at HH1
          go_wp2
          go_roundw
          case rel => exact ⟨k + 1, Bd, nT, kd, Cd, mT, ld, by omega, by go_num, by rw [HH1.out]; go_num, HK8.out, by rw [HR1.out]; exact HnT, by rw [HR1.out]; exact HmT, by rw [HR1.out]; exact HI9.out, by rw [HR1.out]; exact HJ9.out, by rw [HR1.out]; exact HWa.out, by rw [HR1.out]; exact HWb.out, HZ8.out, HB8.out⟩
          case measure => simp [intOf]; omega
        | false =>
          rw [if_neg (of_decide_eq_false HBx.out)] at HH1
          go_wp2
          go_roundw
          case rel => exact ⟨k + 1, Bd, nT, kd, Cd, mT, ld, by omega, by go_num, by rw [HH1.out]; rfl, HK8.out, by rw [HR1.out]; exact HnT, by rw [HR1.out]; exact HmT, by rw [HR1.out]; exact HI9.out, by rw [HR1.out]; exact HJ9.out, by rw [HR1.out]; exact HWa.out, by rw [HR1.out]; exact HWb.out, HZ8.out, HB8.out⟩
          case measure => simp [intOf]; omega
      · have hW6 : Below wr.heap.size wr ((((wd.setCell ⟨wr.heap.size, 0, none⟩ (.int .i64 f)).setCell ⟨wr.heap.size, 1, none⟩ (.int .i64 s)).setCell ⟨wr.heap.size, 2, none⟩ (.slice Bd nT kd)).setCell ⟨wr.heap.size, 3, none⟩ (.slice Cd mT ld)) := bel_set4 hBd hpz _ _ _ _
        have HX6 : Hid (Kb ((((wd.setCell ⟨wr.heap.size, 0, none⟩ (.int .i64 f)).setCell ⟨wr.heap.size, 1, none⟩ (.int .i64 s)).setCell ⟨wr.heap.size, 2, none⟩ (.slice Bd nT kd)).setCell ⟨wr.heap.size, 3, none⟩ (.slice Cd mT ld)) wr.heap.size f s (.slice Bd nT kd) (.slice Cd mT ld) ∧ OwnI ((((wd.setCell ⟨wr.heap.size, 0, none⟩ (.int .i64 f)).setCell ⟨wr.heap.size, 1, none⟩ (.int .i64 s)).setCell ⟨wr.heap.size, 2, none⟩ (.slice Bd nT kd)).setCell ⟨wr.heap.size, 3, none⟩ (.slice Cd mT ld)) wr.heap.size (.slice Bd nT kd) T1 ∧ OwnI ((((wd.setCell ⟨wr.heap.size, 0, none⟩ (.int .i64 f)).setCell ⟨wr.heap.size, 1, none⟩ (.int .i64 s)).setCell ⟨wr.heap.size, 2, none⟩ (.slice Bd nT kd)).setCell ⟨wr.heap.size, 3, none⟩ (.slice Cd mT ld)) wr.heap.size (.slice Cd mT ld) T2 ∧ Kb ((((wd.setCell ⟨wr.heap.size, 0, none⟩ (.int .i64 f)).setCell ⟨wr.heap.size, 1, none⟩ (.int .i64 s)).setCell ⟨wr.heap.size, 2, none⟩ (.slice Bd nT kd)).setCell ⟨wr.heap.size, 3, none⟩ (.slice Cd mT ld)) n0 f s (.slice Av nv cv) (.slice Bv mv dv) ∧ Kb ((((wd.setCell ⟨wr.heap.size, 0, none⟩ (.int .i64 f)).setCell ⟨wr.heap.size, 1, none⟩ (.int .i64 s)).setCell ⟨wr.heap.size, 2, none⟩ (.slice Bd nT kd)).setCell ⟨wr.heap.size, 3, none⟩ (.slice Cd mT ld)) (n0 + 1) 0 0 (.slice none 0 0) (.slice none 0 0) ∧ Below wr.heap.size wr ((((wd.setCell ⟨wr.heap.size, 0, none⟩ (.int .i64 f)).setCell ⟨wr.heap.size, 1, none⟩ (.int .i64 s)).setCell ⟨wr.heap.size, 2, none⟩ (.slice Bd nT kd)).setCell ⟨wr.heap.size, 3, none⟩ (.slice Cd mT ld))) := Lib.hid ⟨hzd.put4 _ _ _ _, own_set4 (own_le hId (Nat.le_trans (Nat.le_succ _) (Nat.le_of_eq (by simp)))) (hzd.own hId) _ _ _ _, own_set4 (own_le hJd (Nat.le_trans (Nat.le_succ _) (Nat.le_of_eq (by simp)))) (hzd.own hJd) _ _ _ _, HV.out.below hW6, HZ.out.below hW6, hW6⟩
        rename_i hHH
        clear hHH hW6 hBd hId hJd hbd hzd hpz r0 r1 r2 r3 f0 f1 f2 f3
        generalize ((((wd.setCell ⟨wr.heap.size, 0, none⟩ (.int .i64 f)).setCell ⟨wr.heap.size, 1, none⟩ (.int .i64 s)).setCell ⟨wr.heap.size, 2, none⟩ (.slice Bd nT kd)).setCell ⟨wr.heap.size, 3, none⟩ (.slice Cd mT ld)) = w6 at *
        have HSzP := HSz
        obtain ⟨h1, h2, h3, h4, h5, h6⟩ := HX6.out
        have HXa := Lib.hid h1
        have HIa := Lib.hid h2
        have HJa := Lib.hid h3
        have HVa := Lib.hid h4
        have HZa := Lib.hid h5
        have HBa := Lib.hid h6
        clear h1 h2 h3 h4 h5 h6 HX6
        obtain ⟨y1, y2, y3, y4⟩ := HXa.out.cells
        obtain ⟨v1, v2, v3, v4⟩ := HVa.out.cells
        obtain ⟨u1, u2, u3, u4⟩ := HVa.out.free
        have HK8 := Lib.hid (HVa.out.put4 f s (.slice Bd nT kd) (.slice Cd mT ld))
        have HI8 := Lib.hid (own_set4 HIa.out (HVa.out.own HIa.out) (.int .i64 f) (.int .i64 s) (.slice Bd nT kd) (.slice Cd mT ld))
        have HJ8 := Lib.hid (own_set4 HJa.out (HVa.out.own HJa.out) (.int .i64 f) (.int .i64 s) (.slice Bd nT kd) (.slice Cd mT ld))
        have HZ8 := Lib.hid (HZa.out.other4 (q := n0) (by omega) (.int .i64 f) (.int .i64 s) (.slice Bd nT kd) (.slice Cd mT ld))
        have HB8 := Lib.hid (bel_set4 (HBr.out.trans (HBa.out.mono (by have := HSz.out; omega))) (p := n0) (Nat.le_refl _) (.int .i64 f) (.int .i64 s) (.slice Bd nT kd) (.slice Cd mT ld))
        have HWa : Hid (Wh A N (n0 + 2) Bd T1) := Lib.hid (wh_own HI8.out HSzP.out)
        have HWb : Hid (Wh B O (n0 + 2) Cd T2) := Lib.hid (wh_own HJ8.out HSzP.out)
        have HI9 := Lib.hid (ints_own HI8.out).2
        have HJ9 := Lib.hid (ints_own HJ8.out).2
        have HnT : Hid (T1.length = nT) := Lib.hid (ints_own HI8.out).1.symm
        have HmT : Hid (T2.length = mT) := Lib.hid (ints_own HJ8.out).1.symm
        clear HI8 HJ8
        cases bx with
        | true =>
          rw [if_pos (of_decide_eq_true HBx.out)] at HH1
          go_wp2
          go_roundw
          case rel => exact ⟨k + 1, Bd, nT, kd, Cd, mT, ld, by omega, by go_num, by rw [HH1.out]; go_num, HK8.out, by rw [HR1.out]; exact HnT, by rw [HR1.out]; exact HmT, by rw [HR1.out]; exact HI9.out, by rw [HR1.out]; exact HJ9.out, by rw [HR1.out]; exact HWa.out, by rw [HR1.out]; exact HWb.out, HZ8.out, HB8.out⟩
          case measure => simp [intOf]; omega
        | false =>
          rw [if_neg (of_decide_eq_false HBx.out)] at HH1
          go_wp2
          go_roundw
          case rel => exact ⟨k + 1, Bd, nT, kd, Cd, mT, ld, by omega, by go_num, by rw [HH1.out]; rfl, HK8.out, by rw [HR1.out]; exact HnT, by rw [HR1.out]; exact HmT, by rw [HR1.out]; exact HI9.out, by rw [HR1.out]; exact HJ9.out, by rw [HR1.out]; exact HWa.out, by rw [HR1.out]; exact HWb.out, HZ8.out, HB8.out⟩
          case measure => simp [intOf]; omega
    · obtain rfl : k = ln := by omega
      have HtL : Hid (xs.take k = xs) := Lib.hid (by rw [← HLN.out]; exact List.take_length)
      rw [HtL.out] at HIv HJv HW HW2 Hnv Hmv hhl ⊢
      clear hlt HGr
      obtain ⟨z1, z2, z3, z4⟩ := HZ.out.cells
      obtain ⟨u1, u2, u3, u4⟩ := HZ.out.free
      obtain ⟨v1, v2, v3, v4⟩ := HV.out.cells
      have HP : Hid (Ints (set4 wr (n0 + 1) (.int .i64 f) (.int .i64 s) (.slice Av nv cv) (.slice Bv mv dv)) Av cv (runS f s (N, O) xs).1 ∧ Ints (set4 wr (n0 + 1) (.int .i64 f) (.int .i64 s) (.slice Av nv cv) (.slice Bv mv dv)) Bv dv (runS f s (N, O) xs).2 ∧ Below n0 w (set4 wr (n0 + 1) (.int .i64 f) (.int .i64 s) (.slice Av nv cv) (.slice Bv mv dv))) := Lib.hid ⟨ints_set4 HIv.out (HW.out.ne HAl.out (by omega) (by omega)) _ _ _ _, ints_set4 HJv.out (HW2.out.ne HBl.out (by omega) (by omega)) _ _ _ _, bel_set4 HBr.out (by omega) _ _ _ _⟩
      go_wp2
      refine bodyPost_ret (v := .tuple #[kv f s (.slice Av nv cv) (.slice Bv mv dv), .int .i64 (hitsS f s (N, O) xs : Int)]) (by simp [results, Try.results13, go_sem, z1, z2, z3, z4]) rfl ?_
      have e0 := HN1.out
      subst e0
      exact ⟨Av, cv, nv, Bv, dv, mv, rfl, Hnv.out, Hmv.out, HP.out.1, HP.out.2.1, fun a ha => (HW.out a ha).imp id (fun h => by omega), fun a ha => (HW2.out a ha).imp id (fun h => by omega), HP.out.2.2⟩

end Go.Proofs.Ytpjgfehhhgcjnaa.Seg
