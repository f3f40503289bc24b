/-
  RateBound: no more tokens are taken than the bucket had and received.
-/
import Derived.Test.YtildmhfpjdmcbaaRateBegun
import Derived.Test.YtildmhfpjdmcbaaRateOpen
import Derived.Laws.BitsLemmas
import Derived.Deep.RegionHeld3
import Derived.Deep.CutRange
namespace Go.Proofs.Ytildmhfpjdmcbaa.Rat
open Go.RowKit
set_option linter.unusedVariables false
set_option maxRecDepth 100000

theorem and_mask (n : Int) : bits .and .i64 n 1048575 = n % 1048576 := by
  have hm : (BitVec.ofInt 64 1048575).toNat = 2 ^ 20 - 1 := by decide
  have key : (BitVec.ofInt 64 n &&& BitVec.ofInt 64 1048575).toNat = (n % ((2 ^ 64 : Nat) : Int)).toNat % 2 ^ 20 := by
    rw [BitVec.toNat_and, BitVec.toNat_ofInt, hm, Nat.and_two_pow_sub_one_eq_mod]
  show IntKind.i64.wrap ((BitVec.ofInt 64 n &&& BitVec.ofInt 64 1048575).toNat : Nat) = n % 1048576
  rw [key, IntKind.wrap_i64]
  omega
theorem bel_drewN {B : Nat} {w w' : World} (h : Below B w w') (n : Nat) : Below B w (w'.drewN n) := ⟨h.os, h.tape, h.output, h.size, h.block⟩

/-- What holds ahead of each round. -/
def Inv (b0 : Bk) (k : Nat) (tk nw : Int) (bk : Bk) : Prop :=
  Ok bk ∧ bk.every = b0.every ∧ Bnd b0.att b0.has tk bk ∧ bk.att ≤ nw ∧ nw ≤ 549755813888 + (k : Int) * 1048576 ∧ 0 ≤ tk ∧ tk ≤ (k : Int) * 1048576
/-- What the round's test asks. -/
def Chk (b0 : Bk) (T N : Int) (Y : Bk) : Prop :=
  IntKind.i64.wrap (N - b0.att) = N - b0.att ∧ ¬ Y.every = 0 ∧ ckE Y = 0 ∧ decide (Y.most < Y.has) = false ∧ decide (Y.has < 0) = false ∧
    ∃ g, IntKind.i64.wrap ((N - b0.att).tdiv Y.every) = g ∧ IntKind.i64.wrap (b0.has + g) = b0.has + g ∧ decide (b0.has + g < T) = false
theorem inv_zero {b : Bk} (h : Ok b) (h2 : b.att ≤ 549755813888) : Inv b 0 0 b.att b :=
  ⟨h, rfl, ⟨Int.le_refl _, by rw [Int.sub_self, Int.zero_ediv]; omega⟩, Int.le_refl _, by omega, Int.le_refl _, by omega⟩
theorem inv_chk {b0 Y : Bk} {k : Nat} {tk nw : Int} (h0 : Ok b0) (hk : k ≤ 60) (h : Inv b0 k tk nw Y) : Chk b0 tk nw Y := by
  obtain ⟨h1, h2, h3, h4, h5, h6, h7⟩ := h
  have hn := bnd_now h1 h3 h4
  have he := h1.ev
  have a1 := h0.2.2.2.1
  have a2 := h3.1
  have a3 := h0.2.2.1.1
  have a4 := h0.2.2.1.2
  have a5 := h0.1.2
  have a6 := h1.2.2.1.1
  have a7 := h1.2.2.1.2
  have hd : (nw - b0.att).tdiv Y.every = (nw - b0.att) / Y.every := Int.tdiv_eq_ediv_of_nonneg (by omega)
  have hd0 : 0 ≤ (nw - b0.att) / Y.every := div_nonneg he (by omega)
  have hd1 : (nw - b0.att) / Y.every ≤ nw - b0.att := by
    have hs := (div_spec (a := nw - b0.att) he).1
    have := Int.mul_le_mul_of_nonneg_right (show 1 ≤ Y.every by omega) hd0
    omega
  refine ⟨?_, by omega, check_zero.2 h1, by simp; omega, by simp; omega, (nw - b0.att) / Y.every, ?_, ?_, ?_⟩
  · rw [IntKind.wrap_i64]; omega
  · rw [hd, IntKind.wrap_i64]; omega
  · rw [IntKind.wrap_i64]; omega
  · simp; omega
theorem inv_step {b0 bk : Bk} {k : Nat} {tk nw : Int} (h0 : Ok b0) (hk : k < 60) (h : Inv b0 k tk nw bk) (x n : Int) : ∃ v, bits .and .i64 x 1048575 = v ∧ IntKind.i64.wrap (nw + v) = nw + v ∧
    ((tkE bk (nw + v) n ≠ 0 ∧ Inv b0 (k + 1) tk (nw + v) bk) ∨
      (tkE bk (nw + v) n = 0 ∧ tkI bk (nw + v) n = true ∧ IntKind.i64.wrap (tk + n) = tk + n ∧ Inv b0 (k + 1) (tk + n) (nw + v) (tkB bk (nw + v) n)) ∨
      (tkE bk (nw + v) n = 0 ∧ tkI bk (nw + v) n = false ∧ Inv b0 (k + 1) tk (nw + v) (tkB bk (nw + v) n))) := by
  obtain ⟨h1, h2, h3, h4, h5, h6, h7⟩ := h
  have a1 := h0.2.2.2.1
  have a2 := h3.1
  have hv0 : 0 ≤ x % 1048576 := Int.emod_nonneg _ (by decide)
  have hv1 : x % 1048576 < 1048576 := Int.emod_lt_of_pos _ (by decide)
  refine ⟨x % 1048576, and_mask x, by rw [IntKind.wrap_i64]; omega, ?_⟩
  generalize x % 1048576 = v at *
  by_cases hz : tkE bk (nw + v) n = 0
  · have hy := tk_ok hz
    obtain ⟨⟨k0, k1, k2⟩, k3⟩ := tk_zero.1 hz
    have hA := adv_ok k0 k2 k1
    have hB := bnd_adv k0 k2 h3
    by_cases hn : n ≤ (adv bk (nw + v)).has
    · obtain ⟨e1, e2⟩ := tk_yes hz hn
      have l1 := k3.1
      have l2 := k3.2
      refine .inr (.inl ⟨hz, e2, by rw [IntKind.wrap_i64]; omega, hy.1, hy.2.1.trans h2, ?_, hy.2.2.2, by omega, by omega, by omega⟩)
      rw [e1]
      have := bnd_take (n := n) hB
      rwa [hA.2.2.2.2.1, hA.2.2.2.1] at this
    · obtain ⟨e1, e2⟩ := tk_no hz hn
      refine .inr (.inr ⟨hz, e2, hy.1, hy.2.1.trans h2, ?_, hy.2.2.2, by omega, by omega, by omega⟩)
      rw [e1]
      exact hB
  · exact .inl ⟨hz, h1, h2, h3, by omega, by omega, h6, by omega⟩

set_option maxHeartbeats 16000000 in
theorem rateBound_walk (b : Bk) (A : Option Addr) (c : Nat) (L : List Int) (B : Option Addr) (d : Nat) (M : List Int) (w : World) (hI : Ints w A c L) (hJ : Ints w B d M) :
    Calls Try.prog 6 #[bv b, .slice A L.length c, .slice B M.length d] w fun e w' => e = .returned (.bool true) ∧ Below w.heap.size w w' := by
  have HK0 : Hid (Kb (w.alloc (bo b)) w.heap.size b) := Lib.hid (Kb.new w b)
  have HB0 : Hid (Below w.heap.size w (w.alloc (bo b))) := Lib.hid (bel_al (Below.refl _ _) (Nat.le_refl _) _)
  have HG : Hid (∀ W : World, Calls Try.prog 14 #[] W fun e w' => e = .returned (.bool true) ∧ Below W.heap.size W w') := Lib.hid (fun W => begun_any W)
  have C1 : Hid (CkC b (ckE b)) := Lib.hid (fun W => check_any b W)
  have HI := Lib.hid hI
  have HJ := Lib.hid hJ
  have HLl := Lib.hid hI.len
  have HMl := Lib.hid hJ.len
  clear hI hJ
  obtain ⟨n1, hn1⟩ : ∃ n, L.length = n := ⟨_, rfl⟩
  obtain ⟨n2, hn2⟩ : ∃ n, M.length = n := ⟨_, rfl⟩
  have HN1 := Lib.hid hn1
  have HN2 := Lib.hid hn2
  rw [hn1] at HLl ⊢
  rw [hn2] at HMl ⊢
  clear hn1 hn2
  by_cases h0 : ckE b = 0
  · have HOk := Lib.hid (check_zero.1 h0)
    rw [h0] at C1
    by_cases h1 : b.att ≤ 549755813888
    · have p1 : decide (549755813888 < b.att) = false := by simpa using h1
      have HZ := Lib.hid (inv_zero HOk.out h1)
      have HSt : Hid (∀ (k : Nat) (tk nw : Int) (bk : Bk) (x n : Int), k < 60 → Inv b k tk nw bk → _) := Lib.hid (fun k tk nw bk x n hk h => inv_step (n := n) HOk.out hk h x)
      have HCh : Hid (∀ (k : Nat) (tk nw : Int) (bk : Bk), k ≤ 60 → Inv b k tk nw bk → Chk b tk nw bk) := Lib.hid (fun k tk nw bk hk h => inv_chk HOk.out hk h)
      clear h0 h1
      obtain ⟨m, ev, h, a⟩ := b
      go_enter Try.func6, Try.ntmps6
      go_wp2_with fail
      refine (HG.out _).mono ?_
      rintro e w1 ⟨rfl, hb1⟩
      have K1 : Hid (Kb w1 w.heap.size ⟨m, ev, h, a⟩) := Lib.hid (HK0.out.below hb1)
      have B1 : Hid (Below w.heap.size w w1) := Lib.hid (HB0.out.trans (hb1.mono HB0.out.size))
      clear hb1 HK0 HB0
      obtain ⟨x0, x1, x2, x3⟩ := K1.out.cells
      go_wp2_with fail
      clear x0 x1 x2 x3
      refine (C1.out _).mono ?_
      rintro e w2 ⟨rfl, hb2⟩
      have K2 : Hid (Kb w2 w.heap.size ⟨m, ev, h, a⟩) := Lib.hid (K1.out.below hb2)
      have B2 : Hid (Below w.heap.size w w2) := Lib.hid (B1.out.trans (hb2.mono B1.out.size))
      clear hb2 K1 B1
      obtain ⟨x0, x1, x2, x3⟩ := K2.out.cells
      go_wp2
      go_quiet (fail)
      have K3 : Hid (Kb (w2.drewN nq) w.heap.size ⟨m, ev, h, a⟩) := K2
      have B3 : Hid (Below w.heap.size w (w2.drewN nq)) := Lib.hid (bel_drewN B2.out _)
      clear x0 x1 x2 x3
      generalize w2.drewN nq = w3 at *
      clear K2 B2
      obtain ⟨x0, x1, x2, x3⟩ := K3.out.cells
      go_wp2
      clear x0 x1 x2 x3
      go_loopw [8, 9, 11] (fun s8 s9 s11 wr => ∃ (k : Nat) (tk nw : Int) (bk : Bk), k ≤ 60 ∧ s8 = .int .i64 tk ∧ s9 = .int .i64 nw ∧ s11 = .int .i64 (k : Int) ∧ Inv ⟨m, ev, h, a⟩ k tk nw bk ∧ Kb wr w.heap.size bk ∧ Below w.heap.size w wr) (fun _ _ i _ => 60 - (intOf i).toNat)
      case atStart => exact ⟨0, 0, a, ⟨m, ev, h, a⟩, by omega, rfl, rfl, rfl, HZ.out, K3.out, B3.out⟩
      case round =>
        obtain ⟨k, tk, nw, bk, hk, rfl, rfl, rfl, hinv, hkr, hbr⟩ := hrel
        have HIv := Lib.hid hinv
        have HKr := Lib.hid hkr
        have HBr := Lib.hid hbr
        clear hinv hkr hbr
        by_cases hL : k < n1
        · have hL' : (k : Int) < (n1 : Int) := by omega
          have hkL : k < L.length := by rw [HN1.out]; exact hL
          by_cases hM : k < n2
          · have hM' : (k : Int) < (n2 : Int) := by omega
            have hkM : k < M.length := by rw [HN2.out]; exact hM
            have hi0 : (0 : Int) ≤ (k : Int) := by omega
            by_cases h60 : k < 60
            · have h60' : (k : Int) < 60 := by omega
              obtain ⟨b1, o1, rfl, ht1⟩ := (HI.out.below (HBr.out.mono (Nat.le_refl _))).2.2.2 (by omega)
              obtain ⟨b2, o2, rfl, ht2⟩ := (HJ.out.below (HBr.out.mono (Nat.le_refl _))).2.2.2 (by omega)
              have e1 := ht1.2 k hkL
              have e2 := ht2.2 k hkM
              have HB2 : Hid (b2 < wr.heap.size) := Lib.hid ht2.1
              clear ht1 ht2 hkL hkM
              generalize gi L k = x at *
              generalize gi M k = n at *
              obtain ⟨v, hv, hw, hcs⟩ := HSt.out k tk nw bk x n h60 HIv.out
              rw [← hv] at hw
              have hw4 : IntKind.i64.wrap (nw + bits .and .i64 x 1048575) = nw + v := by rw [hw, hv]
              have HCs := Lib.hid hcs
              have CT : Hid (TkC bk (nw + v) n (tkB bk (nw + v) n) (tkI bk (nw + v) n) (tkE bk (nw + v) n)) := Lib.hid (fun W => take_any bk (nw + v) n W)
              clear hcs hv hw
              generalize tkB bk (nw + v) n = Y at *
              generalize tkI bk (nw + v) n = yi at *
              generalize tkE bk (nw + v) n = ye at *
              generalize nw + v = N at *
              obtain ⟨bm, be, bh, ba⟩ := bk
              obtain ⟨ym, yv, yh, ya⟩ := Y
              go_upto_region 11 with fail
              go_cut [12, 13, 14] from 31 to 101 (fun s12 s13 s14 wx => ∃ p8, s12 = .pointer (some ⟨p8, 0, none⟩) ∧ s13 = .bool yi ∧ s14 = .int .i64 ye ∧ Kb wx p8 ⟨ym, yv, yh, ya⟩ ∧ wr.heap.size ≤ p8 ∧ Below wr.heap.size wr wx)
              case first =>
                have HS : Hid (∀ W, Below wr.heap.size wr W → W.cell? ⟨w.heap.size, 0, none⟩ = some (.int .i64 bm) ∧ W.cell? ⟨w.heap.size, 1, none⟩ = some (.int .i64 be) ∧ W.cell? ⟨w.heap.size, 2, none⟩ = some (.int .i64 bh) ∧ W.cell? ⟨w.heap.size, 3, none⟩ = some (.int .i64 ba) ∧ W.cell? ⟨b2, o2 + k, none⟩ = some (.int .i64 n)) := Lib.hid (fun W hW => by
                  obtain ⟨z1, z2, z3, z4⟩ := (HKr.out.below hW).cells
                  exact ⟨z1, z2, z3, z4, (hW.cell (p := ⟨b2, _, none⟩) HB2.out).trans e2⟩)
                clear e2
                go_region_held3 (fun w' => w'.cell? ⟨w.heap.size, 0, none⟩ = some (.int .i64 bm) ∧ w'.cell? ⟨w.heap.size, 1, none⟩ = some (.int .i64 be) ∧ w'.cell? ⟨w.heap.size, 2, none⟩ = some (.int .i64 bh) ∧ w'.cell? ⟨w.heap.size, 3, none⟩ = some (.int .i64 ba) ∧ w'.cell? ⟨b2, o2 + k, none⟩ = some (.int .i64 n))
                  (first | exact HS.out _ hb9 | exact HS.out _ (Below.refl _ _).drew | exact HS.out _ (bel_al (Below.refl _ _) (Nat.le_refl _) _).drew | exact HS.out _ (bel_al hb9 hb9.size _) | exact HS.out _ (bel_set4 hb9 (Nat.le_refl _) _ _ _ _))
                  (first
                    | (go_at_call 9; (with_reducible refine (CT.out wr.drew).mono ?_); rintro e w9 ⟨rfl, hb9'⟩; have hb9 : Below wr.heap.size wr w9 := (Below.refl _ _).drew.trans hb9')
                    | (go_at_call 9; (with_reducible refine (CT.out (wr.alloc (bo ⟨0, 0, 0, 0⟩)).drew).mono ?_); rintro e w9 ⟨rfl, hb9'⟩; have hb8 : Below (wr.alloc (bo ⟨0, 0, 0, 0⟩)).heap.size (wr.alloc (bo ⟨0, 0, 0, 0⟩)) w9 := (Below.refl _ _).drew.trans hb9'; have hb9 : Below wr.heap.size wr w9 := (bel_al (Below.refl _ _) (Nat.le_refl _) _).trans (hb8.mono (by simp)); have hzd := (Kb.new wr ⟨0, 0, 0, 0⟩).below hb8; obtain ⟨r0, r1, r2, r3⟩ := hzd.cells; obtain ⟨g0, g1, g2, g3⟩ := hzd.free))
                · rename_i hHH
                  clear hHH
                  have HP := Lib.hid (Kb.new w9 ⟨ym, yv, yh, ya⟩)
                  have HQ := Lib.hid (bel_al hb9 hb9.size (bo ⟨ym, yv, yh, ya⟩))
                  go_wp2
                  go_meet
                  exact ⟨_, rfl, rfl, rfl, HP.out, hb9.size, HQ.out⟩
                · rename_i hHH
                  clear hHH
                  have HP := Lib.hid (hzd.put ⟨ym, yv, yh, ya⟩)
                  have HQ := Lib.hid (bel_set4 hb9 (p := wr.heap.size) (Nat.le_refl _) (.int .i64 ym) (.int .i64 yv) (.int .i64 yh) (.int .i64 ya))
                  go_wp2
                  go_meet
                  exact ⟨_, rfl, rfl, rfl, HP.out, Nat.le_refl _, HQ.out⟩
              case rest =>
                obtain ⟨p8, rfl, rfl, rfl, hk8, hp8, hb8⟩ := hcut
                rename World => wc
                have HKc : Hid (Kb wc w.heap.size ⟨bm, be, bh, ba⟩) := Lib.hid (HKr.out.below hb8)
                have HYc := Lib.hid hk8
                have HBc : Hid (Below w.heap.size w wc) := Lib.hid (HBr.out.trans (hb8.mono HBr.out.size))
                have e4 : wc.cell? ⟨b2, o2 + k, none⟩ = some (.int .i64 n) := (hb8.cell (p := ⟨b2, _, none⟩) HB2.out).trans e2
                have hne : ¬ p8 = w.heap.size := by have := HKr.out.lt; omega
                have hne' : ¬ w.heap.size = p8 := by omega
                clear hk8 hp8 hb8 e1 e2 hw4
                rcases HCs.out with ⟨hz, hinv⟩ | ⟨hz, hi, hw2, hinv⟩ | ⟨hz, hi, hinv⟩
                · have q : (ye != 0) = true := by simpa using hz
                  have HIn := Lib.hid hinv
                  clear hz hinv
                  go_wp2
                  go_roundw
                  case rel => exact ⟨k + 1, tk, N, ⟨bm, be, bh, ba⟩, by omega, rfl, rfl, by go_num, HIn.out, HKc.out, HBc.out⟩
                  case measure => simp [intOf]; omega
                · have q : (ye != 0) = false := by simpa using hz
                  subst hi
                  clear hz
                  obtain ⟨f1, f2, f3, f4, f5, g, f6, f7, f8⟩ := HCh.out (k + 1) (tk + n) N ⟨ym, yv, yh, ya⟩ (by omega) hinv
                  have C3 : Hid (CkC ⟨ym, yv, yh, ya⟩ 0) := Lib.hid (fun W => by have hc := check_any ⟨ym, yv, yh, ya⟩ W; rwa [f3] at hc)
                  replace f1 : IntKind.i64.wrap (N - a) = N - a := f1
                  replace f2 : ¬ yv = 0 := f2
                  replace f4 : decide (ym < yh) = false := f4
                  replace f5 : decide (yh < 0) = false := f5
                  replace f6 : IntKind.i64.wrap ((N - a).tdiv yv) = g := f6
                  replace f7 : IntKind.i64.wrap (h + g) = h + g := f7
                  replace f8 : decide (h + g < tk + n) = false := f8
                  have HIn := Lib.hid hinv
                  clear f3 hinv
                  obtain ⟨x0, x1, x2, x3⟩ := HKc.out.cells
                  obtain ⟨u0, u1, u2, u3⟩ := HKc.out.free
                  obtain ⟨y0, y1, y2, y3⟩ := HYc.out.cells
                  go_upto_region 16 with fail
                  have K6 : Hid (Kb ((((wc.setCell ⟨w.heap.size, 0, none⟩ (.int .i64 ym)).setCell ⟨w.heap.size, 1, none⟩ (.int .i64 yv)).setCell ⟨w.heap.size, 2, none⟩ (.int .i64 yh)).setCell ⟨w.heap.size, 3, none⟩ (.int .i64 ya)) w.heap.size ⟨ym, yv, yh, ya⟩) := Lib.hid (HKc.out.put ⟨ym, yv, yh, ya⟩)
                  have B6 : Hid (Below w.heap.size w ((((wc.setCell ⟨w.heap.size, 0, none⟩ (.int .i64 ym)).setCell ⟨w.heap.size, 1, none⟩ (.int .i64 yv)).setCell ⟨w.heap.size, 2, none⟩ (.int .i64 yh)).setCell ⟨w.heap.size, 3, none⟩ (.int .i64 ya))) := Lib.hid (bel_set4 HBc.out (Nat.le_refl _) _ _ _ _)
                  clear x0 x1 x2 x3 u0 u1 u2 u3 y0 y1 y2 y3 e4 HKc HYc HBc
                  generalize ((((wc.setCell ⟨w.heap.size, 0, none⟩ (.int .i64 ym)).setCell ⟨w.heap.size, 1, none⟩ (.int .i64 yv)).setCell ⟨w.heap.size, 2, none⟩ (.int .i64 yh)).setCell ⟨w.heap.size, 3, none⟩ (.int .i64 ya)) = w6 at *
                  obtain ⟨x0, x1, x2, x3⟩ := K6.out.cells
                  go_wp2_with fail
                  clear x0 x1 x2 x3
                  refine (C3.out _).mono ?_
                  rintro e w7 ⟨rfl, hb7⟩
                  have K7 : Hid (Kb w7 w.heap.size ⟨ym, yv, yh, ya⟩) := Lib.hid (K6.out.below hb7)
                  have B7 : Hid (Below w.heap.size w w7) := Lib.hid (B6.out.trans (hb7.mono B6.out.size))
                  clear hb7 K6 B6
                  go_wp2
                  go_roundw
                  case rel => exact ⟨k + 1, tk + n, N, ⟨ym, yv, yh, ya⟩, by omega, rfl, rfl, by go_num, HIn.out, K7.out, B7.out⟩
                  case measure => simp [intOf]; omega
                · have q : (ye != 0) = false := by simpa using hz
                  subst hi
                  clear hz
                  obtain ⟨f1, f2, f3, f4, f5, g, f6, f7, f8⟩ := HCh.out (k + 1) (tk) N ⟨ym, yv, yh, ya⟩ (by omega) hinv
                  have C3 : Hid (CkC ⟨ym, yv, yh, ya⟩ 0) := Lib.hid (fun W => by have hc := check_any ⟨ym, yv, yh, ya⟩ W; rwa [f3] at hc)
                  replace f1 : IntKind.i64.wrap (N - a) = N - a := f1
                  replace f2 : ¬ yv = 0 := f2
                  replace f4 : decide (ym < yh) = false := f4
                  replace f5 : decide (yh < 0) = false := f5
                  replace f6 : IntKind.i64.wrap ((N - a).tdiv yv) = g := f6
                  replace f7 : IntKind.i64.wrap (h + g) = h + g := f7
                  replace f8 : decide (h + g < tk) = false := f8
                  have HIn := Lib.hid hinv
                  clear f3 hinv
                  obtain ⟨x0, x1, x2, x3⟩ := HKc.out.cells
                  obtain ⟨u0, u1, u2, u3⟩ := HKc.out.free
                  obtain ⟨y0, y1, y2, y3⟩ := HYc.out.cells
                  go_upto_region 16 with fail
                  have K6 : Hid (Kb ((((wc.setCell ⟨w.heap.size, 0, none⟩ (.int .i64 ym)).setCell ⟨w.heap.size, 1, none⟩ (.int .i64 yv)).setCell ⟨w.heap.size, 2, none⟩ (.int .i64 yh)).setCell ⟨w.heap.size, 3, none⟩ (.int .i64 ya)) w.heap.size ⟨ym, yv, yh, ya⟩) := Lib.hid (HKc.out.put ⟨ym, yv, yh, ya⟩)
                  have B6 : Hid (Below w.heap.size w ((((wc.setCell ⟨w.heap.size, 0, none⟩ (.int .i64 ym)).setCell ⟨w.heap.size, 1, none⟩ (.int .i64 yv)).setCell ⟨w.heap.size, 2, none⟩ (.int .i64 yh)).setCell ⟨w.heap.size, 3, none⟩ (.int .i64 ya))) := Lib.hid (bel_set4 HBc.out (Nat.le_refl _) _ _ _ _)
                  clear x0 x1 x2 x3 u0 u1 u2 u3 y0 y1 y2 y3 e4 HKc HYc HBc
                  generalize ((((wc.setCell ⟨w.heap.size, 0, none⟩ (.int .i64 ym)).setCell ⟨w.heap.size, 1, none⟩ (.int .i64 yv)).setCell ⟨w.heap.size, 2, none⟩ (.int .i64 yh)).setCell ⟨w.heap.size, 3, none⟩ (.int .i64 ya)) = w6 at *
                  obtain ⟨x0, x1, x2, x3⟩ := K6.out.cells
                  go_wp2_with fail
                  clear x0 x1 x2 x3
                  refine (C3.out _).mono ?_
                  rintro e w7 ⟨rfl, hb7⟩
                  have K7 : Hid (Kb w7 w.heap.size ⟨ym, yv, yh, ya⟩) := Lib.hid (K6.out.below hb7)
                  have B7 : Hid (Below w.heap.size w w7) := Lib.hid (B6.out.trans (hb7.mono B6.out.size))
                  clear hb7 K6 B6
                  go_wp2
                  go_roundw
                  case rel => exact ⟨k + 1, tk, N, ⟨ym, yv, yh, ya⟩, by omega, rfl, rfl, by go_num, HIn.out, K7.out, B7.out⟩
                  case measure => simp [intOf]; omega
            · have h60' : decide ((k : Int) < 60) = false := by simp; omega
              go_wp2
              go_ret
              exact ⟨rfl, HBr.out⟩
          · have hM' : decide ((k : Int) < (n2 : Int)) = false := by simp; omega
            have hM'' : decide (k < n2) = false := by simpa using hM
            go_wp2
            go_ret
            exact ⟨rfl, HBr.out⟩
        · have hL' : decide ((k : Int) < (n1 : Int)) = false := by simp; omega
          have hL'' : decide (k < n1) = false := by simpa using hL
          go_wp2
          go_ret
          exact ⟨rfl, HBr.out⟩
    · have p1 : decide (549755813888 < b.att) = true := by simp; omega
      clear h0 h1
      obtain ⟨m, ev, h, a⟩ := b
      go_enter Try.func6, Try.ntmps6
      go_wp2_with fail
      refine (HG.out _).mono ?_
      rintro e w1 ⟨rfl, hb1⟩
      have K1 : Hid (Kb w1 w.heap.size ⟨m, ev, h, a⟩) := Lib.hid (HK0.out.below hb1)
      have B1 : Hid (Below w.heap.size w w1) := Lib.hid (HB0.out.trans (hb1.mono HB0.out.size))
      clear hb1 HK0 HB0
      obtain ⟨x0, x1, x2, x3⟩ := K1.out.cells
      go_wp2_with fail
      clear x0 x1 x2 x3
      refine (C1.out _).mono ?_
      rintro e w2 ⟨rfl, hb2⟩
      have K2 : Hid (Kb w2 w.heap.size ⟨m, ev, h, a⟩) := Lib.hid (K1.out.below hb2)
      have B2 : Hid (Below w.heap.size w w2) := Lib.hid (B1.out.trans (hb2.mono B1.out.size))
      clear hb2 K1 B1
      obtain ⟨x0, x1, x2, x3⟩ := K2.out.cells
      go_wp2
      go_ret
      exact ⟨rfl, B2.out⟩
  · have q : (ckE b != 0) = true := by simpa using h0
    clear h0
    generalize ckE b = ce at *
    obtain ⟨m, ev, h, a⟩ := b
    go_enter Try.func6, Try.ntmps6
    go_wp2_with fail
    refine (HG.out _).mono ?_
    rintro e w1 ⟨rfl, hb1⟩
    have K1 : Hid (Kb w1 w.heap.size ⟨m, ev, h, a⟩) := Lib.hid (HK0.out.below hb1)
    have B1 : Hid (Below w.heap.size w w1) := Lib.hid (HB0.out.trans (hb1.mono HB0.out.size))
    clear hb1 HK0 HB0
    obtain ⟨x0, x1, x2, x3⟩ := K1.out.cells
    go_wp2_with fail
    clear x0 x1 x2 x3
    refine (C1.out _).mono ?_
    rintro e w2 ⟨rfl, hb2⟩
    have B2 : Hid (Below w.heap.size w w2) := Lib.hid (B1.out.trans (hb2.mono B1.out.size))
    clear hb2 K1 B1
    go_wp2
    go_ret
    exact ⟨rfl, B2.out⟩

end Go.Proofs.Ytildmhfpjdmcbaa.Rat
