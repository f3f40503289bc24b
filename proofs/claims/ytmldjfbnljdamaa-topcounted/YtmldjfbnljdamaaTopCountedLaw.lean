/-
  The walk of the law on counted keys and sketches.
-/
import Derived.Test.YtmldjfbnljdamaaTopName
import Derived.Test.YtmldjfbnljdamaaTopCountBase
import Derived.Deep.CutRange
namespace Go.Proofs.Ytmldjfbnljdamaa.Tcn
open Go.RowKit
open Skt (Sk sv so Grid VB SkR totM estM zeros gl z2 MG MGx RowC)
open Lfu (runU rnE rnF rnR gu keys tch Us take_one)
set_option linter.unusedVariables false
set_option maxRecDepth 100000

/-! ### The facts -/
/-- The sketch behind k additions of names. -/
structure EJ (xs : List Int) (k : Nat) (G : Sk) : Prop where
  good : Skt.Good G
  tot : totM G = (k : Int)
  cnt : ∀ y r, r < G.rows.length → ((xs.take k).count y : Int) ≤ Skt.cnt G (nm y) r
theorem EJ.zero {xs : List Int} {W : Int} {h m : Nat} (g : Skt.Good ⟨W, zeros h m⟩) : EJ xs 0 ⟨W, zeros h m⟩ := by
  have hl : 1 ≤ h := by have := g.l1; rwa [show (⟨W, zeros h m⟩ : Sk).rows = zeros h m from rfl, Skt.zeros_len] at this
  refine ⟨g, ?_, fun y r hr => ?_⟩
  · rw [Skt.tot_ok g]
    show Skt.sm (gl (zeros h m) 0) = _
    rw [Skt.gl_zeros (by omega), Skt.sm_zeros]; rfl
  · rw [show (⟨W, zeros h m⟩ : Sk).rows = zeros h m from rfl, Skt.zeros_len] at hr
    unfold Skt.cnt
    show _ ≤ gi (gl (zeros h m) r) _
    rw [Skt.gl_zeros hr, Skt.gi_zeros]
    simp
theorem count_next {xs : List Int} {k : Nat} (h : k < xs.length) (y : Int) : (xs.take (k + 1)).count y = (xs.take k).count y + (if gi xs k = y then 1 else 0) := by
  rw [take_one h, List.count_append, List.count_singleton]
  by_cases e : gi xs k = y
  · rw [if_pos e, if_pos (by simpa using e)]
  · rw [if_neg e, if_neg (by simpa using e)]
theorem EJ.step {xs : List Int} {k : Nat} {G : Sk} (e : EJ xs k G) (hk : k < xs.length) (hE : Skt.errA G (nm (gi xs k)) 1 = 0) : EJ xs (k + 1) (Skt.addL G (nm (gi xs k)) 1) := by
  have g' := Skt.good_addA hE
  refine ⟨g', by rw [Skt.tot_add hE, e.tot]; rfl, fun y r hr => ?_⟩
  rw [Skt.rows_add] at hr
  have hc := e.cnt y r hr
  unfold Skt.cnt at hc ⊢
  have hp := Skt.plc_lt' e.good.toFine (nm y) hr
  rw [Skt.plc_same (S := Skt.addL G (nm (gi xs k)) 1) (T := G) rfl, Skt.gi_add hp, count_next hk]
  by_cases hq : gi xs k = y
  · rw [if_pos hq, hq, if_pos rfl]
    omega
  · rw [if_neg hq]
    split <;> omega
theorem EJ.est {xs : List Int} {k : Nat} {G : Sk} (e : EJ xs k G) (hk : k ≤ 60) (y : Int) : Skt.errS G (nm y) = 0 ∧ ((xs.take k).count y : Int) ≤ estM G (nm y) := by
  have e1 := Skt.errS_of e.good (s := nm y) (by rw [nm_size]; omega)
  refine ⟨e1, ?_⟩
  have hn : (xs.take k).count y ≤ k := Nat.le_trans List.count_le_length (by rw [List.length_take]; omega)
  unfold estM Skt.estL
  rw [if_pos e1]
  exact Skt.est_ge (by omega) (fun r hr => e.cnt y r hr)
/-- What is known of the sketch behind k additions: none, or all of it. -/
def St (xs : List Int) (G0 : Sk) (k : Nat) (G : Sk) : Prop := (k = 0 ∧ G = G0) ∨ EJ xs k G
theorem St.step {xs : List Int} {W : Int} {h m k : Nat} {G : Sk} (s : St xs ⟨W, zeros h m⟩ k G) (hk : k < xs.length) (hE : Skt.errA G (nm (gi xs k)) 1 = 0) : St xs ⟨W, zeros h m⟩ (k + 1) (Skt.addL G (nm (gi xs k)) 1) := by
  rcases s with ⟨rfl, rfl⟩ | e
  · exact .inr ((EJ.zero (Skt.errA_ok hE).1).step hk hE)
  · exact .inr (e.step hk hE)
/-- A cached key is counted no more often than it was accessed. -/
theorem cnt_bound {r : Int} {xs : List Int} : ∀ k, k ≤ xs.length → ∀ u ∈ runU r [] (xs.take k), u.cnt ≤ ((xs.take k).count u.key : Int)
  | 0, _, u, hu => by simp [runU] at hu
  | k + 1, h, u, hu => by
    have ih := cnt_bound (r := r) (xs := xs) k (by omega)
    rw [take_one (by omega), Lfu.runU_snoc] at hu
    rw [count_next (by omega)]
    generalize gi xs k = x at *
    generalize runU r [] (xs.take k) = L at *
    have hrest : ∀ v ∈ L, v.cnt ≤ (((xs.take k).count v.key + (if x = v.key then 1 else 0) : Nat) : Int) := fun v hv => by
      have := ih v hv
      split <;> omega
    unfold tch at hu
    split at hu
    · rename_i h1
      obtain ⟨k1, k2⟩ := Lfu.idx_key h1
      have h3 := ih _ (Lfu.gu_mem k1)
      rw [k2] at h3
      rcases List.mem_cons.1 hu with e | m
      · have h4 : Lfu.inc (gu L ((keys L).idxOf x)).cnt ≤ (((xs.take k).count x + 1 : Nat) : Int) := by unfold Lfu.inc; omega
        generalize Lfu.inc (gu L ((keys L).idxOf x)).cnt = ic at *
        subst e
        dsimp only
        rw [if_pos rfl]
        exact h4
      · exact hrest u (Lfu.rem_mem m)
    · split at hu
      · rcases List.mem_cons.1 hu with e | m
        · subst e
          dsimp only
          rw [if_pos rfl]
          omega
        · exact hrest u (Lfu.rem_mem m)
      · rcases List.mem_cons.1 hu with e | m
        · subst e
          dsimp only
          rw [if_pos rfl]
          omega
        · exact hrest u m
theorem lfu_facts {r : Int} {xs : List Int} (e : rnE r [] xs = 0) : (∀ i, i < (rnF r [] xs).length → (gu (rnF r [] xs) i).cnt ≤ (xs.count (gu (rnF r [] xs) i).key : Int)) ∧ (xs.length = 0 → (rnF r [] xs).length = 0) := by
  unfold rnF
  rw [if_pos e]
  have h := cnt_bound (r := r) (xs := xs) xs.length (Nat.le_refl _)
  rw [List.take_length] at h
  refine ⟨fun i hi => h _ (Lfu.gu_mem hi), fun h0 => ?_⟩
  rw [List.length_eq_zero_iff.1 h0]; rfl

/-- A variable with a sketch whose rows are v. -/
def VS (w : World) (q : Nat) (W : Int) (v : Value) : Prop := w.cell? ⟨q, 0, none⟩ = some (.int .i64 W) ∧ w.cell? ⟨q, 1, none⟩ = some v ∧ w.frozen? ⟨q, 0, none⟩ = false ∧ w.frozen? ⟨q, 1, none⟩ = false ∧ q < w.heap.size

set_option maxHeartbeats 20000000 in
theorem topCounted_walk (room wide rows : Int) (A : Option Addr) (c : Nat) (zs : List Int) (w : World) (hJ : Ints w A c zs) :
    Calls Try.prog 3 #[.int .i64 room, .int .i64 wide, .int .i64 rows, .slice A zs.length c] w fun e w' => e = .returned (.bool true) ∧ Below w.heap.size w w' := by
  have HJ := Lib.hid hJ
  obtain ⟨m, hm⟩ : ∃ m : Nat, max 0 (min wide 64) = (m : Int) := ⟨(max 0 (min wide 64)).toNat, by omega⟩
  have m2 : m ≤ 64 := by omega
  obtain ⟨h, hh⟩ : ∃ h : Nat, ∀ k : Nat, (k : Int) < rows ∧ k < 6 ↔ k < h := ⟨(min rows 6).toNat, fun k => by omega⟩
  have HH := Lib.hid hh
  have h6 : h ≤ 6 := by
    rcases Nat.lt_or_ge 6 h with e | e
    · have := ((hh 6).2 e).2; omega
    · exact e
  clear hh
  have hmki : ∀ W : World, (Instr.makeSlice 22 (.int .i64 (m : Int)) (.int .i64 (m : Int))).run Try.prog W = .ok (.slice (some ⟨W.heap.size, 0, none⟩) m m) (W.alloc (.cells (Array.replicate m (encI 0)) 3)) := fun W => by rw [Skt.run_make_ints m (by omega) W, List.toArray_replicate]
  obtain ⟨n, hn⟩ : ∃ n : Nat, min (zs.length : Int) 60 = (n : Int) := ⟨(min (zs.length : Int) 60).toNat, by omega⟩
  have n60 : n ≤ 60 := by omega
  have nz : n ≤ zs.length := by omega
  obtain ⟨xs, hxs⟩ : ∃ xs, xs = zs.take n := ⟨_, rfl⟩
  have hln : xs.length = n := by rw [hxs, List.length_take]; omega
  have HLN := Lib.hid hln
  have HSl : Hid (∃ A', (∀ W : World, (Instr.slice 22 (.slice A zs.length c) none (some (.int .i64 (n : Int))) none).run Try.prog W = .ok (.slice A' n c) W) ∧ Ints w A' c xs) := Lib.hid (by
    obtain ⟨A', h1, h2, -⟩ := Lru.slice_upto hJ (k := n) nz
    rw [← hxs, hln] at h1
    rw [← hxs] at h2
    exact ⟨A', h1, h2⟩)
  have HFa := Lib.hid (fun (e : rnE room [] xs = 0) => lfu_facts e)
  have HRn := Lib.hid (fun (B : Option Addr) (d : Nat) (W : World) (b : Ints W B d xs) => Lfu.run_any room none 0 [] B d xs W (Lfu.Uss.none_ W) b)
  unfold Lfu.NR at HRn
  rw [hln] at HFa
  have HRn : Hid (∀ (B : Option Addr) (d : Nat) (W : World), Ints W B d xs → Calls Try.prog 7 #[Lfu.kv room (.slice none 0 0), .slice B n d] W (fun e w' => ∃ A c, e = .returned (.tuple #[Lfu.kv (rnR room [] xs) (.slice A (rnF room [] xs).length c), .int .i64 (Lfu.rnH room [] xs), .int .i64 (rnE room [] xs)]) ∧ Lfu.Uss w' A c (rnF room [] xs) ∧ Lfu.FA W A ∧ Below W.heap.size W w')) := Lib.hid (by rw [← hln]; exact HRn.out)
  clear hJ hxs hln
  go_enter Try.func3, Try.ntmps3
  go_wp2_with fail
  refine (Top.begun_any _).mono ?_
  rintro e w1 ⟨rfl, hb1⟩
  have HB1 := Lib.hid hb1
  have HV1 : Hid (VS (w1.alloc (.cells #[.int .i64 wide, .slice none 0 0] 26)) w1.heap.size wide (.slice none 0 0)) := Lib.hid ⟨by simp [go_sem], by simp [go_sem], by simp [go_sem], by simp [go_sem], by simp⟩
  have HB2 : Hid (Below w.heap.size w (w1.alloc (.cells #[.int .i64 wide, .slice none 0 0] 26))) := Lib.hid (hb1.alloc hb1.size _)
  have HP : Hid (w.heap.size ≤ w1.heap.size) := Lib.hid hb1.size
  clear hb1
  go_wp2
  generalize w1.alloc (.cells #[.int .i64 wide, .slice none 0 0] 26) = w2 at *
  generalize w1.heap.size = p at *
  go_loopw [10] (fun i wr => ∃ k : Nat, k ≤ h ∧ i = .int .i64 (k : Int) ∧ (∃ v, VS wr p wide v ∧ MG wr (p + 1) v (zeros k m)) ∧ Below p w2 wr) (fun i _ => h - (intOf i).toNat)
  case atStart => exact ⟨0, by omega, rfl, ⟨_, HV1.out, _, MGx.nil _ _⟩, Below.refl _ _⟩
  case round =>
    obtain ⟨k, hk, rfl, ⟨v, hV, ys, hM⟩, HB⟩ := hrel
    have hzp : p + 1 ≤ wr.heap.size := hV.2.2.2.2
    by_cases hlt : k < h
    · obtain ⟨d1, d2'⟩ := (HH.out k).2 hlt
      have d2 : (k : Int) < 6 := by omega
      obtain ⟨v0, v1, vf0, vf1, v3⟩ := hV
      have HM := Lib.hid hM
      have hzl := Skt.zeros_len k m
      clear hM
      have hal : Below wr.heap.size wr ((wr.alloc (.cells (Array.replicate m (encI 0)) 3)).alloc (.cells #[.slice (some ⟨wr.heap.size, 0, none⟩) m m] 22)).drew := (((Below.refl _ wr).alloc (Nat.le_refl _) _).alloc (by simp) _).drew
      have HAl := Lib.hid hal
      have HR : Hid (RowC ((wr.alloc (.cells (Array.replicate m (encI 0)) 3)).alloc (.cells #[.slice (some ⟨wr.heap.size, 0, none⟩) m m] 22)).drew wr.heap.size m (List.replicate m 0)) := Lib.hid (by
        have h1 := Skt.RowI.new' wr m
        have h2 := h1.below (B := wr.heap.size + 1) ((Below.refl _ _).alloc (by simp) (.cells #[.slice (some ⟨wr.heap.size, 0, none⟩) m m] 22)) (by omega)
        have h3 := RowC.of_rowI h2 (by simp; omega)
        simp only [List.length_replicate] at h3
        exact h3)
      have HC : Hid (((wr.alloc (.cells (Array.replicate m (encI 0)) 3)).alloc (.cells #[.slice (some ⟨wr.heap.size, 0, none⟩) m m] 22)).drew.cell? ⟨wr.heap.size + 1, 0, none⟩ = some (.slice (some ⟨wr.heap.size, 0, none⟩) (List.replicate m (0 : Int)).length m)) := Lib.hid (by simp [go_sem])
      have y1 : (wr.alloc (.cells (Array.replicate m (encI 0)) 3)).cell? ⟨p, 1, none⟩ = some v := (((Below.refl wr.heap.size wr).alloc (Nat.le_refl _) _).cell (p := ⟨p, 1, none⟩) v3).trans v1
      have y2 : ((wr.alloc (.cells (Array.replicate m (encI 0)) 3)).alloc (.cells #[.slice (some ⟨wr.heap.size, 0, none⟩) m m] 22)).cell? ⟨p, 1, none⟩ = some v := (hal.cell (p := ⟨p, 1, none⟩) v3).trans v1
      have HK : Hid (∀ g cap w1, MG w1 (p + 1) (.slice (some ⟨g, 0, none⟩) ((zeros k m).length + 1) cap) (zeros k m ++ [List.replicate m 0]) → Below (p + 1) ((wr.alloc (.cells (Array.replicate m (encI 0)) 3)).alloc (.cells #[.slice (some ⟨wr.heap.size, 0, none⟩) m m] 22)).drew w1 →
          (∃ v, VS (w1.setCell ⟨p, 1, none⟩ (.slice (some ⟨g, 0, none⟩) (k + 1) cap)) p wide v ∧ MG (w1.setCell ⟨p, 1, none⟩ (.slice (some ⟨g, 0, none⟩) (k + 1) cap)) (p + 1) v (zeros (k + 1) m)) ∧
          Below p w2 (w1.setCell ⟨p, 1, none⟩ (.slice (some ⟨g, 0, none⟩) (k + 1) cap))) := Lib.hid (fun g cap w1 hM1 hb1 => by
        have hbb : Below (p + 1) wr w1 := (HAl.out.mono hzp).trans hb1
        have hz1 : p + 1 ≤ w1.heap.size := Nat.le_trans hzp hbb.size
        have c0 := (hbb.cell (p := ⟨p, 0, none⟩) (by show p < p + 1; omega)).trans v0
        have c1 := (hbb.cell (p := ⟨p, 1, none⟩) (by show p < p + 1; omega)).trans v1
        have c2 := (hbb.frozen (p := ⟨p, 0, none⟩) (by show p < p + 1; omega)).trans vf0
        have c3 := (hbb.frozen (p := ⟨p, 1, none⟩) (by show p < p + 1; omega)).trans vf1
        rw [hzl, ← Skt.zeros_succ] at hM1
        have hset : Below p w1 (w1.setCell ⟨p, 1, none⟩ (.slice (some ⟨g, 0, none⟩) (k + 1) cap)) := (Below.refl _ _).setCell (p := ⟨p, 1, none⟩) (Nat.le_refl _) _
        refine ⟨⟨.slice (some ⟨g, 0, none⟩) (k + 1) cap, ⟨by simp [go_sem, c0], by simp [go_sem, c1], by simp [go_sem, c2], by simp [go_sem, c3], by simp; omega⟩, hM1.setCell (by show p < p + 1; omega) _⟩, (HB.trans (hbb.mono (by omega))).trans hset⟩)
      clear hal
      go_wp2
      go_region_law ((refine Skt.step_append_row (wr := wr) (by rfl) _ _ (by rfl) (p + 1) v (zeros k m) ys (by rfl) HM.out HAl.out wr.heap.size m (List.replicate m 0) HR.out (Nat.le_refl _) (wr.heap.size + 1) (by rfl) HC.out (by omega) (by omega) ?_; intro g cap w1 hM1 hb1; have z1 := (hb1.cell (p := ⟨p, 1, none⟩) (by show p < p + 1; omega)).trans ((HAl.out.cell (p := ⟨p, 1, none⟩) (by show p < wr.heap.size; omega)).trans v1); have z2 := (hb1.frozen (p := ⟨p, 1, none⟩) (by show p < p + 1; omega)).trans ((HAl.out.frozen (p := ⟨p, 1, none⟩) (by show p < wr.heap.size; omega)).trans vf1)))
      all_goals (have HK4 := HK.out g cap w1 hM1 hb1; clear hM1 hb1 z1 z2 y1 y2; generalize (w1.setCell ⟨p, 1, none⟩ (.slice (some ⟨g, 0, none⟩) (k + 1) cap)) = w4 at *; go_wp2; go_roundw)
      all_goals first | exact ⟨k + 1, by omega, by go_num, HK4.1, HK4.2⟩ | (simp [intOf]; omega)
    · obtain rfl : k = h := by omega
      have HT : Hid (decide ((k : Int) < rows) = false ∨ (decide ((k : Int) < rows) = true ∧ decide ((k : Int) < 6) = false)) := Lib.hid (by
        by_cases e : (k : Int) < rows
        · exact .inr ⟨by simpa using e, by
            have : ¬ k < 6 := fun e2 => hlt ((HH.out k).1 ⟨e, e2⟩)
            simp; omega⟩
        · exact .inl (by simpa using e))
      obtain ⟨A3, c3, rfl, hG⟩ := hM.grid
      rw [Skt.zeros_len] at hV
      have HVB : Hid (VB wr p ⟨wide, zeros k m⟩ A3 c3) := Lib.hid ⟨hV.2.2.2.2, hV.1, by rw [show (⟨wide, zeros k m⟩ : Sk).rows = zeros k m from rfl, Skt.zeros_len]; exact hV.2.1, hV.2.2.1, hV.2.2.2.1, hG.gn (Nat.lt_succ_self p)⟩
      have HB3 : Hid (Below w.heap.size w wr) := Lib.hid (HB2.out.trans (HB.mono HP.out))
      obtain ⟨A4, hsl, hJ4⟩ := HSl.out
      have HJ4 := Lib.hid hJ4
      have HS0 : Hid (St xs ⟨wide, zeros k m⟩ 0 ⟨wide, zeros k m⟩) := Lib.hid (.inl ⟨rfl, rfl⟩)
      have HStep := Lib.hid (fun (i : Nat) (G : Sk) (a : St xs ⟨wide, zeros k m⟩ i G) (b : i < xs.length) (e : Skt.errA G (nm (gi xs i)) 1 = 0) => St.step a b e)
      generalize (⟨wide, zeros k m⟩ : Sk) = G0 at *
      clear hG hM hV hJ4 HB hlt
      generalize wr = w5 at *
      go_upto_region 5 with fail
      go_cut [33] from 27 to 44 (fun s33 wx => s33 = .bool false ∧ w5 = wx)
      case first =>
        as_aux_lemma =>
          rcases HT.out with d | ⟨d, d'⟩
          · go_wp2
            go_meet
            exact ⟨rfl, rfl⟩
          · go_wp2
            go_meet
            exact ⟨rfl, rfl⟩
      case rest =>
        as_aux_lemma =>
          obtain ⟨rfl, rfl⟩ := hcut
          go_wp2
          go_loopw [12] (fun i wr => ∃ (j : Nat) (G : Sk) (A' : Option Addr) (c' : Nat), j ≤ n ∧ i = .int .i64 (j : Int) ∧ VB wr p G A' c' ∧ Hid (St xs G0 j G) ∧ Below w.heap.size w wr) (fun i _ => n - (intOf i).toNat)
          case atStart => exact ⟨0, G0, A3, c3, Nat.zero_le _, rfl, HVB.out, HS0, HB3.out⟩
          case round =>
            obtain ⟨j, G, A', c', hj, rfl, X, HSt, HB⟩ := hrel
            have HJr := Lib.hid (HJ4.out.below HB)
            by_cases hlt : j < n
            · have hin : (j : Int) < (n : Int) := by omega
              have hiB : (0 : Int) ≤ (j : Int) := by omega
              have hjx : j < xs.length := by rw [HLN.out]; exact hlt
              obtain ⟨b, o, rfl, ht⟩ := HJr.out.2.2.2 (by omega)
              have ck := ht.2 j hjx
              have hbl := ht.1
              have hN := fun e => HStep.out j G HSt.out hjx e
              have HNx : Hid (Skt.errA G (nm (gi xs j)) 1 = 0 → St xs G0 (j + 1) (Skt.addM G (nm (gi xs j)) 1)) := Lib.hid (fun e => by rw [Skt.addM_ok e]; exact hN e)
              have HNm := Lib.hid (fun W => name_any (gi xs j) W)
              have HAd := Lib.hid (fun (W : World) (g : Grid 0 W A' c' G.rows) => Skt.add_any 0 G A' c' (nm (gi xs j)) 1 W g (by rw [nm_size]; unfold maxLen; omega))
              unfold SkR at HAd
              clear ht hN hjx
              generalize Skt.addM G (nm (gi xs j)) 1 = T at *
              generalize Skt.errA G (nm (gi xs j)) 1 = E at *
              generalize nm (gi xs j) = nmy at *
              generalize gi xs j = y at *
              obtain ⟨xp, x1, x2, xf0, xf1, xg⟩ := id X
              have HX := Lib.hid X
              have HG := Lib.hid xg.grid
              have HBr := Lib.hid HB
              have hold : ∀ w', Below wr.heap.size wr w' → w'.cell? ⟨p, 0, none⟩ = some (.int .i64 G.wide) ∧ w'.cell? ⟨p, 1, none⟩ = some (.slice A' G.rows.length c') ∧
                    w'.cell? ⟨b, o + j, none⟩ = some (.int .i64 y) ∧ Below wr.heap.size wr w' := fun w' h =>
                ⟨(h.cell xp).trans x1, (h.cell xp).trans x2, (h.cell (p := ⟨b, _, none⟩) hbl).trans ck, h⟩
              have HOld := Lib.hid hold
              have HXp := Lib.hid xp
              clear hold xg X HB
              go_upto_region 13 with fail
              clear x1 x2 xf0 xf1 xp ck hbl
              go_cut [13, 14] from 50 to 69 (fun s13 s14 wx => ∃ q A1 c1, s13 = .pointer (some ⟨q, 0, none⟩) ∧ s14 = .int .i64 E ∧ q < wx.heap.size ∧ wx.cell? ⟨q, 0, none⟩ = some (.int .i64 T.wide) ∧ wx.cell? ⟨q, 1, none⟩ = some (.slice A1 T.rows.length c1) ∧ Grid wr.heap.size wx A1 c1 T.rows ∧ Below wr.heap.size wr wx)
              case first =>
                as_aux_lemma =>
                  go_region_held3 (fun w' => w'.cell? ⟨p, 0, none⟩ = some (.int .i64 G.wide) ∧ w'.cell? ⟨p, 1, none⟩ = some (.slice A' G.rows.length c') ∧
                      w'.cell? ⟨b, o + j, none⟩ = some (.int .i64 y) ∧ Below wr.heap.size wr w')
                    (first | exact HOld.out _ ((hb9.setCell (p := ⟨wr.heap.size, 0, none⟩) (Nat.le_refl _) _).setCell (p := ⟨wr.heap.size, 1, none⟩) (Nat.le_refl _) _) | exact HOld.out _ ((hb9.setCell (p := ⟨w8.heap.size, 0, none⟩) hb8.size _).setCell (p := ⟨w8.heap.size, 1, none⟩) hb8.size _) | exact HOld.out _ (Below.alloc hb9 hb9.size _) | exact HOld.out _ hb9 | exact HOld.out _ (Below.alloc hb8 hb8.size _) | exact HOld.out _ hb8 | exact HOld.out _ ((Below.refl _ _).alloc (Nat.le_refl _) _).drew | exact HOld.out _ (Below.refl _ _).drew)
                    (first
                      | (go_at_call 5; (with_reducible refine (HNm.out wr.drew).mono ?_); rintro e w8 ⟨rfl, hb8'⟩; have hb8 : Below wr.heap.size wr w8 := below_undrew hb8')
                      | (go_at_call 5; (with_reducible refine (HNm.out (wr.alloc z2).drew).mono ?_); rintro e w8 ⟨rfl, hb8'⟩; have hb7 : Below (wr.alloc z2).heap.size (wr.alloc z2) w8 := below_undrew hb8'; have hb8 : Below wr.heap.size wr w8 := fromAlloc' (hb7.mono (by simp)) (Nat.le_refl _))
                      | (go_at_call 6; (with_reducible refine (HAd.out w8 (HG.out.below hb8)).mono ?_); rintro e w9 ⟨A9, c9, rfl, hg9, hb9'⟩; have hb9 := hb8.trans (hb9'.mono hb8.size); have hb10 := hb7.trans (hb9'.mono hb7.size); obtain ⟨r0, r1, f0, f1⟩ := Skt.new2 hb10)
                      | (go_at_call 6; (with_reducible refine (HAd.out w8 (HG.out.below hb8)).mono ?_); rintro e w9 ⟨A9, c9, rfl, hg9, hb9'⟩; have hb9 := hb8.trans (hb9'.mono hb8.size))
                      | (go_at_call 6; (with_reducible refine (HAd.out (w8.alloc z2) ((HG.out.below hb8).alloc _)).mono ?_); rintro e w9 ⟨A9, c9, rfl, hg9, hb9'⟩; have hb9 := (Below.alloc hb8 hb8.size z2).trans (hb9'.mono (Nat.le_trans hb8.size (by simp))); obtain ⟨r0, r1, f0, f1⟩ := Skt.new2 hb9'))
                  · rename_i hHH
                    clear hHH
                    have HP : Hid (Skt.Bx (w9.alloc (so T A9 c9)) w9.heap.size T A9 c9) := Lib.hid (Skt.Bx.new (hg9.mono (Nat.zero_le _)))
                    have HGr : Hid (Grid wr.heap.size (w9.alloc (so T A9 c9)) A9 c9 T.rows) := Lib.hid ((hg9.mono hb8.size).alloc _)
                    have HQ := Lib.hid (Below.alloc hb9 hb9.size (so T A9 c9))
                    go_wp2
                    go_meet
                    exact ⟨_, A9, c9, rfl, rfl, HP.out.1, HP.out.2.1, HP.out.2.2.1, HGr.out, HQ.out⟩
                  · rename_i hHH
                    clear hHH
                    have hq9 : wr.heap.size ≤ w8.heap.size := hb8.size
                    have hg8 : Grid (w8.heap.size + 1) w9 A9 c9 T.rows := hg9.mono (show w8.heap.size + 1 ≤ (w8.alloc z2).heap.size by simp)
                    have hp9 : w8.heap.size < w9.heap.size := by
                      have h1 := hb9'.size
                      have h2 : w8.heap.size + 1 ≤ _ := (show w8.heap.size + 1 ≤ (w8.alloc z2).heap.size by simp)
                      exact Nat.lt_of_lt_of_le (Nat.lt_of_succ_le h2) h1
                    have HGr : Hid (Grid wr.heap.size ((w9.setCell ⟨w8.heap.size, 0, none⟩ (.int .i64 T.wide)).setCell ⟨w8.heap.size, 1, none⟩ (.slice A9 T.rows.length c9)) A9 c9 T.rows) := Lib.hid (Grid.mono (B := w8.heap.size + 1) ((hg8.setCell (p := ⟨w8.heap.size, 0, none⟩) (Nat.lt_succ_self _) _).setCell (p := ⟨w8.heap.size, 1, none⟩) (Nat.lt_succ_self _) _) (by omega))
                    have HQ := Lib.hid ((hb9.setCell (p := ⟨w8.heap.size, 0, none⟩) hq9 (.int .i64 T.wide)).setCell (p := ⟨w8.heap.size, 1, none⟩) hq9 (.slice A9 T.rows.length c9))
                    have HC : Hid (w8.heap.size < ((w9.setCell ⟨w8.heap.size, 0, none⟩ (.int .i64 T.wide)).setCell ⟨w8.heap.size, 1, none⟩ (.slice A9 T.rows.length c9)).heap.size ∧ ((w9.setCell ⟨w8.heap.size, 0, none⟩ (.int .i64 T.wide)).setCell ⟨w8.heap.size, 1, none⟩ (.slice A9 T.rows.length c9)).cell? ⟨w8.heap.size, 0, none⟩ = some (.int .i64 T.wide) ∧ ((w9.setCell ⟨w8.heap.size, 0, none⟩ (.int .i64 T.wide)).setCell ⟨w8.heap.size, 1, none⟩ (.slice A9 T.rows.length c9)).cell? ⟨w8.heap.size, 1, none⟩ = some (.slice A9 T.rows.length c9)) := Lib.hid ⟨by simpa [World.setCell] using hp9, by simp [go_sem, r0], by simp [go_sem, r1]⟩
                    clear hq9 hg8 hp9
                    go_wp2
                    go_meet
                    exact ⟨_, A9, c9, rfl, rfl, HC.out.1, HC.out.2.1, HC.out.2.2, HGr.out, HQ.out⟩
                  · rename_i hHH
                    clear hHH
                    have hq9 : wr.heap.size ≤ wr.heap.size := Nat.le_refl _
                    have hg8 : Grid (wr.heap.size + 1) w9 A9 c9 T.rows := hg9.mono (show wr.heap.size + 1 ≤ w8.heap.size by have := hb7.size; simp at this; omega)
                    have hp9 : wr.heap.size < w9.heap.size := by
                      have h1 := hb9'.size
                      have h2 : wr.heap.size + 1 ≤ _ := (show wr.heap.size + 1 ≤ w8.heap.size by have := hb7.size; simp at this; omega)
                      exact Nat.lt_of_lt_of_le (Nat.lt_of_succ_le h2) h1
                    have HGr : Hid (Grid wr.heap.size ((w9.setCell ⟨wr.heap.size, 0, none⟩ (.int .i64 T.wide)).setCell ⟨wr.heap.size, 1, none⟩ (.slice A9 T.rows.length c9)) A9 c9 T.rows) := Lib.hid (Grid.mono (B := wr.heap.size + 1) ((hg8.setCell (p := ⟨wr.heap.size, 0, none⟩) (Nat.lt_succ_self _) _).setCell (p := ⟨wr.heap.size, 1, none⟩) (Nat.lt_succ_self _) _) (by omega))
                    have HQ := Lib.hid ((hb9.setCell (p := ⟨wr.heap.size, 0, none⟩) hq9 (.int .i64 T.wide)).setCell (p := ⟨wr.heap.size, 1, none⟩) hq9 (.slice A9 T.rows.length c9))
                    have HC : Hid (wr.heap.size < ((w9.setCell ⟨wr.heap.size, 0, none⟩ (.int .i64 T.wide)).setCell ⟨wr.heap.size, 1, none⟩ (.slice A9 T.rows.length c9)).heap.size ∧ ((w9.setCell ⟨wr.heap.size, 0, none⟩ (.int .i64 T.wide)).setCell ⟨wr.heap.size, 1, none⟩ (.slice A9 T.rows.length c9)).cell? ⟨wr.heap.size, 0, none⟩ = some (.int .i64 T.wide) ∧ ((w9.setCell ⟨wr.heap.size, 0, none⟩ (.int .i64 T.wide)).setCell ⟨wr.heap.size, 1, none⟩ (.slice A9 T.rows.length c9)).cell? ⟨wr.heap.size, 1, none⟩ = some (.slice A9 T.rows.length c9)) := Lib.hid ⟨by simpa [World.setCell] using hp9, by simp [go_sem, r0], by simp [go_sem, r1]⟩
                    clear hq9 hg8 hp9
                    go_wp2
                    go_meet
                    exact ⟨_, A9, c9, rfl, rfl, HC.out.1, HC.out.2.1, HC.out.2.2, HGr.out, HQ.out⟩
              case rest =>
                as_aux_lemma =>
                  obtain ⟨q, A1, c1, rfl, rfl, q0, qc0, qc1, hg1, hb1⟩ := hcut
                  have HBc : Hid (Below w.heap.size w wc) := Lib.hid (HBr.out.trans (hb1.mono HBr.out.size))
                  have Xc := HX.out.below hb1
                  by_cases he : E = 0
                  · have d1 : (E != 0) = false := by simpa using he
                    have HN1 := Lib.hid (HNx.out he)
                    have hVB := Xc.put hg1 HXp.out
                    have HVB2 := Lib.hid hVB
                    have HPw : Hid (w.heap.size ≤ p) := HP
                    have HBX : Hid (Below w.heap.size w ((wc.setCell ⟨p, 0, none⟩ (.int .i64 T.wide)).setCell ⟨p, 1, none⟩ (.slice A1 T.rows.length c1))) := Lib.hid ((HBc.out.setCell (p := ⟨p, 0, none⟩) HPw.out _).setCell (p := ⟨p, 1, none⟩) HPw.out _)
                    obtain ⟨_, y1, y2, yf0, yf1, _⟩ := Xc
                    clear hVB hg1 he hb1 HOld
                    go_wp2
                    go_roundw
                    case rel => exact ⟨j + 1, T, A1, c1, by omega, by go_num, HVB2.out, HN1, HBX.out⟩
                    case measure => simp [intOf]; omega
                  · have d1 : (E != 0) = true := by simpa using he
                    clear he hg1 hb1 HOld Xc
                    go_wp2
                    go_ret
                    exact ⟨rfl, HBc.out⟩
            · obtain rfl : j = n := by omega
              have HX := Lib.hid X
              have HB5 := Lib.hid HB
              have HRw := Lib.hid (HRn.out A4 c wr HJr.out)
              have HXp := Lib.hid X.1
              have HTk : Hid (xs.take j = xs) := Lib.hid (List.take_of_length_le (by rw [HLN.out]; exact Nat.le_refl _))
              clear X HB hlt HRn HStep
              generalize rnF room [] xs = M at *
              generalize rnE room [] xs = E at *
              generalize rnR room [] xs = R at *
              generalize Lfu.rnH room [] xs = Hh at *
              obtain ⟨m3, hm3⟩ : ∃ m3, M.length = m3 := ⟨_, rfl⟩
              have HM3 := Lib.hid hm3
              rw [hm3] at HRw HFa
              clear hm3
              generalize wr = w6 at *
              go_wp2_with fail
              refine HRw.out.mono ?_
              rintro e w7 ⟨B7, k7, rfl, hI7, -, hb7⟩
              have X8 := Lib.hid ((HX.out.below hb7).below ((Below.refl _ _).alloc (Nat.le_refl _) (Lfu.ko R (.slice B7 m3 k7))))
              have Y8 := Lib.hid (Lfu.Kb.new w7 R (.slice B7 m3 k7))
              have I8 := Lib.hid (hI7.alloc (Lfu.ko R (.slice B7 m3 k7)))
              have HB8 : Hid (Below w.heap.size w (w7.alloc (Lfu.ko R (.slice B7 m3 k7)))) := Lib.hid ((HB5.out.trans (hb7.mono HB5.out.size)).alloc (Nat.le_trans HB5.out.size hb7.size) _)
              have hm63 := hI7.len
              rw [HM3.out] at hm63
              clear hI7 hb7 HRw
              by_cases hE : E = 0
              · have d1 : (E != 0) = false := by simpa using hE
                obtain ⟨f1, f2⟩ := HFa.out hE
                have HF1 := Lib.hid f1
                have HF2 := Lib.hid f2
                clear hE f1 f2 HFa
                go_wp2
                generalize w7.heap.size = pu at *
                generalize w7.alloc (Lfu.ko R (.slice B7 m3 k7)) = w8 at *
                go_loopw [18] (fun s18 wr => ∃ i : Nat, i ≤ m3 ∧ s18 = .int .i64 (i : Int) ∧ Hid (Below w8.heap.size w8 wr)) (fun s18 _ => m3 - (intOf s18).toNat)
                case atStart => exact ⟨0, by omega, rfl, Lib.hid (Below.refl _ _)⟩
                case round =>
                  obtain ⟨i, hi, rfl, HBr⟩ := hrel
                  have Xr := Lib.hid (X8.out.below HBr.out)
                  have Yr := Lib.hid (Y8.out.below HBr.out)
                  have HBw : Hid (Below w.heap.size w wr) := Lib.hid (HB8.out.trans (HBr.out.mono HB8.out.size))
                  obtain ⟨xp, x1, x2, xf0, xf1, xg⟩ := id Xr.out
                  have HG := Lib.hid xg.grid
                  clear xg xf0 xf1
                  by_cases hlt : i < m3
                  · obtain ⟨y1, y2, -, -⟩ := Yr.out.cells
                    have hin : (i : Int) < (m3 : Int) := by omega
                    have hiB : (0 : Int) ≤ (i : Int) := by omega
                    have hiM : i < M.length := by rw [HM3.out]; exact hlt
                    have Ir := Lib.hid (I8.out.below HBr.out)
                    obtain ⟨b, o, rfl, z1, z2'⟩ := Ir.out.us hiM
                    have hj0 : 0 < j := by
                      rcases Nat.eq_zero_or_pos j with e | e
                      · have := HF2.out e; omega
                      · exact e
                    have hEJ : EJ xs j G := by
                      rcases HSt.out with ⟨e, -⟩ | e
                      · omega
                      · exact e
                    have hest := hEJ.est (by omega) (gu M i).key
                    rw [HTk.out] at hest
                    have hle : (gu M i).cnt ≤ estM G (nm (gu M i).key) := Int.le_trans (HF1.out i hlt) hest.2
                    have d3 : decide (estM G (nm (gu M i).key) < (gu M i).cnt) = false := decide_eq_false (Int.not_lt.2 hle)
                    have HNm := Lib.hid (fun W => name_any (gu M i).key W)
                    have HEs := Lib.hid (fun (W : World) (g : Grid 0 W A' c' G.rows) => Skt.estimate_any 0 G A' c' (nm (gu M i).key) W g (by rw [nm_size]; unfold maxLen; omega))
                    rw [hest.1] at HEs
                    have HIi : Hid (∀ W, Below wr.heap.size wr W → W.cell? ⟨b, o + i * 2, none⟩ = some (.int .i64 (gu M i).key) ∧ W.cell? ⟨b, o + i * 2 + 1, none⟩ = some (.int .i64 (gu M i).cnt)) := Lib.hid (fun W hW => by
                      obtain ⟨b', o', e', e1, e2⟩ := (Ir.out.below hW).us hiM
                      cases e'
                      exact ⟨e1, e2⟩)
                    clear hest hle hEJ hiM
                    generalize estM G (nm (gu M i).key) = ee at *
                    generalize nm (gu M i).key = nmy at *
                    generalize (gu M i).key = ky at *
                    generalize (gu M i).cnt = cn at *
                    have HOld : Hid (∀ w', Below wr.heap.size wr w' → w'.cell? ⟨p, 0, none⟩ = some (.int .i64 G.wide) ∧ w'.cell? ⟨p, 1, none⟩ = some (.slice A' G.rows.length c') ∧ w'.cell? ⟨pu, 1, none⟩ = some (.slice (some ⟨b, o, none⟩) m3 k7) ∧ w'.cell? ⟨b, o + i * 2, none⟩ = some (.int .i64 ky)) := Lib.hid (fun w' h => ⟨(h.cell xp).trans x1, (h.cell xp).trans x2, (Yr.out.below h).cells.2.1, (HIi.out _ h).1⟩)
                    go_upto_region 23 with fail
                    go_region_held3 (fun w' => w'.cell? ⟨p, 0, none⟩ = some (.int .i64 G.wide) ∧ w'.cell? ⟨p, 1, none⟩ = some (.slice A' G.rows.length c') ∧ w'.cell? ⟨pu, 1, none⟩ = some (.slice (some ⟨b, o, none⟩) m3 k7) ∧ w'.cell? ⟨b, o + i * 2, none⟩ = some (.int .i64 ky))
                      (first | exact HOld.out _ hb10 | exact HOld.out _ hb9 | exact HOld.out _ (Below.refl _ _).drew)
                      (first
                        | (go_at_call 5; (with_reducible refine (HNm.out wr.drew).mono ?_); rintro e w9 ⟨rfl, hb9'⟩; have hb9 : Below wr.heap.size wr w9 := below_undrew hb9')
                        | (go_at_call 8; (with_reducible refine (HEs.out w9 (HG.out.below hb9)).mono ?_); rintro e w10 ⟨rfl, hb10'⟩; have hb10 := hb9.trans (hb10'.mono hb9.size)))
                    rename_i hHH
                    clear hHH
                    have HB10 : Hid (Below w8.heap.size w8 w10) := Lib.hid (HBr.out.trans (hb10.mono HBr.out.size))
                    obtain ⟨v1, v2, v3, v4⟩ := HOld.out _ hb10
                    obtain ⟨-, v5⟩ := HIi.out _ hb10
                    clear hb10 hb10' hb9 hb9' x1 x2 y1 y2 z1 z2'
                    go_wp2
                    go_roundw
                    case rel => exact ⟨i + 1, by omega, by go_num, HB10⟩
                    case measure => simp [intOf]; omega
                  · obtain rfl : i = m3 := by omega
                    obtain ⟨y1, y2, -, -⟩ := Yr.out.cells
                    go_wp2_with fail
                    refine (Skt.total_any 0 G A' c' _ HG.out).mono ?_
                    rintro e w10 ⟨rfl, hb10⟩
                    have HB10 : Hid (Below w.heap.size w w10) := Lib.hid (HBw.out.trans (hb10.mono HBw.out.size))
                    clear hb10 x1 x2 y1 y2
                    by_cases hj0 : j = 0
                    · subst hj0
                      generalize totM G = tt at *
                      generalize Skt.checkS G = cc at *
                      go_wp2
                      go_ret
                      exact ⟨rfl, HB10.out⟩
                    · have d4 : ((j : Int) == 0) = false := by simpa using hj0
                      have hEJ : EJ xs j G := by
                        rcases HSt.out with ⟨e, -⟩ | e
                        · omega
                        · exact e
                      rw [hEJ.tot, hEJ.good.check]
                      clear hEJ hj0
                      go_wp2
                      go_ret
                      exact ⟨rfl, HB10.out⟩
              · have d1 : (E != 0) = true := by simpa using hE
                clear hE
                go_wp2
                go_ret
                exact ⟨rfl, HB8.out⟩

end Go.Proofs.Ytmldjfbnljdamaa.Tcn
