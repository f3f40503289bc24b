/-
  The reference of package shard: ShardErr, ShardCheck, OwnerErr, ShardScore.
-/
import Derived.Test.YtgecmgldamdpgaaShMoved
namespace Go.Proofs.Ytgecmgldamdpgaa.Shd
open Go.RowKit
set_option linter.unusedVariables false
set_option maxRecDepth 100000

theorem shardErr_any (f : Sh) (w : World) (hs : f.name.size ≤ maxLen) : Calls Try.prog 12 #[fv f] w fun e w' => e = .returned (.int .i64 (oneE f)) ∧ Below w.heap.size w w' := by
  have HK0 : Hid (Sb (w.alloc (fo f)) w.heap.size f) := Lib.hid (Sb.new w _)
  have HB0 : Hid (Below w.heap.size w (w.alloc (fo f))) := Lib.hid (bel_al (Below.refl _ _) (Nat.le_refl _) _)
  have HBt := Lib.hid (fun W : World => between_any f.wt 1 8 W)
  obtain ⟨x0, x1⟩ := HK0.out.cells
  unfold maxLen at hs
  obtain ⟨nm, wt⟩ := f
  dsimp only at x0 x1 HBt hs
  by_cases q1 : 1 ≤ wt ∧ wt ≤ 8
  · rw [decide_eq_true q1] at HBt
    by_cases q2 : 40 < nm.size
    · have d2 : decide ((40 : Int) < (nm.size : Int)) = true := by simp; omega
      have HE : Hid (oneE ⟨nm, wt⟩ = 2) := Lib.hid (by unfold oneE; rw [if_neg (fun h => h q1), if_pos q2])
      clear q1 q2
      go_enter Try.func12, Try.ntmps12
      go_wp2_with (go_at_call 26; with_reducible refine (HBt.out _).mono ?_; rintro e w2 ⟨rfl, rfl⟩)
      go_ret
      exact ⟨ret_int HE.out.symm, HB0.out⟩
    · have d2 : decide ((40 : Int) < (nm.size : Int)) = false := by simp; omega
      have HE : Hid (oneE ⟨nm, wt⟩ = 0) := Lib.hid (oneE_zero.2 ⟨q1, by show nm.size ≤ 40; omega⟩)
      clear q1 q2
      go_enter Try.func12, Try.ntmps12
      go_wp2_with (go_at_call 26; with_reducible refine (HBt.out _).mono ?_; rintro e w2 ⟨rfl, rfl⟩)
      go_ret
      exact ⟨ret_int HE.out.symm, HB0.out⟩
  · rw [decide_eq_false q1] at HBt
    have HE : Hid (oneE ⟨nm, wt⟩ = 3) := Lib.hid (by unfold oneE; rw [if_pos q1])
    clear q1
    go_enter Try.func12, Try.ntmps12
    go_wp2_with (go_at_call 26; with_reducible refine (HBt.out _).mono ?_; rintro e w2 ⟨rfl, rfl⟩)
    go_ret
    exact ⟨ret_int HE.out.symm, HB0.out⟩

set_option maxHeartbeats 4000000 in
theorem refCheck_any (A : Option Addr) (c : Nat) (F : List Sh) (w : World) (hF : Shs w A c F) (hN : Nms F) :
    Calls Try.prog 16 #[.slice A F.length c] w fun e w' => e = .returned (.int .i64 (chk F)) ∧ Below w.heap.size w w' := by
  have hlen := hF.len
  by_cases h1 : 20 < F.length
  · have p1 : decide ((20 : Int) < (F.length : Int)) = true := by simp; omega
    have HE : Hid (chk F = 2) := Lib.hid (by unfold chk; rw [if_pos h1])
    clear h1 hF
    go_enter Try.func16, Try.ntmps16
    go_wp2
    go_ret
    exact ⟨ret_int HE.out.symm, Below.refl _ _⟩
  · have p1 : decide ((20 : Int) < (F.length : Int)) = false := by simp; omega
    have HE : Hid (chk F = scan (atE F) 0 F.length) := Lib.hid (by unfold chk; rw [if_neg h1])
    clear h1
    have HF := Lib.hid hF
    have HN := Lib.hid hN
    clear hF hN
    obtain ⟨ln, hln⟩ : ∃ ln, F.length = ln := ⟨_, rfl⟩
    have HLN := Lib.hid hln
    rw [hln] at p1 hlen HE
    rw [hln]
    clear hln
    go_enter Try.func16, Try.ntmps16
    go_wp2
    go_loopw [3] (fun i wr => ∃ k : Nat, k ≤ ln ∧ i = .int .i64 (k : Int) ∧ Hid (scan (atE F) 0 ln = scan (atE F) k (ln - k)) ∧ Hid (Below w.heap.size w wr)) (fun i _ => ln - (intOf i).toNat)
    case atStart => exact ⟨0, by omega, rfl, Lib.hid rfl, Lib.hid (Below.refl _ _)⟩
    case round =>
      obtain ⟨k, hk, rfl, HA, HBr⟩ := hrel
      clear p1
      have HFr := Lib.hid (HF.out.below HBr.out)
      by_cases hlt : k < ln
      · have hin : (k : Int) < (ln : Int) := by omega
        have hiB : (0 : Int) ≤ (k : Int) := by omega
        have HKL : Hid (k < F.length) := Lib.hid (by rw [HLN.out]; exact hlt)
        have HT := Lib.hid (shardErr_any (gs F k) wr (HN.out k HKL.out))
        have HGO := Lib.hid (fun (e : atE F k = 0) => HA.out.trans (scan_go hlt e))
        have HHIT := Lib.hid (fun (e : atE F k ≠ 0) => HE.out.trans (HA.out.trans (scan_hit hlt e)))
        have HONE := Lib.hid (fun (h : oneE (gs F k) ≠ 0) => atE_one h)
        have HDUP := Lib.hid (fun (h : oneE (gs F k) = 0) (hd : dup F k) => atE_dup h hd)
        have HOK := Lib.hid (fun (h : oneE (gs F k) = 0) (hd : ¬ dup F k) => atE_ok h hd)
        have HCE : Hid (∀ W, Below wr.heap.size wr W → ∀ j, j < ln → ∃ b o, A = some ⟨b, o, none⟩ ∧ W.cell? ⟨b, o + j * 2, none⟩ = some (.string (gs F j).name) ∧ W.cell? ⟨b, o + j * 2 + 1, none⟩ = some (.int .i64 (gs F j).wt)) := Lib.hid (fun W hW j hj => (HFr.out.below hW).sh (by rw [HLN.out]; exact hj))
        obtain ⟨b, o, rfl, e1, e2⟩ := HFr.out.sh HKL.out
        generalize hgk : gs F k = f at *
        obtain ⟨nm, wt⟩ := f
        have HNM : Hid ((gs F k).name = nm ∧ (gs F k).wt = wt) := Lib.hid (by rw [hgk]; exact ⟨rfl, rfl⟩)
        dsimp only at e1 e2
        clear hgk
        by_cases q1 : oneE ⟨nm, wt⟩ = 0
        · rw [q1] at HT
          have HQ := Lib.hid q1
          clear q1
          go_wp2_with (go_at_call 12; with_reducible refine HT.out.mono ?_; rintro e w2 ⟨rfl, hb2⟩; have HB2 := Lib.hid hb2; clear hb2)
          go_loopw [5] (fun i wj => ∃ j : Nat, j ≤ k ∧ i = .int .i64 (j : Int) ∧ Hid (∀ q, q < j → (gs F q).name ≠ nm) ∧ Hid (Below wr.heap.size wr wj)) (fun i _ => k - (intOf i).toNat)
          case atStart => exact ⟨0, by omega, rfl, Lib.hid (fun q hq => by omega), HB2⟩
          case round =>
            rename World => wj
            obtain ⟨j, hj, rfl, HJ, HBj⟩ := hrel
            clear e1 e2
            by_cases hjl : j < k
            · have hjn : (j : Int) < (k : Int) := by omega
              have hj0 : (0 : Int) ≤ (j : Int) := by omega
              have hjn' : (j : Int) < (ln : Int) := by omega
              have c1 : wj.cell? ⟨b, o + k * 2, none⟩ = some (.string (gs F k).name) := by
                obtain ⟨b', o', e, c1, -⟩ := HCE.out _ HBj.out k hlt
                cases e
                exact c1
              have c2 : wj.cell? ⟨b, o + j * 2, none⟩ = some (.string (gs F j).name) := by
                obtain ⟨b', o', e, c1, -⟩ := HCE.out _ HBj.out j (by omega)
                cases e
                exact c1
              rw [HNM.out.1] at c1
              obtain ⟨y, hy⟩ : ∃ y, (gs F j).name = y := ⟨_, rfl⟩
              rw [hy] at c2
              by_cases q2 : y = nm
              · have t2 : (y.toList == nm.toList) = true := str_eq q2
                have HR : Hid (chk F = 6) := Lib.hid (by
                  have e := HDUP.out HQ.out ⟨j, hjl, by rw [hy, HNM.out.1, q2]⟩
                  rw [HHIT.out (by rw [e]; decide), e])
                clear q2 hy
                go_wp2_with fail
                go_quiet (fail)
                have HB9 := Lib.hid (HBr.out.trans ((bel_drewN HBj.out nq).mono HBr.out.size))
                clear c1 c2
                generalize wj.drewN nq = w9 at *
                go_wp2
                go_ret
                exact ⟨ret_int HR.out.symm, HB9.out⟩
              · have t2 : (y.toList == nm.toList) = false := str_ne q2
                have HJ2 : Hid (∀ q, q < j + 1 → (gs F q).name ≠ nm) := Lib.hid (fun q hq => by
                  by_cases e : q = j
                  · rw [e, hy]; exact q2
                  · exact HJ.out q (by omega))
                clear q2 hy
                go_wp2_with fail
                go_quiet (fail)
                have HB9 := Lib.hid (bel_drewN HBj.out nq)
                clear c1 c2
                generalize wj.drewN nq = w9 at *
                go_wp2
                go_roundw
                case rel => exact ⟨j + 1, by omega, by go_num, HJ2, HB9⟩
                case measure => simp [intOf]; omega
            · obtain rfl : j = k := by omega
              have HA' : Hid (scan (atE F) 0 ln = scan (atE F) (j + 1) (ln - (j + 1))) := Lib.hid (HGO.out (HOK.out HQ.out (fun ⟨q, hq, e⟩ => HJ.out q hq (by rw [e, HNM.out.1]))))
              have HB9 := Lib.hid (HBr.out.trans (HBj.out.mono HBr.out.size))
              go_wp2
              go_roundw
              case rel => exact ⟨j + 1, by omega, by go_num, HA', HB9⟩
              case measure => simp [intOf]; omega
        · have hb1 := bd_ne q1
          have HR : Hid (chk F = oneE ⟨nm, wt⟩) := Lib.hid (by have e := HONE.out q1; rw [HHIT.out (by rw [e]; exact q1), e])
          clear q1
          generalize oneE ⟨nm, wt⟩ = er at *
          go_wp2_with (go_at_call 12; with_reducible refine HT.out.mono ?_; rintro e w2 ⟨rfl, hb2⟩; have HB2 := Lib.hid (HBr.out.trans (hb2.mono HBr.out.size)); clear hb2)
          go_ret
          exact ⟨ret_int HR.out.symm, HB2.out⟩
      · obtain rfl : k = ln := by omega
        have HR : Hid (chk F = 0) := Lib.hid (HE.out.trans (HA.out.trans (scan_nil _ (Nat.le_refl _))))
        go_wp2
        go_ret
        exact ⟨ret_int HR.out.symm, HBr.out⟩

theorem ownerErr_any (A : Option Addr) (c : Nat) (L : List Sh) (s : ByteArray) (w : World) (h : ShA w A c L) (hs : s.size ≤ maxLen) :
    Calls Try.prog 9 #[.slice A L.length c, .string s] w fun e w' => e = .returned (.int .i64 (err L s)) ∧ Below w.heap.size w w' := by
  have HC := Lib.hid (refCheck_any A c L w h.sh h.nm)
  unfold maxLen at hs
  by_cases h1 : chk L = 0
  · rw [h1] at HC
    by_cases h2 : 40 < s.size
    · have d2 : decide ((40 : Int) < (s.size : Int)) = true := by simp; omega
      have HE : Hid (err L s = 2) := Lib.hid (by unfold err; rw [if_neg (fun e => e h1), if_pos h2])
      clear h1 h2 h
      generalize L.length = n at *
      go_enter Try.func9, Try.ntmps9
      go_wp2_with (go_at_call 16; with_reducible refine HC.out.mono ?_; rintro e w2 ⟨rfl, hb2⟩; have HB2 := Lib.hid hb2; clear hb2)
      go_ret
      exact ⟨ret_int HE.out.symm, HB2.out⟩
    · have d2 : decide ((40 : Int) < (s.size : Int)) = false := by simp; omega
      by_cases h3 : L.length = 0
      · have HE : Hid (err L s = 5) := Lib.hid (by unfold err; rw [if_neg (fun e => e h1), if_neg h2, if_pos h3])
        rw [h3] at HC ⊢
        clear h1 h2 h3 h
        go_enter Try.func9, Try.ntmps9
        go_wp2_with (go_at_call 16; with_reducible refine HC.out.mono ?_; rintro e w2 ⟨rfl, hb2⟩; have HB2 := Lib.hid hb2; clear hb2)
        go_ret
        exact ⟨ret_int HE.out.symm, HB2.out⟩
      · have HE : Hid (err L s = 0) := Lib.hid (by unfold err; rw [if_neg (fun e => e h1), if_neg h2, if_neg h3])
        generalize L.length = n at *
        have d3 : ((n : Int) == 0) = false := by rw [beq_eq_false_iff_ne]; omega
        have d3' : (n == 0) = false := by rw [beq_eq_false_iff_ne]; omega
        clear h1 h2 h3 h
        go_enter Try.func9, Try.ntmps9
        go_wp2_with (go_at_call 16; with_reducible refine HC.out.mono ?_; rintro e w2 ⟨rfl, hb2⟩; have HB2 := Lib.hid hb2; clear hb2)
        go_ret
        exact ⟨ret_int HE.out.symm, HB2.out⟩
  · have hb1 : (chk L == 0) = false := bd_eq h1
    have HE : Hid (err L s = chk L) := Lib.hid (by unfold err; rw [if_pos h1])
    clear h1 h
    generalize chk L = q at *
    generalize L.length = n at *
    go_enter Try.func9, Try.ntmps9
    go_wp2_with (go_at_call 16; with_reducible refine HC.out.mono ?_; rintro e w2 ⟨rfl, hb2⟩; have HB2 := Lib.hid hb2; clear hb2)
    go_ret
    exact ⟨ret_int HE.out.symm, HB2.out⟩

set_option maxHeartbeats 4000000 in
theorem refScore_any (f : Sh) (s : ByteArray) (w : World) (h1 : 1 ≤ f.wt ∧ f.wt ≤ 8) (h2 : f.name.size ≤ 40) (h3 : s.size ≤ 40) :
    Calls Try.prog 13 #[fv f, .string s] w fun e w' => e = .returned (.int .u64 ((scH f (fnv s.data.toList) : Nat) : Int)) ∧ Below w.heap.size w w' := by
  have HK0 : Hid (Sb (w.alloc (fo f)) w.heap.size f) := Lib.hid (Sb.new w _)
  have HB0 : Hid (Below w.heap.size w (w.alloc (fo f))) := Lib.hid (bel_al (Below.refl _ _) (Nat.le_refl _) _)
  have HS := Lib.hid (fun W : World => (refSum_any f.name W h2).mono (fun e w' h => (⟨h.1, h.2.symm⟩ : _ ∧ w' = W)))
  have HS2 := Lib.hid (fun W : World => (refSum_any s W h3).mono (fun e w' h => (⟨h.1, h.2.symm⟩ : _ ∧ w' = W)))
  have HM := Lib.hid (fun (x : BitVec 64) (W : World) => (refOf_any x W).mono (fun e w' h => (⟨h.1, h.2.symm⟩ : _ ∧ w' = W)))
  generalize hkh : fnv s.data.toList = h at *
  obtain ⟨m, hm⟩ : ∃ m : Nat, f.wt = (m : Int) := ⟨f.wt.toNat, by omega⟩
  have hm8 : m ≤ 8 := by omega
  have HT : Hid (scH f h = top (num (fnv f.name.data.toList) h) m) := Lib.hid (by unfold scH; rw [hm, Int.toNat_natCast])
  have hc := HK0.out
  obtain ⟨nm, wt⟩ := f
  dsimp only at hm HS HT
  subst hm
  clear h1 h2 h3 hkh
  generalize fnv nm.data.toList = n at *
  have HSC : Hid (scH ⟨nm, (m : Int)⟩ h = top (num n h) m) := HT
  generalize scH ⟨nm, (m : Int)⟩ h = sv at *
  obtain ⟨x0, x1⟩ := HK0.out.cells
  clear hc
  have HCE : Hid (∀ W, Below (w.alloc (fo ⟨nm, (m : Int)⟩)).heap.size (w.alloc (fo ⟨nm, (m : Int)⟩)) W → W.cell? ⟨w.heap.size, 0, none⟩ = some (.string nm) ∧ W.cell? ⟨w.heap.size, 1, none⟩ = some (.int .i64 (m : Int))) := Lib.hid (fun W hW => (HK0.out.below hW).cells)
  have HB1 : Hid (∀ W, Below (w.alloc (fo ⟨nm, (m : Int)⟩)).heap.size (w.alloc (fo ⟨nm, (m : Int)⟩)) W → Below w.heap.size w W) := Lib.hid (fun W hW => HB0.out.trans (hW.mono HB0.out.size))
  go_enter Try.func13, Try.ntmps13
  go_wp2
  go_loopw [5, 6] (fun t i wr => ∃ k : Nat, k ≤ m ∧ i = .int .i64 (k : Int) ∧ t = .int .u64 ((top (num n h) k : Nat) : Int) ∧ Hid (Below (w.alloc (fo ⟨nm, (m : Int)⟩)).heap.size (w.alloc (fo ⟨nm, (m : Int)⟩)) wr)) (fun _ i _ => m - (intOf i).toNat)
  case atStart => exact ⟨0, by omega, rfl, rfl, Lib.hid (Below.refl _ _)⟩
  case round =>
    obtain ⟨k, hk, rfl, rfl, HBr⟩ := hrel
    clear x0 x1
    obtain ⟨x0, x1⟩ := HCE.out _ HBr.out
    by_cases hlt : k < m
    · have hin : (k : Int) < (m : Int) := by omega
      have hin' : decide (k < m) = true := by simpa using hlt
      have HNN := Lib.hid (nat_num n h k)
      have hwk : IntKind.u64.wrap (k : Int) = nv (BitVec.ofNat 64 k) := by rw [nv_lit _ (by omega), IntKind.wrap_u64]; omega
      have hx1 : bits .xor .u64 (nv n) (nv (BitVec.ofNat 64 k)) = nv (n ^^^ BitVec.ofNat 64 k) := nv_xor _ _
      have hx2 : bits .xor .u64 (nv h) (nv (mixB (n ^^^ BitVec.ofNat 64 k))) = nv (h ^^^ mixB (n ^^^ BitVec.ofNat 64 k)) := nv_xor _ _
      go_wp2_with fail
      go_quiet (first | (go_at_call 28; (with_reducible exact Calls.quiet_of_same (HS.out _))) | (go_at_call 28; (with_reducible exact Calls.quiet_of_same (HS2.out _))) | (go_at_call 27; (with_reducible exact Calls.quiet_of_same (HM.out _ _))))
      have HB9 := Lib.hid (bel_drewN HBr.out nq)
      clear x0 x1 hwk hx1 hx2
      generalize wr.drewN nq = w9 at *
      rw [← HNN.out]
      generalize hz1 : num n h k = nk at *
      by_cases q : top (num n h) k < nk
      · have hq : decide (((top (num n h) k : Nat) : Int) < (nk : Int)) = true := by simpa using q
        have hq' : decide (top (num n h) k < nk) = true := by simpa using q
        have HV : Hid (top (num n h) (k + 1) = nk) := Lib.hid (by show (if _ < num n h k then _ else _) = _; rw [hz1, if_pos q])
        clear q hz1
        go_wp2
        go_roundw
        case rel => exact ⟨k + 1, by omega, by go_num, by rw [HV.out], HB9⟩
        case measure => simp [intOf]; omega
      · have hq : decide (((top (num n h) k : Nat) : Int) < (nk : Int)) = false := by simpa using q
        have hq' : decide (top (num n h) k < nk) = false := by simpa using q
        have HV : Hid (top (num n h) (k + 1) = top (num n h) k) := Lib.hid (by show (if _ < num n h k then _ else _) = _; rw [hz1, if_neg q])
        clear q hz1
        go_wp2
        go_roundw
        case rel => exact ⟨k + 1, by omega, by go_num, by rw [HV.out], HB9⟩
        case measure => simp [intOf]; omega
    · obtain rfl : k = m := by omega
      go_wp2
      go_ret
      exact ⟨ret_int (by rw [HSC.out]), HB1.out _ HBr.out⟩

end Go.Proofs.Ytgecmgldamdpgaa.Shd
