/-
  The walk of the law on steps.
-/
import Derived.Test.YtgdklpgmoanfkaaWsBegun
import Derived.Test.YtgdklpgmoanfkaaKeysRef
namespace Go.Proofs.Ytgdklpgmoanfkaa.Wst
open Go.RowKit
open Lru (isRm isK traceE trace_zero)
open Dst (win fltK row gat gat_snoc gat_len uq_len_le)
open Two
set_option linter.unusedVariables false
set_option maxRecDepth 100000

theorem wk_two {l : List Int} : wkE l 200 = traceE l := by
  unfold wkE
  by_cases h : traceE l = 0
  · rw [if_pos h, if_pos (show isN 200 from ⟨by omega, by omega⟩), h]
  · rw [if_neg h]
theorem fl_two {l : List Int} (h : traceE l = 0) : flV l 200 = (gat [] l).length := by
  unfold flV
  rw [if_pos (by rw [wk_two]; exact h)]
  show fltK l 200 l.length = _
  rw [flt_all (trace_zero.1 h).1 (Nat.le_refl _), List.take_length]
theorem fl_bad {l : List Int} {x : Int} (h : ¬ wkE l x = 0) : flV l x = 0 := by unfold flV; rw [if_neg h]
theorem gat_take {l : List Int} {k : Nat} (h : k < l.length) : gat [] (l.take (k + 1)) = if gi l k ∈ gat [] (l.take k) then gat [] (l.take k) else gat [] (l.take k) ++ [gi l k] := by
  rw [take_succ_gi h, gat_snoc]
theorem gat_lenK (l : List Int) (k : Nat) : (gat [] (l.take k)).length ≤ k := by
  rw [gat_len]
  have h1 := uq_len_le (l.take k)
  rw [List.length_take] at h1
  omega
/-- What the sizes are. -/
theorem zs_ok {l : List Int} {x : Int} (h : wkE l x = 0) : (zsV l x).length = l.length ∧ ∀ k, k < l.length → 1 ≤ gi (zsV l x) k ∧ gi (zsV l x) k ≤ 200 ∧ (0 < k → gi (zsV l x) k - gi (zsV l x) (k - 1) ≤ 1 ∧ gi (zsV l x) (k - 1) - gi (zsV l x) k ≤ 1) := by
  obtain ⟨h1, h2⟩ := wkE_zero.1 h
  have e : zsV l x = zsI l x.toNat := by unfold zsV; rw [if_pos h]
  rw [e]
  refine ⟨zsI_len _ _, fun k hk => ?_⟩
  rw [zsI_get hk]
  have p1 := len_pos (n := x.toNat) (by have := h2.1; omega) hk
  have p2 := wset_len l x.toNat k
  have p3 := h2.2
  refine ⟨by omega, by omega, fun h0 => ?_⟩
  obtain ⟨m, rfl⟩ : ∃ m, k = m + 1 := ⟨k - 1, by omega⟩
  rw [show m + 1 - 1 = m from rfl, zsI_get (show m < l.length by omega)]
  have p4 := len_up (n := x.toNat) hk
  have p5 := len_down (n := x.toNat) hk
  omega

set_option maxHeartbeats 8000000 in
theorem worksetSteps_walk (A : Option Addr) (c : Nat) (xs : List Int) (x : Int) (w : World) (hI : Ints w A c xs) :
    Calls Try.prog 6 #[.slice A xs.length c, .int .i64 x] w fun e w' => e = .returned (.bool true) ∧ Below w.heap.size w w' := by
  have HI := Lib.hid hI
  have HZ := Lib.hid (fun (W : World) (h : Ints W A c xs) => (Sizes_any A c xs x W h).mono (fun _ _ k => k.re))
  have HF := Lib.hid (fun (W : World) (h : Ints W A c xs) => Faults_any A c xs 200 W h)
  unfold RE at HZ
  have HZok := Lib.hid (fun (h : wkE xs x = 0) => zs_ok h)
  have HFok := Lib.hid (fun (h : traceE xs = 0) => fl_two h)
  have HFb := Lib.hid (fun (h : ¬ wkE xs 200 = 0) => fl_bad h)
  have HWb := Lib.hid (fun (h : ¬ traceE xs = 0) => show ¬ wkE xs x = 0 from fun e => h (wkE_zero.1 e).1)
  have HT200 := Lib.hid (fun (h : traceE xs = 0) => (trace_zero.1 h).1)
  rw [wk_two] at HF HFb
  clear hI
  generalize zsV xs x = Z at *
  generalize wkE xs x = ez at *
  generalize flV xs 200 = fv at *
  obtain ⟨n, hn⟩ : ∃ n, xs.length = n := ⟨_, rfl⟩
  have HN := Lib.hid hn
  rw [hn] at HZ HF HT200 HZok ⊢
  clear hn
  obtain ⟨zl, hzl⟩ : ∃ zl, Z.length = zl := ⟨_, rfl⟩
  have HZL := Lib.hid hzl
  rw [hzl] at HZ HZok
  clear hzl
  generalize ht : traceE xs = t at *
  go_enter Try.func6, Try.ntmps6
  go_wp2_with fail
  refine (HZ.out w HI.out).mono ?_
  rintro e w1 ⟨A1, c1, rfl, hI1, hb1⟩
  have HB1 := Lib.hid hb1
  have HJ1 := Lib.hid hI1
  clear hb1 hI1
  go_wp2_with fail
  refine (HF.out w1 (HI.out.below HB1.out)).mono ?_
  rintro e w2 ⟨rfl, rfl⟩
  go_wp2_with fail
  refine (begun_any _).mono ?_
  rintro e w3 ⟨rfl, hb3⟩
  have HB3 : Hid (Below w.heap.size w w3) := Lib.hid (HB1.out.trans (hb3.mono HB1.out.size))
  have HJ3 := Lib.hid (HJ1.out.below hb3)
  have HI3 := Lib.hid (HI.out.below HB3.out)
  clear hb3 HJ1 HB1
  by_cases q0 : t = 0
  · have d0 : (t != 0) = false := by simp [q0]
    have hn200 := HT200.out q0
    have hfv := HFok.out q0
    have HFv := Lib.hid hfv
    clear hfv q0 ht HFok HFb HWb HT200 HZ HF
    go_wp2
    go_loopw [9, 10] (fun s9 s10 wr => ∃ k : Nat, k ≤ n ∧ s10 = .int .i64 (k : Int) ∧ OwnI wr w3.heap.size s9 (gat [] (xs.take k)) ∧ Below w3.heap.size w3 wr) (fun _ i _ => n - (intOf i).toNat)
    case atStart => exact ⟨0, by omega, rfl, own_none _ _, Below.refl _ _⟩
    case round =>
      obtain ⟨k, hk, rfl, ho, hb⟩ := hrel
      by_cases hlt : k < n
      · have hin : (k : Int) < (n : Int) := by omega
        have hiB : (0 : Int) ≤ (k : Int) := by omega
        have hkL : k < xs.length := by rw [HN.out]; exact hlt
        have HG := Lib.hid (gat_take hkL)
        have hgl := gat_lenK xs k
        have HO := Lib.hid ho
        have HB := Lib.hid hb
        -- behind the appending
        have HEnd : Hid (∀ (wq : World), Below w3.heap.size w3 wq → Ints wq A1 c1 Z ∧ Ints wq A c xs) := Lib.hid (fun wq h => ⟨HJ3.out.below h, HI3.out.below h⟩)
        obtain ⟨b, o, rfl, ht⟩ := (HEnd.out wr hb).2.2.2.2 (by omega)
        have e3 := ht.2 k hkL
        obtain ⟨Ag, cg, rfl, hIg⟩ := ints_of_own ho
        clear ht ho hb hkL
        generalize gi xs k = z at *
        generalize gat [] (xs.take k) = G at *
        by_cases qz : ez = 0
        · obtain ⟨hzn, hzk⟩ := HZok.out qz
          obtain ⟨k1, k2, k3⟩ := hzk k hlt
          subst hzn
          have dz : (ez == 0) = true := by simp [qz]
          have dn : ((zl : Int) != (zl : Int)) = false := by simp
          have hkZ : k < Z.length := by rw [HZL.out]; exact hlt
          obtain ⟨b2, o2, rfl, ht2⟩ := HJ3.out.2.2.2 (by omega)
          have e4' := ht2.2 k hkZ
          have d2 : decide (gi Z k < 1) = false := by simp; omega
          have HBt := Lib.hid ht2.1
          have HZc : Hid (∀ W : World, Below w3.heap.size w3 W → W.cell? ⟨b2, o2 + k, none⟩ = some (.int .i64 (gi Z k))) := Lib.hid (fun W h => (h.cell (p := ⟨b2, _, none⟩) HBt.out).trans e4')
          clear qz hzk e4'
          by_cases qk : 0 < k
          · obtain ⟨m, hm1⟩ : ∃ m, k = m + 1 := ⟨k - 1, by omega⟩
            have hmZ : m < Z.length := by omega
            have e5' := ht2.2 m hmZ
            obtain ⟨k4, k5⟩ := k3 qk
            obtain ⟨j1, j2⟩ := ((HZok.out (by simpa using dz)).2 m (by omega)).imp id And.left
            rw [show k - 1 = m by omega] at k4 k5
            have HZd : Hid (∀ W : World, Below w3.heap.size w3 W → W.cell? ⟨b2, o2 + m, none⟩ = some (.int .i64 (gi Z m))) := Lib.hid (fun W h => (h.cell (p := ⟨b2, _, none⟩) HBt.out).trans e5')
            have d3 : decide ((0 : Int) < (k : Int)) = true := by simp; omega
            have d3' : decide (0 < k) = true := by simp; omega
            have hw1 : IntKind.i64.wrap ((k : Int) - 1) = (m : Int) := by rw [IntKind.wrap_i64]; omega
            have hw2 : IntKind.i64.wrap (gi Z k - gi Z m) = gi Z k - gi Z m := by rw [IntKind.wrap_i64]; omega
            have hw3 : IntKind.i64.wrap (gi Z m - gi Z k) = gi Z m - gi Z k := by rw [IntKind.wrap_i64]; omega
            have d4 : decide (1 < gi Z k - gi Z m) = false := by simp; omega
            have d5 : decide (1 < gi Z m - gi Z k) = false := by simp; omega
            have i1 : (m : Int) < (zl : Int) := by omega
            have i2 : (0 : Int) ≤ (m : Int) := by omega
            clear k1 k2 k3 k4 k5 j1 j2 e5' ht2 hkZ hmZ hm1
            generalize gi Z k = zk at *
            generalize gi Z m = zm at *
            by_cases hm : z ∈ G
            · have HHas := Lib.hid (Kr.hasInt_b Ag cg G z true wr hIg (decide_eq_true hm))
              rw [if_pos hm] at HG
              clear hm hIg hgl
              generalize G.length = gl at *
              have e4 := HZc.out wr HB.out
              have e5 := HZd.out wr HB.out
              go_wp2_with fail
              refine HHas.out.mono ?_
              rintro e w7 ⟨rfl, rfl⟩
              go_wp2
              go_quiet (fail)
              have HBq : Hid (Below w3.heap.size w3 (w7.drewN nq)) := Lib.hid (bel_drewN HB.out _)
              have HOq : Hid (OwnI (w7.drewN nq) w3.heap.size (.slice Ag gl cg) (gat [] (xs.take (k + 1)))) := Lib.hid (by rw [HG.out]; exact own_bel HO.out (bel_drewN (Below.refl _ _) _))
              generalize w7.drewN nq = wq at *
              go_wp2
              go_roundw
              case rel => exact ⟨k + 1, by omega, by go_num, HOq.out, HBq.out⟩
              case measure => simp [intOf]; omega
            · have HHas := Lib.hid (Kr.hasInt_b Ag cg G z false wr hIg (decide_eq_false hm))
              rw [if_neg hm] at HG
              clear hm hIg
              have HGl : Hid (G.length ≤ 1000) := Lib.hid (by omega)
              generalize hGn : G.length = gl at *
              have HGn := Lib.hid hGn
              clear hGn
              go_wp2_with fail
              refine HHas.out.mono ?_
              rintro e w7 ⟨rfl, rfl⟩
              go_wp2_with (first
                | (at_builtin; refine wpList_append_lies1 rfl _ _ rfl w3.heap.size _ G rfl HO.out z _ rfl (by rw [HGn.out]; exact HGl.out) HB.out.size ?_)
                | go_in)
              intro g cap w8 h3 h4 h5
              have HB8 := Lib.hid ((bel_al HB.out HB.out.size _).grown h4 (Nat.le_trans HB.out.size (by simp)) (fun q hq => (HO.out.lt q hq).1))
              have HO8 : Hid (OwnI w8 w3.heap.size (.slice (some ⟨g, 0, none⟩) (G.length + 1) cap) (gat [] (xs.take (k + 1)))) := Lib.hid (by rw [HG.out]; exact h3)
              clear h3 h4 h5 e3
              have e4 := HZc.out w8 HB8.out
              have e5 := HZd.out w8 HB8.out
              go_wp2
              go_quiet (fail)
              have HBq : Hid (Below w3.heap.size w3 (w8.drewN nq)) := Lib.hid (bel_drewN HB8.out _)
              have HOq : Hid (OwnI (w8.drewN nq) w3.heap.size (.slice (some ⟨g, 0, none⟩) (G.length + 1) cap) (gat [] (xs.take (k + 1)))) := Lib.hid (own_bel HO8.out (bel_drewN (Below.refl _ _) _))
              generalize w8.drewN nq = wq at *
              go_wp2
              go_roundw
              case rel => exact ⟨k + 1, by omega, by go_num, HOq.out, HBq.out⟩
              case measure => simp [intOf]; omega
          · have d3 : decide ((0 : Int) < (k : Int)) = false := by simp; omega
            have d3' : decide (0 < k) = false := by simp; omega
            clear k1 k2 k3 ht2 hkZ
            generalize gi Z k = zk at *
            by_cases hm : z ∈ G
            · have HHas := Lib.hid (Kr.hasInt_b Ag cg G z true wr hIg (decide_eq_true hm))
              rw [if_pos hm] at HG
              clear hm hIg hgl
              generalize G.length = gl at *
              have e4 := HZc.out wr HB.out
              go_wp2_with fail
              refine HHas.out.mono ?_
              rintro e w7 ⟨rfl, rfl⟩
              go_wp2
              go_quiet (fail)
              have HBq : Hid (Below w3.heap.size w3 (w7.drewN nq)) := Lib.hid (bel_drewN HB.out _)
              have HOq : Hid (OwnI (w7.drewN nq) w3.heap.size (.slice Ag gl cg) (gat [] (xs.take (k + 1)))) := Lib.hid (by rw [HG.out]; exact own_bel HO.out (bel_drewN (Below.refl _ _) _))
              generalize w7.drewN nq = wq at *
              go_wp2
              go_roundw
              case rel => exact ⟨k + 1, by omega, by go_num, HOq.out, HBq.out⟩
              case measure => simp [intOf]; omega
            · have HHas := Lib.hid (Kr.hasInt_b Ag cg G z false wr hIg (decide_eq_false hm))
              rw [if_neg hm] at HG
              clear hm hIg
              have HGl : Hid (G.length ≤ 1000) := Lib.hid (by omega)
              generalize hGn : G.length = gl at *
              have HGn := Lib.hid hGn
              clear hGn
              go_wp2_with fail
              refine HHas.out.mono ?_
              rintro e w7 ⟨rfl, rfl⟩
              go_wp2_with (first
                | (at_builtin; refine wpList_append_lies1 rfl _ _ rfl w3.heap.size _ G rfl HO.out z _ rfl (by rw [HGn.out]; exact HGl.out) HB.out.size ?_)
                | go_in)
              intro g cap w8 h3 h4 h5
              have HB8 := Lib.hid ((bel_al HB.out HB.out.size _).grown h4 (Nat.le_trans HB.out.size (by simp)) (fun q hq => (HO.out.lt q hq).1))
              have HO8 : Hid (OwnI w8 w3.heap.size (.slice (some ⟨g, 0, none⟩) (G.length + 1) cap) (gat [] (xs.take (k + 1)))) := Lib.hid (by rw [HG.out]; exact h3)
              clear h3 h4 h5 e3
              have e4 := HZc.out w8 HB8.out
              go_wp2
              go_quiet (fail)
              have HBq : Hid (Below w3.heap.size w3 (w8.drewN nq)) := Lib.hid (bel_drewN HB8.out _)
              have HOq : Hid (OwnI (w8.drewN nq) w3.heap.size (.slice (some ⟨g, 0, none⟩) (G.length + 1) cap) (gat [] (xs.take (k + 1)))) := Lib.hid (own_bel HO8.out (bel_drewN (Below.refl _ _) _))
              generalize w8.drewN nq = wq at *
              go_wp2
              go_roundw
              case rel => exact ⟨k + 1, by omega, by go_num, HOq.out, HBq.out⟩
              case measure => simp [intOf]; omega
        · have dz : (ez == 0) = false := by simp [qz]
          clear qz
          by_cases hm : z ∈ G
          · have HHas := Lib.hid (Kr.hasInt_b Ag cg G z true wr hIg (decide_eq_true hm))
            rw [if_pos hm] at HG
            clear hm hIg hgl
            generalize G.length = gl at *
            go_wp2_with fail
            refine HHas.out.mono ?_
            rintro e w7 ⟨rfl, rfl⟩
            go_wp2
            go_quiet (fail)
            have HBq : Hid (Below w3.heap.size w3 (w7.drewN nq)) := Lib.hid (bel_drewN HB.out _)
            have HOq : Hid (OwnI (w7.drewN nq) w3.heap.size (.slice Ag gl cg) (gat [] (xs.take (k + 1)))) := Lib.hid (by rw [HG.out]; exact own_bel HO.out (bel_drewN (Below.refl _ _) _))
            generalize w7.drewN nq = wq at *
            go_wp2
            go_roundw
            case rel => exact ⟨k + 1, by omega, by go_num, HOq.out, HBq.out⟩
            case measure => simp [intOf]; omega
          · have HHas := Lib.hid (Kr.hasInt_b Ag cg G z false wr hIg (decide_eq_false hm))
            rw [if_neg hm] at HG
            clear hm hIg
            have HGl : Hid (G.length ≤ 1000) := Lib.hid (by omega)
            generalize hGn : G.length = gl at *
            have HGn := Lib.hid hGn
            clear hGn
            go_wp2_with fail
            refine HHas.out.mono ?_
            rintro e w7 ⟨rfl, rfl⟩
            go_wp2_with (first
              | (at_builtin; refine wpList_append_lies1 rfl _ _ rfl w3.heap.size _ G rfl HO.out z _ rfl (by rw [HGn.out]; exact HGl.out) HB.out.size ?_)
              | go_in)
            intro g cap w8 h3 h4 h5
            have HB8 := Lib.hid ((bel_al HB.out HB.out.size _).grown h4 (Nat.le_trans HB.out.size (by simp)) (fun q hq => (HO.out.lt q hq).1))
            have HO8 : Hid (OwnI w8 w3.heap.size (.slice (some ⟨g, 0, none⟩) (G.length + 1) cap) (gat [] (xs.take (k + 1)))) := Lib.hid (by rw [HG.out]; exact h3)
            clear h3 h4 h5 e3
            go_wp2
            go_quiet (fail)
            have HBq : Hid (Below w3.heap.size w3 (w8.drewN nq)) := Lib.hid (bel_drewN HB8.out _)
            have HOq : Hid (OwnI (w8.drewN nq) w3.heap.size (.slice (some ⟨g, 0, none⟩) (G.length + 1) cap) (gat [] (xs.take (k + 1)))) := Lib.hid (own_bel HO8.out (bel_drewN (Below.refl _ _) _))
            generalize w8.drewN nq = wq at *
            go_wp2
            go_roundw
            case rel => exact ⟨k + 1, by omega, by go_num, HOq.out, HBq.out⟩
            case measure => simp [intOf]; omega
      · obtain rfl : k = n := by omega
        have HTk : Hid (xs.take k = xs) := Lib.hid (List.take_of_length_le (by rw [HN.out]; exact Nat.le_refl _))
        rw [HTk.out, ] at ho
        obtain ⟨Ag, cg, rfl, -⟩ := ints_of_own ho
        have HB := Lib.hid hb
        have d1 : ((fv : Int) == ((gat [] xs).length : Int)) = true := by rw [HFv.out]; simp
        clear ho hb hlt
        generalize (gat [] xs).length = gl at *
        go_wp2
        go_ret
        exact ⟨rfl, HB3.out.trans (HB.out.mono HB3.out.size)⟩
  · have d0 : (t != 0) = true := by simp [q0]
    have hf0 := HFb.out q0
    have d1 : (ez != 0) = true := by have := HWb.out q0; simp [this]
    subst hf0
    clear q0 ht
    go_wp2
    go_ret
    exact ⟨rfl, HB3.out⟩

end Go.Proofs.Ytgdklpgmoanfkaa.Wst
