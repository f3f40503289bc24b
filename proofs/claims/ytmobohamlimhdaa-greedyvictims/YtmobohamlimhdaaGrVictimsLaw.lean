/-
  GreedyVictims.
-/
import Derived.Test.YtmobohamlimhdaaGrBegun
import Derived.Test.YtmobohamlimhdaaGrFacts
import Derived.Test.YtmobohamlimhdaaKeysRef
namespace Go.Proofs.Ytmobohamlimhdaa.Grd
open Go.RowKit
open Lru (isK)
set_option linter.unusedVariables false
set_option maxRecDepth 100000

/-! ### Facts about the evicted items -/
/-- The worth of the item ahead of place i. -/
def la (G : List It) (i : Nat) : Int := if i = 0 then 0 else (gt G (i - 1)).worth
theorem gt_cons (u : It) (G : List It) (i : Nat) : gt (u :: G) (i + 1) = gt G i := by simp [gt]
theorem up_at : ∀ {G : List It} {a : Int} {i : Nat}, up a G → i < G.length → (if i = 0 then a else (gt G (i - 1)).worth) ≤ (gt G i).worth
  | [], a, i, _, h => by simp at h
  | u :: G, a, 0, h, _ => h.1
  | u :: G, a, 1, h, hi => by
    have := up_at (G := G) (a := u.worth) (i := 0) h.2 (by simp at hi ⊢; omega)
    simpa [gt] using this
  | u :: G, a, i + 2, h, hi => by
    have := up_at (G := G) (a := u.worth) (i := i + 1) h.2 (by simp at hi ⊢; omega)
    simpa [gt] using this
theorem lastW_at : ∀ {G : List It} {a : Int}, lastW a G = if G.length = 0 then a else (gt G (G.length - 1)).worth
  | [], a => rfl
  | u :: G, a => by
    show lastW u.worth G = _
    rw [lastW_at]
    cases G with
    | nil => simp [gt]
    | cons v G => simp [gt]
theorem key_inj {L : List It} (h : (keys L).Nodup) {i j : Nat} (hi : i < L.length) (hj : j < L.length) (e : (gt L i).key = (gt L j).key) : i = j := by
  have hi' : i < (keys L).length := by simpa [keys] using hi
  have hj' : j < (keys L).length := by simpa [keys] using hj
  refine (List.getElem_inj (h₀ := hi') (h₁ := hj') h).1 ?_
  rw [gt_get hi, gt_get hj] at e
  simpa [keys] using e
theorem mem_inj {L : List It} (h : (keys L).Nodup) {u v : It} (hu : u ∈ L) (hv : v ∈ L) (e : u.key = v.key) : u = v := by
  obtain ⟨i, hi, rfl⟩ := List.getElem_of_mem hu
  obtain ⟨j, hj, rfl⟩ := List.getElem_of_mem hv
  have := key_inj h hi hj (by rw [gt_get hi, gt_get hj]; exact e)
  subst this; rfl
theorem tch_miss {r fl : Int} {L : List It} {t : It} (g : Good r fl L) (ht : okI t) (hm : ¬ t.key ∈ keys L) :
    up fl (tch r fl L t).gone ∧ (tch r fl L t).floor = lastW fl (tch r fl L t).gone ∧ (∀ u ∈ (tch r fl L t).gone, u ∈ L) ∧ ∀ u ∈ L, u.key ∈ keys (tch r fl L t).gone ∨ (tch r fl L t).floor ≤ u.worth := by
  unfold tch
  rw [if_neg hm]
  by_cases h2 : r < t.size
  · rw [if_pos h2]
    exact ⟨trivial, rfl, by simp, fun u hu => .inr (g.items u hu).2.1⟩
  · rw [if_neg h2]
    obtain ⟨a1, a2, a3, a4, a5, a6, a7, a8, a9, a10⟩ := evs_spec (r := r) (z := t.size) (by omega) (f := L.length) (fl := fl) (Nat.le_refl _) g
    refine ⟨a4, a5, a9, fun u hu => ?_⟩
    rcases (a7 u.key).1 (List.mem_map.2 ⟨u, hu, rfl⟩) with h | h
    · exact .inl h
    · obtain ⟨v, hv, e⟩ := List.mem_map.1 h
      have := mem_inj g.once (a6.mem hv) hu e
      subst this
      exact .inr (a1.items v hv).2.1

/-! ### The law's own function -/
set_option maxHeartbeats 4000000 in
theorem worth_any (p : Nat) (r fl : Int) (A : Option Addr) (n c : Nat) (L : List It) (x : Int) (k : Nat) (w : World) (hv : VK w p r fl A n c L) (hk : k < L.length) (hx : (gt L k).key = x) (hf : ∀ j, j < k → (gt L j).key ≠ x) :
    Calls Try.prog 19 #[.int .i64 x, .pointer (some ⟨p, 0, none⟩)] w fun e w' => e = .returned (.int .i64 (gt L k).worth) ∧ w = w' := by
  obtain ⟨b, o, rfl, -, -, -, -⟩ := hv.things.us hk
  obtain ⟨x0, x1, x2⟩ := hv.box.cells
  have HV := Lib.hid hv
  have HF := Lib.hid hf
  have HX := Lib.hid hx
  have HN := Lib.hid hv.len
  have hkn : k < n := by rw [← hv.len]; exact hk
  have hn : n ≤ 9223372036854775807 := by rw [← hv.len]; exact hv.things.len
  clear hv hf hx hk
  go_enter Try.func19, Try.ntmps19
  go_wp2
  go_loopw [4] (fun i wr => ∃ j : Nat, j ≤ k ∧ i = .int .i64 (j : Int) ∧ w = wr) (fun i _ => k - (intOf i).toNat)
  case atStart => exact ⟨0, by omega, rfl, rfl⟩
  case round =>
    obtain ⟨j, hj, rfl, rfl⟩ := hrel
    have hjn : (j : Int) < (n : Int) := by omega
    have hj0 : (0 : Int) ≤ (j : Int) := by omega
    obtain ⟨b', o', e, e1, -, -, e4⟩ := HV.out.things.us (k := j) (by rw [HN.out]; omega)
    cases e
    by_cases hjk : j = k
    · subst hjk
      rw [HX.out] at e1
      go_wp2
      go_ret
      exact ⟨rfl, rfl⟩
    · have hlt : j < k := by omega
      have hne := HF.out j hlt
      have q : ((gt L j).key == x) = false := by simpa using hne
      generalize (gt L j).key = y at *
      clear hne
      go_wp2
      go_roundw
      case rel => exact ⟨j + 1, by omega, by go_num, by first | rfl | trivial⟩
      case measure => simp [intOf]; omega

set_option maxHeartbeats 20000000 in
theorem greedyVictims_walk (r fl : Int) (A : Option Addr) (c : Nat) (L : List It) (t : It) (w : World) (hT : Tss w A c L) :
    Calls Try.prog 5 #[kv r fl (.slice A L.length c), fv t] w fun e w' => e = .returned (.bool true) ∧ Below w.heap.size w w' := by
  have hV0 : VK ((w.alloc (ko r fl (.slice A L.length c))).alloc (fo t)) w.heap.size r fl A L.length c L := (VK.new hT rfl).below (bel_al (Below.refl _ _) (Nat.le_refl _) _)
  have hI0 : Ib ((w.alloc (ko r fl (.slice A L.length c))).alloc (fo t)) (w.heap.size + 1) t := by
    have := Ib.new (w.alloc (ko r fl (.slice A L.length c))) t
    rwa [show (w.alloc (ko r fl (.slice A L.length c))).heap.size = w.heap.size + 1 by simp] at this
  have HV0 := Lib.hid hV0
  have HI0 := Lib.hid hI0
  have HB0 : Hid (Below w.heap.size w ((w.alloc (ko r fl (.slice A L.length c))).alloc (fo t))) := Lib.hid (bel_al (bel_al (Below.refl _ _) (Nat.le_refl _) _) (by simp) _)
  have HAc := Lib.hid (access_any r fl A c L t _ hV0.things)
  have HEr := Lib.hid (acE_zero (r := r) (fl := fl) (L := L) (t := t))
  have HBad := Lib.hid (ac_bad (r := r) (fl := fl) (L := L) (t := t))
  have HGood := Lib.hid (ac_good (r := r) (fl := fl) (L := L) (t := t))
  have HMiss := Lib.hid (tch_miss (r := r) (fl := fl) (L := L) (t := t))
  have HHit := Lib.hid (tch_hit (r := r) (fl := fl) (L := L) (t := t))
  obtain ⟨x0, x1, x2⟩ := hV0.box.cells
  obtain ⟨i0, i1, i2, i3⟩ := hI0.cells
  clear hT hV0 hI0
  unfold AR at HAc
  obtain ⟨M, hM⟩ : ∃ M, acL r fl L t = M := ⟨_, rfl⟩
  obtain ⟨G, hG⟩ : ∃ G, acG r fl L t = G := ⟨_, rfl⟩
  obtain ⟨R', hR⟩ : ∃ R', acR r fl L t = R' := ⟨_, rfl⟩
  obtain ⟨F', hF⟩ : ∃ F', acF r fl L t = F' := ⟨_, rfl⟩
  obtain ⟨H', hH⟩ : ∃ H', acH r fl L t = H' := ⟨_, rfl⟩
  obtain ⟨E', hE⟩ : ∃ E', acE r fl L t = E' := ⟨_, rfl⟩
  obtain ⟨lm, hlm⟩ : ∃ lm, M.length = lm := ⟨_, rfl⟩
  obtain ⟨lg, hlg⟩ : ∃ lg, G.length = lg := ⟨_, rfl⟩
  obtain ⟨n, hn⟩ : ∃ n, L.length = n := ⟨_, rfl⟩
  simp only [hM, hG, hR, hF, hH, hE] at HAc HEr HBad HGood
  simp only [hlm, hlg] at HAc
  have HLM := Lib.hid hlm
  have HLG := Lib.hid hlg
  have HLN := Lib.hid hn
  rw [hn] at HV0 HI0 HB0 HAc x0 x1 x2 i0 i1 i2 i3 ⊢
  clear hM hG hR hF hH hE hlm hlg hn
  obtain ⟨ky, sz, co, wo⟩ := t
  dsimp only at i0 i1 i2 i3
  go_enter Try.func5, Try.ntmps5
  go_wp2_with fail
  refine HAc.out.mono ?_
  rintro e w1 ⟨A1, c1, B1, d1, rfl, ht1, hi1, -, -, hb1⟩
  have HX1 : Hid (VK (w1.alloc (ko R' F' (.slice A1 lm c1))) w1.heap.size R' F' A1 lm c1 M) := Lib.hid (VK.new ht1 HLM.out)
  have HI1 : Hid (Ints (w1.alloc (ko R' F' (.slice A1 lm c1))) B1 d1 G) := Lib.hid (hi1.alloc _)
  have HV1 := Lib.hid ((HV0.out.below hb1).below (bel_al (Below.refl _ _) (Nat.le_refl _) (ko R' F' (.slice A1 lm c1))))
  have hb1' : Below w.heap.size w w1 := HB0.out.trans (hb1.mono HB0.out.size)
  have HB1 : Hid (Below w.heap.size w (w1.alloc (ko R' F' (.slice A1 lm c1)))) := Lib.hid (bel_al hb1' hb1'.size _)
  clear hb1 hb1' ht1 hi1 HV0 HI0 HB0 HAc x0 x1 x2 i0 i1 i2 i3
  go_wp2_with fail
  obtain ⟨p, hp⟩ : ∃ p, p = w1.heap.size := ⟨_, rfl⟩
  rw [← hp] at HX1 ⊢
  clear hp
  generalize w1.alloc (ko R' F' (.slice A1 lm c1)) = w2 at *
  refine (begun_any _).mono ?_
  rintro e w3 ⟨rfl, hb3⟩
  have HX3 := Lib.hid (HX1.out.below hb3)
  have HI3 := Lib.hid (HI1.out.below hb3)
  have HV3 := Lib.hid (HV1.out.below hb3)
  have HB3 : Hid (Below w.heap.size w w3) := Lib.hid (HB1.out.trans (hb3.mono HB1.out.size))
  clear hb3 HX1 HI1 HV1 HB1
  by_cases hz : E' = 0
  · have q : (E' != 0) = false := by simpa using hz
    have hgk := HEr.out.1 hz
    obtain ⟨g1, g2, g3, g4, g5⟩ := HGood.out hz
    by_cases hh : ky ∈ keys L
    · have h1 : H' = true := by rw [g4]; simpa using hh
      have h2 : lg = 0 := by rw [← HLG.out, g5, HHit.out hh]; rfl
      subst h1; subst h2
      clear g1 g2 g3 g4 g5 hz hgk HHit HMiss HGood HBad HEr
      go_wp2
      go_ret
      exact ⟨rfl, HB3.out⟩
    · have h1 : H' = false := by rw [g4]; simpa using hh
      obtain ⟨m1, m2, m3, m4⟩ := HMiss.out hgk.1 hgk.2 hh
      rw [← g2] at m2 m4
      generalize (tch r fl L ⟨ky, sz, co, wo⟩).gone = GL at *
      have hgl : GL.length = lg := by rw [← HLG.out, g5]; simp [keys]
      have hfl0 : 0 ≤ fl := hgk.1.floor.1
      -- the evicted keys in order
      have HK : Hid (∀ i, i < lg → ∃ k, k < L.length ∧ (gt L k).key = gi G i ∧ (∀ j, j < k → (gt L j).key ≠ gi G i) ∧ (gt L k).worth = la GL (i + 1) ∧ la GL i ≤ la GL (i + 1)) := Lib.hid (fun i hi => by
        have hil : i < GL.length := by rw [hgl]; exact hi
        have hu := m3 _ (gt_mem hil)
        obtain ⟨k, hk, e⟩ := List.getElem_of_mem hu
        have ek : gt L k = gt GL i := by rw [gt_get hk, e]
        have eg : gi G i = (gt GL i).key := by
          rw [g5, gt_get hil]
          unfold gi keys
          rw [List.getD_eq_getElem?_getD, List.getElem?_map, List.getElem?_eq_getElem hil]
          rfl
        refine ⟨k, hk, by rw [ek, eg], fun j hj e2 => ?_, by rw [ek]; rfl, ?_⟩
        · have := key_inj hgk.1.once (i := j) (j := k) (by omega) hk (by rw [e2, eg, ek])
          omega
        · have := up_at m1 hil
          unfold la
          by_cases h0 : i = 0
          · subst h0; simp at this ⊢; omega
          · rw [if_neg h0] at this ⊢; simpa using this)
      have HW : Hid (∀ j, j < L.length → (gt L j).key ∈ G ∨ la GL lg ≤ (gt L j).worth) := Lib.hid (fun j hj => by
        rcases m4 _ (gt_mem hj) with h | h
        · exact .inl (by rw [g5]; exact h)
        · right
          rw [m2, lastW_at, hgl] at h
          have hw := (hgk.1.items _ (gt_mem hj)).2.1
          unfold la
          by_cases h0 : lg = 0
          · rw [if_pos h0]; omega
          · rw [if_neg h0] at h ⊢; exact h)
      have HFl : Hid ((lg = 0 → F' = fl) ∧ (0 < lg → F' = la GL lg)) := Lib.hid (by
        rw [m2, lastW_at, hgl]
        refine ⟨fun h => by rw [if_pos h], fun h => ?_⟩
        unfold la
        rw [if_neg (by omega), if_neg (by omega)])
      have hla0 : la GL 0 = 0 := rfl
      subst h1
      have hl40 : n ≤ 40 := by rw [← HLN.out]; exact hgk.1.few
      have hg40 : lg ≤ 9223372036854775807 := by rw [← HLG.out]; have := HI3.out.1; have := HI3.out.2.1; unfold maxLen at this; omega
      have HGs := Lib.hid (fun (x : Int) (W : World) (hW : Ints W B1 d1 G) => Kr.hasInt_b B1 d1 G x _ W hW rfl)
      rw [HLG.out] at HGs
      clear g1 g2 g3 g4 g5 hz hgk hh m1 m2 m3 m4 hgl hfl0 HHit HMiss HGood HBad HEr
      go_wp2_with fail
      go_loopw [10, 11] (fun s10 s11 wr => ∃ i : Nat, i ≤ lg ∧ s11 = .int .i64 (i : Int) ∧ s10 = .int .i64 (la GL i) ∧ w3 = wr) (fun _ s11 _ => lg - (intOf s11).toNat)
      case atStart => exact ⟨0, by omega, rfl, rfl, rfl⟩
      case round =>
        rename World => wr
        obtain ⟨i, hi, rfl, rfl, rfl⟩ := hrel
        by_cases hlt : i < lg
        · have hin : (i : Int) < (lg : Int) := by omega
          have hi0 : (0 : Int) ≤ (i : Int) := by omega
          obtain ⟨k, hk, hky, hkf, hkw, hup⟩ := HK.out i hlt
          have HC := Lib.hid (worth_any _ _ _ _ _ _ L (gi G i) k _ HV3.out hk hky hkf)
          rw [hkw] at HC
          obtain ⟨b, o, rfl, ht⟩ := HI3.out.2.2.2 (by rw [HLG.out]; omega)
          have e1 := ht.2 i (by rw [HLG.out]; omega)
          generalize gi G i = x at *
          have q2 : decide (la GL (i + 1) < la GL i) = false := by simp; omega
          obtain ⟨nx, hnx⟩ : ∃ nx, nx = la GL (i + 1) := ⟨_, rfl⟩
          have HNX := Lib.hid hnx
          rw [← hnx] at HC q2
          generalize la GL i = lv at *
          clear hk hky hkf hkw hup ht hnx
          go_wp2_with fail
          refine HC.out.mono ?_
          rintro e w5 ⟨rfl, rfl⟩
          go_wp2
          go_roundw
          case rel => exact ⟨i + 1, by omega, by go_num, by rw [HNX.out], by first | rfl | trivial⟩
          case measure => simp [intOf]; omega
        · obtain rfl : i = lg := by omega
          clear hlt hi
          obtain ⟨last, hlast⟩ : ∃ last, last = la GL i := ⟨_, rfl⟩
          have HL := Lib.hid hlast
          rw [← hlast] at HW HFl ⊢
          clear hlast
          go_wp2_with fail
          go_loopw [13] (fun s13 wr => ∃ j : Nat, j ≤ n ∧ s13 = .int .i64 (j : Int) ∧ w3 = wr) (fun s13 _ => n - (intOf s13).toNat)
          case atStart => exact ⟨0, by omega, rfl, rfl⟩
          case round =>
            rename World => wr
            obtain ⟨j, hj, rfl, rfl⟩ := hrel
            obtain ⟨x0, x1, x2⟩ := HV3.out.box.cells
            by_cases hlt : j < n
            · have hjn : (j : Int) < (n : Int) := by omega
              have hj0 : (0 : Int) ≤ (j : Int) := by omega
              have hjl : j < L.length := by rw [HLN.out]; exact hlt
              obtain ⟨b, o, rfl, e1, -, -, e4⟩ := HV3.out.things.us hjl
              have hw := HW.out j hjl
              have HC := Lib.hid (HGs.out (gt L j).key _ HI3.out)
              generalize (gt L j).key = x at *
              generalize (gt L j).worth = y at *
              by_cases hm : x ∈ G
              · rw [decide_eq_true hm] at HC
                clear hw hm hjl
                go_wp2_with fail
                refine HC.out.mono ?_
                rintro e w5 ⟨rfl, rfl⟩
                go_wp2
                go_roundw
                case rel => exact ⟨j + 1, by omega, by go_num, by first | rfl | trivial⟩
                case measure => simp [intOf]; omega
              · rw [decide_eq_false hm] at HC
                have q2 : decide (y < last) = false := by
                  have := hw.resolve_left hm
                  simp; omega
                clear hw hm hjl
                go_wp2_with fail
                refine HC.out.mono ?_
                rintro e w5 ⟨rfl, rfl⟩
                go_wp2
                go_roundw
                case rel => exact ⟨j + 1, by omega, by go_num, by first | rfl | trivial⟩
                case measure => simp [intOf]; omega
            · obtain rfl : j = n := by omega
              obtain ⟨y0, y1, y2⟩ := HX3.out.box.cells
              by_cases h0 : i = 0
              · subst h0
                have hf := HFl.out.1 rfl
                subst hf
                go_wp2
                go_ret
                exact ⟨rfl, HB3.out⟩
              · have q3 : ((i : Int) == 0) = false := by rw [beq_eq_false_iff_ne]; omega
                have q4 : decide ((0 : Int) < (i : Int)) = true := by simp; omega
                have hf := HFl.out.2 (by omega)
                subst hf
                go_wp2
                go_ret
                exact ⟨rfl, HB3.out⟩
  · have q : (E' != 0) = true := by simpa using hz
    obtain ⟨rfl, rfl, rfl, rfl, rfl⟩ := HBad.out hz
    have hlg : lg = 0 := HLG.out.symm
    subst hlg
    clear hz
    go_wp2
    go_ret
    exact ⟨rfl, HB3.out⟩

end Go.Proofs.Ytmobohamlimhdaa.Grd
