/-
  The walk of the law on the evicted key.
-/
import Derived.Test.YtdliacdmoeogcaaLfuBegun
namespace Go.Proofs.Ytdliacdmoeogcaa.Lfu
open Go.RowKit
open Lru (isRm isK keysE keysE_zero traceE trace_zero)
set_option linter.unusedVariables false
set_option maxRecDepth 100000

/-! ### The facts -/
theorem mem_rem {L : List Us} {k : Nat} {y : Int} (h : k < L.length) (hn : (keys L).Nodup) : y ∈ keys (rem L k) ↔ y ∈ keys L ∧ y ≠ (gu L k).key := by
  rw [rem_filter h hn, mem_keys, mem_keys]
  constructor
  · rintro ⟨u, hu, rfl⟩
    rw [List.mem_filter] at hu
    exact ⟨⟨u, hu.1, rfl⟩, by simpa using hu.2⟩
  · rintro ⟨⟨u, hu, rfl⟩, h2⟩
    exact ⟨u, List.mem_filter.2 ⟨hu, by simpa using h2⟩, rfl⟩
/-- What the first loop of the law finds: the count of the last element with a key, and whether there is one. -/
def lst (L : List Us) (g : Int) : Nat → Int × Bool
  | 0 => (0, false)
  | k + 1 => if (gu L k).key = g then ((gu L k).cnt, true) else lst L g k
theorem lst_true {L : List Us} {g : Int} : ∀ {n : Nat}, (lst L g n).2 = true → ∃ i, i < n ∧ (gu L i).key = g ∧ (gu L i).cnt = (lst L g n).1
  | 0, h => by cases h
  | n + 1, h => by
    unfold lst at h ⊢
    by_cases e : (gu L n).key = g
    · rw [if_pos e]; exact ⟨n, by omega, e, rfl⟩
    · rw [if_neg e] at h ⊢
      obtain ⟨i, h1, h2, h3⟩ := lst_true h
      exact ⟨i, by omega, h2, h3⟩
theorem lst_false {L : List Us} {g : Int} : ∀ {n : Nat}, (lst L g n).2 = false → ∀ i, i < n → (gu L i).key ≠ g
  | 0, h, i, hi => by omega
  | n + 1, h, i, hi => by
    unfold lst at h
    by_cases e : (gu L n).key = g
    · rw [if_pos e] at h; cases h
    · rw [if_neg e] at h
      rcases Nat.lt_or_ge i n with a | a
      · exact lst_false h i a
      · obtain rfl : i = n := by omega
        exact e
theorem key_inj {L : List Us} (hn : (keys L).Nodup) {i j : Nat} (hi : i < L.length) (hj : j < L.length) (h : (gu L i).key = (gu L j).key) : i = j := by
  rw [← keys_get hi, ← keys_get hj] at h
  exact (List.getElem_inj hn).1 h
theorem ac_zero {r : Int} {F : List Us} {x : Int} (e : acE r F x = 0) : Good r F ∧ isK x := by
  unfold acE at e
  split at e
  · split at e
    · exact ⟨check_zero.1 (by assumption), by assumption⟩
    · cases e
  · exact absurd e (by assumption)
theorem victim_facts {r : Int} {F : List Us} {x : Int} (e : acE r F x = 0) : acR r F x = r ∧ checkK r (acF r F x) = 0 ∧ 0 < (acF r F x).length ∧ (gu (acF r F x) 0).key = x ∧
    (lst F (acG r F x) F.length).2 = decide (0 ≤ acG r F x) ∧ ((lst F (acG r F x) F.length).2 = true → ∀ i, i < F.length → ¬ (gu F i).cnt < (lst F (acG r F x) F.length).1) ∧
    (∀ i, i < F.length → (decide ((gu F i).key ∈ keys (acF r F x)) == ((gu F i).key == acG r F x)) = false) ∧ (acH r F x = true → acG r F x = -1) := by
  obtain ⟨g, hx⟩ := ac_zero e
  unfold acR acF acG acH
  rw [if_pos e, if_pos e, if_pos e, if_pos e]
  have hk : ∀ i, i < F.length → 0 ≤ (gu F i).key := fun i hi => (g.keys _ (keys_mem hi)).1
  have hg := check_zero.2 (tch_good g hx)
  by_cases h1 : x ∈ keys F
  · obtain ⟨k1, k2⟩ := idx_key h1
    have hgo : gone r F x = -1 := by unfold gone; rw [if_pos h1]
    have hl : (lst F (-1) F.length).2 = false := by
      cases h : (lst F (-1) F.length).2 with
      | false => rfl
      | true =>
        obtain ⟨i, hi, h2, -⟩ := lst_true h
        have := hk i hi
        omega
    rw [hgo, hl]
    refine ⟨rfl, hg, ?_, ?_, by decide, fun h => by simp at h, fun i hi => ?_, fun _ => rfl⟩
    · rw [tch_hit h1]; simp
    · rw [tch_hit h1]; rfl
    · have a1 : (gu F i).key ∈ keys (tch r F x) := by
        rw [tch_hit h1, keys_cons]
        by_cases hy : (gu F i).key = x
        · rw [hy]; simp
        · exact List.mem_cons_of_mem _ ((mem_rem k1 g.once).2 ⟨keys_mem hi, by rw [k2]; exact hy⟩)
      have a2 : ((gu F i).key == -1) = false := by have := hk i hi; exact beq_eq_false_iff_ne.2 (by omega)
      rw [a2, show decide ((gu F i).key ∈ keys (tch r F x)) = true by simpa using a1]; rfl
  · by_cases h2 : (F.length : Int) = r
    · have hr1 := g.room.1
      have h0 : 0 < F.length := by omega
      have hv := vicN_lt h0
      have hgo : gone r F x = (gu F (vicN F)).key := by unfold gone; rw [if_neg h1, if_pos h2]
      have hl : (lst F (gu F (vicN F)).key F.length).2 = true := by
        cases h : (lst F (gu F (vicN F)).key F.length).2 with
        | true => rfl
        | false => exact absurd rfl (lst_false h _ hv)
      rw [hgo, hl]
      refine ⟨rfl, hg, ?_, ?_, ?_, fun _ i hi => ?_, fun i hi => ?_, fun h => absurd (of_decide_eq_true h) h1⟩
      · rw [tch_full h1 h2]; simp
      · rw [tch_full h1 h2]; rfl
      · have := hk _ hv; exact (decide_eq_true this).symm
      · obtain ⟨j, hj, e1, e2⟩ := lst_true hl
        have := key_inj g.once hj hv e1
        subst this
        rw [← e2]
        have : (gu F (vicN F)).cnt ≤ (gu F i).cnt := vic_le F F.length i hi
        omega
      · rw [tch_full h1 h2, keys_cons]
        by_cases hy : (gu F i).key = (gu F (vicN F)).key
        · rw [hy]
          have a1 : ¬ (gu F (vicN F)).key ∈ x :: keys (rem F (vicN F)) := by
            intro m
            rcases List.mem_cons.1 m with a | a
            · exact h1 (a ▸ keys_mem hv)
            · exact ((mem_rem hv g.once).1 a).2 rfl
          rw [show decide ((gu F (vicN F)).key ∈ x :: keys (rem F (vicN F))) = false by simpa using a1]
          simp
        · have a1 : (gu F i).key ∈ x :: keys (rem F (vicN F)) := List.mem_cons_of_mem _ ((mem_rem hv g.once).2 ⟨keys_mem hi, hy⟩)
          rw [show decide ((gu F i).key ∈ x :: keys (rem F (vicN F))) = true by simpa using a1, show ((gu F i).key == (gu F (vicN F)).key) = false by simpa using hy]; rfl
    · have hgo : gone r F x = -1 := by unfold gone; rw [if_neg h1, if_neg h2]
      have hl : (lst F (-1) F.length).2 = false := by
        cases h : (lst F (-1) F.length).2 with
        | false => rfl
        | true =>
          obtain ⟨i, hi, h2, -⟩ := lst_true h
          have := hk i hi
          omega
      rw [hgo, hl]
      refine ⟨rfl, hg, ?_, ?_, by decide, fun h => by simp at h, fun i hi => ?_, fun _ => rfl⟩
      · rw [tch_room h1 h2]; simp
      · rw [tch_room h1 h2]; rfl
      · have a1 : (gu F i).key ∈ keys (tch r F x) := by
          rw [tch_room h1 h2, keys_cons]
          exact List.mem_cons_of_mem _ (keys_mem hi)
        have a2 : ((gu F i).key == -1) = false := by have := hk i hi; exact beq_eq_false_iff_ne.2 (by omega)
        rw [a2, show decide ((gu F i).key ∈ keys (tch r F x)) = true by simpa using a1]; rfl
theorem bad_ac {r : Int} {F : List Us} {x : Int} (e : acE r F x ≠ 0) : (acF r F x).length = 0 := by unfold acF; rw [if_neg e]; rfl
theorem hk_succ {M : List Us} {y : Int} {k : Nat} (hk : k < M.length) : decide (y ∈ (keys M).take (k + 1)) = (decide (y ∈ (keys M).take k) || ((gu M k).key == y)) := by
  have e : (keys M).take (k + 1) = (keys M).take k ++ [(gu M k).key] := by
    rw [List.take_add_one, List.getElem?_eq_getElem (by rw [keys_len]; exact hk), keys_get hk]; rfl
  rw [e]
  generalize (gu M k).key = z
  by_cases h1 : y ∈ (keys M).take k
  · simp [h1]
  · by_cases h2 : z = y
    · simp [h2]
    · have : ¬ y = z := fun e => h2 e.symm
      simp [h1, h2, this]

set_option maxHeartbeats 20000000 in
theorem lfuVictim_walk (r : Int) (A : Option Addr) (c : Nat) (F : List Us) (x : Int) (w : World) (hI : Uss w A c F) :
    Calls Try.prog 4 #[kv r (.slice A F.length c), .int .i64 x] w fun e w' => e = .returned (.bool true) ∧ Below w.heap.size w w' := by
  have X0 := Lib.hid (Kb.new w r (.slice A F.length c))
  have HB0 : Hid (Below w.heap.size w (w.alloc (ko r (.slice A F.length c)))) := Lib.hid (bel_al (Below.refl _ _) (Nat.le_refl _) _)
  have HI0 : Hid (Uss (w.alloc (ko r (.slice A F.length c))) A c F) := Lib.hid (hI.alloc _)
  have hlen := hI.len
  have HA := Lib.hid (access_any r A c F x _ HI0.out)
  unfold AR at HA
  clear hI
  by_cases q1 : acE r F x = 0
  · have HF := Lib.hid (victim_facts q1)
    have d1 : (acE r F x != 0) = false := by simp [q1]
    rw [HF.out.1] at HA
    replace HF := Lib.hid HF.out.2
    have HCk := Lib.hid (fun (B : Option Addr) (d : Nat) (W : World) (a : Uss W B d (acF r F x)) => check_any r B d (acF r F x) W a)
    rw [HF.out.1] at HCk
    replace HF := Lib.hid HF.out.2
    clear q1
    generalize acF r F x = M at *
    generalize acG r F x = g at *
    generalize acH r F x = ht at *
    generalize acE r F x = e1 at *
    obtain ⟨n, hn⟩ : ∃ n, F.length = n := ⟨_, rfl⟩
    obtain ⟨m, hm⟩ : ∃ m, M.length = m := ⟨_, rfl⟩
    have HN := Lib.hid hn
    have HM := Lib.hid hm
    rw [hn] at X0 HB0 HI0 hlen ⊢
    rw [hm] at HA
    rw [hn] at HA
    simp only [hm] at HCk
    clear hn hm
    obtain ⟨x1, x2, -, -⟩ := X0.out.cells
    go_enter Try.func4, Try.ntmps4
    go_wp2_with fail
    refine HA.out.mono ?_
    rintro e w1 ⟨B1, k1, rfl, hI1, -, hbb⟩
    have X1 := Lib.hid ((X0.out.below hbb).alloc (ko r (.slice B1 m k1)))
    have Y1 := Lib.hid (Kb.new w1 r (.slice B1 m k1))
    have I1 := Lib.hid (hI1.alloc (ko r (.slice B1 m k1)))
    have J1 := Lib.hid ((HI0.out.below hbb).alloc (ko r (.slice B1 m k1)))
    have hm63 := hI1.len
    rw [HM.out] at hm63
    have HB1 : Hid (Below w.heap.size w (w1.alloc (ko r (.slice B1 m k1)))) := Lib.hid (bel_al (HB0.out.trans (hbb.mono HB0.out.size)) (Nat.le_trans HB0.out.size hbb.size) _)
    clear hI1 hbb x1 x2
    go_wp2_with fail
    refine (begun_any _).mono ?_
    rintro e w3 ⟨rfl, hb3⟩
    have X3 := Lib.hid (X1.out.below hb3)
    have Y3 := Lib.hid (Y1.out.below hb3)
    have I3 := Lib.hid (I1.out.below hb3)
    have J3 := Lib.hid (J1.out.below hb3)
    have HB3 : Hid (Below w.heap.size w w3) := Lib.hid (HB1.out.trans (hb3.mono HB1.out.size))
    clear hb3
    generalize w1.heap.size = p1 at *
    go_wp2
    go_loopw [9, 10, 11] (fun s9 s10 s11 wr => ∃ k : Nat, k ≤ n ∧ s11 = .int .i64 (k : Int) ∧ s9 = .int .i64 (lst F g k).1 ∧ s10 = .bool (lst F g k).2 ∧ Hid (Below w3.heap.size w3 wr)) (fun _ _ s11 _ => n - (intOf s11).toNat)
    case atStart => exact ⟨0, by omega, rfl, rfl, rfl, Lib.hid (Below.refl _ _)⟩
    case round =>
      obtain ⟨k, hk, rfl, rfl, rfl, HBr⟩ := hrel
      have Xr := Lib.hid (X3.out.below HBr.out)
      obtain ⟨x1, x2, -, -⟩ := Xr.out.cells
      by_cases hlt : k < n
      · have hin : (k : Int) < (n : Int) := by omega
        have hiB : (0 : Int) ≤ (k : Int) := by omega
        have hkF : k < F.length := by rw [HN.out]; exact hlt
        obtain ⟨b, o, rfl, z1, z2⟩ := (J3.out.below HBr.out).us hkF
        have HL : Hid (lst F g (k + 1) = if (gu F k).key = g then ((gu F k).cnt, true) else lst F g k) := Lib.hid rfl
        generalize lst F g k = cc at *
        generalize gu F k = f at *
        obtain ⟨fx, fu⟩ := f
        dsimp only at z1 z2 HL
        by_cases hq : fx = g
        · rw [if_pos hq] at HL
          have q2 : (fx == g) = true := by simpa using hq
          clear hq
          go_wp2
          go_roundw
          case rel => exact ⟨k + 1, by omega, by go_num, by rw [HL.out], by rw [HL.out], HBr⟩
          case measure => simp [intOf]; omega
        · rw [if_neg hq] at HL
          have q2 : (fx == g) = false := by simpa using hq
          clear hq
          go_wp2
          go_roundw
          case rel => exact ⟨k + 1, by omega, by go_num, by rw [HL.out], by rw [HL.out], HBr⟩
          case measure => simp [intOf]; omega
      · obtain rfl : k = n := by omega
        obtain ⟨f1, f2, f3, f4, f5, f6⟩ := HF.out
        rw [HN.out] at f3 f4 f5
        have HF1 := Lib.hid f1
        have HF2 := Lib.hid f2
        have HF3 := Lib.hid f3
        have HF4 := Lib.hid f4
        have HF5 := Lib.hid f5
        have HF6 := Lib.hid f6
        generalize lst F g k = cc at *
        obtain ⟨ci, tb⟩ := cc
        dsimp only at HF3 HF4 f3 f4
        have HB5 : Hid (Below w.heap.size w wr) := Lib.hid (HB3.out.trans (HBr.out.mono HB3.out.size))
        have X5 := Lib.hid Xr.out
        have Y5 := Lib.hid (Y3.out.below HBr.out)
        have I5 := Lib.hid (I3.out.below HBr.out)
        have J5 := Lib.hid (J3.out.below HBr.out)
        clear f1 f2 f3 f4 f5 f6 HBr Xr hk hlt X3 Y3 I3 J3 HB3 HF
        generalize wr = w5 at *
        go_wp2
        clear x1 x2
        go_loopw [12] (fun s12 wr => ∃ i : Nat, i ≤ k ∧ s12 = .int .i64 (i : Int) ∧ Hid (Below w5.heap.size w5 wr)) (fun s12 _ => k - (intOf s12).toNat)
        case atStart => exact ⟨0, by omega, rfl, Lib.hid (Below.refl _ _)⟩
        case round =>
          obtain ⟨i, hi, rfl, HBr⟩ := hrel
          have Xr := Lib.hid (X5.out.below HBr.out)
          have Yr := Lib.hid (Y5.out.below HBr.out)
          have Ir := Lib.hid (I5.out.below HBr.out)
          have Jr := Lib.hid (J5.out.below HBr.out)
          obtain ⟨x1, x2, -, -⟩ := Xr.out.cells
          by_cases hlt : i < k
          · have hin : (i : Int) < (k : Int) := by omega
            have hiB : (0 : Int) ≤ (i : Int) := by omega
            have hiF : i < F.length := by rw [HN.out]; exact hlt
            obtain ⟨b, o, rfl, z1, z2⟩ := Jr.out.us hiF
            have HJi : Hid (∀ W, Below wr.heap.size wr W → W.cell? ⟨b, o + i * 2, none⟩ = some (.int .i64 (gu F i).key)) := Lib.hid (fun W hW => by
              obtain ⟨b', o', e, e1, -⟩ := (Jr.out.below hW).us hiF
              cases e
              exact e1)
            have HE5 := Lib.hid (HF5.out i hlt)
            have HT : Hid ((tb = true ∧ decide ((gu F i).cnt < ci) = false) ∨ tb = false) := Lib.hid (by
              cases h : tb with
              | true => exact .inl ⟨rfl, by simpa using HF4.out h i hlt⟩
              | false => exact .inr rfl)
            generalize gu F i = f at *
            obtain ⟨fx, fu⟩ := f
            dsimp only at z1 z2 HJi HE5 HT
            rcases HT.out with ⟨rfl, d2⟩ | rfl
            all_goals
              go_wp2
              clear x1 x2 z1 z2
              generalize wr = w6 at *
              go_loopw [13, 14] (fun s13 s14 wr => ∃ j : Nat, j ≤ m ∧ s14 = .int .i64 (j : Int) ∧ s13 = .bool (decide (fx ∈ (keys M).take j)) ∧ Hid (Below w6.heap.size w6 wr)) (fun _ s14 _ => m - (intOf s14).toNat)
              case atStart => exact ⟨0, by omega, rfl, by simp, Lib.hid (Below.refl _ _)⟩
              case round =>
                obtain ⟨j, hj, rfl, rfl, HBq⟩ := hrel
                obtain ⟨y1, y2, -, -⟩ := (Yr.out.below HBq.out).cells
                obtain ⟨x1, x2, -, -⟩ := (Xr.out.below HBq.out).cells
                by_cases hjm : j < m
                · have hjn : (j : Int) < (m : Int) := by omega
                  have hjB : (0 : Int) ≤ (j : Int) := by omega
                  have hjM : j < M.length := by rw [HM.out]; exact hjm
                  obtain ⟨b2, o2, rfl, z1, z2⟩ := (Ir.out.below HBq.out).us hjM
                  have z3 := HJi.out _ HBq.out
                  have HS := Lib.hid (hk_succ (y := fx) hjM)
                  generalize decide (fx ∈ (keys M).take j) = bb at *
                  generalize (gu M j).key = ky at *
                  clear hjM
                  cases bb
                  · go_wp2_with fail
                    go_quiet (fail)
                    have HB2 : Hid (Below w6.heap.size w6 (wr.drewN nq)) := Lib.hid (bel_drewN HBq.out _)
                    clear x1 x2 y1 y2 z1 z2 z3
                    generalize wr.drewN nq = w9 at *
                    go_wp2
                    go_roundw
                    case rel => exact ⟨j + 1, by omega, by go_num, by rw [HS.out]; simp, HB2⟩
                    case measure => simp [intOf]; omega
                  · go_wp2_with fail
                    go_quiet (fail)
                    have HB2 : Hid (Below w6.heap.size w6 (wr.drewN nq)) := Lib.hid (bel_drewN HBq.out _)
                    clear x1 x2 y1 y2 z1 z2 z3
                    generalize wr.drewN nq = w9 at *
                    go_wp2
                    go_roundw
                    case rel => exact ⟨j + 1, by omega, by go_num, by rw [HS.out]; simp, HB2⟩
                    case measure => simp [intOf]; omega
                · obtain rfl : j = m := by omega
                  rw [List.take_of_length_le (by rw [keys_len, HM.out]; exact Nat.le_refl _)]
                  have z3 := HJi.out _ HBq.out
                  have d5 := HE5.out
                  have HB2 : Hid (Below w5.heap.size w5 wr) := Lib.hid (HBr.out.trans (HBq.out.mono HBr.out.size))
                  generalize decide (fx ∈ keys M) = bb at *
                  go_wp2
                  go_roundw
                  case rel => exact ⟨i + 1, by omega, by go_num, HB2⟩
                  case measure => simp [intOf]; omega
          · obtain rfl : i = k := by omega
            obtain ⟨y1, y2, -, -⟩ := Yr.out.cells
            have HC1 := Lib.hid (HCk.out B1 k1 wr Ir.out)
            have HB6 : Hid (Below w.heap.size w wr) := Lib.hid (HB5.out.trans (HBr.out.mono HB5.out.size))
            have t3 := HF3.out.symm
            have hm0 := HF1.out
            rw [HM.out] at hm0
            have hmp : decide (0 < (m : Int)) = true := by simpa using hm0
            have HKy := Lib.hid HF2.out
            have HMl : Hid (0 < M.length) := Lib.hid (by rw [HM.out]; exact hm0)
            have HT : Hid ((ht = true ∧ (g == -1) = true) ∨ ht = false) := Lib.hid (by
              cases h : ht with
              | true => exact .inl ⟨rfl, by simpa using HF6.out h⟩
              | false => exact .inr rfl)
            rcases HT.out with ⟨rfl, d2⟩ | rfl
            all_goals
              go_wp2_with fail
              refine HC1.out.mono ?_
              rintro e w7 ⟨rfl, hb7⟩
              have HB7 : Hid (Below w.heap.size w w7) := Lib.hid (HB6.out.trans (hb7.mono HB6.out.size))
              obtain ⟨b2, o2, rfl, z1, -⟩ := (Ir.out.below hb7).us HMl.out
              rw [HKy.out] at z1
              rw [show o2 + 0 * 2 = o2 by omega] at z1
              have Y7 := Lib.hid (Yr.out.below hb7)
              clear hb7 y1 y2 x1 x2
              obtain ⟨y1, y2, -, -⟩ := Y7.out.cells
              go_wp2
              go_ret
              exact ⟨rfl, HB7.out⟩
  · have HE := Lib.hid (bad_ac q1)
    have d1 : (acE r F x != 0) = true := by simpa using q1
    rw [HE.out] at HA
    clear q1
    generalize acR r F x = R1 at *
    generalize acF r F x = M at *
    generalize acG r F x = g at *
    generalize acH r F x = ht at *
    generalize acE r F x = e1 at *
    obtain ⟨n, hn⟩ : ∃ n, F.length = n := ⟨_, rfl⟩
    rw [hn] at X0 HB0 HA ⊢
    clear hn
    obtain ⟨x1, x2, -, -⟩ := X0.out.cells
    go_enter Try.func4, Try.ntmps4
    go_wp2_with fail
    refine HA.out.mono ?_
    rintro e w1 ⟨B1, k1, rfl, hI1, -, hbb⟩
    have Y1 := Lib.hid (Kb.new w1 R1 (.slice B1 0 k1))
    have HB1 : Hid (Below w.heap.size w (w1.alloc (ko R1 (.slice B1 0 k1)))) := Lib.hid (bel_al (HB0.out.trans (hbb.mono HB0.out.size)) (Nat.le_trans HB0.out.size hbb.size) _)
    clear hI1 hbb x1 x2
    go_wp2_with fail
    refine (begun_any _).mono ?_
    rintro e w3 ⟨rfl, hb3⟩
    have Y3 := Lib.hid (Y1.out.below hb3)
    have HB3 : Hid (Below w.heap.size w w3) := Lib.hid (HB1.out.trans (hb3.mono HB1.out.size))
    clear hb3
    obtain ⟨y1, y2, -, -⟩ := Y3.out.cells
    go_wp2
    go_ret
    exact ⟨rfl, HB3.out⟩

end Go.Proofs.Ytdliacdmoeogcaa.Lfu
