/-
  The reference: DeepAt, DeepHits.
-/
import Derived.Test.YtamgnndebokopaaDistM2
import Derived.Test.YtamgnndebokopaaTwoRows
import Derived.Test.YtamgnndebokopaaKeysRef
import Derived.BigQuiet
namespace Go.Proofs.Ytamgnndebokopaa.Dst
open Go.RowKit
open Two
set_option linter.unusedVariables false
set_option maxRecDepth 100000

/-- The last place ahead of i that holds y, as the loop seeks it. -/
theorem lastP_step {l : List Int} {y : Int} {i : Nat} : lastP l y (i + 1) = if gi l i = y then i + 1 else lastP l y i := rfl
theorem gat_part {l : List Int} {p k : Nat} (hp : p ≤ k) (hk : k < l.length) : gat [] (part l p (k + 1)) = if gi l k ∈ gat [] (part l p k) then gat [] (part l p k) else gat [] (part l p k) ++ [gi l k] := by
  rw [part_snoc hp hk, gat_snoc]
theorem part_self (l : List Int) (p : Nat) : part l p p = [] := by unfold part; rw [List.drop_of_length_le (by rw [List.length_take]; omega)]
theorem gat_le (l : List Int) (p k : Nat) : (gat [] (part l p k)).length ≤ k := by
  rw [gat_len]
  have h1 := uq_len_le (part l p k)
  unfold part at h1 ⊢
  rw [List.length_drop, List.length_take] at h1
  omega

set_option maxHeartbeats 4000000 in
theorem deepAt_any (A : Option Addr) (c : Nat) (L : List Int) (i : Nat) (w : World) (hI : Ints w A c L) (hi : i < L.length) (hl2 : L.length ≤ 400) :
    Calls Try.prog 12 #[.slice A L.length c, .int .i64 (i : Int)] w fun e w' => e = .returned (.int .i64 (dst L i : Int)) ∧ Below w.heap.size w w' := by
  have hl := hI.len
  obtain ⟨b, o, rfl, ht⟩ := hI.2.2.2 (by omega)
  have HI := Lib.hid hI
  have HBl := Lib.hid ht.1
  obtain ⟨y, hy⟩ : ∃ y, y = gi L i := ⟨_, rfl⟩
  have HY := Lib.hid hy
  have hciy := ht.2 i hi
  rw [← hy] at hciy
  have HCi := Lib.hid hciy
  obtain ⟨n, hn⟩ : ∃ n, L.length = n := ⟨_, rfl⟩
  have HN := Lib.hid hn
  rw [hn] at hl hi hl2 ⊢
  clear hI hn ht hy hciy
  have hii : (i : Int) < (n : Int) := by omega
  have hi0 : (0 : Int) ≤ (i : Int) := by omega
  have hwi : IntKind.i64.wrap ((i : Int) - 1) = (i : Int) - 1 := by rw [IntKind.wrap_i64]; omega
  go_enter Try.func12, Try.ntmps12
  go_wp2
  go_loopw [5] (fun s5 wr => ∃ k : Nat, k ≤ i ∧ s5 = .int .i64 ((k : Int) - 1) ∧ Hid (lastP L y i = lastP L y k) ∧ Hid (Below w.heap.size w wr)) (fun s5 _ => (intOf s5 + 1).toNat)
  case atStart => exact ⟨i, Nat.le_refl _, rfl, Lib.hid rfl, Lib.hid (Below.refl _ _)⟩
  case round =>
    obtain ⟨k, hk, rfl, HA, HB⟩ := hrel
    have e2 : wr.cell? ⟨b, o + i, none⟩ = some (.int .i64 y) := (HB.out.cell (p := ⟨b, _, none⟩) HBl.out).trans HCi.out
    have HBn := Lib.hid (fun q => bel_drewN HB.out q)
    cases k with
    | zero =>
      have q0 : decide ((0 : Int) ≤ ((0 : Nat) : Int) - 1) = false := by decide
      have q1 : decide (((0 : Nat) : Int) - 1 < 0) = true := by decide
      have HD : Hid (dst L i = 0) := Lib.hid (by unfold dst; rw [← HY.out, HA.out]; rfl)
      generalize ((0 : Nat) : Int) - 1 = m1 at *
      go_wp2
      go_quiet (fail)
      go_wp2
      go_ret
      exact ⟨Lru.ret_int (by rw [HD.out]; rfl), HBn.out _⟩
    | succ k =>
      have hkL : k < L.length := by rw [HN.out]; omega
      have e1 : wr.cell? ⟨b, o + k, none⟩ = some (.int .i64 (gi L k)) := by
        obtain ⟨b', o', e, ht⟩ := (HI.out.below HB.out).2.2.2 (by omega)
        cases e
        exact ht.2 k hkL
      rw [show (((k + 1 : Nat) : Int) - 1) = (k : Int) by omega]
      have hin : (k : Int) < (n : Int) := by omega
      have hiB : (0 : Int) ≤ (k : Int) := by omega
      have q0 : decide ((0 : Int) ≤ (k : Int)) = true := by simp
      by_cases h : gi L k = y
      · have q : (gi L k != y) = false := by simpa using h
        have HP : Hid (lastP L y i = k + 1) := Lib.hid (by rw [HA.out, lastP_step, if_pos h])
        have HD : Hid (dst L i = (gat [] (part L k i)).length) := Lib.hid (by unfold dst; rw [← HY.out, HP.out])
        have q3 : decide ((k : Int) < 0) = false := by simp
        clear h
        generalize gi L k = x at *
        go_wp2
        go_quiet (fail)
        have HB1 := Lib.hid (HBn.out nq)
        generalize wr.drewN nq = w1 at *
        go_wp2
        go_loopw [6, 7] (fun s6 s7 wr => ∃ j : Nat, k ≤ j ∧ j ≤ i ∧ s7 = .int .i64 (j : Int) ∧ OwnI wr w.heap.size s6 (gat [] (part L k j)) ∧ Below w.heap.size w wr) (fun _ s7 _ => i - (intOf s7).toNat)
        case atStart => exact ⟨k, Nat.le_refl _, by omega, rfl, by rw [part_self]; exact own_none _ _, HB1.out⟩
        case round =>
          obtain ⟨j, hj1, hj2, rfl, ho, hb⟩ := hrel
          by_cases hlt : j < i
          · have hjL : j < L.length := by rw [HN.out]; omega
            obtain ⟨b', o', e, ht⟩ := (HI.out.below hb).2.2.2 (by omega)
            cases e
            have e3 := ht.2 j hjL
            have j1 : (j : Int) < (n : Int) := by omega
            have j2 : (0 : Int) ≤ (j : Int) := by omega
            have j3 : (j : Int) < (i : Int) := by omega
            have HG := Lib.hid (gat_part hj1 hjL)
            have hgl := gat_le L k j
            have HO := Lib.hid ho
            have HBr := Lib.hid hb
            obtain ⟨Ag, cg, rfl, hIg⟩ := ints_of_own ho
            clear ht ho hb e1 e2 hjL
            generalize gi L j = z at *
            generalize gat [] (part L k j) = G at *
            by_cases hm : z ∈ G
            · have HHas := Lib.hid (Kr.hasInt_b Ag cg G z true wr hIg (decide_eq_true hm))
              rw [if_pos hm] at HG
              clear hm hIg
              generalize G.length = gl at *
              go_wp2_with fail
              refine HHas.out.mono ?_
              rintro e w7 ⟨rfl, rfl⟩
              go_wp2
              go_roundw
              case rel => exact ⟨j + 1, by omega, by omega, by go_num, by rw [HG.out]; exact HO.out, HBr.out⟩
              case measure => simp [intOf]; omega
            · have HHas := Lib.hid (Kr.hasInt_b Ag cg G z false wr hIg (decide_eq_false hm))
              rw [if_neg hm] at HG
              clear hm hIg
              have HGl : Hid (G.length ≤ 1000) := Lib.hid (by omega)
              generalize hGn : G.length = gl at *
              have HGn := Lib.hid hGn
              clear hGn
              go_wp2_with fail
              refine HHas.out.mono ?_
              rintro e w7 ⟨rfl, rfl⟩
              go_wp2_with (first
                | (at_builtin; refine wpList_append_lies1 rfl _ _ rfl w.heap.size _ G rfl HO.out z _ rfl (by rw [HGn.out]; exact HGl.out) HBr.out.size ?_)
                | go_in)
              intro g cap w2 h3 h4 h5
              have HB2 := Lib.hid ((bel_al HBr.out HBr.out.size _).grown h4 (Nat.le_trans HBr.out.size (by simp)) (fun q hq => (HO.out.lt q hq).1))
              have HO2 : Hid (OwnI w2 w.heap.size (.slice (some ⟨g, 0, none⟩) (G.length + 1) cap) (gat [] (part L k (j + 1)))) := Lib.hid (by rw [HG.out]; exact h3)
              clear h3 h4 h5 e3
              go_wp2
              go_roundw
              case rel => exact ⟨j + 1, by omega, by omega, by go_num, HO2.out, HB2.out⟩
              case measure => simp [intOf]; omega
          · obtain rfl : j = i := by omega
            have j3 : ¬ (j : Int) < (j : Int) := by omega
            obtain ⟨Ag, cg, rfl, -⟩ := ints_of_own ho
            have HBr := Lib.hid hb
            clear ho hb e1 e2
            generalize (gat [] (part L k j)).length = gl at *
            go_wp2
            go_ret
            exact ⟨Lru.ret_int (by rw [HD.out]), HBr.out⟩
      · have q : (gi L k != y) = true := by simpa using h
        have HP : Hid (lastP L y i = lastP L y k) := Lib.hid (by rw [HA.out, lastP_step, if_neg h])
        have hwk : IntKind.i64.wrap ((k : Int) - 1) = (k : Int) - 1 := by rw [IntKind.wrap_i64]; omega
        clear h
        generalize gi L k = x at *
        go_wp2
        go_quiet (fail)
        go_wp2
        go_roundw
        case rel => exact ⟨k, by omega, rfl, HP, Lib.hid (HBn.out _)⟩
        case measure => simp only [intOf]; omega

set_option maxHeartbeats 4000000 in
theorem deepHits_any (A : Option Addr) (c : Nat) (L : List Int) (r : Nat) (w : World) (hI : Ints w A c L) (hl2 : L.length ≤ 400) :
    Calls Try.prog 13 #[.slice A L.length c, .int .i64 (r : Int)] w fun e w' => e = .returned (.int .i64 ((deps [] L).countP (within r) : Int)) ∧ Below w.heap.size w w' := by
  have HI := Lib.hid hI
  have HDe := Lib.hid (fun (k : Nat) (W : World) (hk : k < L.length) (hW : Below w.heap.size w W) => deepAt_any A c L k W (hI.below hW) hk hl2)
  obtain ⟨n, hn⟩ : ∃ n, L.length = n := ⟨_, rfl⟩
  have HN := Lib.hid hn
  rw [hn] at hl2 ⊢
  simp only [hn] at HDe
  clear hI hn
  go_enter Try.func13, Try.ntmps13
  go_wp2
  go_loopw [5, 6] (fun s5 s6 wr => ∃ k : Nat, k ≤ n ∧ s6 = .int .i64 (k : Int) ∧ s5 = .int .i64 ((dps L k).countP (within r) : Int) ∧ Below w.heap.size w wr) (fun _ i _ => n - (intOf i).toNat)
  case atStart => exact ⟨0, by omega, rfl, rfl, Below.refl _ _⟩
  case round =>
    obtain ⟨k, hk, rfl, rfl, hb⟩ := hrel
    have HB := Lib.hid hb
    clear hb
    by_cases hlt : k < n
    · have hin : (k : Int) < (n : Int) := by omega
      have HD := Lib.hid (HDe.out k wr hlt HB.out)
      have HS : Hid ((dps L (k + 1)).countP (within r) = (dps L k).countP (within r) + (if within r (dst L k) = true then 1 else 0)) := Lib.hid (by rw [dps_succ, List.countP_append, List.countP_singleton])
      have hcl := List.countP_le_length (p := within r) (l := dps L k)
      rw [dps_len] at hcl
      have hw1 : IntKind.i64.wrap (((dps L k).countP (within r) : Int) + 1) = ((dps L k).countP (within r) : Int) + 1 := by rw [IntKind.wrap_i64]; omega
      generalize (dps L k).countP (within r) = cc at *
      generalize hdd : dst L k = dd at *
      by_cases h1 : 0 < dd
      · have p1 : decide ((0 : Int) < (dd : Int)) = true := by simp; omega
        have p1' : decide (0 < dd) = true := by simp; omega
        by_cases h2 : dd ≤ r
        · have p2 : decide ((dd : Int) ≤ (r : Int)) = true := by simp; omega
          have p2' : decide (dd ≤ r) = true := by simp; omega
          rw [if_pos (by unfold within; simp; omega)] at HS
          clear h1 h2 hdd hcl
          go_wp2_with fail
          refine HD.out.mono ?_
          rintro e w4 ⟨rfl, hb4⟩
          have HB4 : Hid (Below w.heap.size w w4) := Lib.hid (HB.out.trans (hb4.mono HB.out.size))
          clear hb4
          go_wp2
          go_roundw
          case rel => exact ⟨k + 1, by omega, by go_num, by rw [HS.out]; go_num, HB4.out⟩
          case measure => simp [intOf]; omega
        · have p2 : decide ((dd : Int) ≤ (r : Int)) = false := by simp; omega
          have p2' : decide (dd ≤ r) = false := by simp; omega
          rw [if_neg (by unfold within; simp; omega)] at HS
          clear h1 h2 hdd hcl
          go_wp2_with fail
          refine HD.out.mono ?_
          rintro e w4 ⟨rfl, hb4⟩
          have HB4 : Hid (Below w.heap.size w w4) := Lib.hid (HB.out.trans (hb4.mono HB.out.size))
          clear hb4
          go_wp2
          go_roundw
          case rel => exact ⟨k + 1, by omega, by go_num, by rw [HS.out]; rfl, HB4.out⟩
          case measure => simp [intOf]; omega
      · have p1 : decide ((0 : Int) < (dd : Int)) = false := by simp; omega
        have p1' : decide (0 < dd) = false := by simp; omega
        rw [if_neg (by unfold within; simp; omega)] at HS
        clear h1 hdd hcl
        go_wp2_with fail
        refine HD.out.mono ?_
        rintro e w4 ⟨rfl, hb4⟩
        have HB4 : Hid (Below w.heap.size w w4) := Lib.hid (HB.out.trans (hb4.mono HB.out.size))
        clear hb4
        go_wp2
        go_roundw
        case rel => exact ⟨k + 1, by omega, by go_num, by rw [HS.out]; rfl, HB4.out⟩
        case measure => simp [intOf]; omega
    · obtain rfl : k = n := by omega
      have HE : Hid ((dps L k).countP (within r) = (deps [] L).countP (within r)) := Lib.hid (by rw [← HN.out, dps_all])
      go_wp2
      go_ret
      exact ⟨Lru.ret_int (by rw [HE.out]), HB.out⟩

end Go.Proofs.Ytamgnndebokopaa.Dst
