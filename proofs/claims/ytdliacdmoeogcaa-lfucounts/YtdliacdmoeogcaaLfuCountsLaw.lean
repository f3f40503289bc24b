/-
  The walk of the law on the counts of keys that all fit.
-/
import Derived.Test.YtdliacdmoeogcaaLfuInts
namespace Go.Proofs.Ytdliacdmoeogcaa.Lfu
open Go.RowKit Go.Maps
open Lru (isRm isK keysE keysE_zero traceE trace_zero)
set_option linter.unusedVariables false
set_option maxRecDepth 100000

/-! ### The facts -/
/-- The different ones of the first k keys, in the order in which they come. -/
def dd (xs : List Int) : Nat → List Int
  | 0 => []
  | k + 1 => if gi xs k ∈ dd xs k then dd xs k else dd xs k ++ [gi xs k]
theorem dd_len (xs : List Int) : ∀ k, (dd xs k).length ≤ k
  | 0 => Nat.le_refl _
  | k + 1 => by
    have := dd_len xs k
    unfold dd
    split
    · omega
    · simp; omega
theorem dd_mono (xs : List Int) (k : Nat) : ∀ j, (dd xs k).length ≤ (dd xs (k + j)).length
  | 0 => Nat.le_refl _
  | j + 1 => by
    have := dd_mono xs k j
    show (dd xs k).length ≤ (dd xs ((k + j) + 1)).length
    conv => rhs; unfold dd
    split
    · omega
    · simp; omega
theorem dd_mem {xs : List Int} : ∀ {k : Nat}, k ≤ xs.length → ∀ y, y ∈ dd xs k ↔ y ∈ xs.take k
  | 0, _, y => by simp [dd]
  | k + 1, h, y => by
    have ih := dd_mem (xs := xs) (k := k) (by omega)
    rw [take_one (by omega)]
    unfold dd
    split
    · rename_i h2
      rw [ih, List.mem_append, List.mem_singleton]
      constructor
      · exact fun m => .inl m
      · rintro (m | rfl)
        · exact m
        · exact (ih _).1 h2
    · rw [List.mem_append, List.mem_append, ih]
theorem tch_memk {r : Int} {L : List Us} {x y : Int} (hg : Good r L) (hr : x ∈ keys L ∨ ¬ (L.length : Int) = r) : y ∈ keys (tch r L x) ↔ y = x ∨ y ∈ keys L := by
  by_cases h1 : x ∈ keys L
  · obtain ⟨k1, k2⟩ := idx_key h1
    rw [tch_hit h1, keys_cons, List.mem_cons]
    show y = x ∨ y ∈ keys (rem L ((keys L).idxOf x)) ↔ _
    rw [rem_filter k1 hg.once, k2]
    constructor
    · rintro (e | m)
      · exact .inl e
      · obtain ⟨u, hu, e⟩ := mem_keys.1 m
        exact .inr (mem_keys.2 ⟨u, (List.mem_filter.1 hu).1, e⟩)
    · rintro (e | m)
      · exact .inl e
      · by_cases hy : y = x
        · exact .inl hy
        · obtain ⟨u, hu, e⟩ := mem_keys.1 m
          exact .inr (mem_keys.2 ⟨u, List.mem_filter.2 ⟨hu, by rw [e]; simpa using hy⟩, e⟩)
  · have h2 : ¬ (L.length : Int) = r := hr.resolve_left h1
    rw [tch_room h1 h2, keys_cons, List.mem_cons]
theorem inc_nat {c : Nat} (h : c ≤ 200) : inc (c : Int) = ((c + 1 : Nat) : Int) := by unfold inc; rw [Int.min_eq_left (by omega)]; rfl
theorem good_nil {r : Int} (h : isRm r) : Good r [] := ⟨h, by have := h.1; simp; omega, fun x hx => by simp [keys] at hx, by simp [keys], fun u hu => by simp at hu⟩
theorem counts_inv {r : Int} {xs : List Int} (hr : isRm r) (hl : xs.length ≤ 200) (hk : ∀ x ∈ xs, isK x) (hD : ((dd xs xs.length).length : Int) ≤ r) : ∀ k, k ≤ xs.length →
    (∀ y, y ∈ keys (runU r [] (xs.take k)) ↔ y ∈ dd xs k) ∧ (runU r [] (xs.take k)).length = (dd xs k).length ∧ (∀ u ∈ runU r [] (xs.take k), u.cnt = ((xs.take k).count u.key : Int)) ∧ hitsU r [] (xs.take k) + (dd xs k).length = k
  | 0, _ => ⟨fun y => by simp [runU, keys, dd], rfl, fun u hu => by simp [runU] at hu, rfl⟩
  | k + 1, h => by
    obtain ⟨a1, a2, a3, a4⟩ := counts_inv hr hl hk hD k (by omega)
    have hT := take_one (xs := xs) (k := k) (by omega)
    have hg : Good r (runU r [] (xs.take k)) := runU_good (good_nil hr) (fun x hx => hk x (List.mem_of_mem_take hx))
    have hR : runU r [] (xs.take (k + 1)) = tch r (runU r [] (xs.take k)) (gi xs k) := by rw [hT, runU_snoc]
    have hH : hitsU r [] (xs.take (k + 1)) = hitsU r [] (xs.take k) + (if gi xs k ∈ keys (runU r [] (xs.take k)) then 1 else 0) := by rw [hT, hitsU_snoc]
    have hC : ∀ y, (xs.take (k + 1)).count y = (xs.take k).count y + (if gi xs k = y then 1 else 0) := fun y => by
      rw [hT, List.count_append, List.count_singleton]
      by_cases e : gi xs k = y
      · rw [if_pos e, if_pos (by simpa using e)]
      · rw [if_neg e, if_neg (by simpa using e)]
    have hcl : ∀ y, (xs.take k).count y ≤ k := fun y => Nat.le_trans List.count_le_length (by rw [List.length_take]; omega)
    have hdl := dd_mono xs (k + 1) (xs.length - (k + 1))
    rw [show k + 1 + (xs.length - (k + 1)) = xs.length by omega] at hdl
    rw [hR, hH]
    have hdd : dd xs (k + 1) = if gi xs k ∈ dd xs k then dd xs k else dd xs k ++ [gi xs k] := rfl
    generalize gi xs k = x at *
    generalize dd xs (k + 1) = D1 at *
    generalize runU r [] (xs.take k) = L at *
    generalize hitsU r [] (xs.take k) = hh at *
    by_cases hx : x ∈ keys L
    · rw [if_pos ((a1 x).1 hx)] at hdd
      rw [if_pos hx, hdd]
      obtain ⟨k1, k2⟩ := idx_key hx
      refine ⟨fun y => ?_, ?_, fun u hu => ?_, by omega⟩
      · rw [tch_memk hg (.inl hx), a1]
        constructor
        · rintro (rfl | m)
          · exact (a1 _).1 hx
          · exact m
        · exact fun m => .inr m
      · rw [tch_hit hx, List.length_cons, rem_len k1, ← a2]; omega
      · rw [tch_hit hx, rem_filter k1 hg.once, k2] at hu
        rw [hC]
        rcases List.mem_cons.1 hu with e | m
        · have h3 := a3 _ (gu_mem k1)
          rw [k2] at h3
          have h4 : inc (gu L ((keys L).idxOf x)).cnt = (((xs.take k).count x + 1 : Nat) : Int) := by rw [h3]; exact inc_nat (by have := hcl x; omega)
          generalize inc (gu L ((keys L).idxOf x)).cnt = ic at *
          subst e
          dsimp only
          rw [if_pos rfl]
          exact h4
        · obtain ⟨m1, m2⟩ := List.mem_filter.1 m
          have m3 : ¬ x = u.key := fun e => by rw [e] at m2; simp at m2
          rw [if_neg m3, a3 u m1]; simp
    · have hnd : ¬ x ∈ dd xs k := fun m => hx ((a1 x).2 m)
      rw [if_neg hnd] at hdd
      rw [hdd, List.length_append, List.length_singleton] at hdl
      have hne : ¬ (L.length : Int) = r := by rw [a2]; omega
      rw [if_neg hx, hdd]
      refine ⟨fun y => ?_, ?_, fun u hu => ?_, by rw [List.length_append, List.length_singleton]; omega⟩
      · rw [tch_memk hg (.inr hne), a1, List.mem_append, List.mem_singleton]
        exact ⟨fun h => h.elim .inr .inl, fun h => h.elim .inr .inl⟩
      · rw [tch_room hx hne, List.length_cons, List.length_append, List.length_singleton, a2]
      · rw [tch_room hx hne] at hu
        rw [hC]
        rcases List.mem_cons.1 hu with e | m
        · subst e
          show (1 : Int) = _
          have h0 : (xs.take k).count x = 0 := List.count_eq_zero.2 (fun m => hnd ((dd_mem (by omega) x).2 m))
          rw [if_pos rfl, h0]; rfl
        · have m3 : ¬ x = u.key := fun e => hx (by rw [e]; exact mem_keys.2 ⟨u, m, rfl⟩)
          rw [if_neg m3, a3 u m]; simp

theorem count_next {xs : List Int} {k : Nat} (h : k < xs.length) (y : Int) : (xs.take (k + 1)).count y = (xs.take k).count y + (if gi xs k = y then 1 else 0) := by
  rw [take_one h, List.count_append, List.count_singleton]
  by_cases e : gi xs k = y
  · rw [if_pos e, if_pos (by simpa using e)]
  · rw [if_neg e, if_neg (by simpa using e)]
/-- What the law asks of a run that goes through. -/
theorem counts_facts {r : Int} {xs : List Int} (e : rnE r [] xs = 0) (hD : ((dd xs xs.length).length : Int) ≤ r) :
    rnR r [] xs = r ∧ (rnF r [] xs).length = (dd xs xs.length).length ∧ (∀ i, i < (rnF r [] xs).length → (gu (rnF r [] xs) i).cnt = (xs.count (gu (rnF r [] xs) i).key : Int)) ∧ rnH r [] xs = (xs.length : Int) - ((dd xs xs.length).length : Int) ∧ xs.length ≤ 200 := by
  have g0 : checkK r [] = 0 := by
    unfold rnE at e
    split at e
    · assumption
    · exact absurd e (by assumption)
  have ht : traceE xs = 0 := by unfold rnE at e; rwa [if_pos g0] at e
  have hg := check_zero.1 g0
  have hx := trace_zero.1 ht
  obtain ⟨a1, a2, a3, a4⟩ := counts_inv hg.room hx.1 hx.2 hD xs.length (Nat.le_refl _)
  rw [List.take_length] at a1 a2 a3 a4
  unfold rnR rnF rnH
  rw [if_pos e, if_pos e, if_pos e]
  exact ⟨rfl, a2, fun i hi => a3 _ (gu_mem hi), by omega, hx.1⟩

set_option maxHeartbeats 20000000 in
theorem lfuCounts_walk (r : Int) (A1 : Option Addr) (c1 : Nat) (xs : List Int) (w : World) (hJ : Ints w A1 c1 xs) (hz : xs.length ≤ 17592186043904) :
    Calls Try.prog 5 #[.int .i64 r, .slice A1 xs.length c1] w fun e w' => e = .returned (.bool true) ∧ Below w.heap.size w w' := by
  have HJ := Lib.hid hJ
  have HR := Lib.hid (run_any r none 0 [] A1 c1 xs w (Uss.none_ w) hJ)
  unfold NR at HR
  have HR : Hid (Calls Try.prog 8 #[kv r (.slice none 0 0), .slice A1 xs.length c1] w (fun e w' => ∃ A c, e = .returned (.tuple #[kv (rnR r [] xs) (.slice A (rnF r [] xs).length c), .int .i64 (rnH r [] xs), .int .i64 (rnE r [] xs)]) ∧ Uss w' A c (rnF r [] xs) ∧ FA w A ∧ Below w.heap.size w w')) := HR
  have HCF := Lib.hid (fun (a : rnE r [] xs = 0) (b : ((dd xs xs.length).length : Int) ≤ r) => counts_facts a b)
  generalize rnR r [] xs = R at *
  generalize rnF r [] xs = M at *
  generalize rnH r [] xs = H at *
  generalize rnE r [] xs = E at *
  obtain ⟨m, hm⟩ : ∃ m, M.length = m := ⟨_, rfl⟩
  obtain ⟨n, hn⟩ : ∃ n, xs.length = n := ⟨_, rfl⟩
  have HM := Lib.hid hm
  have HN := Lib.hid hn
  rw [hm] at HR
  rw [hn] at HR hz ⊢
  clear hJ hm hn
  go_enter Try.func5, Try.ntmps5
  go_wp2_with fail
  refine HR.out.mono ?_
  rintro e w1 ⟨B1, k1, rfl, hI1, -, hb1⟩
  have Y1 := Lib.hid (Kb.new w1 R (.slice B1 m k1))
  have I1 := Lib.hid (hI1.alloc (ko R (.slice B1 m k1)))
  have hm63 := hI1.len
  rw [HM.out] at hm63
  have HB1 : Hid (Below w.heap.size w (w1.alloc (ko R (.slice B1 m k1)))) := Lib.hid (bel_al hb1 hb1.size _)
  clear hI1 hb1
  go_wp2_with fail
  refine (begun_any _).mono ?_
  rintro e w3 ⟨rfl, hb3⟩
  have Y3 := Lib.hid (Y1.out.below hb3)
  have I3 := Lib.hid (I1.out.below hb3)
  have HB3 : Hid (Below w.heap.size w w3) := Lib.hid (HB1.out.trans (hb3.mono HB1.out.size))
  have J3 := Lib.hid (HJ.out.below HB3.out)
  clear hb3
  generalize w1.heap.size = p1 at *
  go_wp2
  go_loopw [8, 9] (fun v i wr => ∃ k : Nat, k ≤ n ∧ i = .int .i64 (k : Int) ∧ OwnI wr w3.heap.size v (dd xs k) ∧ Hid (Below w3.heap.size w3 wr)) (fun _ i _ => n - (intOf i).toNat)
  case atStart => exact ⟨0, by omega, rfl, World.ownsRow_nil _ _ _ _, Lib.hid (Below.refl _ _)⟩
  case round =>
    obtain ⟨k, hk, rfl, ho, HBr⟩ := hrel
    obtain ⟨A5, c5, rfl, hI5⟩ := ints_of_own ho
    have HO := Lib.hid ho
    have HI5 := Lib.hid hI5
    have hdl := dd_len xs k
    clear ho hI5
    by_cases hlt : k < n
    · have hin : (k : Int) < (n : Int) := by omega
      have hiB : (0 : Int) ≤ (k : Int) := by omega
      have hkx : k < xs.length := by rw [HN.out]; exact hlt
      have HHa := Lib.hid (hasInt_any A5 c5 (dd xs k) (gi xs k) wr HI5.out)
      have HD : Hid (dd xs (k + 1) = if gi xs k ∈ dd xs k then dd xs k else dd xs k ++ [gi xs k]) := Lib.hid rfl
      obtain ⟨b, o, e, ht⟩ := (J3.out.below HBr.out).2.2.2 (by omega)
      cases e
      have e1 := ht.2 k hkx
      clear ht hkx
      by_cases hq : gi xs k ∈ dd xs k
      · have d1 : decide (gi xs k ∈ dd xs k) = true := by simpa using hq
        rw [if_pos hq] at HD
        rw [d1] at HHa
        clear hq d1
        generalize gi xs k = x at *
        generalize dd xs k = D at *
        generalize D.length = dl at *
        go_wp2_with fail
        refine HHa.out.mono ?_
        rintro e w4 ⟨rfl, rfl⟩
        go_wp2
        go_roundw
        case rel => exact ⟨k + 1, by omega, by go_num, by rw [HD.out]; exact HO.out, HBr⟩
        case measure => simp [intOf]; omega
      · have d1 : decide (gi xs k ∈ dd xs k) = false := by simpa using hq
        rw [if_neg hq] at HD
        rw [d1] at HHa
        have HDl : Hid ((dd xs k).length ≤ 17592186043904) := Lib.hid (by omega)
        clear hq d1
        generalize gi xs k = x at *
        generalize dd xs k = D at *
        have HBs : Hid (w3.heap.size ≤ wr.heap.size) := Lib.hid HBr.out.size
        obtain ⟨dl, hdl2⟩ : ∃ dl, D.length = dl := ⟨_, rfl⟩
        rw [hdl2] at HHa HO ⊢
        clear hdl hdl2
        go_wp2_with fail
        refine HHa.out.mono ?_
        rintro e w4 ⟨rfl, rfl⟩
        go_wp2_with (first
          | (at_builtin; refine wpList_append_oneL rfl _ _ rfl w3.heap.size _ _ rfl HO.out x _ rfl HDl.out HBs.out ?_)
          | go_in)
        intro v' w' h3 h4
        have HO6 : Hid (OwnI w' w3.heap.size v' (dd xs (k + 1))) := Lib.hid (by rw [HD.out]; exact h3)
        have HB6 : Hid (Below w3.heap.size w3 w') := Lib.hid (Below.grown (HBr.out.alloc HBr.out.size _) h4 (by simp; have := HBs.out; omega) (fun j hj => (HO.out.lt j hj).1))
        clear h3 h4 e1
        go_wp2
        go_roundw
        case rel => exact ⟨k + 1, by omega, by go_num, HO6.out, HB6⟩
        case measure => simp [intOf]; omega
    · obtain rfl : k = n := by omega
      rw [HN.out] at HCF
      have Yr := Lib.hid (Y3.out.below HBr.out)
      have Ir := Lib.hid (I3.out.below HBr.out)
      have Jr := Lib.hid (J3.out.below HBr.out)
      have HB5 : Hid (Below w.heap.size w wr) := Lib.hid (HB3.out.trans (HBr.out.mono HB3.out.size))
      generalize dd xs k = D at *
      obtain ⟨dl, hdl2⟩ : ∃ dl, D.length = dl := ⟨_, rfl⟩
      rw [hdl2] at HCF hdl ⊢
      clear hdl2 HO HI5 HBr hlt Y3 I3 J3
      by_cases q1 : E = 0
      · have d1 : (E != 0) = false := by simpa using q1
        by_cases q2 : (dl : Int) ≤ r
        · have d2 : decide (r < (dl : Int)) = false := by simp; omega
          obtain ⟨f1, f2, f3, f4, f5⟩ := HCF.out q1 q2
          have HF3 := Lib.hid f3
          have hmd : m = dl := by rw [← HM.out]; exact f2
          subst hmd
          subst f4
          subst f1
          have hsub : IntKind.i64.wrap ((k : Int) - (m : Int)) = (k : Int) - (m : Int) := by rw [IntKind.wrap_i64]; omega
          have hk200 : k ≤ 200 := f5
          clear q1 q2 f3 f2 f5 HCF hz hk
          generalize wr = w5 at *
          go_wp2
          go_loopw [10] (fun s10 wr => ∃ i : Nat, i ≤ m ∧ s10 = .int .i64 (i : Int) ∧ Hid (Below w5.heap.size w5 wr)) (fun s10 _ => m - (intOf s10).toNat)
          case atStart => exact ⟨0, by omega, rfl, Lib.hid (Below.refl _ _)⟩
          case round =>
            obtain ⟨i, hi, rfl, HBr⟩ := hrel
            have Y6 := Lib.hid (Yr.out.below HBr.out)
            have I6 := Lib.hid (Ir.out.below HBr.out)
            have J6 := Lib.hid (Jr.out.below HBr.out)
            obtain ⟨y1, y2, -, -⟩ := Y6.out.cells
            by_cases hlt : i < m
            · have hin : (i : Int) < (m : Int) := by omega
              have hiB : (0 : Int) ≤ (i : Int) := by omega
              have hiM : i < M.length := by rw [HM.out]; exact hlt
              have HC := Lib.hid (HF3.out i hiM)
              have HIi : Hid (∃ b o, B1 = some ⟨b, o, none⟩ ∧ ∀ W, Below wr.heap.size wr W → W.cell? ⟨b, o + i * 2, none⟩ = some (.int .i64 (gu M i).key) ∧ W.cell? ⟨b, o + i * 2 + 1, none⟩ = some (.int .i64 (gu M i).cnt)) := Lib.hid (by
                obtain ⟨b, o, e, -, -⟩ := I6.out.us hiM
                refine ⟨b, o, e, fun W hW => ?_⟩
                obtain ⟨b', o', e', e1, e2⟩ := (I6.out.below hW).us hiM
                rw [e] at e'
                cases e'
                exact ⟨e1, e2⟩)
              generalize gu M i = f at *
              obtain ⟨fx, fu⟩ := f
              dsimp only at HC HIi
              obtain ⟨b, o, rfl, hW⟩ := HIi.out
              have HW := Lib.hid hW
              clear hW HIi hiM
              go_wp2
              clear y1 y2
              generalize wr = w6 at *
              go_loopw [11, 12] (fun s11 s12 wr => ∃ j : Nat, j ≤ k ∧ s12 = .int .i64 (j : Int) ∧ s11 = .int .i64 ((xs.take j).count fx : Int) ∧ Hid (Below w6.heap.size w6 wr)) (fun _ s12 _ => k - (intOf s12).toNat)
              case atStart => exact ⟨0, by omega, rfl, by simp, Lib.hid (Below.refl _ _)⟩
              case round =>
                obtain ⟨j, hj, rfl, rfl, HBq⟩ := hrel
                obtain ⟨y1, y2, -, -⟩ := (Y6.out.below HBq.out).cells
                obtain ⟨z1, z2⟩ := HW.out _ HBq.out
                have hcl : (xs.take j).count fx ≤ j := Nat.le_trans List.count_le_length (by rw [List.length_take]; omega)
                by_cases hjk : j < k
                · have hjn : (j : Int) < (k : Int) := by omega
                  have hjB : (0 : Int) ≤ (j : Int) := by omega
                  have hjx : j < xs.length := by rw [HN.out]; exact hjk
                  obtain ⟨b2, o2, e, ht⟩ := (J6.out.below HBq.out).2.2.2 (by omega)
                  cases e
                  have e1 := ht.2 j hjx
                  clear ht
                  have HS := Lib.hid (count_next hjx fx)
                  clear hjx
                  generalize gi xs j = x at *
                  generalize (xs.take j).count fx = ct at *
                  by_cases hq : x = fx
                  · rw [if_pos hq] at HS
                    have d3 : (x == fx) = true := by simpa using hq
                    have hw1 : IntKind.i64.wrap ((ct : Int) + 1) = (ct : Int) + 1 := by rw [IntKind.wrap_i64]; omega
                    clear hq
                    go_wp2_with fail
                    go_quiet (fail)
                    have HB2 : Hid (Below w6.heap.size w6 (wr.drewN nq)) := Lib.hid (bel_drewN HBq.out _)
                    clear y1 y2 z1 z2 e1
                    generalize wr.drewN nq = w9 at *
                    go_wp2
                    go_roundw
                    case rel => exact ⟨j + 1, by omega, by go_num, by rw [HS.out]; go_num, HB2⟩
                    case measure => simp [intOf]; omega
                  · rw [if_neg hq] at HS
                    have d3 : (x == fx) = false := by simpa using hq
                    clear hq
                    go_wp2_with fail
                    go_quiet (fail)
                    have HB2 : Hid (Below w6.heap.size w6 (wr.drewN nq)) := Lib.hid (bel_drewN HBq.out _)
                    clear y1 y2 z1 z2 e1
                    generalize wr.drewN nq = w9 at *
                    go_wp2
                    go_roundw
                    case rel => exact ⟨j + 1, by omega, by go_num, by rw [HS.out]; rfl, HB2⟩
                    case measure => simp [intOf]; omega
                · obtain rfl : j = k := by omega
                  rw [List.take_of_length_le (by rw [HN.out]; exact Nat.le_refl _)]
                  have hc := HC.out
                  generalize xs.count fx = ct at *
                  subst hc
                  have HB2 : Hid (Below w5.heap.size w5 wr) := Lib.hid (HBr.out.trans (HBq.out.mono HBr.out.size))
                  go_wp2
                  go_roundw
                  case rel => exact ⟨i + 1, by omega, by go_num, HB2⟩
                  case measure => simp [intOf]; omega
            · obtain rfl : i = m := by omega
              have HB6 : Hid (Below w.heap.size w wr) := Lib.hid (HB5.out.trans (HBr.out.mono HB5.out.size))
              go_wp2
              go_ret
              exact ⟨rfl, HB6.out⟩
        · have d2 : decide (r < (dl : Int)) = true := by simp; omega
          clear q1 q2
          go_wp2
          go_ret
          exact ⟨rfl, HB5.out⟩
      · have d1 : (E != 0) = true := by simpa using q1
        clear q1
        go_wp2
        go_ret
        exact ⟨rfl, HB5.out⟩

end Go.Proofs.Ytdliacdmoeogcaa.Lfu
