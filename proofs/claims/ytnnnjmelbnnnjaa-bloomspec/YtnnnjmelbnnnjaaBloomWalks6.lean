/-
  What Fold of package bloom returns.
-/
import Derived.Test.YtnnnjmelbnnnjaaBloomWalks5
namespace Go.Proofs.Ytnnnjmelbnnnjaa
open Go.RowKit Go.Shelf
set_option linter.unusedVariables false

set_option maxHeartbeats 8000000 in
theorem fold_any (F : Fl) (A : Option Addr) (c : Nat) (w : World) (ha : Ints w A c F.set) :
    Calls Try.prog 11 #[fv F A c] w (FltR (foldM F) (errF F) w) := by
  have hS := SB.new F A c w _ rfl
  have h1 : Below w.heap.size w ((w.alloc (fo F A c)).alloc (.cells #[.int .i64 0, .int .i64 0, .slice none 0 0] 24)) := ((Below.refl _ w).alloc (Nat.le_refl _) (fo F A c)).alloc (by simp) _
  have HS := Lib.hid hS
  have H1 := Lib.hid h1
  clear hS h1
  by_cases hF : checkF F = 0
  · have HF := Lib.hid hF
    have g := good_of hF
    have s1 := g.s1
    have s2 := g.s2
    have HBD := Lib.hid g.bd
    have hl1 : F.set.length ≤ 1024 := by have := g.len; omega
    by_cases hp : F.size % 2 = 0
    · have HE : Hid (errF F = 0 ∧ foldM F = foldL F) := Lib.hid (by
        have e : errF F = 0 := by unfold errF; rw [if_pos hF, if_pos hp]
        exact ⟨e, by unfold foldM; rw [if_pos e]⟩)
      have hmk : ∀ W : World, (Instr.makeSlice 22 (.int .i64 (F.set.length : Int)) (.int .i64 (F.set.length : Int))).run Try.prog W = .ok (.slice (some ⟨W.heap.size, 0, none⟩) F.set.length F.set.length) (W.alloc (.cells (List.replicate F.set.length (encI 0)).toArray 3)) := fun W => run_make_ints F.set.length (by omega) W
      have q1 : (F.size % 2 != 0) = false := by simp [hp]
      clear hF g hp
      go_enter Try.func11, Try.ntmps11
      go_wp2_with fail
      refine (check_any F A c _ (ha.below H1.out)).mono ?_
      rintro e w1 ⟨rfl, hb1⟩
      rw [HF.out]
      have hS1 := SB.next HS.out (SB.size HS.out) hb1
      clear hb1
      have HS1 := Lib.hid hS1
      obtain ⟨b0, b1, b2, _, _, _, _, _, _, hz1, hB1⟩ := hS1
      have hA1 := ha.below (H1.out.trans (hB1.mono (Nat.le_succ _)))
      clear hB1
      have b2' : ∀ o, (w1.alloc o).cell? ⟨w.heap.size, 2, none⟩ = some (.slice A F.set.length c) := fun o => (((Below.refl _ w1).alloc (Nat.le_refl _) o).cell (by show w.heap.size < _; omega)).trans b2
      go_wp2
      clear b2'
      go_loopw [26] (fun i wr => ∃ k : Nat, k ≤ F.set.length ∧ i = .int .i64 (k : Int) ∧ RowI wr w1.heap.size (fill (F.set.map (· / 2)) k) ∧ Below w1.heap.size w1 wr) (fun i _ => F.set.length - (intOf i).toNat)
      case atStart => exact ⟨0, by omega, rfl, by rw [fill_zero, List.length_map]; exact RowI.new w1 _, (Below.refl _ _).alloc (Nat.le_refl _) _⟩
      case round =>
        obtain ⟨k, hk, rfl, HR, HB⟩ := hrel
        by_cases hlt : k < F.set.length
        · obtain ⟨b, o, rfl, ht⟩ := (hA1.below HB).2.2.2 (by omega)
          have e1 := ht.2 k hlt
          have hlf : k < (fill (F.set.map (· / 2)) k).length := by rw [fill_len _ (by simp; omega), List.length_map]; exact hlt
          have e0 := HR.cell hlf
          have f0 := HR.frozen k
          obtain ⟨v0, v1⟩ := HBD.out _ (gi_mem hlt)
          have HF : Hid ((fill (F.set.map (· / 2)) k).set k (gi F.set k / 2) = fill (F.set.map (· / 2)) (k + 1)) := Lib.hid (by
            have hlm : k < (F.set.map (· / 2)).length := by rw [List.length_map]; exact hlt
            rw [← fill_set _ hlm, gi_get hlm, List.getElem_map, gi_get hlt])
          clear hlf
          go_wp2
          go_roundw
          case rel => exact ⟨k + 1, by omega, by go_num, by rw [← HF.out]; exact HR.set k _, HB.setCell (Nat.le_refl _) _⟩
          case measure => simp [intOf]; omega
        · obtain rfl : k = F.set.length := by omega
          have HO : Hid (OwnI wr w1.heap.size (.slice (some ⟨w1.heap.size, 0, none⟩) F.set.length F.set.length) (F.set.map (· / 2))) := Lib.hid (by
            have e : fill (F.set.map (· / 2)) F.set.length = F.set.map (· / 2) := by have := fill_all (F.set.map (· / 2)); rwa [List.length_map] at this
            rw [e] at HR
            have := HR.own w1.heap.size (Nat.le_refl _) (by simp; omega)
            rwa [List.length_map] at this)
          have hz := HB.size
          have HSr := Lib.hid (SB.next HS1.out (SB.size HS1.out) HB)
          have HZ1 := Lib.hid hz1
          clear HR b0 b1 b2 hz1 hmk
          generalize ((w.alloc (fo F A c)).alloc (.cells #[.int .i64 0, .int .i64 0, .slice none 0 0] 24)) = w0 at *
          generalize hn : w.heap.size = n at *
          have HN := Lib.hid hn
          clear hn
          go_wp2
          go_region_held3 (fun w' => w'.cell? ⟨n, 0, none⟩ = some (.int .i64 F.size) ∧ w'.cell? ⟨n, 1, none⟩ = some (.int .i64 F.hashes) ∧ w'.cell? ⟨n, 2, none⟩ = some (.slice A F.set.length c) ∧
              w'.cell? ⟨n + 1, 0, none⟩ = some (rd w' (n + 1) 0) ∧ w'.cell? ⟨n + 1, 1, none⟩ = some (rd w' (n + 1) 1) ∧ w'.cell? ⟨n + 1, 2, none⟩ = some (rd w' (n + 1) 2) ∧ w'.frozen? ⟨n + 1, 0, none⟩ = false ∧ w'.frozen? ⟨n + 1, 1, none⟩ = false ∧ w'.frozen? ⟨n + 1, 2, none⟩ = false ∧ n + 2 ≤ w'.heap.size ∧ Below (n + 1) w0 w')
            (first | exact SB.set1 (SB.set1 (SB.set1 (SB.next (SB.drew HSr.out) HZ1.out hb8) _ _) _ _) _ _ | exact SB.next (SB.drew HSr.out) HZ1.out hb8 | exact SB.drew HSr.out)
            (first
              | (go_at_call 22; refine (ordered_any w1.heap.size _ (F.set.map (· / 2)) wr.drew (by exact HO.out) hz (by simp; omega)).mono ?_; rintro e w8 ⟨A8, c8, rfl, hi8, hg8, hb8⟩))
          have h8 := SB.next (SB.drew HSr.out) HZ1.out hb8
          have HP := Lib.hid (SB.put (G := foldL F) h8 H1.out hi8 (fun a h => by have := hg8 a h; have := HZ1.out; omega) (.int .i64 (IntKind.i64.wrap (F.size.tdiv 2))) (.int .i64 F.hashes) (.slice A8 (ord (F.set.map (· / 2))).length c8))
          have HD : Hid (IntKind.i64.wrap (F.size.tdiv 2) = F.size / 2) := Lib.hid (by rw [Int.tdiv_eq_ediv_of_nonneg (by omega), IntKind.wrap_i64]; omega)
          rename_i hHH
          clear hHH
          obtain ⟨_, _, _, r0, r1, r2, f0, f1, f2, hz, _⟩ := h8
          go_wp2
          refine bodyPost_ret (v := .tuple #[fv (foldL F) A8 c8, .int .i64 0]) (by simp [results, Try.results11, go_sem, r0, r1, r2]; exact ⟨HD.out, rfl, rfl⟩) rfl ?_
          rw [HE.out.1, HE.out.2]
          refine ⟨A8, c8, rfl, HP.out.1, fun a h => by have := hg8 a h; have := HZ1.out; have := HN.out; omega, ?_⟩
          rw [HN.out]
          exact HP.out.2
    · have HE : Hid (errF F = 4 ∧ foldM F = Fl.no) := Lib.hid (by
        have e : errF F = 4 := by unfold errF; rw [if_pos hF, if_neg hp]
        exact ⟨e, by unfold foldM; rw [e]; rfl⟩)
      have q1 : (F.size % 2 != 0) = true := bd_ne hp
      clear hF g hp
      go_enter Try.func11, Try.ntmps11
      go_wp2_with fail
      refine (check_any F A c _ (ha.below H1.out)).mono ?_
      rintro e w1 ⟨rfl, hb1⟩
      rw [HF.out]
      have hS1 := SB.next HS.out (SB.size HS.out) hb1
      have HP := Lib.hid (SB.put (G := Fl.no) hS1 H1.out (Ints.none_ w1) (fun a h => by cases h) (.int .i64 0) (.int .i64 0) (.slice none 0 0))
      clear hb1
      obtain ⟨b0, b1, b2, r0, r1, r2, f0, f1, f2, hz, _⟩ := hS1
      go_wp2
      refine bodyPost_ret (v := .tuple #[fv Fl.no none 0, .int .i64 4]) (by simp [results, Try.results11, go_sem, r0, r1, r2]; exact ⟨rfl, rfl, rfl⟩) rfl ?_
      rw [HE.out.1, HE.out.2]
      exact ⟨none, 0, rfl, HP.out.1, fun a h => (by cases h), HP.out.2⟩
  · have HE : Hid (errF F = checkF F ∧ foldM F = Fl.no) := Lib.hid (by
      have e : errF F = checkF F := by unfold errF; rw [if_neg hF]
      exact ⟨e, by unfold foldM; rw [e, if_neg hF]⟩)
    have hq := bd_ne hF
    clear hF
    go_enter Try.func11, Try.ntmps11
    go_wp2_with fail
    refine (check_any F A c _ (ha.below H1.out)).mono ?_
    rintro e w1 ⟨rfl, hb1⟩
    have hS1 := SB.next HS.out (SB.size HS.out) hb1
    have HP := Lib.hid (SB.put (G := Fl.no) hS1 H1.out (Ints.none_ w1) (fun a h => by cases h) (.int .i64 0) (.int .i64 0) (.slice none 0 0))
    clear hb1
    obtain ⟨_, _, _, r0, r1, r2, f0, f1, f2, hz, _⟩ := hS1
    go_wp2
    refine bodyPost_ret (v := .tuple #[fv Fl.no none 0, .int .i64 (checkF F)]) (by simp [results, Try.results11, go_sem, r0, r1, r2]; exact ⟨rfl, rfl, rfl⟩) rfl ?_
    rw [HE.out.1, HE.out.2]
    exact ⟨none, 0, rfl, HP.out.1, fun a h => (by cases h), HP.out.2⟩

end Go.Proofs.Ytnnnjmelbnnnjaa
