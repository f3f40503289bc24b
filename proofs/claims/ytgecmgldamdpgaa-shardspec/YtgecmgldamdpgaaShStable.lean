/-
  slices.SortStableFunc on the places of at most 20 scores, greatest first.
-/
import Derived.Test.YtgecmgldamdpgaaShSort
import Derived.Test.YtgecmgldamdpgaaShScores
namespace Go.Proofs.Ytgecmgldamdpgaa.Shd
open Go.RowKit Go.Sort
set_option linter.unusedVariables false
set_option maxRecDepth 100000

theorem compare_any (x y : Nat) (w : World) : Calls Try.prog 25 #[.int .u64 (x : Int), .int .u64 (y : Int)] w fun e w' => e = .returned (.int .i64 (Lib.compareInt (x : Int) (y : Int))) ∧ w = w' := by
  have hN : ∀ (z : Nat) (W : World), Calls Try.prog 34 #[.int .u64 (z : Int)] W fun e w' => e = .returned (.bool false) ∧ W = w' := by
    intro z W
    go_enter Try.func34, Try.ntmps34
    go_wp2
    go_ret
    exact ⟨rfl, rfl⟩
  have HN := Lib.hid hN
  clear hN
  by_cases h1 : (x : Int) < (y : Int)
  · have p1 : decide ((x : Int) < (y : Int)) = true := by simpa using h1
    have p1' : decide (x < y) = true := by simpa using h1
    have HE : Hid (Lib.compareInt (x : Int) (y : Int) = -1) := Lib.hid (by unfold Lib.compareInt; rw [if_pos h1])
    clear h1
    go_enter Try.func25, Try.ntmps25
    go_wp2_with (go_at_call 34; with_reducible refine (HN.out _ _).mono ?_; rintro e w2 ⟨rfl, rfl⟩)
    go_ret
    exact ⟨ret_int HE.out.symm, rfl⟩
  · have p1 : decide ((x : Int) < (y : Int)) = false := by simpa using h1
    have p1' : decide (x < y) = false := by simpa using h1
    by_cases h2 : (y : Int) < (x : Int)
    · have p2 : decide ((y : Int) < (x : Int)) = true := by simpa using h2
      have p2' : decide (y < x) = true := by simpa using h2
      have HE : Hid (Lib.compareInt (x : Int) (y : Int) = 1) := Lib.hid (by unfold Lib.compareInt; rw [if_neg h1, if_pos h2])
      clear h1 h2
      go_enter Try.func25, Try.ntmps25
      go_wp2_with (go_at_call 34; with_reducible refine (HN.out _ _).mono ?_; rintro e w2 ⟨rfl, rfl⟩)
      go_ret
      exact ⟨ret_int HE.out.symm, rfl⟩
    · have p2 : decide ((y : Int) < (x : Int)) = false := by simpa using h2
      have p2' : decide (y < x) = false := by simpa using h2
      have HE : Hid (Lib.compareInt (x : Int) (y : Int) = 0) := Lib.hid (by unfold Lib.compareInt; rw [if_neg h1, if_neg h2])
      clear h1 h2
      go_enter Try.func25, Try.ntmps25
      go_wp2_with (go_at_call 34; with_reducible refine (HN.out _ _).mono ?_; rintro e w2 ⟨rfl, rfl⟩)
      go_ret
      exact ⟨ret_int HE.out.symm, rfl⟩

/-- The comparison: block p holds the slice of the scores. -/
theorem cmp_any (p gs n : Nat) (f : Nat → Nat) (w : World) (hp : w.cell? ⟨p, 0, none⟩ = some (.slice (some ⟨gs, 0, none⟩) n n)) (hS : Scs w gs n f) (x y : Nat) (hx : x < n) (hy : y < n) :
    Calls Try.prog 24 #[.int .i64 (x : Int), .int .i64 (y : Int), .pointer (some ⟨p, 0, none⟩)] w fun e w' => e = .returned (.int .i64 (Lib.compareInt ((f y : Nat) : Int) ((f x : Nat) : Int))) ∧ ∃ q, w' = w.drewN q := by
  have HC := Lib.hid (fun W : World => (compare_any (f y) (f x) W).mono (fun e w' h => (⟨h.1, h.2.symm⟩ : _ ∧ w' = W)))
  have c1 := hS.2 x hx
  have c2 := hS.2 y hy
  have x1 : (x : Int) < (n : Int) := by omega
  have x2 : (y : Int) < (n : Int) := by omega
  have x3 : (0 : Int) ≤ (x : Int) := by omega
  have x4 : (0 : Int) ≤ (y : Int) := by omega
  generalize Lib.compareInt ((f y : Nat) : Int) ((f x : Nat) : Int) = r at *
  generalize f x = fx at *
  generalize f y = fy at *
  clear hS hx hy
  go_enter Try.func24, Try.ntmps24
  go_wp2_with fail
  go_quiet (first | (go_at_call 25; exact Calls.quiet_of_same (HC.out _)))
  go_wp2
  go_ret
  exact ⟨rfl, _, rfl⟩

abbrev encF (m : Nat) (x : Fin (m + 1)) : Value := .int .i64 ((x.val : Nat) : Int)
theorem grown_trans {w u v : World} {row : Option Nat} (h : w.grownBy u row) (k : u.grownBy v row) : w.grownBy v row :=
  ⟨k.os.trans h.os, k.tape.trans h.tape, k.output.trans h.output, Nat.le_trans h.size k.size, fun i hi hne => (k.block i (Nat.lt_of_lt_of_le hi h.size) hne).trans (h.block i hi hne)⟩
theorem grown_sort {m : Nat} (w : World) (g n : Nat) (os : Array Obj) (d : Array (Fin (m + 1))) : w.grownBy (sortWorld (encF m) w g 0 n d os) (some g) := by
  unfold sortWorld
  refine ⟨rfl, rfl, rfl, by simp [grow, putRow, mapBlock, Sort.ahead], fun k hk hne => ?_⟩
  rw [heap_grow_old _ _ (by simpa [putRow, mapBlock, Sort.ahead] using hk)]
  have : g ≠ k := fun e => hne (by rw [e])
  simp [putRow, mapBlock, Sort.ahead, Array.getElem?_modify, this]

/-- Block g holds the places d; of what lay in w nothing else has changed. -/
structure St (w : World) (m g : Nat) (d : Array (Fin (m + 1))) (W : World) : Prop where
  size : d.size = m + 1
  holds : Holds (encF m) W g 0 d
  grown : w.grownBy W (some g)
/-- What the comparison leans on. -/
structure Cm (w : World) (m g p gs : Nat) (f : Nat → Nat) : Prop where
  cell : w.cell? ⟨p, 0, none⟩ = some (.slice (some ⟨gs, 0, none⟩) (m + 1) (m + 1))
  scs : Scs w gs (m + 1) f
  np : p ≠ g
  ng : gs ≠ g
theorem Cm.at {w W : World} {m g p gs : Nat} {f : Nat → Nat} (h : Cm w m g p gs f) (hg : w.grownBy W (some g)) : Cm W m g p gs f :=
  ⟨hg.cell h.cell (fun e => h.np (by simpa using e)), ⟨Nat.lt_of_lt_of_le h.scs.1 hg.size, fun i hi => hg.cell (h.scs.2 i hi) (fun e => h.ng (by simpa using e))⟩, h.np, h.ng⟩
theorem ins_any {m g p gs cap a b : Nat} {f : Nat → Nat} {w W : World} {d : Array (Fin (m + 1))} (hc : Cm w m g p gs f) (hS : St w m g d W) (hm : m < 20) (hab : a ≤ b) (hb : b ≤ m + 1) :
    Calls Try.prog 40 #[.slice (some ⟨g, 0, none⟩) (m + 1) cap, .int .i64 (a : Int), .int .i64 (b : Int), .func (.func 24) #[] #[.pointer (some ⟨p, 0, none⟩)]] W fun e w' => e = .returned (.tuple #[]) ∧ St w m g (insertionSort (ltOf (cfS f)) d a b) w' := by
  have eg : ∀ args w, (callFunc 24 args).run Try.prog w = .ok (.enter 24 args) w := enters_of Try.func24 (by kernel_rfl) rfl
  have hr : CmpReads Try.prog 24 #[.pointer (some ⟨p, 0, none⟩)] (encF m) (cfS f) g 0 d.size W := by
    intro mm os dk hdk x y
    have k := hc.at (grown_trans hS.grown (grown_sort W g mm os dk))
    exact cmp_any p gs (m + 1) f _ k.cell k.scs x.val y.val x.isLt y.isLt
  have k := Any.insertionSortCmpFunc_one (P := Try.prog) (ρ := Try.insI_ren) Try.insI (encF m) (fun _ => rfl) (cfS f) 24 #[.pointer (some ⟨p, 0, none⟩)] g 0 cap a b d W eg hr hS.holds hab (by rw [hS.size]; exact hb) (by rw [hS.size]; omega)
  rw [hS.size] at k
  change Calls Try.prog 40 _ _ _ at k
  refine k.mono ?_
  rintro e w' ⟨rfl, n, rfl⟩
  have hsz : (insertionSort (ltOf (cfS f)) d a b).size = d.size := by
    by_cases hh : a < b
    · exact sort_size _ d a b (by rw [hS.size]; exact hb)
    · unfold insertionSort; rw [outer_stop _ _ _ (by omega)]
  refine ⟨rfl, hsz.trans hS.size, ?_, ?_⟩
  · exact holds_putRow (encF m) W g 0 d _ hS.holds hsz
  · have := grown_sort W g n #[] (insertionSort (ltOf (cfS f)) d a b)
    rw [sortWorld_none] at this
    exact grown_trans hS.grown this

set_option maxHeartbeats 4000000 in
theorem stable_any {m g p gs cap : Nat} {f : Nat → Nat} {w : World} (hc : Cm w m g p gs f) (hS : St w m g (ids m) w) (hm : m < 20) :
    Calls Try.prog 33 #[.slice (some ⟨g, 0, none⟩) (m + 1) cap, .int .i64 ((m + 1 : Nat) : Int), .func (.func 24) #[] #[.pointer (some ⟨p, 0, none⟩)]] w fun e w' => e = .returned (.tuple #[]) ∧ St w m g (srtd f m) w' := by
  have HI0 : Hid (∀ W (z : Int), z = ((m + 1 : Nat) : Int) → St w m g (ids m) W → Calls Try.prog 40 #[.slice (some ⟨g, 0, none⟩) (m + 1) cap, .int .i64 0, .int .i64 z, .func (.func 24) #[] #[.pointer (some ⟨p, 0, none⟩)]] W fun e w' => e = .returned (.tuple #[]) ∧ St w m g (srtd f m) w') :=
    Lib.hid (fun W z hz h => by subst hz; exact ins_any (a := 0) (b := m + 1) hc h hm (by omega) (Nat.le_refl _))
  have HI2 : Hid (∀ W (z : Int), z = ((m + 1 : Nat) : Int) → St w m g (srtd f m) W → Calls Try.prog 40 #[.slice (some ⟨g, 0, none⟩) (m + 1) cap, .int .i64 z, .int .i64 ((m + 1 : Nat) : Int), .func (.func 24) #[] #[.pointer (some ⟨p, 0, none⟩)]] W fun e w' => e = .returned (.tuple #[]) ∧ St w m g (srtd f m) w') :=
    Lib.hid (fun W z hz h => by subst hz; exact (ins_any hc h hm (Nat.le_refl _) (Nat.le_refl _)).mono (fun e w' ⟨h1, h2⟩ => ⟨h1, by
      have e2 : insertionSort (ltOf (cfS f)) (srtd f m) (m + 1) (m + 1) = srtd f m := by unfold insertionSort; rw [outer_stop _ _ _ (by omega)]
      rwa [e2] at h2⟩))
  have H0 : Hid (St w m g (ids m) w) := Lib.hid hS
  clear hc hS
  generalize St w m g (ids m) = S0 at *
  generalize St w m g (srtd f m) = S1 at *
  obtain ⟨n, hn⟩ : ∃ n, m + 1 = n := ⟨_, rfl⟩
  have HN := Lib.hid hn
  rw [hn] at HI0 HI2 ⊢
  have hn1 : 1 ≤ n := by omega
  have hn2 : n ≤ 20 := by omega
  clear hn hm
  go_enter Try.func33, Try.ntmps33
  go_wp2
  go_loopw [7, 8] (fun a b wr => (a = .int .i64 0 ∧ b = .int .i64 20 ∧ Hid (S0 wr)) ∨ (Hid (n = 20) ∧ a = .int .i64 20 ∧ b = .int .i64 40 ∧ Hid (S1 wr))) (fun _ b _ => 40 - (intOf b).toNat)
  case atStart => exact .inl ⟨rfl, rfl, H0⟩
  case round =>
    rcases hrel with ⟨rfl, rfl, HS⟩ | ⟨HN2, rfl, rfl, HS⟩
    · by_cases hl : n = 20
      · have HL := Lib.hid hl
        have hle : (20 : Int) ≤ (n : Int) := by omega
        have hd : decide ((20 : Int) ≤ (n : Int)) = true := by simp; omega
        have HI1 := Lib.hid (HI0.out _ 20 (by omega) HS.out)
        clear hl
        go_wp2_with (go_at_call 40; with_reducible refine HI1.out.mono ?_; rintro e w5 ⟨rfl, h5⟩; have H5 := Lib.hid h5; clear h5)
        go_roundw
        case rel => exact .inr ⟨HL, rfl, rfl, H5⟩
        case measure => simp [intOf]
      · have hlt : ¬ (20 : Int) ≤ (n : Int) := by omega
        have hd : decide ((20 : Int) ≤ (n : Int)) = false := by simp; omega
        have hd2 : decide ((20 : Int) < (n : Int)) = false := by simp; omega
        have HI1 := Lib.hid (HI0.out _ (n : Int) rfl HS.out)
        clear hl
        go_wp2_with (go_at_call 40; with_reducible refine HI1.out.mono ?_; rintro e w5 ⟨rfl, h5⟩; have H5 := Lib.hid h5; clear h5)
        go_loopw [6] (fun a wq => a = .int .i64 20 ∧ w5 = wq) (fun _ _ => 0)
        case atStart => exact ⟨rfl, rfl⟩
        case round =>
          obtain ⟨rfl, rfl⟩ := hrel
          go_wp2
          refine bodyPost_end (v := .tuple #[]) (by kernel_rfl) rfl ?_
          exact ⟨rfl, H5.out⟩
    · have hlt : ¬ (40 : Int) ≤ (n : Int) := by omega
      have hd : decide ((40 : Int) ≤ (n : Int)) = false := by simp; omega
      have hd2 : decide ((20 : Int) < (n : Int)) = false := by simp; omega
      have HI1 := Lib.hid (HI2.out _ 20 (by have := HN2.out; omega) HS.out)
      go_wp2_with (go_at_call 40; with_reducible refine HI1.out.mono ?_; rintro e w5 ⟨rfl, h5⟩; have H5 := Lib.hid h5; clear h5)
      go_loopw [6] (fun a wq => a = .int .i64 20 ∧ w5 = wq) (fun _ _ => 0)
      case atStart => exact ⟨rfl, rfl⟩
      case round =>
        obtain ⟨rfl, rfl⟩ := hrel
        go_wp2
        refine bodyPost_end (v := .tuple #[]) (by kernel_rfl) rfl ?_
        exact ⟨rfl, H5.out⟩
theorem sortStable_any {m g p gs cap : Nat} {f : Nat → Nat} {w : World} (hc : Cm w m g p gs f) (hS : St w m g (ids m) w) (hm : m < 20) :
    Calls Try.prog 23 #[.slice (some ⟨g, 0, none⟩) (m + 1) cap, .func (.func 24) #[] #[.pointer (some ⟨p, 0, none⟩)]] w fun e w' => e = .returned (.tuple #[]) ∧ St w m g (srtd f m) w' := by
  have HI := Lib.hid (stable_any (cap := cap) hc hS hm)
  clear hc hS hm
  generalize St w m g (srtd f m) = S1 at *
  generalize m + 1 = n at *
  go_enter Try.func23, Try.ntmps23
  go_wp2_with (go_at_call 33; with_reducible refine HI.out.mono ?_; rintro e w5 ⟨rfl, h5⟩; have H5 := Lib.hid h5; clear h5)
  refine bodyPost_end (v := .tuple #[]) (by kernel_rfl) rfl ?_
  exact ⟨rfl, H5.out⟩

end Go.Proofs.Ytgecmgldamdpgaa.Shd
