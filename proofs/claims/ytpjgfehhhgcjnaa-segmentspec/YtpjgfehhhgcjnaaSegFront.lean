/-
  Package segment: a key to the front of one of the two lists.
-/
import Derived.Test.YtpjgfehhhgcjnaaSegMem
namespace Go.Proofs.Ytpjgfehhhgcjnaa.Seg
open Go.RowKit Go.Maps Go.Shelf
open Lru (isRm isK keysE keysE_zero traceE trace_zero touch cv co zo gone)
set_option linter.unusedVariables false
set_option maxRecDepth 100000

/-! ### Delete, with what it leaves alone -/
theorem delete_own2 (base : Nat) (v : Value) (L : List Int) (k : Nat) (w : World) (hown : OwnI w base v L) (hk : k < L.length) :
    Calls Try.prog 31 #[v, .int .i64 (k : Int), .int .i64 ((k : Int) + 1)] w fun e w' =>
      ∃ A c, e = .returned (.slice A (L.length - 1) c) ∧ OwnI w' base (.slice A (L.length - 1) c) (L.take k ++ L.drop (k + 1)) ∧ (Value.slice A (L.length - 1) c).ownBlock = v.ownBlock ∧ w.grownBy w' v.ownBlock := by
  rcases hown.2 with ⟨rfl, h0⟩ | ⟨g, cap, cur, rfl, hb, hg, hn, hm, hs, ht⟩
  · omega
  · have hH := holds_of_blockI (ss := L) hg (by simpa using ht)
    have hd := Any.slices_Delete_int Try.lays2n23 g 0 cap k (k + 1) L w hH hn (by unfold maxLen at hm; omega) (by omega) (by omega)
    refine hd.mono ?_
    rintro e w' ⟨rfl, q, hw⟩
    obtain ⟨M, hM⟩ : ∃ M, M = L.take k ++ L.drop (k + 1) := ⟨_, rfl⟩
    have hlen : M.length = L.length - 1 := by rw [hM]; simp; omega
    rw [show k + 1 - k = 1 by omega, ← hM] at hw
    rw [← hM, show L.length - (k + 1 - k) = M.length by omega, ← hlen]
    have hw' : w' = Sort.grow (Sort.putRow (Value.int .i64) (Sort.ahead w q) g 0 (M ++ List.replicate 1 0).toArray) #[] := by rw [grow_nil]; exact hw
    have hg' := heap_sortedI (n := q) (os := #[]) (M ++ List.replicate 1 0).toArray hg
    rw [← hw'] at hg'
    refine ⟨_, cap, rfl, ⟨by simp, .inr ⟨g, cap, _, rfl, hb, hg', by omega, hm, by simp [Sort.putCells, hs], ?_⟩⟩, rfl, ?_⟩
    · have h1 := take_putCellsI cur (M ++ List.replicate 1 0) (by simp; omega)
      have h2 : ((Sort.putCells (Value.int .i64) 0 (M ++ List.replicate 1 0).toArray cur).toList.take (M ++ List.replicate 1 0).length).take M.length = ((M ++ List.replicate 1 0).map (Value.int .i64)).take M.length := by rw [h1]
      rw [List.take_take, Nat.min_eq_left (by rw [List.length_append]; omega), List.map_append, List.take_left' (by simp)] at h2
      rw [Nat.mul_one]
      exact h2
    · rw [hw']
      exact grownBy_sortedI (g := g) (n := q) (os := #[]) _

/-! ### lru.Access where nothing is wrong: a row of the call's own -/
set_option maxHeartbeats 4000000 in
theorem lruAccess_own (r : Int) (A : Option Addr) (c : Nat) (L : List Int) (x : Int) (w : World) (hI : Ints w A c L) (hG : Lru.Good r L) (hx : isK x) :
    Calls Try.prog 35 #[cv r A c L, .int .i64 x] w fun e w' => ∃ A5 c5, e = .returned (.tuple #[cv r A5 c5 (touch r L x), .bool (decide (x ∈ L)), .int .i64 (gone r L x), .int .i64 0]) ∧ OwnI w' w.heap.size (.slice A5 (touch r L x).length c5) (touch r L x) ∧ Below w.heap.size w w' := by
  have HS := Lib.hid (Lru.CS.new (n := w.heap.size) (r := r) (A := A) (c := c) (L := L) w rfl)
  have HB0 : Hid (Below w.heap.size w (w.alloc (co r A c L))) := Lib.hid ((Below.refl _ w).alloc (Nat.le_refl _) (co r A c L))
  have HI := Lib.hid hI
  have H0 := Lib.hid (Lru.check_zero.2 hG)
  have HGd := Lib.hid hG
  have p1 : decide (isK x) = true := by simpa using hx
  clear hI hG hx
  go_enter Try.func35, Try.ntmps35
  go_wp2_with fail
  refine (Lru.check_any r A c L _ (HI.out.below (HB0.out.trans ((Lru.CS.below HS.out).mono (by omega))))).mono ?_
  rintro e w1 ⟨rfl, hb1⟩
  have HS1 := Lib.hid (Lru.CS.next HS.out (Lru.CS.size HS.out) hb1)
  clear hb1 HS
  generalize (w.alloc (co r A c L)) = w0 at *
  generalize hn : w.heap.size = n at *
  have HN := Lib.hid hn
  clear hn
  rw [H0.out]
  go_wp2_with fail
  refine (Lru.isKey_any _ _).mono ?_
  rintro e w2 ⟨rfl, rfl⟩
  rw [p1]
  have HI1 : Hid (Ints w1 A c L) := Lib.hid (HI.out.below (w' := w1) (by rw [HN.out]; exact HB0.out.trans ((Lru.CS.below HS1.out).mono (by omega))))
  have HC := Lib.hid (Lru.clone_any A c L w1.drew HI1.out (by have := HGd.out.few; have := HGd.out.room.2; omega))
  have HU := Lib.hid (fun (v : Value) (w2 : World) (ho : OwnI w2 w1.heap.size v L) (hB : w1.heap.size ≤ w2.heap.size) => Lru.use_any w1.heap.size v L r x w2 ho hB HGd.out.room HGd.out.few)
  have HZ1 := Lib.hid (Lru.CS.size HS1.out)
  have HK : Hid (∀ w' : World, Below w1.heap.size w1 w' → w'.cell? ⟨n, 0, none⟩ = some (.int .i64 r) ∧ w'.cell? ⟨n, 1, none⟩ = some (.slice A L.length c)) := Lib.hid (fun w' hb => by
    have := Lru.CS.next HS1.out (Lru.CS.size HS1.out) hb
    exact ⟨this.1, this.2.1⟩)
  go_wp2
  go_region_held3 (fun w' => w'.cell? ⟨n, 0, none⟩ = some (.int .i64 r) ∧ w'.cell? ⟨n, 1, none⟩ = some (.slice A L.length c))
    (first | exact HK.out _ hB5 | exact HK.out _ hB4 | exact HK.out _ (Below.refl _ _).drew)
    (first
      | (go_at_call 32; refine HC.out.mono ?_; rintro e w4 ⟨v4, rfl, ho4, hb4⟩; have hB4 : Below w1.heap.size w1 w4 := below_undrew hb4)
      | (go_at_call 37; refine (HU.out v4 w4 ho4 hB4.size).mono ?_; rintro e w5 ⟨v5, rfl, ho5, hb5⟩; have hB5 : Below w1.heap.size w1 w5 := hB4.trans hb5))
  have HS5 := Lib.hid (Lru.CS.next HS1.out HZ1.out hB5)
  obtain ⟨A5, c5, rfl, -⟩ := ints_of_own ho5
  have HO5 := Lib.hid ho5
  rename_i hHH
  clear hHH hB4 hb4 hb5 ho4 ho5 hB5
  obtain ⟨x0, x1, r0, r1, f0, f1, -, -⟩ := HS5.out
  obtain ⟨LL, hLL⟩ : ∃ LL, LL = touch r L x := ⟨_, rfl⟩
  rw [← hLL] at HO5
  have HLL := Lib.hid hLL
  simp only [← hLL]
  clear hLL
  have HF : Hid (OwnI ((w5.setCell ⟨n + 1, 0, none⟩ (.int .i64 r)).setCell ⟨n + 1, 1, none⟩ (.slice A5 LL.length c5)) w.heap.size (.slice A5 LL.length c5) LL ∧ Below w.heap.size w ((w5.setCell ⟨n + 1, 0, none⟩ (.int .i64 r)).setCell ⟨n + 1, 1, none⟩ (.slice A5 LL.length c5))) := Lib.hid (by
    have hne : (Value.slice A5 LL.length c5).ownBlock ≠ some (n + 1) := fun e => by have := (HO5.out.lt _ e).1; have := HZ1.out; omega
    exact ⟨own_le (own_set (own_set HO5.out hne 0 _) hne 1 _) (by have := HZ1.out; have := HN.out; omega), by rw [HN.out]; exact HB0.out.trans (Lru.below_set2 (Lru.CS.below HS5.out) _ _ |>.mono (by omega))⟩)
  go_wp2
  refine bodyPost_ret (v := .tuple #[cv r A5 c5 LL, .bool (decide (x ∈ L)), .int .i64 (gone r L x), .int .i64 0]) (by simp [results, Try.results35, go_sem, r0, r1]) rfl ?_
  have e1 := HN.out
  subst e1
  have e2 := HLL.out
  subst e2
  exact ⟨A5, c5, rfl, HF.out.1, HF.out.2⟩

/-! ### toFront -/
set_option maxHeartbeats 4000000 in
theorem toFront_any (A : Option Addr) (c : Nat) (L : List Int) (r x : Int) (w : World) (hI : Ints w A c L) (hG : Lru.Good r L) (hx : isK x) :
    Calls Try.prog 30 #[.slice A L.length c, .int .i64 r, .int .i64 x] w fun e w' => ∃ A5 c5 E k, e = .returned (.tuple #[.slice A5 (touch r L x).length c5, .slice E (gl r L x).length k]) ∧ OwnI w' w.heap.size (.slice A5 (touch r L x).length c5) (touch r L x) ∧ OwnI w' w.heap.size (.slice E (gl r L x).length k) (gl r L x) ∧ Below w.heap.size w w' := by
  have hA := lruAccess_own r A c L x w hI hG hx
  dsimp only [cv] at hA
  have HA := Lib.hid hA
  clear hA
  clear hI hG hx
  obtain ⟨n, hn⟩ : ∃ n, n = L.length := ⟨_, rfl⟩
  rw [← hn] at HA ⊢
  obtain ⟨b, hb⟩ : ∃ b, b = decide (x ∈ L) := ⟨_, rfl⟩
  rw [← hb] at HA
  have HGl : Hid (gl r L x = if 0 ≤ gone r L x then [gone r L x] else []) := Lib.hid rfl
  generalize gl r L x = GL at *
  generalize touch r L x = T at *
  generalize gone r L x = g at *
  clear hb hn
  by_cases h : 0 ≤ g
  · have q : decide ((0 : Int) ≤ g) = true := by simpa using h
    rw [if_pos h] at HGl
    clear h
    obtain rfl := HGl.out
    go_enter Try.func30, Try.ntmps30
    go_wp2_with fail
    refine HA.out.mono ?_
    rintro e w1 ⟨A5, c5, rfl, ho1, hb1⟩
    obtain ⟨m, hm⟩ : ∃ m, T.length = m := ⟨_, rfl⟩
    rw [hm] at ho1 ⊢
    have HF : Hid (OwnI ((w1.alloc (.cells #[.int .i64 r, .slice A5 m c5] 59)).alloc (.cells #[.int .i64 g] 3)) w.heap.size (.slice A5 m c5) T ∧
        OwnI ((w1.alloc (.cells #[.int .i64 r, .slice A5 m c5] 59)).alloc (.cells #[.int .i64 g] 3)) w.heap.size (.slice (some ⟨w1.heap.size + 1, 0, none⟩) 1 1) [g] ∧ Below w.heap.size w ((w1.alloc (.cells #[.int .i64 r, .slice A5 m c5] 59)).alloc (.cells #[.int .i64 g] 3))) := Lib.hid (by
      refine ⟨own_al (own_al ho1 _) _, ?_, bel_al (bel_al hb1 hb1.size _) (by have := hb1.size; simp; omega) _⟩
      have := own_one1 (w1.alloc (.cells #[.int .i64 r, .slice A5 m c5] 59)) g w.heap.size (by have := hb1.size; simp; omega)
      rwa [show (w1.alloc (.cells #[.int .i64 r, .slice A5 m c5] 59)).heap.size = w1.heap.size + 1 by simp] at this)
    clear ho1 hb1
    go_wp2
    refine bodyPost_ret (v := .tuple #[.slice A5 m c5, .slice (some ⟨w1.heap.size + 1, 0, none⟩) 1 1]) (by simp [results, Try.results30, go_sem]) rfl ?_
    exact ⟨A5, c5, _, 1, by rw [hm], by rw [hm]; exact HF.out.1, HF.out.2.1, HF.out.2.2⟩
  · have q : decide ((0 : Int) ≤ g) = false := by simpa using h
    rw [if_neg h] at HGl
    clear h
    obtain rfl := HGl.out
    go_enter Try.func30, Try.ntmps30
    go_wp2_with fail
    refine HA.out.mono ?_
    rintro e w1 ⟨A5, c5, rfl, ho1, hb1⟩
    obtain ⟨m, hm⟩ : ∃ m, T.length = m := ⟨_, rfl⟩
    rw [hm] at ho1 ⊢
    have HF : Hid (OwnI (w1.alloc (.cells #[.int .i64 r, .slice A5 m c5] 59)) w.heap.size (.slice A5 m c5) T ∧ Below w.heap.size w (w1.alloc (.cells #[.int .i64 r, .slice A5 m c5] 59))) := Lib.hid ⟨own_al ho1 _, bel_al hb1 hb1.size _⟩
    clear ho1 hb1
    go_wp2
    refine bodyPost_ret (v := .tuple #[.slice A5 m c5, .slice none 0 0]) (by simp [results, Try.results30, go_sem]) rfl ?_
    exact ⟨A5, c5, none, 0, by rw [hm], by rw [hm]; exact HF.out.1, own_none _ _, HF.out.2⟩

end Go.Proofs.Ytpjgfehhhgcjnaa.Seg
