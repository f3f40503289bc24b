/-
  What the reference of package bloom returns: the places of a string.
-/
import Derived.Test.YtnnnjmelbnnnjaaBloomRef2
namespace Go.Proofs.Ytnnnjmelbnnnjaa
open Go.RowKit Go.Shelf
set_option linter.unusedVariables false

theorem refFold_int (x : BitVec 64) (m : Int) (h1 : 1 ≤ m) (h2 : m ≤ 1048576) (w : World) :
    Calls Try.prog 35 #[.int .u64 (nv x), .int .i64 m] w fun e w' => e = .returned (.int .i64 (redI x m)) ∧ w = w' := by
  obtain ⟨n, rfl⟩ : ∃ n : Nat, m = (n : Int) := ⟨m.toNat, by omega⟩
  exact refFold_any x n (by omega) (by omega) w

set_option maxHeartbeats 2000000 in
theorem isPlace_any (F : Fl) (A : Option Addr) (c : Nat) (s : ByteArray) (t : Int) (w : World) (g1 : 1 ≤ F.size) (g2 : F.size ≤ 1024) (g3 : 1 ≤ F.hashes) (g4 : F.hashes ≤ 8) (hs : s.size ≤ 40) :
    Calls Try.prog 26 #[fv F A c, .string s, .int .i64 t] w fun e w' => e = .returned (.bool (decide (t ∈ hl F s))) ∧ Below w.heap.size w w' := by
  have HB0 : Below w.heap.size w (w.alloc (fo F A c)) := (Below.refl _ _).alloc (Nat.le_refl _) _
  have x0 : w.heap.size < (w.alloc (fo F A c)).heap.size := by simp
  have x1 : (w.alloc (fo F A c)).cell? ⟨w.heap.size, 0, none⟩ = some (.int .i64 F.size) := by simp [go_sem]
  have x2 : (w.alloc (fo F A c)).cell? ⟨w.heap.size, 1, none⟩ = some (.int .i64 F.hashes) := by simp [go_sem]
  obtain ⟨h, hh⟩ : ∃ h : Nat, F.hashes = (h : Int) := ⟨F.hashes.toNat, by omega⟩
  have HH := Lib.hid hh
  have HX1 := Lib.hid x1
  have HX2 := Lib.hid x2
  have hl2 : h ≤ 8 := by omega
  clear hh x1 x2
  go_enter Try.func26, Try.ntmps26
  go_wp2
  generalize w.alloc (fo F A c) = w1 at *
  go_loopw [7] (fun i wr => ∃ k : Nat, k ≤ h ∧ i = .int .i64 (k : Int) ∧ Hid (∀ j, j < k → plN s j F.size ≠ t) ∧ Below w1.heap.size w1 wr) (fun i _ => h - (intOf i).toNat)
  case atStart => exact ⟨0, by omega, rfl, Lib.hid (fun j hj => by omega), Below.refl _ _⟩
  case round =>
    obtain ⟨k, hk, rfl, HA, HB⟩ := hrel
    have y1 := (HB.cell (p := ⟨w.heap.size, 0, none⟩) x0).trans HX1.out
    have y2 := (HB.cell (p := ⟨w.heap.size, 1, none⟩) x0).trans HX2.out
    by_cases hlt : k < h
    · have l1 : (k : Int) < F.hashes := by rw [HH.out]; omega
      have HXR : Hid (bits .xor .u64 (nv (fnv s.data.toList)) (k : Int) = nv (fnv s.data.toList ^^^ BitVec.ofNat 64 k)) := Lib.hid (by rw [← nv_xor, nv_lit k (by omega)])
      have HPL : Hid (redI (mixB (fnv s.data.toList ^^^ BitVec.ofNat 64 k)) F.size = plN s k F.size) := Lib.hid (plN_eq _ _ _).symm
      by_cases he : plN s k F.size = t
      · have hq : (redI (mixB (fnv s.data.toList ^^^ BitVec.ofNat 64 k)) F.size == t) = true := by rw [HPL.out]; simp [he]
        have HR : Hid (decide (t ∈ hl F s) = true) := Lib.hid (by simp only [decide_eq_true_eq]; exact mem_hl.2 ⟨k, by rw [HH.out]; exact hlt, he⟩)
        clear he
        go_wp2
        go_quiet (first
          | (go_at_call 37; exact Calls.quiet_of_same (w_swap (refSum_any s _ hs)))
          | (go_at_call 36; rw [HXR.out]; exact Calls.quiet_of_same (w_swap (refOf_any _ _)))
          | (go_at_call 35; exact Calls.quiet_of_same (w_swap (refFold_int _ F.size g1 (by omega) _))))
        go_wp2
        go_ret
        exact ⟨ret_bool HR.out.symm, below_drewN (HB0.trans (HB.mono HB0.size)) _⟩
      · have hq : (redI (mixB (fnv s.data.toList ^^^ BitVec.ofNat 64 k)) F.size == t) = false := by rw [HPL.out]; simp [he]
        have HE := Lib.hid he
        clear he
        go_wp2
        go_quiet (first
          | (go_at_call 37; exact Calls.quiet_of_same (w_swap (refSum_any s _ hs)))
          | (go_at_call 36; rw [HXR.out]; exact Calls.quiet_of_same (w_swap (refOf_any _ _)))
          | (go_at_call 35; exact Calls.quiet_of_same (w_swap (refFold_int _ F.size g1 (by omega) _))))
        go_wp2
        go_roundw
        case rel => exact ⟨k + 1, by omega, by go_num, Lib.hid (fun j hj => by
          by_cases x : j = k
          · subst x; exact HE.out
          · exact HA.out j (by omega)), below_drewN HB _⟩
        case measure => simp [intOf]; omega
    · obtain rfl : k = h := by omega
      have l1 : ¬ ((k : Int) < F.hashes) := by rw [HH.out]; omega
      have HR : Hid (decide (t ∈ hl F s) = false) := Lib.hid (by
        simp only [decide_eq_false_iff_not]
        intro hm
        obtain ⟨j, hj, e⟩ := mem_hl.1 hm
        rw [HH.out] at hj
        exact HA.out j hj e)
      go_wp2
      go_ret
      exact ⟨ret_bool HR.out.symm, HB0.trans (HB.mono HB0.size)⟩

noncomputable def placeB (F : Fl) (s : ByteArray) (k : Nat) : Bool := decide ((k : Int) ∈ hl F s)

set_option maxHeartbeats 2000000 in
theorem places_any (F : Fl) (A : Option Addr) (c : Nat) (s : ByteArray) (w : World) (ha : Ints w A c F.set) (g1 : 1 ≤ F.size) (g2 : F.size ≤ 1024) (g3 : 1 ≤ F.hashes) (g4 : F.hashes ≤ 8) (hs : s.size ≤ 40) :
    Calls Try.prog 13 #[fv F A c, .string s] w (OwnR (upto (placeB F s) F.size.toNat) w) := by
  have X0 := Bx.new ha
  have HB0 : Below w.heap.size w (w.alloc (fo F A c)) := (Below.refl _ _).alloc (Nat.le_refl _) _
  obtain ⟨n, hn2⟩ : ∃ n : Nat, F.size = (n : Int) := ⟨F.size.toNat, by omega⟩
  have HN := Lib.hid hn2
  have HN2 : Hid (F.size.toNat = n) := Lib.hid (by rw [hn2]; rfl)
  rw [HN2.out]
  have hn3 : n ≤ 1024 := by omega
  clear hn2
  go_enter Try.func13, Try.ntmps13
  go_wp2
  generalize hW1 : w.alloc (fo F A c) = w1 at *
  clear hW1
  have xp := X0.1
  go_loopw [5, 6] (fun v i wr => ∃ k : Nat, k ≤ n ∧ i = .int .i64 (k : Int) ∧ OwnI wr w1.heap.size v (upto (placeB F s) k) ∧ Below w1.heap.size w1 wr) (fun _ i _ => n - (intOf i).toNat)
  case atStart => exact ⟨0, by omega, rfl, World.ownsRow_nil _ _ _ _, Below.refl _ _⟩
  case round =>
    obtain ⟨k, hk, rfl, ho, HB⟩ := hrel
    obtain ⟨_, x1, x2, x3, xi⟩ := X0.below HB
    have hul := upto_len (placeB F s) k
    have hsz := HB.size
    by_cases hlt : k < n
    · have hk2 : (k : Int) < F.size := by rw [HN.out]; omega
      by_cases h1 : (k : Int) ∈ hl F s
      · have q1 : decide ((k : Int) ∈ hl F s) = true := by simpa using h1
        have HU : Hid (upto (placeB F s) (k + 1) = upto (placeB F s) k ++ [(k : Int)]) := Lib.hid (by rw [upto_succ, if_pos (by simp [placeB, h1])])
        clear h1
        go_wp2_with fail
        refine (isPlace_any F A c s _ _ g1 g2 g3 g4 hs).mono ?_
        rintro e w2 ⟨rfl, hb2⟩
        rw [q1]
        have ho2 := ho.kept (w' := w2) (row := none) ⟨hb2.os, hb2.tape, hb2.output, hb2.size, fun j hj _ => hb2.block j hj⟩ (by cases hv : u5.ownBlock <;> simp)
        have HB2 := HB.trans (hb2.mono HB.size)
        have hsz2 := HB2.size
        have hbo := ho2.lt
        clear ho HB hb2 x1 x2 x3 xi hsz
        go_wp2_with (first
          | (at_builtin; refine wpList_append_one rfl _ _ rfl w1.heap.size _ _ rfl ho2 (k : Int) _ rfl (by omega) hsz2 ?_)
          | go_in)
        intro v' w' h3 h4
        have HB' := Below.grown (HB2.alloc hsz2 _) h4 (by simp; omega) (fun j hj => (hbo j hj).1)
        rw [← HU.out] at h3
        clear h4
        go_wp2
        go_roundw
        case rel => exact ⟨k + 1, by omega, by go_num, h3, HB'⟩
        case measure => simp [intOf]; omega
      · have q1 : decide ((k : Int) ∈ hl F s) = false := by simpa using h1
        have HU : Hid (upto (placeB F s) (k + 1) = upto (placeB F s) k) := Lib.hid (by rw [upto_succ, if_neg (by simp [placeB, h1])])
        clear h1
        go_wp2_with fail
        refine (isPlace_any F A c s _ _ g1 g2 g3 g4 hs).mono ?_
        rintro e w2 ⟨rfl, hb2⟩
        rw [q1]
        have ho2 := ho.kept (w' := w2) (row := none) ⟨hb2.os, hb2.tape, hb2.output, hb2.size, fun j hj _ => hb2.block j hj⟩ (by cases hv : u5.ownBlock <;> simp)
        have HB2 := HB.trans (hb2.mono HB.size)
        clear ho HB hb2 x1 x2 x3 xi hsz
        go_wp2
        go_roundw
        case rel => exact ⟨k + 1, by omega, by go_num, by rw [HU.out]; exact ho2, HB2⟩
        case measure => simp [intOf]; omega
    · obtain rfl : k = n := by omega
      have hk2 : ¬ ((k : Int) < F.size) := by rw [HN.out]; omega
      go_wp2
      go_ret
      exact ownR_of ho HB0.size (HB0.trans (HB.mono HB0.size))

theorem both_int (A B : Option Addr) (c d : Nat) (L M : List Int) (n : Int) (w : World) (ha : Ints w A c L) (hb : Ints w B d M) (h0 : 0 ≤ n) (hn : n ≤ 1024) :
    Calls Try.prog 14 #[.slice A L.length c, .slice B M.length d, .int .i64 n] w (OwnR (upto (bothB L M) n.toNat) w) := by
  obtain ⟨m, rfl⟩ : ∃ m : Nat, n = (m : Int) := ⟨n.toNat, by omega⟩
  exact both_any A B c d L M m w ha hb (by omega)

/-! ### The reference's lists are the program's -/
theorem places_eq {F : Fl} (g : Good F) (s : ByteArray) : upto (placeB F s) F.size.toNat = bitsL F s := by
  have h1 := g.s1
  refine upto_eq (ord_inc _) (fun x hx => by have := bits_bd g hx; omega) (fun k hk => ?_)
  unfold placeB bitsL
  rw [decide_eq_true_eq, mem_ord]
theorem both_eq {L M : List Int} {n : Nat} (hL : ∀ x ∈ L, 0 ≤ x ∧ x < (n : Int)) (hM : ∀ x ∈ M, 0 ≤ x ∧ x < (n : Int)) : upto (bothB L M) n = ord (L ++ M) := by
  refine upto_eq (ord_inc _) (fun x hx => ?_) (fun k hk => ?_)
  · rcases List.mem_append.1 (mem_ord.1 hx) with h | h
    · exact hL x h
    · exact hM x h
  · unfold bothB
    rw [Bool.or_eq_true, decide_eq_true_eq, decide_eq_true_eq, mem_ord, List.mem_append]
theorem half_eq {F : Fl} (g : Good F) (h : F.size % 2 = 0) : upto (halfB F.set) (F.size / 2).toNat = ord (F.set.map (· / 2)) := by
  have h1 := g.s1
  refine upto_eq (ord_inc _) (fun x hx => ?_) (fun k hk => ?_)
  · obtain ⟨y, hy, rfl⟩ := List.mem_map.1 (mem_ord.1 hx)
    have := g.bd y hy
    omega
  · unfold halfB
    rw [Bool.or_eq_true, decide_eq_true_eq, decide_eq_true_eq, mem_ord, List.mem_map]
    constructor
    · rintro (h | h)
      · exact ⟨_, h, by omega⟩
      · exact ⟨_, h, by omega⟩
    · rintro ⟨y, hy, e⟩
      have : y = 2 * (k : Int) ∨ y = 2 * (k : Int) + 1 := by omega
      rcases this with rfl | rfl
      · exact .inl hy
      · exact .inr hy
theorem may_eq {F : Fl} (g : Good F) (s : ByteArray) : decide (ord (F.set ++ bitsL F s) = F.set) = mayL F s := by
  rw [Bool.eq_iff_iff, decide_eq_true_eq, mayL_iff]
  constructor
  · intro h x hx
    rw [← h]
    exact mem_ord.2 (List.mem_append.2 (.inr hx))
  · intro h
    refine ord_eq g.inc (fun x => ?_)
    rw [List.mem_append]
    exact ⟨fun hx => hx.elim id (h x), .inl⟩

end Go.Proofs.Ytnnnjmelbnnnjaa
