/-
  What the reference of package bloom returns: places, both, half.
-/
import Derived.Test.YtnnnjmelbnnnjaaBloomRef
namespace Go.Proofs.Ytnnnjmelbnnnjaa
open Go.RowKit Go.Shelf
set_option linter.unusedVariables false

theorem ints_one (w : World) (x : Int) (t : TypeId) : Ints (w.alloc (.cells #[.int .i64 x] t)) (some ⟨w.heap.size, 0, none⟩) 1 [x] :=
  ⟨by simp, by unfold maxLen; omega, fun e => (by cases e), fun _ => ⟨w.heap.size, 0, rfl, by simp, fun i hi => by
    have : i = 0 := by simpa using hi
    subst this
    simp [go_sem, gi]⟩⟩

/-- A list of ints of the call's own comes back. -/
def OwnR (L : List Int) (w : World) (e : Ending) (w' : World) : Prop :=
  ∃ A c, e = .returned (.slice A L.length c) ∧ Ints w' A c L ∧ (∀ a, A = some a → w.heap.size ≤ a.block) ∧ Below w.heap.size w w'
theorem ownR_of {L : List Int} {w w' : World} {v : Value} {B : Nat} (ho : OwnI w' B v L) (hB : w.heap.size ≤ B) (hb : Below w.heap.size w w') : OwnR L w (.returned v) w' := by
  obtain ⟨A, c, rfl, hi⟩ := ints_of_own ho
  exact ⟨A, c, rfl, hi, fun a h => by subst h; exact Nat.le_trans hB (ho.lt a.block rfl).1, hb⟩

theorem wpList_append_one {w : World} {ops : Array Oper} {rest : List Oper} {o : Oper} {a : Act} {Q : Exit → Act → World → Prop} (hgd : o.guard = none) (s x : Operand)
    (ho : o.op = .call { callee := .builtin .append, args := #[s, x], argTypes := #[22, 22] })
    (base : Nat) (v : Value) (L : List Int) (hs : a.eval s = v) (hown : OwnI w base v L) (n : Int) (t : TypeId)
    (hx : a.eval x = .slice (some ⟨w.heap.size, 0, none⟩) 1 1)
    (hn : L.length ≤ 1048576) (hbase : base ≤ w.heap.size)
    (h : ∀ v' w', OwnI w' base v' (L ++ [n]) → (w.alloc (.cells #[.int .i64 n] t)).grownBy w' v.ownBlock → wpList Try.prog ops Q rest (a.put o.dst v') w') : wpList Try.prog ops Q (o :: rest) a (w.alloc (.cells #[.int .i64 n] t)) :=
  wpList_append_ints hgd s x ho base v L hs (hown.alloc _) (some ⟨w.heap.size, 0, none⟩) 1 [n] hx (ints_one w n t) (by simp; omega) (by simp; omega) h

def bothB (L M : List Int) (k : Nat) : Bool := decide ((k : Int) ∈ L) || decide ((k : Int) ∈ M)

set_option maxHeartbeats 2000000 in
theorem both_any (A B : Option Addr) (c d : Nat) (L M : List Int) (n : Nat) (w : World) (ha : Ints w A c L) (hb : Ints w B d M) (hn : n ≤ 1024) :
    Calls Try.prog 14 #[.slice A L.length c, .slice B M.length d, .int .i64 (n : Int)] w (OwnR (upto (bothB L M) n) w) := by
  go_enter Try.func14, Try.ntmps14
  go_wp2
  go_loopw [7, 8] (fun v i wr => ∃ k : Nat, k ≤ n ∧ i = .int .i64 (k : Int) ∧ OwnI wr w.heap.size v (upto (bothB L M) k) ∧ Below w.heap.size w wr) (fun _ i _ => n - (intOf i).toNat)
  case atStart => exact ⟨0, by omega, rfl, World.ownsRow_nil _ _ _ _, Below.refl _ _⟩
  case round =>
    obtain ⟨k, hk, rfl, ho, HB⟩ := hrel
    have hsz := HB.size
    have ha2 := ha.below HB
    have hb2 := hb.below HB
    have hbo := ho.lt
    have hul := upto_len (bothB L M) k
    by_cases hlt : k < n
    · by_cases h1 : (k : Int) ∈ L
      · have q1 : decide ((k : Int) ∈ L) = true := by simpa using h1
        have HU : Hid (upto (bothB L M) (k + 1) = upto (bothB L M) k ++ [(k : Int)]) := Lib.hid (by rw [upto_succ, if_pos (by simp [bothB, h1])])
        clear h1
        go_wp2_with fail
        refine (hasInt_any A c L _ _ ha2).mono ?_
        rintro e w1 ⟨rfl, rfl⟩
        rw [q1]
        go_wp2_with (first
          | (at_builtin; refine wpList_append_one rfl _ _ rfl w.heap.size _ _ rfl ho (k : Int) _ rfl (by omega) hsz ?_)
          | go_in)
        intro v' w' h3 h4
        have HB' := Below.grown (HB.alloc hsz _) h4 (by simp; omega) (fun j hj => (hbo j hj).1)
        rw [← HU.out] at h3
        clear h4
        go_wp2
        go_roundw
        case rel => exact ⟨k + 1, by omega, by go_num, h3, HB'⟩
        case measure => simp [intOf]; omega
      · have q1 : decide ((k : Int) ∈ L) = false := by simpa using h1
        by_cases h2 : (k : Int) ∈ M
        · have q2 : decide ((k : Int) ∈ M) = true := by simpa using h2
          have HU : Hid (upto (bothB L M) (k + 1) = upto (bothB L M) k ++ [(k : Int)]) := Lib.hid (by rw [upto_succ, if_pos (by simp [bothB, h2])])
          clear h1 h2
          go_wp2_with fail
          refine (hasInt_any A c L _ _ ha2).mono ?_
          rintro e w1 ⟨rfl, rfl⟩
          rw [q1]
          go_wp2_with fail
          refine (hasInt_any B d M _ _ hb2).mono ?_
          rintro e w1 ⟨rfl, rfl⟩
          rw [q2]
          go_wp2_with (first
            | (at_builtin; refine wpList_append_one rfl _ _ rfl w.heap.size _ _ rfl ho (k : Int) _ rfl (by omega) hsz ?_)
            | go_in)
          intro v' w' h3 h4
          have HB' := Below.grown (HB.alloc hsz _) h4 (by simp; omega) (fun j hj => (hbo j hj).1)
          rw [← HU.out] at h3
          clear h4
          go_wp2
          go_roundw
          case rel => exact ⟨k + 1, by omega, by go_num, h3, HB'⟩
          case measure => simp [intOf]; omega
        · have q2 : decide ((k : Int) ∈ M) = false := by simpa using h2
          have HU : Hid (upto (bothB L M) (k + 1) = upto (bothB L M) k) := Lib.hid (by rw [upto_succ, if_neg (by simp [bothB, h1, h2])])
          clear h1 h2
          go_wp2_with fail
          refine (hasInt_any A c L _ _ ha2).mono ?_
          rintro e w1 ⟨rfl, rfl⟩
          rw [q1]
          go_wp2_with fail
          refine (hasInt_any B d M _ _ hb2).mono ?_
          rintro e w1 ⟨rfl, rfl⟩
          rw [q2]
          go_wp2
          go_roundw
          case rel => exact ⟨k + 1, by omega, by go_num, by rw [HU.out]; exact ho, HB⟩
          case measure => simp [intOf]; omega
    · obtain rfl : k = n := by omega
      go_wp2
      go_ret
      exact ownR_of ho (Nat.le_refl _) HB

def halfB (L : List Int) (k : Nat) : Bool := decide (2 * (k : Int) ∈ L) || decide (2 * (k : Int) + 1 ∈ L)

set_option maxHeartbeats 2000000 in
theorem half_ref (F : Fl) (A : Option Addr) (c : Nat) (w : World) (ha : Ints w A c F.set) (h0 : 0 ≤ F.size) (hn : F.size ≤ 1024) :
    Calls Try.prog 16 #[fv F A c] w (OwnR (upto (halfB F.set) (F.size / 2).toNat) w) := by
  have X0 := Bx.new ha
  have HB0 : Below w.heap.size w (w.alloc (fo F A c)) := (Below.refl _ _).alloc (Nat.le_refl _) _
  obtain ⟨n, hn2⟩ : ∃ n : Nat, F.size / 2 = (n : Int) := ⟨(F.size / 2).toNat, by omega⟩
  have HN := Lib.hid hn2
  rw [hn2, Int.toNat_natCast]
  have hn3 : n ≤ 512 := by omega
  go_enter Try.func16, Try.ntmps16
  go_wp2
  generalize hW1 : w.alloc (fo F A c) = w1 at *
  clear hW1
  have xp := X0.1
  go_loopw [3, 4] (fun v i wr => ∃ k : Nat, k ≤ n ∧ i = .int .i64 (k : Int) ∧ OwnI wr w1.heap.size v (upto (halfB F.set) k) ∧ Below w1.heap.size w1 wr) (fun _ i _ => n - (intOf i).toNat)
  case atStart => exact ⟨0, by omega, rfl, World.ownsRow_nil _ _ _ _, Below.refl _ _⟩
  case round =>
    obtain ⟨k, hk, rfl, ho, HB⟩ := hrel
    have hsz := HB.size
    obtain ⟨_, x1, x2, x3, xi⟩ := X0.below HB
    have hbo := ho.lt
    have hul := upto_len (halfB F.set) k
    by_cases hlt : k < n
    · have hk2 : (k : Int) < F.size / 2 := by omega
      by_cases h1 : 2 * (k : Int) ∈ F.set
      · have q1 : decide (2 * (k : Int) ∈ F.set) = true := by simpa using h1
        have HU : Hid (upto (halfB F.set) (k + 1) = upto (halfB F.set) k ++ [(k : Int)]) := Lib.hid (by rw [upto_succ, if_pos (by simp [halfB, h1])])
        clear h1
        go_wp2_with fail
        refine (hasInt_any A c F.set _ _ xi).mono ?_
        rintro e w2 ⟨rfl, rfl⟩
        rw [q1]
        go_wp2_with (first
          | (at_builtin; refine wpList_append_one rfl _ _ rfl w1.heap.size _ _ rfl ho (k : Int) _ rfl (by omega) hsz ?_)
          | go_in)
        intro v' w' h3 h4
        have HB' := Below.grown (HB.alloc hsz _) h4 (by simp; omega) (fun j hj => (hbo j hj).1)
        rw [← HU.out] at h3
        clear h4
        go_wp2
        go_roundw
        case rel => exact ⟨k + 1, by omega, by go_num, h3, HB'⟩
        case measure => simp [intOf]; omega
      · have q1 : decide (2 * (k : Int) ∈ F.set) = false := by simpa using h1
        by_cases h2 : 2 * (k : Int) + 1 ∈ F.set
        · have q2 : decide (2 * (k : Int) + 1 ∈ F.set) = true := by simpa using h2
          have HU : Hid (upto (halfB F.set) (k + 1) = upto (halfB F.set) k ++ [(k : Int)]) := Lib.hid (by rw [upto_succ, if_pos (by simp [halfB, h2])])
          clear h1 h2
          go_wp2_with fail
          refine (hasInt_any A c F.set _ _ xi).mono ?_
          rintro e w2 ⟨rfl, rfl⟩
          rw [q1]
          go_wp2_with fail
          refine (hasInt_any A c F.set _ _ xi).mono ?_
          rintro e w2 ⟨rfl, rfl⟩
          rw [q2]
          go_wp2_with (first
            | (at_builtin; refine wpList_append_one rfl _ _ rfl w1.heap.size _ _ rfl ho (k : Int) _ rfl (by omega) hsz ?_)
            | go_in)
          intro v' w' h3 h4
          have HB' := Below.grown (HB.alloc hsz _) h4 (by simp; omega) (fun j hj => (hbo j hj).1)
          rw [← HU.out] at h3
          clear h4
          go_wp2
          go_roundw
          case rel => exact ⟨k + 1, by omega, by go_num, h3, HB'⟩
          case measure => simp [intOf]; omega
        · have q2 : decide (2 * (k : Int) + 1 ∈ F.set) = false := by simpa using h2
          have HU : Hid (upto (halfB F.set) (k + 1) = upto (halfB F.set) k) := Lib.hid (by rw [upto_succ, if_neg (by simp [halfB, h1, h2])])
          clear h1 h2
          go_wp2_with fail
          refine (hasInt_any A c F.set _ _ xi).mono ?_
          rintro e w2 ⟨rfl, rfl⟩
          rw [q1]
          go_wp2_with fail
          refine (hasInt_any A c F.set _ _ xi).mono ?_
          rintro e w2 ⟨rfl, rfl⟩
          rw [q2]
          go_wp2
          go_roundw
          case rel => exact ⟨k + 1, by omega, by go_num, by rw [HU.out]; exact ho, HB⟩
          case measure => simp [intOf]; omega
    · obtain rfl : k = n := by omega
      have hk2 : ¬ ((k : Int) < F.size / 2) := by omega
      go_wp2
      go_ret
      exact ownR_of ho HB0.size (HB0.trans (HB.mono HB0.size))

end Go.Proofs.Ytnnnjmelbnnnjaa
