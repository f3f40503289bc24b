/-
  Package lru: a key is moved to the front.
-/
import Derived.Test.YtjmhemkbfephpaaLruWalks
namespace Go.Proofs.Ytjmhemkbfephpaa.Lru
open Go.RowKit
set_option linter.unusedVariables false

theorem own_take {w : World} {base c k : Nat} {A : Option Addr} {L : List Int} (h : OwnI w base (.slice A L.length c) L) (hk : k ≤ L.length) (h0 : 0 < L.length) : OwnI w base (.slice A k c) (L.take k) := by
  rcases h.2 with ⟨e, h1⟩ | ⟨g, cap, cur, e, hb, hg, hn, hm, hs, ht⟩
  · omega
  · cases e
    have hl : (L.take k).length = k := by rw [List.length_take]; omega
    unfold OwnI
    rw [hl]
    refine ⟨by simp; omega, .inr ⟨g, _, cur, rfl, hb, hg, by omega, hm, hs, ?_⟩⟩
    rw [Nat.mul_one] at ht ⊢
    have := congrArg (List.take k) ht
    rwa [List.take_take, Nat.min_eq_left hk, ← List.map_take] at this
theorem own_one (w : World) (x : Int) : (w.alloc (.cells #[encI x] 3)).heap[w.heap.size]? = some (.cells #[encI x] 3 (0, 0)) := Array.getElem?_push_size
theorem own_alloc {w : World} {base : Nat} {v : Value} {L : List Int} (h : OwnI w base v L) (o : Obj) : OwnI (w.alloc o) base v L := World.ownsRow.alloc h o
theorem own_ne {w : World} {base : Nat} {v : Value} {L : List Int} (h : OwnI w base v L) : v.ownBlock ≠ some w.heap.size := fun e => by have := (h.lt _ e).2; omega
theorem bel_al {B : Nat} {w w' : World} (h : Below B w w') (hB : B ≤ w'.heap.size) (o : Obj) : Below B w (w'.alloc o) := h.alloc hB o
/-- Insert of a key that lies in a new block. -/
theorem insert_new (base : Nat) (v : Value) (L : List Int) (x : Int) (w : World) (hown : OwnI w base v L) (hB : base ≤ w.heap.size) (hl : L.length ≤ 4096) :
    Calls Try.prog 51 #[v, .int .i64 0, .slice (some ⟨w.heap.size, 0, none⟩) 1 1] (w.alloc (.cells #[.int .i64 x] 3)) fun e w' => ∃ v', e = .returned v' ∧ OwnI w' base v' (x :: L) ∧ Below base w w' := by
  refine (insert_own base v L x w.heap.size (w.alloc (.cells #[encI x] 3)) (own_alloc hown _) (own_one w x) (own_ne hown) (Nat.le_trans hB (by simp)) hl).mono ?_
  rintro e w' ⟨v', rfl, h1, h2⟩
  exact ⟨v', rfl, h1, (bel_al (Below.refl _ _) hB _).trans h2⟩

/-- What use gives. -/
def UR (r : Int) (L : List Int) (x : Int) (base : Nat) (w : World) (e : Ending) (w' : World) : Prop :=
  ∃ v', e = .returned (.tuple #[v', .bool (decide (x ∈ L)), .int .i64 (gone r L x)]) ∧ OwnI w' base v' (touch r L x) ∧ Below base w w'

set_option maxHeartbeats 2000000 in
theorem use_any (base : Nat) (v : Value) (L : List Int) (r x : Int) (w : World) (hown : OwnI w base v L) (hB : base ≤ w.heap.size) (hr : isRm r) (hl : (L.length : Int) ≤ r) :
    Calls Try.prog 39 #[v, .int .i64 r, .int .i64 x] w (UR r L x base w) := by
  obtain ⟨A, c, rfl, hI⟩ := ints_of_own hown
  have HO := Lib.hid hown
  have HI := Lib.hid hI
  have HB := Lib.hid hB
  have HX := Lib.hid (index_any A c L x w hI)
  have hr40 := hr.2
  have hr1 := hr.1
  have HL : Hid (L.length ≤ 40) := Lib.hid (by omega)
  clear hown hI hB hr
  by_cases hx : x ∈ L
  · obtain ⟨k, hk, he, hd⟩ := idx_in hx
    have HE : Hid (touch r L x = x :: (L.take k ++ L.drop (k + 1)) ∧ gone r L x = -1 ∧ decide (x ∈ L) = true) := Lib.hid ⟨by rw [touch_in hx hl, hd], by unfold gone; rw [if_pos hx], by simpa using hx⟩
    have HLd : Hid ((L.take k ++ L.drop (k + 1)).length ≤ 4096) := Lib.hid (by rw [hd]; have := List.length_erase_le (a := x) (l := L); have := HL.out; omega)
    have HD := Lib.hid (delete_own base (.slice A L.length c) L k w HO.out hk HB.out)
    have hkk : k < 40 := by have := HL.out; omega
    rw [he] at HX
    have q1 : decide ((0 : Int) ≤ (k : Int)) = true := by simp
    have hk9 : IntKind.i64.wrap ((k : Int) + 1) = (k : Int) + 1 := by rw [IntKind.wrap_i64]; omega
    clear hx he hd hk hl
    generalize L.take k ++ L.drop (k + 1) = M at *
    generalize L.length = ln at *
    go_enter Try.func39, Try.ntmps39
    go_wp2_with fail
    refine HX.out.mono ?_
    rintro e w' ⟨rfl, rfl⟩
    go_wp2_with fail
    refine HD.out.mono ?_
    rintro e w1 ⟨v1, rfl, ho1, hb1⟩
    have HN := Lib.hid (insert_new base v1 M x w1 ho1 (Nat.le_trans HB.out hb1.size) HLd.out)
    have HB1 := Lib.hid hb1
    clear ho1 hb1
    go_wp2_with fail
    refine HN.out.mono ?_
    rintro e w2 ⟨v2, rfl, ho2, hb2⟩
    have HO2 := Lib.hid ho2
    have HB2 := Lib.hid (HB1.out.trans hb2)
    clear ho2 hb2
    go_wp2
    refine bodyPost_ret (v := .tuple #[v2, .bool true, .int .i64 (-1)]) (by simp [results, Try.results39, go_sem]) rfl ?_
    exact ⟨v2, by rw [HE.out.2.1, HE.out.2.2], by rw [HE.out.1]; exact HO2.out, HB2.out⟩
  · have hlt := idx_out hx
    have HXd : Hid (decide (x ∈ L) = false) := Lib.hid (by simpa using hx)
    obtain ⟨i, hi⟩ : ∃ i, i = Lib.idxOf L x := ⟨_, rfl⟩
    rw [← hi] at HX hlt
    have q1 : decide ((0 : Int) ≤ i) = false := by simp; omega
    clear hi hlt
    by_cases hf : (L.length : Int) = r
    · obtain ⟨m, hm⟩ : ∃ m, L.length = m + 1 := ⟨L.length - 1, by omega⟩
      have HE : Hid (touch r L x = x :: L.take m ∧ gone r L x = gi L m) := Lib.hid ⟨by rw [touch_full hx hf, hm]; rfl, by unfold gone; rw [if_neg hx, if_pos hf, hm]; rfl⟩
      obtain ⟨b, o, rfl, ht⟩ := HI.out.2.2.2 (by omega)
      have e1 := ht.2 m (by omega)
      obtain ⟨A', hsl, -, -⟩ := slice_upto HI.out (k := m) (by omega)
      have HT := Lib.hid (own_take (k := m) HO.out (by omega) (by omega))
      have hc1 := HI.out.1
      have HN := Lib.hid (insert_new base (.slice (some ⟨b, o, none⟩) m c) (L.take m) x w HT.out HB.out (by rw [List.length_take]; have := HL.out; omega))
      have hmk : m < 40 := by have := HL.out; omega
      obtain ⟨n, hn⟩ : ∃ n, L.length = n := ⟨_, rfl⟩
      rw [hn] at HX hf hm hc1 ⊢
      have hw : IntKind.i64.wrap ((n : Int) - 1) = (m : Int) := by rw [IntKind.wrap_i64]; omega
      have h1 : (m : Int) < (n : Int) := by omega
      have h2 : (0 : Int) ≤ (m : Int) := by omega
      have h3 : (m : Int) ≤ (c : Int) := by omega
      have hmn : m ≤ c := by omega
      have hmc : ¬ c = 0 := by omega
      subst hf
      have q2 : ((n : Int) == (n : Int)) = true := by simp
      clear hx ht hl hsl hn hr40 hr1 hm hc1 hmk
      go_enter Try.func39, Try.ntmps39
      go_wp2_with fail
      refine HX.out.mono ?_
      rintro e w' ⟨rfl, rfl⟩
      go_wp2_with fail
      refine HN.out.mono ?_
      rintro e w2 ⟨v2, rfl, ho2, hb2⟩
      have HO2 := Lib.hid ho2
      have HB2 := Lib.hid hb2
      clear ho2 hb2
      go_wp2
      refine bodyPost_ret (v := .tuple #[v2, .bool false, .int .i64 (gi L m)]) (by simp [results, Try.results39, go_sem]) rfl ?_
      exact ⟨v2, by rw [HE.out.2, HXd.out], by rw [HE.out.1]; exact HO2.out, HB2.out⟩
    · have HE : Hid (touch r L x = x :: L ∧ gone r L x = -1) := Lib.hid ⟨touch_room hx (by omega), by unfold gone; rw [if_neg hx, if_neg hf]⟩
      have HN := Lib.hid (insert_new base (.slice A L.length c) L x w HO.out HB.out (by have := HL.out; omega))
      have q2 : ((L.length : Int) == r) = false := by simpa using hf
      clear hx hf hl
      generalize L.length = ln at *
      go_enter Try.func39, Try.ntmps39
      go_wp2_with fail
      refine HX.out.mono ?_
      rintro e w' ⟨rfl, rfl⟩
      go_wp2_with fail
      refine HN.out.mono ?_
      rintro e w2 ⟨v2, rfl, ho2, hb2⟩
      have HO2 := Lib.hid ho2
      have HB2 := Lib.hid hb2
      clear ho2 hb2
      go_wp2
      refine bodyPost_ret (v := .tuple #[v2, .bool false, .int .i64 (-1)]) (by simp [results, Try.results39, go_sem]) rfl ?_
      exact ⟨v2, by rw [HE.out.2, HXd.out], by rw [HE.out.1]; exact HO2.out, HB2.out⟩

end Go.Proofs.Ytjmhemkbfephpaa.Lru
