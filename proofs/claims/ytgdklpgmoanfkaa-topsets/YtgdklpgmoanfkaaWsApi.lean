/-
  Package workset: last, isNumber, check, set, common.
-/
import Derived.Test.YtgdklpgmoanfkaaWsMath
import Derived.Test.YtgdklpgmoanfkaaRowInts
import Derived.Test.YtgdklpgmoanfkaaLruWalks
import Derived.BigQuiet
namespace Go.Proofs.Ytgdklpgmoanfkaa.Wst
open Go.RowKit
open Lru (isRm isK traceE trace_zero slice_upto slice_from)
open Dst (win fltK row)
open Two
set_option linter.unusedVariables false
set_option maxRecDepth 100000

set_option maxHeartbeats 1000000 in
theorem last_any (A : Option Addr) (c : Nat) (M : List Int) (n : Nat) (w : World) (hI : Ints w A c M) (hl : M.length ≤ 4000) (hn : n ≤ 4000) :
    Calls Try.prog 25 #[.slice A M.length c, .int .i64 (n : Int)] w fun e w' => (∃ A' c', e = .returned (.slice A' (M.drop (M.length - n)).length c') ∧ Ints w A' c' (M.drop (M.length - n))) ∧ w' = w := by
  obtain ⟨A', c', hs, hI'⟩ := slice_from hI (k := M.length - n) (by omega)
  have HI' := Lib.hid hI'
  have hw : IntKind.i64.wrap ((M.length : Int) - (n : Int)) = (M.length : Int) - (n : Int) := by rw [IntKind.wrap_i64]; omega
  have hm : max (0 : Int) ((M.length : Int) - (n : Int)) = ((M.length - n : Nat) : Int) := by omega
  have hm2 : max ((M.length : Int) - (n : Int)) (0 : Int) = ((M.length - n : Nat) : Int) := by omega
  clear hI hI'
  generalize (M.drop (M.length - n)).length = dl at *
  generalize M.length - n = k at *
  generalize M.length = ln at *
  go_enter Try.func25, Try.ntmps25
  go_wp2
  go_ret
  exact ⟨⟨A', c', rfl, HI'.out⟩, rfl⟩

theorem isNumber_any (x : Int) (b : Bool) (w : World) (hb : decide (isN x) = b) :
    Calls Try.prog 26 #[.int .i64 x] w fun e w' => e = .returned (.bool b) ∧ w' = w := by
  by_cases h1 : 1 ≤ x
  · have p1 : decide (1 ≤ x) = true := by simpa using h1
    by_cases h2 : x ≤ 200
    · have p2 : decide (x ≤ 200) = true := by simpa using h2
      have e : b = true := hb.symm.trans (decide_eq_true ⟨h1, h2⟩)
      subst e
      clear h1 h2 hb
      go_enter Try.func26, Try.ntmps26
      go_wp2
      go_ret
      exact ⟨rfl, rfl⟩
    · have p2 : decide (x ≤ 200) = false := by simpa using h2
      have e : b = false := hb.symm.trans (decide_eq_false (fun h => h2 h.2))
      subst e
      clear h1 h2 hb
      go_enter Try.func26, Try.ntmps26
      go_wp2
      go_ret
      exact ⟨rfl, rfl⟩
  · have p1 : decide (1 ≤ x) = false := by simpa using h1
    have e : b = false := hb.symm.trans (decide_eq_false (fun h => h1 h.1))
    subst e
    clear h1 hb
    go_enter Try.func26, Try.ntmps26
    go_wp2
    go_ret
    exact ⟨rfl, rfl⟩

theorem check_any (A : Option Addr) (c : Nat) (L : List Int) (x : Int) (w : World) (hI : Ints w A c L) :
    Calls Try.prog 22 #[.slice A L.length c, .int .i64 x] w fun e w' => e = .returned (.int .i64 (wkE L x)) ∧ w = w' := by
  have HC := Lib.hid (Lru.checkTrace_any A c L w hI)
  clear hI
  by_cases h0 : traceE L = 0
  · have q : (traceE L != 0) = false := by simpa using h0
    rw [h0] at HC q
    by_cases hx : isN x
    · have HN := Lib.hid (isNumber_any x true w (by simpa using hx))
      have HE : Hid (wkE L x = 0) := Lib.hid (wkE_zero.2 ⟨h0, hx⟩)
      rw [HE.out]
      clear h0 hx HE
      generalize L.length = n at *
      go_enter Try.func22, Try.ntmps22
      go_wp2_with fail
      refine HC.out.mono ?_
      rintro e w2 ⟨rfl, rfl⟩
      go_wp2_with fail
      refine HN.out.mono ?_
      rintro e w2 ⟨rfl, rfl⟩
      go_wp2
      go_ret
      exact ⟨rfl, rfl⟩
    · have HN := Lib.hid (isNumber_any x false w (by simpa using hx))
      have HE : Hid (wkE L x = 3) := Lib.hid (by unfold wkE; rw [if_pos h0, if_neg hx])
      rw [HE.out]
      clear h0 hx HE
      generalize L.length = n at *
      go_enter Try.func22, Try.ntmps22
      go_wp2_with fail
      refine HC.out.mono ?_
      rintro e w2 ⟨rfl, rfl⟩
      go_wp2_with fail
      refine HN.out.mono ?_
      rintro e w2 ⟨rfl, rfl⟩
      go_wp2
      go_ret
      exact ⟨rfl, rfl⟩
  · have HE : Hid (wkE L x = traceE L) := Lib.hid (by unfold wkE; rw [if_neg h0])
    have q : (traceE L != 0) = true := by simpa using h0
    rw [HE.out]
    clear h0 HE
    generalize traceE L = t at *
    generalize L.length = n at *
    go_enter Try.func22, Try.ntmps22
    go_wp2_with fail
    refine HC.out.mono ?_
    rintro e w2 ⟨rfl, rfl⟩
    go_wp2
    go_ret
    exact ⟨rfl, rfl⟩

/-- Sorted, and each once. -/
theorem sorted_once (base : Nat) (v : Value) (zs : List Int) (w : World) (h : OwnI w base v zs) (h0 : 0 < zs.length) (hB : base ≤ w.heap.size) (hl : zs.length ≤ 1048576) :
    Calls Try.prog 40 #[v] w fun e w1 => e = .returned (.tuple #[]) ∧
      Calls Try.prog 41 #[v] w1 fun e w2 => ∃ A c, e = .returned (.slice A (ord zs).length c) ∧ Ints w2 A c (ord zs) ∧ Below base w w2 := by
  rcases h.2 with ⟨rfl, h0'⟩ | ⟨g, cap, cur, rfl, hbase, hb, h1, h2, h3, h4⟩
  · omega
  · have hgl : g < w.heap.size := (Array.getElem?_eq_some_iff.1 hb).1
    have hH := holds_of_blockI (ss := zs) hb (by simpa using h4)
    have hM : (zs.mergeSort fun x y => decide (x ≤ y)).length = zs.length := List.length_mergeSort zs
    have hO : ord zs = Lib.compact (zs.mergeSort fun x y => decide (x ≤ y)) := rfl
    have hL := ord_len zs
    refine (sort_any g 0 cap zs w hH hgl (by omega)).mono ?_
    rintro e w1 ⟨rfl, n, os, rfl⟩
    refine ⟨rfl, ?_⟩
    have hK1 : Go.Sort.Holds (Value.int .i64) (Go.Sort.grow (Go.Sort.putRow (Value.int .i64) (Go.Sort.ahead w n) g 0 (zs.mergeSort fun x y => decide (x ≤ y)).toArray) os) g 0 (zs.mergeSort fun x y => decide (x ≤ y)).toArray :=
      Go.Sort.holds_grow _ _ _ _ _ _ (by simpa [Go.Sort.putRow, Go.Sort.mapBlock, Go.Sort.ahead] using hgl) (Go.Sort.holds_putRow _ _ _ _ zs.toArray _ hH (by simp))
    have hB1 : Below base w (Go.Sort.grow (Go.Sort.putRow (Value.int .i64) (Go.Sort.ahead w n) g 0 (zs.mergeSort fun x y => decide (x ≤ y)).toArray) os) := below_putRow _ hbase hB
    generalize Go.Sort.grow (Go.Sort.putRow (Value.int .i64) (Go.Sort.ahead w n) g 0 (zs.mergeSort fun x y => decide (x ≤ y)).toArray) os = w1 at *
    have hG1 : g < w1.heap.size := Nat.lt_of_lt_of_le hgl hB1.size
    have hc := compact_any g 0 cap _ w1 hK1 (by rw [hM]; omega) (by rw [hM]; omega)
    rw [← hO, hM] at hc
    refine hc.mono ?_
    rintro e w2 ⟨rfl, q, he⟩
    have hH2 : Go.Sort.Holds (Value.int .i64) w2 g 0 (ord zs ++ List.replicate (zs.length - (ord zs).length) 0).toArray := by
      rw [he]
      exact Go.Sort.holds_putRow _ _ _ _ (zs.mergeSort fun x y => decide (x ≤ y)).toArray _ hK1 (by simp; omega)
    have hB2 : Below base w1 w2 := by
      rw [he]
      have := below_putRow (B := base) (g := g) (n := q) (w := w1) (os := #[]) (ord zs ++ List.replicate (zs.length - (ord zs).length) 0).toArray hbase (Nat.le_trans hB hB1.size)
      rwa [grow_nil] at this
    clear he hc hK1
    refine ⟨_, cap, rfl, ⟨by omega, h2, fun e => (by cases e), fun h0 => ⟨g, 0, rfl, Nat.lt_of_lt_of_le hG1 hB2.size, fun i hi => ?_⟩⟩, hB1.trans hB2⟩
    rw [(hH2 i (by simp; omega)).1]
    congr 2
    rw [get!_toArray (by simp; omega), List.getElem_append_left hi, gi_get hi]

set_option maxHeartbeats 2000000 in
theorem set_any (A : Option Addr) (c : Nat) (L : List Int) (i n : Nat) (w : World) (hI : Ints w A c L) (hi : i < L.length) (hl : L.length ≤ 400) (hn1 : 1 ≤ n) (hn2 : n ≤ 400) :
    Calls Try.prog 23 #[.slice A L.length c, .int .i64 (i : Int), .int .i64 (n : Int)] w fun e w' => ∃ A' c', e = .returned (.slice A' (wset L n i).length c') ∧ Ints w' A' c' (wset L n i) ∧ Below w.heap.size w w' := by
  obtain ⟨A1, hs1, hI1, -⟩ := slice_upto hI (k := i + 1) (by omega)
  have hla := last_any A1 c (L.take (i + 1)) n w hI1 (by rw [List.length_take]; omega) (by omega)
  rw [drop_win (show i + 1 ≤ L.length by omega)] at hla
  have HLa := Lib.hid hla
  have hwl := win_len L n (i + 1)
  have hw0 : 0 < (win L n (i + 1)).length := List.length_pos_of_mem (mem_wset.1 (self_wset (l := L) hn1 hi))
  have HCl := Lib.hid (fun (A2 : Option Addr) (c2 : Nat) (h : Ints w A2 c2 (win L n (i + 1))) => Lru.clone_any A2 c2 _ w h (by omega))
  have HSo := Lib.hid (fun (v : Value) (W : World) (h : OwnI W w.heap.size v (win L n (i + 1))) (hB : w.heap.size ≤ W.heap.size) => sorted_once w.heap.size v _ W h hw0 hB (by omega))
  have HW : Hid (wset L n i = ord (win L n (i + 1))) := Lib.hid rfl
  rw [show (L.take (i + 1)).length = i + 1 by rw [List.length_take]; omega] at hs1 HLa
  have hwi : IntKind.i64.wrap ((i : Int) + 1) = (i : Int) + 1 := by rw [IntKind.wrap_i64]; omega
  rw [show ((i + 1 : Nat) : Int) = (i : Int) + 1 from rfl] at hs1
  rw [HW.out]
  clear hI hI1 hla hwl hw0
  generalize win L n (i + 1) = W at *
  generalize W.length = wl at *
  generalize (ord W).length = ol at *
  generalize L.length = ln at *
  go_enter Try.func23, Try.ntmps23
  go_wp2_with fail
  refine HLa.out.mono ?_
  rintro e w1 ⟨⟨A2, c2, rfl, hI2⟩, rfl⟩
  have HC2 := Lib.hid (HCl.out A2 c2 hI2)
  clear hI2
  go_wp2_with fail
  refine HC2.out.mono ?_
  rintro e w2 ⟨v2, rfl, ho2, hb2⟩
  have HS2 := Lib.hid (HSo.out v2 w2 ho2 hb2.size)
  have HB2 := Lib.hid hb2
  clear ho2 hb2
  go_wp2_with fail
  refine HS2.out.mono ?_
  rintro e w3 ⟨rfl, hc3⟩
  have HC3 := Lib.hid hc3
  clear hc3
  go_wp2_with fail
  refine HC3.out.mono ?_
  rintro e w4 ⟨A4, c4, rfl, hI4, hb4⟩
  have HI4 := Lib.hid hI4
  have HB4 := Lib.hid (HB2.out.trans hb4)
  clear hI4 hb4
  go_wp2
  go_ret
  exact ⟨A4, c4, rfl, HI4.out, HB4.out⟩

set_option maxHeartbeats 2000000 in
theorem common_any (A B : Option Addr) (c d : Nat) (S T : List Int) (w : World) (hS : Ints w A c S) (hT : Ints w B d T) (hi : Inc T) (hl1 : S.length ≤ 400) (hl2 : T.length ≤ 400) :
    Calls Try.prog 43 #[.slice A S.length c, .slice B T.length d] w fun e w' => e = .returned (.int .i64 (com S T : Int)) ∧ Below w.heap.size w w' := by
  have HS := Lib.hid hS
  have HSe := Lib.hid (fun (x : Int) (W : World) (h : Below w.heap.size w W) => search_any B d T x W (hT.below h) hi (by omega))
  obtain ⟨n, hn⟩ : ∃ n, S.length = n := ⟨_, rfl⟩
  have HN := Lib.hid hn
  rw [hn] at hl1 ⊢
  clear hS hT hi hn
  generalize T.length = tl at *
  go_enter Try.func43, Try.ntmps43
  go_wp2
  go_loopw [5, 12] (fun s5 s12 wr => ∃ k : Nat, k ≤ n ∧ s12 = .int .i64 (k : Int) ∧ s5 = .int .i64 (comK S T k : Int) ∧ Below w.heap.size w wr) (fun _ i _ => n - (intOf i).toNat)
  case atStart => exact ⟨0, by omega, rfl, rfl, Below.refl _ _⟩
  case round =>
    obtain ⟨k, hk, rfl, rfl, hb⟩ := hrel
    have HB := Lib.hid hb
    by_cases hlt : k < n
    · have hin : (k : Int) < (n : Int) := by omega
      have hiB : (0 : Int) ≤ (k : Int) := by omega
      have hkS : k < S.length := by rw [HN.out]; exact hlt
      obtain ⟨b, o, rfl, ht⟩ := (HS.out.below hb).2.2.2 (by omega)
      have e1 := ht.2 k hkS
      have HSr := Lib.hid (HSe.out (gi S k) wr hb)
      have HK := Lib.hid (comK_succ (B := T) hkS)
      have hle := comK_le S T k
      have hw1 : IntKind.i64.wrap ((comK S T k : Int) + 1) = (comK S T k : Int) + 1 := by rw [IntKind.wrap_i64]; omega
      clear ht hkS hb hle
      by_cases hm : gi S k ∈ T
      · rw [decide_eq_true hm] at HSr
        rw [if_pos hm] at HK
        clear hm
        generalize gi S k = x at *
        generalize comK S T k = cc at *
        go_wp2_with fail
        refine HSr.out.mono ?_
        rintro e w4 ⟨⟨p, rfl⟩, hb4⟩
        have HB4 : Hid (Below w.heap.size w w4) := Lib.hid (HB.out.trans (hb4.mono HB.out.size))
        clear hb4
        go_wp2
        go_roundw
        case rel => exact ⟨k + 1, by omega, by go_num, by rw [HK.out]; go_num, HB4.out⟩
        case measure => simp [intOf]; omega
      · rw [decide_eq_false hm] at HSr
        rw [if_neg hm] at HK
        clear hm
        generalize gi S k = x at *
        generalize comK S T k = cc at *
        go_wp2_with fail
        refine HSr.out.mono ?_
        rintro e w4 ⟨⟨p, rfl⟩, hb4⟩
        have HB4 : Hid (Below w.heap.size w w4) := Lib.hid (HB.out.trans (hb4.mono HB.out.size))
        clear hb4
        go_wp2
        go_roundw
        case rel => exact ⟨k + 1, by omega, by go_num, by rw [HK.out]; rfl, HB4.out⟩
        case measure => simp [intOf]; omega
    · obtain rfl : k = n := by omega
      have HE : Hid (comK S T k = com S T) := Lib.hid (by rw [← HN.out, comK_all])
      clear hb
      go_wp2
      go_ret
      exact ⟨Lru.ret_int (by rw [HE.out]), HB.out⟩

end Go.Proofs.Ytgdklpgmoanfkaa.Wst
