/-
  The walk of the law on resizing.
-/
import Derived.Test.YtaioefimgggfkaaTableBegun
import Derived.Test.YtaioefimgggfkaaTableGood
namespace Go.Proofs.Ytaioefimgggfkaa
open Go.RowKit
set_option linter.unusedVariables false

theorem cnt_take {L : List Sl} {k : Nat} (h : k < L.length) : cnt (L.take (k + 1)) = cnt (L.take k) + if (sl L k).used = true then 1 else 0 := by
  unfold cnt
  rw [List.take_succ_eq_append_getElem h, List.countP_append, sl_get h]
  simp [List.countP_cons]
theorem cnt_le (L : List Sl) : cnt L ≤ L.length := List.countP_le_length

set_option maxHeartbeats 2000000 in
set_option maxRecDepth 100000 in
theorem tableResizes_walk (A : Option Addr) (c : Nat) (L : List Sl) (n : Int) (key : ByteArray) (w : World) (ht : Tab w A c L) :
    Calls Try.prog 5 #[.slice A L.length c, .int .i64 n, .string key] w fun e w' => e = .returned (.bool true) ∧ Below w.heap.size w w' := by
  by_cases he : (resizeM L n).2 = 0
  · obtain ⟨g, g', hlen, hcnt, hhas⟩ := resize_spec he
    obtain ⟨sm1, sm2⟩ := get_same g g' (fun x => hhas key x)
    have HE := Lib.hid he
    have HL := Lib.hid hlen
    have HC := Lib.hid hcnt
    have HM1 := Lib.hid sm1
    have HM2 := Lib.hid sm2
    have HK := Lib.hid g'.check
    have p1 := g.pos
    have p2 := g.le
    have p3 := g'.pos
    have p4 := g'.le
    clear he hlen hcnt hhas sm1 sm2 g g'
    go_enter Try.func5, Try.ntmps5
    go_wp2_with fail
    refine (resize_any _ c L n _ ht).mono ?_
    rintro e w1 ⟨A1, c1, rfl, HT1, hb1⟩
    have HB1 := hb1
    clear hb1
    rw [HE.out]
    go_wp2_with fail
    refine (begun_any _).mono ?_
    rintro e w2 ⟨rfl, hb2⟩
    have HT2 := HT1.below hb2
    have HB2 := HB1.trans (hb2.mono HB1.size)
    clear hb2 HB1 HT1
    go_wp2_with fail
    refine (get_any _ c L key _ (ht.below HB2)).mono ?_
    rintro e w3 ⟨rfl, hb3⟩
    have HT3 := HT2.below hb3
    have HB3 := HB2.trans (hb3.mono HB2.size)
    clear hb3 HB2 HT2
    go_wp2_with fail
    refine (get_any _ c1 _ key _ HT3).mono ?_
    rintro e w4 ⟨rfl, hb4⟩
    have HT4 := HT3.below hb4
    have HB4 := HB3.trans (hb4.mono HB3.size)
    clear hb4 HB3 HT3
    rw [HM1.out, HM2.out]
    generalize (resizeM L n).1 = R at *
    generalize getM L key = gl at *
    generalize getM R key = gr at *
    obtain ⟨b, o, rfl, hT⟩ := (ht.below HB4).2 p1
    obtain ⟨b1, o1, rfl, hR⟩ := HT4.2 p3
    have hc1 := HT4.1
    clear HT4 ht
    go_wp2
    go_loop [15, 17] (fun u i => ∃ k : Nat, k ≤ L.length ∧ i = .int .i64 k ∧ u = .int .i64 (cnt (L.take k) : Nat)) (fun _ i => L.length - (intOf i).toNat)
    case atStart => exact ⟨0, by omega, rfl, rfl⟩
    case round =>
      obtain ⟨k, hk, rfl, rfl⟩ := hrel
      have hcl := cnt_le (L.take k)
      have htl : (L.take k).length ≤ k := by simp; omega
      by_cases hlt : k < L.length
      · obtain ⟨c0, _, _⟩ := hT.2 k hlt
        have HS := Lib.hid (cnt_take hlt)
        by_cases hu : (sl L k).used = true
        · rw [hu] at c0
          have HU := Lib.hid hu
          clear hu
          go_wp2
          go_round
          case rel => exact ⟨k + 1, by omega, by go_num, by rw [HS.out, if_pos HU.out]; go_num⟩
          case measure => simp [intOf]; omega
        · have HU := Lib.hid hu
          have hu : (sl L k).used = false := by simpa using hu
          rw [hu] at c0
          clear hu
          go_wp2
          go_round
          case rel => exact ⟨k + 1, by omega, by go_num, by rw [HS.out, if_neg HU.out]; rfl⟩
          case measure => simp [intOf]; omega
      · obtain rfl : k = L.length := by omega
        rw [List.take_length] at *
        go_wp2
        go_loop [16, 18] (fun u i => ∃ k : Nat, k ≤ R.length ∧ i = .int .i64 k ∧ u = .int .i64 (cnt (R.take k) : Nat)) (fun _ i => R.length - (intOf i).toNat)
        case atStart => exact ⟨0, by omega, rfl, rfl⟩
        case round =>
          obtain ⟨k, hk, rfl, rfl⟩ := hrel
          have hcl := cnt_le (R.take k)
          have htl : (R.take k).length ≤ k := by simp; omega
          by_cases hlt : k < R.length
          · obtain ⟨c0, _, _⟩ := hR.2 k hlt
            have HS := Lib.hid (cnt_take hlt)
            by_cases hu : (sl R k).used = true
            · rw [hu] at c0
              have HU := Lib.hid hu
              clear hu
              go_wp2
              go_round
              case rel => exact ⟨k + 1, by omega, by go_num, by rw [HS.out, if_pos HU.out]; go_num⟩
              case measure => simp [intOf]; omega
            · have HU := Lib.hid hu
              have hu : (sl R k).used = false := by simpa using hu
              rw [hu] at c0
              clear hu
              go_wp2
              go_round
              case rel => exact ⟨k + 1, by omega, by go_num, by rw [HS.out, if_neg HU.out]; rfl⟩
              case measure => simp [intOf]; omega
          · obtain rfl : k = R.length := by omega
            rw [List.take_length] at *
            rw [HC.out, ← HL.out]
            go_wp2_with fail
            refine (check_any _ c1 R _ ⟨by omega, fun _ => ⟨_, _, rfl, hR⟩⟩).mono ?_
            rintro e w5 ⟨rfl, hb5⟩
            rw [HK.out]
            go_wp2
            go_ret
            exact ⟨rfl, HB4.trans (hb5.mono HB4.size)⟩
  · have HR := Lib.hid (resize_err he)
    have hq := bd_ne he
    clear he
    go_enter Try.func5, Try.ntmps5
    go_wp2_with fail
    refine (resize_any _ c L n _ ht).mono ?_
    rintro e w1 ⟨A1, c1, rfl, HT1, hb1⟩
    rw [HR.out]
    go_wp2_with fail
    refine (begun_any _).mono ?_
    rintro e w2 ⟨rfl, hb2⟩
    go_wp2
    go_ret
    exact ⟨rfl, hb1.trans (hb2.mono hb1.size)⟩

end Go.Proofs.Ytaioefimgggfkaa
