/-
  TopShards: keys that are dealt out over shards hit as often as the parts of the trace alone; every place of a ring belongs to one shard.
-/
import Derived.Test.YtjmhemkbfephpaaTopShM
import Derived.Test.YtjmhemkbfephpaaTopBase
import Derived.Test.YtjmhemkbfephpaaRgBegun
import Derived.Test.YtjmhemkbfephpaaBelowQuiet
namespace Go.Proofs.Ytjmhemkbfephpaa.Tsh
open Go.RowKit
open Shd (Sh Shs Nms Strs sc err str_eq str_ne)
open Rng (Pts Pt gp share)
set_option linter.unusedVariables false
set_option maxRecDepth 100000

theorem elemStr : Try.prog.underlying 43 = some (.slice (Try.prog.elem 43)) := by kernel_rfl
theorem sizeStr (w : World) : (sizeOf (Try.prog.elem 43)).run Try.prog w = .ok 1 w := by kernel_rfl
theorem ky_take {K : List ByteArray} {k i : Nat} (h : i < k) : (K.take k).getD i ByteArray.empty = K.getD i ByteArray.empty := by
  rw [List.getD_eq_getElem?_getD, List.getD_eq_getElem?_getD, List.getElem?_take, if_pos h]
theorem strs_upto {A : Option Addr} {c : Nat} {K : List ByteArray} {k : Nat} {w : World} (hT : Strs w A c K) (hk : k ≤ K.length) :
    ∃ A', (∀ W : World, (Instr.slice 43 (.slice A K.length c) none (some (.int .i64 (k : Int))) none).run Try.prog W = .ok (.slice A' k c) W) ∧ Strs w A' c (K.take k) := by
  have hc := hT.1
  have hl : (K.take k).length = k := by rw [List.length_take]; omega
  refine ⟨if c = 0 then A else A.map (·.add 0), fun W => ?_, ?_⟩
  · rw [run_slice_h W _ A K.length c elemStr .i64 (k : Int) (by omega) (by omega), sizeStr]
    simp [sliced]
  · refine ⟨by omega, hT.2.1, fun h0 => ?_⟩
    obtain ⟨b, o, rfl, h1, ht⟩ := hT.2.2 (by omega)
    rw [if_neg (by omega)]
    refine ⟨b, o, by simp [Addr.add_lit], h1, fun i hi => ?_⟩
    rw [ky_take (by omega)]
    exact ht i (by omega)
/-- What comes when the arrays are made. -/
theorem TS.new' (w : World) : TS ((w.alloc (.cells #[.slice none 0 0, .slice none 0 0, .slice none 0 0, .slice none 0 0, .slice none 0 0, .slice none 0 0, .slice none 0 0, .slice none 0 0, .slice none 0 0, .slice none 0 0, .slice none 0 0, .slice none 0 0, .slice none 0 0, .slice none 0 0, .slice none 0 0, .slice none 0 0, .slice none 0 0, .slice none 0 0, .slice none 0 0, .slice none 0 0] 44)).alloc
    (.cells #[.int .i64 0, .slice none 0 0, .int .i64 0, .slice none 0 0, .int .i64 0, .slice none 0 0, .int .i64 0, .slice none 0 0, .int .i64 0, .slice none 0 0, .int .i64 0, .slice none 0 0, .int .i64 0, .slice none 0 0, .int .i64 0, .slice none 0 0, .int .i64 0, .slice none 0 0, .int .i64 0, .slice none 0 0, .int .i64 0, .slice none 0 0, .int .i64 0, .slice none 0 0, .int .i64 0, .slice none 0 0, .int .i64 0, .slice none 0 0, .int .i64 0, .slice none 0 0, .int .i64 0, .slice none 0 0, .int .i64 0, .slice none 0 0, .int .i64 0, .slice none 0 0, .int .i64 0, .slice none 0 0, .int .i64 0, .slice none 0 0] 47)) w.heap.size (w.heap.size + 1) (w.heap.size + 2) (fun _ => .slice none 0 0) (fun _ => .slice none 0 0) (fun _ => []) (fun _ => []) := TS.new w
theorem cell_bx {w : World} {b : Nat} {c : Array Value} {T : TypeId} {p : Nat} (h : w.heap[b]? = some (.cells c T (0, 0))) : w.cell? ⟨b, p, none⟩ = c[p]? := cell_of_row w b p _ _ (0, 0) h

set_option maxHeartbeats 8000000 in
theorem topShards_walk (A : Option Addr) (c : Nat) (L : List Sh) (B : Option Addr) (d : Nat) (P : List Pt) (C : Option Addr) (e : Nat) (S : List ByteArray) (room : Int) (w : World)
    (hL : Shs w A c L) (hN : Nms L) (hP : Pts w B d P) (hS : Strs w C e S) (hz : ∀ i, i < S.length → (S.getD i ByteArray.empty).size ≤ maxLen) :
    Calls Try.prog 7 #[.slice A L.length c, .slice B P.length d, .slice C S.length e, .int .i64 room] w fun e w' => e = .returned (.bool true) ∧ Below w.heap.size w w' := by
  obtain ⟨m, hm⟩ : ∃ m, m = min S.length 40 := ⟨_, rfl⟩
  have hmk : m ≤ S.length := by omega
  have hm40 : m ≤ 40 := by omega
  have hmin : min (S.length : Int) (40 : Int) = (m : Int) := by omega
  obtain ⟨C', hsl, hS'⟩ := strs_upto hS hmk
  have hl1 := hL.len
  have hl2 := hP.len
  have hl3 : S.length ≤ 9223372036854775807 := by have h1 := hS.1; have h2 := hS.2.1; unfold maxLen at h2; omega
  have HM := Lib.hid hm40
  have HBG := Lib.hid Top.begun_any
  obtain ⟨ky, hky⟩ : ∃ ky : Nat → ByteArray, ky = fun i => S.getD i ByteArray.empty := ⟨_, rfl⟩
  have HOw := Lib.hid (fun (W : World) (hW : Below w.heap.size w W) (i : Nat) (hi : i < m) (he : err L (ky i) = 0) => owner_ow A c L (ky i) W (hL.below hW) hN (by rw [hky]; exact hz i (by omega)) he)
  have HOb := Lib.hid (fun (W : World) (hW : Below w.heap.size w W) (i : Nat) (hi : i < m) (he : err L (ky i) ≠ 0) => Shd.owner_bad A c L (ky i) W ⟨hL.below hW, hN, by rw [hky]; exact hz i (by omega)⟩ he)
  have HKy : Hid (∀ W, Below w.heap.size w W → ∀ i, i < m → ∃ b o, C' = some ⟨b, o, none⟩ ∧ W.cell? ⟨b, o + i, none⟩ = some (.string (ky i))) := Lib.hid (fun W hW i hi => by
    obtain ⟨b, o, e1, e2⟩ := (hS'.below hW).str (k := i) (by rw [List.length_take]; omega)
    refine ⟨b, o, e1, ?_⟩
    rw [e2, ky_take hi, hky])
  have HPo := Lib.hid hP
  clear hky hS hS' hz hm hmk hL hN hP
  generalize L.length = ln at *
  generalize S.length = ls at *
  obtain ⟨OW, hOW⟩ : ∃ OW : Nat → Nat, OW = fun i => ow L (ky i) := ⟨_, rfl⟩
  obtain ⟨ER, hER⟩ : ∃ ER : Nat → Int, ER = fun i => err L (ky i) := ⟨_, rfl⟩
  obtain ⟨FI, hFI⟩ : ∃ FI : Nat → Int, FI = fun (i : Nat) => back (fun k => decide (ky k = ky i)) i (i : Int) := ⟨_, rfl⟩
  have HFI : Hid (∀ i : Nat, back (fun k => decide (ky k = ky i)) i (i : Int) = FI i) := Lib.hid (fun i => by rw [hFI])
  replace HOw : Hid (∀ W, Below w.heap.size w W → ∀ i, i < m → ER i = 0 → OW i < 20 ∧ Calls Try.prog 21 #[.slice A ln c, .string (ky i)] W fun e w' => e = .returned (.tuple #[.int .i64 ((OW i : Nat) : Int), .int .i64 0]) ∧ Below W.heap.size W w') := Lib.hid (fun W hW i hi he => by
    have := HOw.out W hW i hi (by rw [hER] at he; exact he)
    rw [hOW]; exact this)
  replace HOb : Hid (∀ W, Below w.heap.size w W → ∀ i, i < m → ER i ≠ 0 → Calls Try.prog 21 #[.slice A ln c, .string (ky i)] W fun e w' => e = .returned (.tuple #[.int .i64 0, .int .i64 (ER i)]) ∧ Below W.heap.size W w') := Lib.hid (fun W hW i hi he => by
    have := HOb.out W hW i hi (by rw [hER] at he; exact he)
    rw [hER]; exact this)
  clear hOW hER hFI
  go_enter Try.func7, Try.ntmps7
  go_wp2_with fail
  refine (HBG.out w).mono ?_
  rintro e w1 ⟨rfl, hb1⟩
  have HB1 := Lib.hid hb1
  clear hb1
  have HT := Lib.hid (TS.new' w1)
  have HW2 := Lib.hid (Rng.bel_al (Rng.bel_al (Below.refl w1.heap.size w1) (Nat.le_refl _) (.cells #[.slice none 0 0, .slice none 0 0, .slice none 0 0, .slice none 0 0, .slice none 0 0, .slice none 0 0, .slice none 0 0, .slice none 0 0, .slice none 0 0, .slice none 0 0, .slice none 0 0, .slice none 0 0, .slice none 0 0, .slice none 0 0, .slice none 0 0, .slice none 0 0, .slice none 0 0, .slice none 0 0, .slice none 0 0, .slice none 0 0] 44)) (by simp)
    (.cells #[.int .i64 0, .slice none 0 0, .int .i64 0, .slice none 0 0, .int .i64 0, .slice none 0 0, .int .i64 0, .slice none 0 0, .int .i64 0, .slice none 0 0, .int .i64 0, .slice none 0 0, .int .i64 0, .slice none 0 0, .int .i64 0, .slice none 0 0, .int .i64 0, .slice none 0 0, .int .i64 0, .slice none 0 0, .int .i64 0, .slice none 0 0, .int .i64 0, .slice none 0 0, .int .i64 0, .slice none 0 0, .int .i64 0, .slice none 0 0, .int .i64 0, .slice none 0 0, .int .i64 0, .slice none 0 0, .int .i64 0, .slice none 0 0, .int .i64 0, .slice none 0 0, .int .i64 0, .slice none 0 0, .int .i64 0, .slice none 0 0] 47))
  go_wp2
  obtain ⟨p, hp⟩ : ∃ p, w1.heap.size = p := ⟨_, rfl⟩
  rw [hp] at HT HW2 ⊢
  have HP := Lib.hid hp
  clear hp
  go_loopw [11, 12] (fun s11 s12 wr => ∃ (i : Nat) (V X : Nat → Value), i ≤ m ∧ s11 = .int .i64 ((hh room OW FI i : Nat) : Int) ∧ s12 = .int .i64 (i : Int) ∧ Hid (TS wr p (p + 1) (p + 2) V X (rr OW FI i) (kk room OW FI i)) ∧ Hid (∀ k, k < i → OW k < 20 ∧ Lru.isK (FI k)) ∧ Hid (0 < i → Lru.isRm room) ∧ Hid (Below p w1 wr)) (fun _ s12 _ => m - (intOf s12).toNat)
  case atStart => exact ⟨0, _, _, by omega, rfl, rfl, HT, Lib.hid (fun k hk => by omega), Lib.hid (fun h => by omega), HW2⟩
  case round =>
    obtain ⟨i, V, X, hi, rfl, rfl, HTr, HOK, HRM, HBr⟩ := hrel
    clear HT HW2
    have HBw : Hid (Below w.heap.size w wr) := Lib.hid (HB1.out.trans (HBr.out.mono (by rw [← HP.out]; exact HB1.out.size)))
    by_cases hlt : i < m
    · have hin : (i : Int) < (m : Int) := by omega
      have hiB : (0 : Int) ≤ (i : Int) := by omega
      obtain ⟨b, o, rfl, e1⟩ := HKy.out wr HBw.out i hlt
      by_cases er : ER i = 0
      · obtain ⟨ho, hC⟩ := HOw.out wr HBw.out i hlt er
        have HC := Lib.hid hC
        have HO := Lib.hid ho
        have d1 : decide ((OW i : Int) < 0) = false := by simp
        have d2 : decide ((20 : Int) ≤ (OW i : Int)) = false := by simp; omega
        have HSt := HFI.out i
        have HK1 := Lib.hid (fun W hW => HKy.out W hW i hlt)
        clear hC er
        obtain ⟨kx, hkx⟩ : ∃ kx, ky i = kx := ⟨_, rfl⟩
        have HKX := Lib.hid hkx
        rw [hkx] at e1 HC
        clear hkx
        go_wp2_with fail
        refine HC.out.mono ?_
        rintro e w3 ⟨rfl, hb3⟩
        have HT3 := Lib.hid (HTr.out.below hb3)
        have HB3 : Hid (Below p w1 w3) := Lib.hid (HBr.out.trans (hb3.mono (by have := HTr.out.sz; omega)))
        clear hb3 e1 HTr HBr HC
        have hi1 : IntKind.i64.wrap ((i : Int) - 1) = (i : Int) - 1 := by have := HM.out; rw [IntKind.wrap_i64]; omega
        go_wp2
        go_loopw [15, 16] (fun s15 s16 wj => ∃ (k : Nat) (f : Int), k ≤ i ∧ s15 = .int .i64 f ∧ s16 = .int .i64 ((k : Int) - 1) ∧ Hid (back (fun k => decide (ky k = ky i)) k f = FI i) ∧ Hid (Below w3.heap.size w3 wj)) (fun _ s16 _ => (intOf s16 + 1).toNat)
        case atStart => exact ⟨i, (i : Int), Nat.le_refl _, rfl, by first | rfl | rw [hi1], Lib.hid HSt, Lib.hid (Below.refl _ _)⟩
        case round =>
          rename World => wj
          obtain ⟨k, f, hk, rfl, rfl, HBk, HBj⟩ := hrel
          have HTj := Lib.hid (HT3.out.below HBj.out)
          have HB3j : Hid (Below p w1 wj) := Lib.hid (HB3.out.trans (HBj.out.mono (by have := HT3.out.sz; omega)))
          have HBwj : Hid (Below w.heap.size w wj) := Lib.hid (HB1.out.trans (HB3j.out.mono (by rw [← HP.out]; exact HB1.out.size)))
          cases k with
          | zero =>
            have z1 : ((0 : Nat) : Int) - 1 = -1 := rfl
            rw [z1]
            have HF : Hid (f = FI i) := HBk
            clear hi1 hk HBk HKX HSt HK1 HOw HOb HFI HT3 HB3
            have hF := HF.out
            subst hF
            have hpc := HTj.out.pb.cell HO.out
            have hown := HTj.out.own _ HO.out
            obtain ⟨x, hx⟩ : ∃ x, FI i = x := ⟨_, rfl⟩
            have HFX := Lib.hid hx
            obtain ⟨oi, hoi⟩ : ∃ oi, OW i = oi := ⟨_, rfl⟩
            have HOI := Lib.hid hoi
            rw [hoi] at hpc hown d1 d2 HO ⊢
            rw [hx]
            have hoi0 : (0 : Int) ≤ (oi : Int) := by omega
            have hoi2 : (oi : Int) < 20 := by have := HO.out; omega
            obtain ⟨Rl, hRl⟩ : ∃ Rl, rr OW FI i oi = Rl := ⟨_, rfl⟩
            have HRl := Lib.hid hRl
            have hRn : Rl.length ≤ 40 := by have : (rr OW FI i oi).length ≤ i := Rng.prt_len OW FI oi i; rw [hRl] at this; omega
            obtain ⟨v, hv⟩ : ∃ v, V oi = v := ⟨_, rfl⟩
            have HV := Lib.hid hv
            rw [hRl, hv] at hown
            rw [hv] at hpc
            have HOv := Lib.hid hown
            have HRN := Lib.hid hRn
            clear hown hRn hv hRl hoi hx HF
            have HLL : Hid (Rl.length ≤ 1000) := Lib.hid (by have := HRN.out; omega)
            have HSZ := Lib.hid HTj.out.sz
            go_upto_region 22 with (first | (at_builtin; go_must (refine Two.wpList_append_lies1 rfl _ _ rfl (p + 2) v Rl rfl HOv.out x _ rfl HLL.out HSZ.out ?_); intro g cap w5 ho5 hg5 hat5; rw [← HV.out] at hg5 hat5; have z5 := (HTj.out.app_pre HO.out hg5).frozen oi; have c5 := (HTj.out.app_pre HO.out hg5).cell HO.out))
            have ho5' : OwnI w5 (p + 2) (.slice (some ⟨g, 0, none⟩) (Rl.length + 1) cap) (rr OW FI i oi ++ [x]) := by rw [HRl.out]; exact ho5
            have HT6 := Lib.hid (HTj.out.app HO.out (by rw [HRl.out]) ho5' hg5 hat5)
            have HB6 := Lib.hid (HB3j.out.trans (HTj.out.app_bel (v := .slice (some ⟨g, 0, none⟩) (Rl.length + 1) cap) HO.out hg5 (Nat.le_refl p) (by omega)))
            clear ho5' ho5 hg5 hat5 z5 c5 hpc HTj HB3j HBwj HBj HOv HSZ
            generalize w5.setCell ⟨p, oi, none⟩ (.slice (some ⟨g, 0, none⟩) (Rl.length + 1) cap) = w6 at *
            have HV6 : Hid (∃ V6, TS w6 p (p + 1) (p + 2) V6 X (upd (rr OW FI i) oi (rr OW FI i oi ++ [x])) (kk room OW FI i)) := Lib.hid ⟨_, HT6.out⟩
            clear HT6 HV
            obtain ⟨V6, hT6⟩ := HV6.out
            have HT6 := Lib.hid hT6
            clear hT6 HV6
            have z6 := HT6.out.qb.frozen (oi * 2)
            obtain ⟨⟨r0, c6⟩, -⟩ := HT6.out.qb.cell HO.out
            go_upto_region 23 with fail
            obtain ⟨hT7, c7⟩ := HT6.out.room HO.out room
            have HT7 := Lib.hid hT7
            have HB7 := Lib.hid (Two.bel_set (a := ⟨p + 1, oi * 2, none⟩) HB6.out (by show p ≤ p + 1; omega) (.int .i64 room))
            clear hT7 z6 c6 HT6 HB6
            generalize w6.setCell ⟨p + 1, oi * 2, none⟩ (.int .i64 room) = w7 at *
            obtain ⟨A7, e7, hX7, hI7, -⟩ := HT7.out.ks _ HO.out
            obtain ⟨-, c8⟩ := HT7.out.qb.cell HO.out
            rw [hX7] at c8
            obtain ⟨Kl, hKl⟩ : ∃ Kl, kk room OW FI i oi = Kl := ⟨_, rfl⟩
            rw [hKl] at hI7 c8
            have HKl := Lib.hid hKl
            have HAc := Lib.hid (Lru.access_any room A7 e7 Kl x w7 hI7)
            clear hX7 hI7 hKl
            go_wp2_with fail
            refine HAc.out.mono ?_
            rintro e w8 ⟨A8, e8, rfl, hI8, hF8, hb8⟩
            have hT8 := HT7.out.below hb8
            have HFr : Hid (∀ a, A8 = some a → p + 2 ≤ a.block ∧ ∀ j, j < 20 → (V6 j).ownBlock ≠ some a.block) := Lib.hid (fun a ha => HT7.out.fresh (hF8 a ha))
            have hB8 : Below p w1 w8 := HB7.out.trans (hb8.mono (by have := HT7.out.sz; omega))
            clear c7 c8 HT7 HB7 HAc hF8 hb8
            by_cases hE : Lru.acE room Kl x = 0
            · obtain ⟨hrm, hik, eR, eL, eH⟩ := ac_ok hE
              rw [hE, eR, eL, eH]
              rw [eL] at hI8
              have HRm := Lib.hid hrm
              have HIk := Lib.hid hik
              obtain ⟨Tl, hTl⟩ : ∃ Tl, Lru.touch room Kl x = Tl := ⟨_, rfl⟩
              rw [hTl] at hI8 ⊢
              have HTl := Lib.hid hTl
              clear hE hrm hik eR eL eH hTl
              generalize Lru.acG room Kl x = gk at *
              have HT9 := Lib.hid (hT8.below ((Below.refl _ w8).alloc (Nat.le_refl _) (Lru.co room A8 e8 Tl)))
              have HB9 := Lib.hid (Rng.bel_al hB8 (by have := hT8.sz; omega) (Lru.co room A8 e8 Tl))
              have hx9 := Lru.Bx.new (r := room) hI8
              have HI9 := Lib.hid (hI8.alloc (Lru.co room A8 e8 Tl))
              obtain ⟨x9, y9⟩ : (w8.alloc (Lru.co room A8 e8 Tl)).cell? ⟨w8.heap.size, 0, none⟩ = some (.int .i64 room) ∧ (w8.alloc (Lru.co room A8 e8 Tl)).cell? ⟨w8.heap.size, 1, none⟩ = some (.slice A8 Tl.length e8) := ⟨hx9.2.1, hx9.2.2.1⟩
              clear hx9 hT8 hB8 hI8
              go_upto_region 26 with fail
              generalize w8.alloc (Lru.co room A8 e8 Tl) = w9 at *
              generalize w8.heap.size = b9 at *
              have z1 := HT9.out.qb.frozen (oi * 2)
              have z2 := HT9.out.qb.frozen (oi * 2 + 1)
              obtain ⟨⟨r9, q1⟩, q2⟩ := HT9.out.qb.cell HO.out
              obtain ⟨hT10, -⟩ := HT9.out.room HO.out room
              have z3 := hT10.qb.frozen (oi * 2 + 1)
              obtain ⟨-, q3⟩ := hT10.qb.cell HO.out
              have HT11 := Lib.hid (HT9.out.put HO.out room rfl HI9.out HFr.out)
              have HB11 := Lib.hid (Two.bel_set (a := ⟨p + 1, oi * 2 + 1, none⟩) (Two.bel_set (a := ⟨p + 1, oi * 2, none⟩) HB9.out (by show p ≤ p + 1; omega) (.int .i64 room)) (by show p ≤ p + 1; omega) (.slice A8 Tl.length e8))
              clear hT10
              go_upto_region 27 with fail
              generalize (w9.setCell ⟨p + 1, oi * 2, none⟩ (.int .i64 room)).setCell ⟨p + 1, oi * 2 + 1, none⟩ (.slice A8 Tl.length e8) = w11 at *
              clear z1 z2 z3 q1 q2 q3 x9 y9 HT9 HB9 HI9 HFr
              have HT12 : Hid (TS w11 p (p + 1) (p + 2) V6 (upd X oi (.slice A8 Tl.length e8)) (rr OW FI (i + 1)) (kk room OW FI (i + 1))) := Lib.hid (HT11.out.congr (fun o' _ => by rw [rr_succ, HOI.out, HFX.out]) (fun o' _ => by rw [kk_succ, HOI.out, HFX.out, HKl.out, HTl.out]))
              have HOK2 : Hid (∀ k, k < i + 1 → OW k < 20 ∧ Lru.isK (FI k)) := Lib.hid (fun k hk => by
                by_cases e : k = i
                · rw [e, HOI.out, HFX.out]; exact ⟨HO.out, HIk.out⟩
                · exact HOK.out k (by omega))
              have HHS : Hid (hh room OW FI (i + 1) = hh room OW FI i + (if x ∈ Kl then 1 else 0)) := Lib.hid (by rw [hh_succ, HOI.out, HFX.out, HKl.out])
              have hhl : hh room OW FI i ≤ i := hh_le room OW FI i
              clear HT11 HOK HRM HKl HTl HIk HFX
              by_cases hx : x ∈ Kl
              · rw [decide_eq_true hx]
                have HH2 : Hid (hh room OW FI (i + 1) = hh room OW FI i + 1) := Lib.hid (by rw [HHS.out, if_pos hx])
                have hw : IntKind.i64.wrap (((hh room OW FI i : Nat) : Int) + 1) = ((hh room OW FI i : Nat) : Int) + 1 := by rw [IntKind.wrap_i64]; omega
                clear hx HHS hhl
                generalize hh room OW FI i = h0 at *
                go_wp2
                go_roundw
                case rel => exact ⟨i + 1, V6, _, by omega, by rw [HH2.out]; simp, by go_num, HT12, HOK2, Lib.hid (fun _ => HRm.out), HB11⟩
                case measure => simp [intOf]; omega
              · rw [decide_eq_false hx]
                have HH2 : Hid (hh room OW FI (i + 1) = hh room OW FI i) := Lib.hid (by rw [HHS.out, if_neg hx]; rfl)
                clear hx HHS hhl
                go_wp2
                go_roundw
                case rel => exact ⟨i + 1, V6, _, by omega, by rw [HH2.out], by go_num, HT12, HOK2, Lib.hid (fun _ => HRm.out), HB11⟩
                case measure => simp [intOf]; omega
            · have d3 : (Lru.acE room Kl x != 0) = true := by simpa using hE
              have d4 : (Lru.acE room Kl x == 0) = false := by simpa using hE
              have d5 : decide (Lru.acE room Kl x = 0) = false := by simpa using hE
              have HBz := Lib.hid (HB1.out.trans (hB8.mono (by rw [← HP.out]; exact HB1.out.size)))
              clear hE hI8 hT8 hB8
              generalize Lru.acE room Kl x = er at *
              generalize Lru.acR room Kl x = rr0 at *
              generalize Lru.acG room Kl x = gk at *
              generalize Lru.acH room Kl x = hk at *
              generalize Lru.acL room Kl x = Tl at *
              go_wp2
              go_ret
              exact ⟨rfl, Rng.bel_al HBz.out HBz.out.size _⟩
          | succ k =>
            have z1 : ((k + 1 : Nat) : Int) - 1 = (k : Int) := by omega
            rw [z1]
            have hk0 : (0 : Int) ≤ (k : Int) := by omega
            have hkm : (k : Int) < (m : Int) := by omega
            have hk1 : IntKind.i64.wrap ((k : Int) - 1) = (k : Int) - 1 := by have := HM.out; rw [IntKind.wrap_i64]; omega
            obtain ⟨b1, o1, h1, e1⟩ := HK1.out wj HBwj.out
            cases h1
            obtain ⟨b2, o2, h2, e2⟩ := HKy.out wj HBwj.out k (by omega)
            cases h2
            have HBs := Lib.hid (back_succ (fun k => decide (ky k = ky i)) k f)
            rw [HKX.out] at e1
            obtain ⟨y, hy⟩ : ∃ y, ky k = y := ⟨_, rfl⟩
            rw [hy] at e2
            by_cases q : y = kx
            · have t2 : (y.toList == kx.toList) = true := str_eq q
              have HB2 : Hid (back (fun k => decide (ky k = ky i)) k (k : Int) = FI i) := Lib.hid (by rw [← HBk.out, HBs.out, if_pos (by simp [hy, HKX.out, q])])
              clear q hy
              go_wp2_with fail
              go_quiet (fail)
              have HB9 := Lib.hid (Rng.bel_drewN HBj.out nq)
              clear e1 e2
              generalize wj.drewN nq = w9 at *
              go_wp2
              go_roundw
              case rel => exact ⟨k, (k : Int), by omega, rfl, by first | rfl | (rw [hk1]), HB2, HB9⟩
              case measure => simp [intOf] <;> omega
            · have t2 : (y.toList == kx.toList) = false := str_ne q
              have HB2 : Hid (back (fun k => decide (ky k = ky i)) k f = FI i) := Lib.hid (by rw [← HBk.out, HBs.out, if_neg (by simp [hy, HKX.out, q])])
              clear q hy
              go_wp2_with fail
              go_quiet (fail)
              have HB9 := Lib.hid (Rng.bel_drewN HBj.out nq)
              clear e1 e2
              generalize wj.drewN nq = w9 at *
              go_wp2
              go_roundw
              case rel => exact ⟨k, f, by omega, rfl, by first | rfl | (rw [hk1]), HB2, HB9⟩
              case measure => simp [intOf] <;> omega
      · have HC := Lib.hid (HOb.out wr HBw.out i hlt er)
        have d1 : (ER i != 0) = true := by simpa using er
        have d2 : (ER i == 0) = false := by simpa using er
        have d3 : decide (ER i = 0) = false := by simpa using er
        clear er
        generalize ER i = x at *
        generalize ky i = kx at *
        go_wp2_with fail
        refine HC.out.mono ?_
        rintro e w3 ⟨rfl, hb3⟩
        have HB3 := Lib.hid (HBw.out.trans (hb3.mono HBw.out.size))
        clear hb3
        go_wp2
        go_ret
        exact ⟨rfl, HB3.out⟩
    · obtain rfl : i = m := by omega
      have HTOT : Hid (hh room OW FI i = ss room OW FI i 20) := Lib.hid (Rng.hitA_sum room OW FI (fun k hk => (HOK.out k hk).1))
      have HI40 := HM
      have HSL : Hid (∀ o, o ≤ 20 → ss room OW FI i o ≤ 800) := Lib.hid (fun o ho => by
        have h1 := ss_le room OW FI i o
        have h2 := HM.out
        have h3 : o * i ≤ 20 * 40 := Nat.mul_le_mul ho h2
        omega)
      clear HFI HOw HOb HKy hlt hi hm40 hmin hsl
      go_wp2
      go_loopw [21, 22] (fun s21 s22 wj => ∃ o : Nat, o ≤ 20 ∧ s21 = .int .i64 ((ss room OW FI i o : Nat) : Int) ∧ s22 = .int .i64 (o : Int) ∧ Hid (Below wr.heap.size wr wj)) (fun _ s22 _ => 20 - (intOf s22).toNat)
      case atStart => exact ⟨0, by omega, rfl, rfl, Lib.hid (Below.refl _ _)⟩
      case round =>
        rename World => wj
        obtain ⟨o, ho, rfl, rfl, HBj⟩ := hrel
        have HTj := Lib.hid (HTr.out.below HBj.out)
        by_cases hol : o < 20
        · have hon : (o : Int) < 20 := by omega
          have ho0 : (0 : Int) ≤ (o : Int) := by omega
          have hpc := HTj.out.pb.cell hol
          obtain ⟨Av, ev, hv, hIv⟩ := ints_of_own (HTj.out.own o hol)
          rw [hv] at hpc
          have hRi : (rr OW FI i o).length ≤ i := Rng.prt_len OW FI o i
          have hss : ss room OW FI i (o + 1) = ss room OW FI i o + Lru.hitsM room [] (rr OW FI i o) := ss_succ room OW FI i o
          have hsl := HSL.out (o + 1) (by omega)
          have HRF := Lib.hid (fun hr => run_facts room OW FI (n := i) (o := o) hr (fun k hk => (HOK.out k hk).2) HM.out)
          obtain ⟨Rl, hRl⟩ : ∃ Rl, rr OW FI i o = Rl := ⟨_, rfl⟩
          rw [hRl] at hpc hIv hRi hss HRF
          clear hv hRl
          by_cases hn : Rl.length = 0
          · have t1 : ((Rl.length : Int) == 0) = true := by rw [beq_iff_eq]; omega
            have t2 : decide ((Rl.length : Int) = 0) = true := decide_eq_true (by omega)
            have HS2 : Hid (ss room OW FI i (o + 1) = ss room OW FI i o) := Lib.hid (by rw [hss, List.length_eq_zero_iff.1 hn]; rfl)
            clear hIv hRi hss hsl HRF hn
            generalize Rl.length = ln0 at *
            go_wp2
            go_roundw
            case rel => exact ⟨o + 1, by omega, by rw [HS2.out], by go_num, HBj⟩
            case measure => simp [intOf]; omega
          · have t1 : ((Rl.length : Int) == 0) = false := by rw [beq_eq_false_iff_ne]; omega
            have t2 : decide ((Rl.length : Int) = 0) = false := decide_eq_false (by omega)
            obtain ⟨f0, fR, fL, fH⟩ := HRF.out (HRM.out (by omega))
            have HRn : Hid (Calls Try.prog 23 #[.agg #[.int .i64 room, .slice none 0 0], .slice Av Rl.length ev] wj (Lru.NR room [] Rl wj)) := Lib.hid (Lru.run_any room none Av 0 ev [] Rl wj (Ints.none_ _) hIv)
            clear hIv hRi HRF hn
            obtain ⟨h9, hh9⟩ : ∃ h9, Lru.hitsM room [] Rl = h9 := ⟨_, rfl⟩
            rw [hh9] at fH hss
            have hw : IntKind.i64.wrap (((ss room OW FI i o : Nat) : Int) + (h9 : Int)) = ((ss room OW FI i (o + 1) : Nat) : Int) := by rw [hss, IntKind.wrap_i64]; omega
            obtain ⟨s1, hs1⟩ : ∃ s1, ss room OW FI i (o + 1) = s1 := ⟨_, rfl⟩
            rw [hs1] at hw
            have HS1 := Lib.hid hs1
            clear hh9 hss hsl hs1
            obtain ⟨Ax, ex, hX, hIx, -⟩ := HTj.out.ks o hol
            obtain ⟨-, hqc⟩ := HTj.out.qb.cell hol
            rw [hX] at hqc
            obtain ⟨Kl, hKl⟩ : ∃ Kl, kk room OW FI i o = Kl := ⟨_, rfl⟩
            rw [hKl] at hqc hIx fL
            have HF : Hid (Lru.rnE room [] Rl = 0 ∧ Lru.rnR room [] Rl = room ∧ Lru.rnL room [] Rl = Kl ∧ Lru.rnH room [] Rl = (h9 : Int)) := Lib.hid ⟨f0, fR, fL, fH⟩
            have HQc : Hid (∀ W, Below wj.heap.size wj W → W.cell? ⟨p + 1, o * 2 + 1, none⟩ = some (.slice Ax Kl.length ex)) := Lib.hid (fun W hW => (hW.cell (p := ⟨p + 1, _, none⟩) HTj.out.qb.lt).trans hqc)
            have HIx := Lib.hid hIx
            clear hX hqc hIx hKl f0 fR fL fH
            go_wp2_with fail
            refine HRn.out.mono ?_
            rintro e w5 ⟨A5, c5, rfl, hI5, -, hb5⟩
            obtain ⟨f0, fR, fL, fH⟩ := HF.out
            rw [fR, fL, fH, f0]
            rw [fL] at hI5
            have hx6 := Lru.Bx.new (r := room) hI5
            have HX6 := Lib.hid hx6
            have HB6 := Lib.hid (Rng.bel_al hb5 hb5.size (Lru.co room A5 c5 Kl))
            clear f0 fR fL fH hI5 hb5 hx6 hpc HRn HF
            go_upto_region 35 with fail
            generalize w5.alloc (Lru.co room A5 c5 Kl) = w6 at *
            generalize w5.heap.size = b6 at *
            have hS0 : ∀ u : Bw w6, u.w.cell? ⟨b6, 1, none⟩ = some (.slice A5 Kl.length c5) := fun u => (HX6.out.below u.h).2.2.1
            have hS1 : ∀ u : Bw w6, u.w.cell? ⟨p + 1, o * 2 + 1, none⟩ = some (.slice Ax Kl.length ex) := fun u => HQc.out u.w (HB6.out.trans (u.h.mono HB6.out.size))
            have HSm : Hid (∀ u : Bw w6, Calls Try.prog 24 #[.slice A5 Kl.length c5, .slice Ax Kl.length ex] u.w fun e w' => e = .returned (.bool true) ∧ Below u.w.heap.size u.w w') := Lib.hid (fun u => by
              have h := Top.same_any A5 Ax c5 ex Kl Kl u.w (HX6.out.below u.h).ints (HIx.out.below (HB6.out.trans (u.h.mono HB6.out.size)))
              rwa [decide_eq_true rfl] at h)
            refine wp_region_below (by kernel_rfl) (by kernel_rfl) ?_
            repeat (go_big_quiet_step ((first | (go_at_call 24; (with_reducible exact calls_bw (HSm.out _))))))
            refine wpQuiet_nil ?_
            intro _ hw'
            obtain ⟨u9, hw''⟩ := hw'
            subst hw''
            have HB9 := Lib.hid (HBj.out.trans ((HB6.out.trans (u9.h.mono HB6.out.size)).mono HBj.out.size))
            clear hS0 hS1
            generalize u9.w = w9 at *
            clear u9
            go_wp2
            go_roundw
            case rel => exact ⟨o + 1, by omega, by rw [HS1.out], by go_num, HB9⟩
            case measure => simp [intOf]; omega
        · obtain rfl : o = 20 := by omega
          rw [HTOT.out]
          have HBz : Hid (Below w.heap.size w wj) := Lib.hid (HBw.out.trans (HBj.out.mono HBw.out.size))
          clear HTOT HTj HTr HBj HBw HBr HRM HOK HSL ho hol
          generalize ss room OW FI i 20 = tot at *
          by_cases q1 : Rng.shE P 20 = 0
          · have hck : Rng.checkR P = 0 := Classical.byContradiction fun h => h ((Rng.shE_check (n := 20) h).symm.trans q1)
            have hG : Rng.Good P := Rng.check_zero.1 hck
            have hne : ¬ P.length = 0 := fun h => by rw [Rng.shE_none hck (by omega) h] at q1; cases q1
            have hS : (Rng.shL P 20).length = 20 ∧ ∀ k, k < 20 → gi (Rng.shL P 20) k = ((share P (k : Int) : Nat) : Int) := by
              unfold Rng.shL
              rw [if_pos q1]
              refine ⟨by simp, fun k hk => ?_⟩
              rw [gi_get (by simpa using hk)]
              simp
            have HSh := Lib.hid (Rng.shares_any B d P 20 wj (HPo.out.below HBz.out))
            rw [q1] at HSh
            have HPT : Hid (∀ k, k < P.length → ∃ j : Nat, (gp P k).sh = (j : Int) ∧ j < 20 ∧ gi (Rng.shL P 20) j ≠ 0 ∧ Rng.owE P (gp P k).at_ = 0 ∧ Rng.owR P (gp P k).at_ = (j : Int)) := Lib.hid (fun k hk => by
              have hp := Rng.gp_mem hk
              obtain ⟨⟨o1, o2⟩, o3⟩ := hG.ok _ hp
              have hE := Rng.owE_ok hck (x := (gp P k).at_) o3 hne
              have hps := Rng.share_pos hG hp
              refine ⟨(gp P k).sh.toNat, by omega, by omega, ?_, hE, ?_⟩
              · rw [hS.2 _ (by omega), show (((gp P k).sh.toNat : Nat) : Int) = (gp P k).sh by omega]; omega
              · rw [Rng.owR_ok hE, Rng.own_self hG.asc hp]; omega)
            have HS20 := Lib.hid hS.1
            have HOa := Lib.hid (fun (x : Int) (W : World) (hW : Below w.heap.size w W) => Rng.owner_any B d P x W (HPo.out.below hW))
            clear hck hG hne hS q1
            generalize Rng.shL P 20 = Sl at *
            obtain ⟨lp, hlp⟩ : ∃ lp, P.length = lp := ⟨_, rfl⟩
            have HLP := Lib.hid hlp
            rw [hlp] at HSh HPT HOa hl2 ⊢
            clear hlp
            go_wp2_with fail
            refine HSh.out.mono ?_
            intro e w5 hr5
            obtain ⟨A5, c5, rfl, hI5, hb5⟩ := hr5.re
            rw [HS20.out]
            have HI5 := Lib.hid hI5
            have HB5 := Lib.hid (HBz.out.trans (hb5.mono HBz.out.size))
            clear hr5 hI5 hb5 HSh
            go_wp2
            go_loopw [28] (fun s28 wq => ∃ k : Nat, k ≤ lp ∧ s28 = .int .i64 (k : Int) ∧ Hid (Below w5.heap.size w5 wq)) (fun s28 _ => lp - (intOf s28).toNat)
            case atStart => exact ⟨0, by omega, rfl, Lib.hid (Below.refl _ _)⟩
            case round =>
              rename World => wq
              obtain ⟨k, hk, rfl, HBq⟩ := hrel
              have HBwq : Hid (Below w.heap.size w wq) := Lib.hid (HB5.out.trans (HBq.out.mono HB5.out.size))
              by_cases hlt : k < lp
              · have hin : (k : Int) < (lp : Int) := by omega
                have hiB : (0 : Int) ≤ (k : Int) := by omega
                obtain ⟨j, j1, j2, j3, j4, j5⟩ := HPT.out k hlt
                have HCE : Hid (∀ W, Below w.heap.size w W → ∃ b o, B = some ⟨b, o, none⟩ ∧ W.cell? ⟨b, o + k * 2, none⟩ = some (.int .i64 (gp P k).at_) ∧ W.cell? ⟨b, o + k * 2 + 1, none⟩ = some (.int .i64 (j : Int))) := Lib.hid (fun W hW => by
                  have h := (HPo.out.below hW).pt (k := k) (by rw [HLP.out]; exact hlt)
                  rwa [j1] at h)
                have HO := Lib.hid (HOa.out (gp P k).at_ wq HBwq.out)
                rw [j4, j5] at HO
                clear j1 j4 j5
                generalize (gp P k).at_ = at0 at *
                obtain ⟨b, o, rfl, e1, -⟩ := HCE.out wq HBwq.out
                have hj0 : (0 : Int) ≤ (j : Int) := by omega
                have hj1 : (j : Int) < 20 := by omega
                have d1 : decide ((20 : Int) ≤ (j : Int)) = false := by simp; omega
                have HJ := Lib.hid j2
                have HJ3 := Lib.hid j3
                clear j2 j3
                go_wp2_with fail
                refine HO.out.mono ?_
                rintro e w6 ⟨rfl, hb6⟩
                have HB6 := Lib.hid (HBq.out.trans (hb6.mono HBq.out.size))
                have HB6w := Lib.hid (HBwq.out.trans (hb6.mono HBwq.out.size))
                clear hb6 e1
                obtain ⟨b', o', h', -, e2⟩ := HCE.out w6 HB6w.out
                cases h'
                obtain ⟨b3, o3, rfl, ht⟩ := (HI5.out.below HB6.out).2.2.2 (by rw [HS20.out]; omega)
                have e3 := ht.2 j (by rw [HS20.out]; exact HJ.out)
                have hz3 := HJ3.out
                clear ht
                generalize gi Sl j = z at *
                have t1 : (z == 0) = false := by rw [beq_eq_false_iff_ne]; exact hz3
                have t2 : decide (z = 0) = false := by simpa using hz3
                clear hz3
                go_wp2
                go_roundw
                case rel => exact ⟨k + 1, by omega, by go_num, HB6⟩
                case measure => simp [intOf]; omega
              · obtain rfl : k = lp := by omega
                go_wp2
                go_ret
                exact ⟨rfl, HBwq.out⟩
          · have HSh := Lib.hid (Rng.shares_any B d P 20 wj (HPo.out.below HBz.out))
            have t1 : (Rng.shE P 20 == 0) = false := by rw [beq_eq_false_iff_ne]; exact q1
            have t2 : decide (Rng.shE P 20 = 0) = false := by simpa using q1
            clear q1
            generalize Rng.shE P 20 = e1 at *
            generalize Rng.shL P 20 = Sl at *
            generalize P.length = lp at *
            go_wp2_with fail
            refine HSh.out.mono ?_
            intro e w5 hr5
            obtain ⟨A5, c5, rfl, hI5, hb5⟩ := hr5.re
            have HB5 := Lib.hid (HBz.out.trans (hb5.mono HBz.out.size))
            clear hr5 hI5 hb5 HSh
            generalize Sl.length = lS at *
            go_wp2
            go_ret
            exact ⟨rfl, HB5.out⟩

end Go.Proofs.Ytjmhemkbfephpaa.Tsh
