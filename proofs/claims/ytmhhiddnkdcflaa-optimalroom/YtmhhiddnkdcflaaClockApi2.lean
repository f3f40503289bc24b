/-
  What Access, Run and Clear of package clock return.
-/
import Derived.Test.YtmhhiddnkdcflaaClockApi
namespace Go.Proofs.Ytmhhiddnkdcflaa.Clk
open Go.RowKit
open Lru (isRm isK keysE keysE_zero traceE trace_zero)
set_option linter.unusedVariables false
set_option maxRecDepth 100000

/-! ### The answers -/
def acE (r h : Int) (F : List Fr) (x : Int) : Int := if checkK r h F = 0 then (if isK x then 0 else 3) else checkK r h F
def acR (r h : Int) (F : List Fr) (x : Int) : Int := if acE r h F x = 0 then r else 0
def acP (r h : Int) (F : List Fr) (x : Int) : Int := if acE r h F x = 0 then ((tch r (h.toNat, F) x).1 : Int) else 0
def acF (r h : Int) (F : List Fr) (x : Int) : List Fr := if acE r h F x = 0 then (tch r (h.toNat, F) x).2 else []
def acH (r h : Int) (F : List Fr) (x : Int) : Bool := if acE r h F x = 0 then decide (x ∈ keys F) else false
def acG (r h : Int) (F : List Fr) (x : Int) : Int := if acE r h F x = 0 then gone r (h.toNat, F) x else 0
def rnE (r h : Int) (F : List Fr) (xs : List Int) : Int := if checkK r h F = 0 then traceE xs else checkK r h F
def rnR (r h : Int) (F : List Fr) (xs : List Int) : Int := if rnE r h F xs = 0 then r else 0
def rnP (r h : Int) (F : List Fr) (xs : List Int) : Int := if rnE r h F xs = 0 then ((runC r (h.toNat, F) xs).1 : Int) else 0
def rnF (r h : Int) (F : List Fr) (xs : List Int) : List Fr := if rnE r h F xs = 0 then (runC r (h.toNat, F) xs).2 else []
def rnH (r h : Int) (F : List Fr) (xs : List Int) : Int := if rnE r h F xs = 0 then (hitsC r (h.toNat, F) xs : Int) else 0
def off (F : List Fr) : List Fr := F.map (fun f => ⟨f.key, false⟩)
def clR (r h : Int) (F : List Fr) : Int := if checkK r h F = 0 then r else 0
def clP (r h : Int) (F : List Fr) : Int := if checkK r h F = 0 then h else 0
def clF (r h : Int) (F : List Fr) : List Fr := if checkK r h F = 0 then off F else []
/-- A slice of the call's own (or nil). -/
def FA (w : World) (A : Option Addr) : Prop := ∀ a, A = some a → w.heap.size ≤ a.block
theorem FA.none_ (w : World) : FA w none := fun a h => (by cases h)
def AR (r h : Int) (F : List Fr) (x : Int) (w : World) (e : Ending) (w' : World) : Prop :=
  ∃ A c, e = .returned (.tuple #[kv (acR r h F x) (acP r h F x) (.slice A (acF r h F x).length c), .bool (acH r h F x), .int .i64 (acG r h F x), .int .i64 (acE r h F x)]) ∧ Frs w' A c (acF r h F x) ∧ FA w A ∧ Below w.heap.size w w'
def NR (r h : Int) (F : List Fr) (xs : List Int) (w : World) (e : Ending) (w' : World) : Prop :=
  ∃ A c, e = .returned (.tuple #[kv (rnR r h F xs) (rnP r h F xs) (.slice A (rnF r h F xs).length c), .int .i64 (rnH r h F xs), .int .i64 (rnE r h F xs)]) ∧ Frs w' A c (rnF r h F xs) ∧ FA w A ∧ Below w.heap.size w w'
def LR (r h : Int) (F : List Fr) (w : World) (e : Ending) (w' : World) : Prop :=
  ∃ A c, e = .returned (.tuple #[kv (clR r h F) (clP r h F) (.slice A (clF r h F).length c), .int .i64 (checkK r h F)]) ∧ Frs w' A c (clF r h F) ∧ FA w A ∧ Below w.heap.size w w'
abbrev nk : Value := kv 0 0 (.slice none 0 0)
theorem AR.bad {r h : Int} {F : List Fr} {x er : Int} {w w' : World} (he : acE r h F x = er) (h0 : er ≠ 0) (hb : Below w.heap.size w w') : AR r h F x w (.returned (.tuple #[nk, .bool false, .int .i64 0, .int .i64 er])) w' := by
  have h : ¬ acE r h F x = 0 := by rw [he]; exact h0
  refine ⟨none, 0, ?_, ?_, FA.none_ _, hb⟩
  · unfold acR acP acF acH acG; rw [if_neg h, if_neg h, if_neg h, if_neg h, if_neg h, he]; rfl
  · unfold acF; rw [if_neg h]; exact Frs.none_ _
theorem NR.bad {r h : Int} {F : List Fr} {xs : List Int} {er : Int} {w w' : World} (he : rnE r h F xs = er) (h0 : er ≠ 0) (hb : Below w.heap.size w w') : NR r h F xs w (.returned (.tuple #[nk, .int .i64 0, .int .i64 er])) w' := by
  have h : ¬ rnE r h F xs = 0 := by rw [he]; exact h0
  refine ⟨none, 0, ?_, ?_, FA.none_ _, hb⟩
  · unfold rnR rnP rnF rnH; rw [if_neg h, if_neg h, if_neg h, if_neg h, he]; rfl
  · unfold rnF; rw [if_neg h]; exact Frs.none_ _
theorem LR.bad {r h : Int} {F : List Fr} {er : Int} {w w' : World} (he : checkK r h F = er) (h0 : er ≠ 0) (hb : Below w.heap.size w w') : LR r h F w (.returned (.tuple #[nk, .int .i64 er])) w' := by
  have h : ¬ checkK r h F = 0 := by rw [he]; exact h0
  refine ⟨none, 0, ?_, ?_, FA.none_ _, hb⟩
  · unfold clR clP clF; rw [if_neg h, if_neg h, if_neg h, he]; rfl
  · unfold clF; rw [if_neg h]; exact Frs.none_ _
theorem AR.good {r : Int} {hn : Nat} {F : List Fr} {x : Int} {w w' : World} {A : Option Addr} {c n : Nat} (he : acE r (hn : Int) F x = 0) (hn' : n = (tch r (hn, F) x).2.length) (hF : Frs w' A c (tch r (hn, F) x).2) (hA : FA w A) (hb : Below w.heap.size w w') :
    AR r (hn : Int) F x w (.returned (.tuple #[kv r ((tch r (hn, F) x).1 : Int) (.slice A n c), .bool (decide (x ∈ keys F)), .int .i64 (gone r (hn, F) x), .int .i64 0])) w' := by
  subst hn'
  refine ⟨A, c, ?_, ?_, hA, hb⟩
  · unfold acR acP acF acH acG; rw [he, if_pos rfl, if_pos rfl, if_pos rfl, if_pos rfl, if_pos rfl, Int.toNat_natCast]
  · unfold acF; rw [he, if_pos rfl, Int.toNat_natCast]; exact hF
theorem NR.good {r : Int} {hn : Nat} {F : List Fr} {xs : List Int} {w w' : World} {A : Option Addr} {c n : Nat} (he : rnE r (hn : Int) F xs = 0) (hn' : n = (runC r (hn, F) xs).2.length) (hF : Frs w' A c (runC r (hn, F) xs).2) (hA : FA w A) (hb : Below w.heap.size w w') :
    NR r (hn : Int) F xs w (.returned (.tuple #[kv r ((runC r (hn, F) xs).1 : Int) (.slice A n c), .int .i64 (hitsC r (hn, F) xs : Int), .int .i64 0])) w' := by
  subst hn'
  refine ⟨A, c, ?_, ?_, hA, hb⟩
  · unfold rnR rnP rnF rnH; rw [he, if_pos rfl, if_pos rfl, if_pos rfl, if_pos rfl, Int.toNat_natCast]
  · unfold rnF; rw [he, if_pos rfl, Int.toNat_natCast]; exact hF
theorem LR.good {r h : Int} {F : List Fr} {w w' : World} {A : Option Addr} {c n : Nat} (he : checkK r h F = 0) (hn' : n = F.length) (hF : Frs w' A c (off F)) (hA : FA w A) (hb : Below w.heap.size w w') :
    LR r h F w (.returned (.tuple #[kv r h (.slice A n c), .int .i64 0])) w' := by
  subst hn'
  refine ⟨A, c, ?_, ?_, hA, hb⟩
  · unfold clR clP clF; rw [he, if_pos rfl, if_pos rfl, if_pos rfl]; simp [off]
  · unfold clF; rw [he, if_pos rfl]; exact hF
theorem Frs.set3 {w : World} {A : Option Addr} {c p : Nat} {F : List Fr} (h : Frs w A c F) (hp : ∀ a, A = some a → p ≠ a.block) (a b d : Value) : Frs (((w.setCell ⟨p, 0, none⟩ a).setCell ⟨p, 1, none⟩ b).setCell ⟨p, 2, none⟩ d) A c F :=
  ((h.setCell (p := ⟨p, 0, none⟩) hp a).setCell (p := ⟨p, 1, none⟩) hp b).setCell (p := ⟨p, 2, none⟩) hp d
theorem Kb.put3 {w : World} {p : Nat} {r h : Int} {v : Value} (k : Kb w p r h v) (r' h' : Int) (v' : Value) : Kb (((w.setCell ⟨p, 0, none⟩ (.int .i64 r')).setCell ⟨p, 1, none⟩ (.int .i64 h')).setCell ⟨p, 2, none⟩ v') p r' h' v' := by
  have k : w.heap[p]? = some (.cells #[.int .i64 r, .int .i64 h, v] 42 (0, 0)) := k
  show (((w.setCell ⟨p, 0, none⟩ (.int .i64 r')).setCell ⟨p, 1, none⟩ (.int .i64 h')).setCell ⟨p, 2, none⟩ v').heap[p]? = _
  simp [World.setCell, Array.getElem?_modify, k]
theorem Kb.neF {w : World} {p : Nat} {r h : Int} {v : Value} {B : Option Addr} (k : Kb w p r h v) (hA : FA w B) : ∀ a, B = some a → p ≠ a.block := fun a ha e => by have := hA a ha; have := k.lt; omega
/-- The two boxes of a function of the package: its argument and its result. -/
theorem box2 (w : World) (r h : Int) (v : Value) : Kb ((w.alloc (ko r h v)).alloc zk) w.heap.size r h v ∧ Kb ((w.alloc (ko r h v)).alloc zk) (w.heap.size + 1) 0 0 (.slice none 0 0) ∧ Below w.heap.size w ((w.alloc (ko r h v)).alloc zk) := by
  refine ⟨(Kb.new w r h _).alloc _, ?_, bel_al (bel_al (Below.refl _ _) (Nat.le_refl _) _) (by simp) _⟩
  have := Kb.new (w.alloc (ko r h v)) 0 0 (.slice none 0 0)
  rwa [show (w.alloc (ko r h v)).heap.size = w.heap.size + 1 by simp] at this
theorem Good.nat {r h : Int} {F : List Fr} (g : Good r h F) : ∃ hn : Nat, h = (hn : Int) := ⟨h.toNat, by have := g.hand.1; omega⟩
theorem Good.len40 {r h : Int} {F : List Fr} (g : Good r h F) : F.length ≤ 40 := by have := g.few; have := g.room.2; omega

theorem take_one {xs : List Int} {k : Nat} (hk : k < xs.length) : xs.take (k + 1) = xs.take k ++ [gi xs k] := by rw [List.take_add_one, List.getElem?_eq_getElem hk, gi_get hk]; rfl
set_option maxHeartbeats 8000000 in
theorem run_any (r h : Int) (A : Option Addr) (c : Nat) (F : List Fr) (B : Option Addr) (d : Nat) (xs : List Int) (w : World) (hF : Frs w A c F) (hJ : Ints w B d xs) :
    Calls Try.prog 16 #[kv r h (.slice A F.length c), .slice B xs.length d] w (NR r h F xs w) := by
  obtain ⟨hk0, hz0, hb0⟩ := box2 w r h (.slice A F.length c)
  have HK0 := Lib.hid hk0
  have HZ0 := Lib.hid hz0
  have HB0 := Lib.hid hb0
  have HF0 := Lib.hid (hF.below hb0)
  have HJ := Lib.hid hJ
  clear hk0 hz0 hb0 hF hJ
  have HC := Lib.hid (check_any r h A c F _ HF0.out)
  by_cases h0 : checkK r h F = 0
  · have HG := Lib.hid (check_zero.1 h0)
    rw [h0] at HC
    by_cases h1 : traceE xs = 0
    · have HE : Hid (rnE r h F xs = 0) := Lib.hid (by unfold rnE; rw [if_pos h0, h1])
      have HT := Lib.hid (trace_zero.1 h1)
      have HCt := Lib.hid (fun (W : World) (hW : Ints W B d xs) => Lru.checkTrace_any B d xs W hW)
      rw [h1] at HCt
      clear h0 h1
      obtain ⟨ln, hln⟩ : ∃ ln, xs.length = ln := ⟨_, rfl⟩
      have HLN := Lib.hid hln
      have hl200 : ln ≤ 200 := by rw [← hln]; exact HT.out.1
      rw [hln] at HCt ⊢
      clear hln
      obtain ⟨hn, rfl⟩ := HG.out.nat
      obtain ⟨x1, x2, x3, -, -, -⟩ := HK0.out.cells
      go_enter Try.func16, Try.ntmps16
      go_wp2_with fail
      refine HC.out.mono ?_
      rintro e w1 ⟨rfl, hb1⟩
      have HK1 := Lib.hid (HK0.out.below hb1)
      have HZ1 := Lib.hid (HZ0.out.below hb1)
      have HB1 : Hid (Below w.heap.size w w1) := Lib.hid (HB0.out.trans (hb1.mono HB0.out.size))
      have HF1 := Lib.hid (HF0.out.below hb1)
      have HJ1 := Lib.hid (HJ.out.below HB1.out)
      clear hb1 x1 x2 x3
      go_wp2_with fail
      refine (HCt.out _ HJ1.out).mono ?_
      rintro e w2 ⟨rfl, rfl⟩
      have HCl := Lib.hid (clone_any r (hn : Int) A c F w1 HF1.out (by have := HG.out.len40; omega))
      obtain ⟨x1, x2, x3, -, -, -⟩ := HK1.out.cells
      go_wp2_with fail
      refine HCl.out.mono ?_
      rintro e w2 ⟨A2, c2, rfl, ho2, hb2⟩
      have HK2 := Lib.hid (Kb.new w2 r (hn : Int) (.slice A2 F.length c2))
      have HO2 := Lib.hid (ho2.alloc (ko r (hn : Int) (.slice A2 F.length c2)))
      have HL2 : Hid (w.heap.size + 1 < w1.heap.size) := Lib.hid HZ1.out.lt
      have HB2 : Hid (Below w1.heap.size w1 (w2.alloc (ko r (hn : Int) (.slice A2 F.length c2)))) := Lib.hid (bel_al hb2 hb2.size _)
      have HQ : Hid (w1.heap.size ≤ w2.heap.size) := Lib.hid hb2.size
      clear hb2 ho2 x1 x2 x3
      obtain ⟨pp, hpp⟩ : ∃ pp, pp = w2.heap.size := ⟨_, rfl⟩
      rw [← hpp] at HK2 HQ
      have HPP := Lib.hid hpp
      clear hpp
      go_wp2
      rw [← HPP.out]
      go_loopw [10, 31] (fun q i wr => ∃ (k : Nat) (v : Value), k ≤ ln ∧ i = .int .i64 (k : Int) ∧ q = .int .i64 (hitsC r (hn, F) (xs.take k) : Int) ∧ Kb wr pp r ((runC r (hn, F) (xs.take k)).1 : Int) v ∧ OwnF wr w1.heap.size v (runC r (hn, F) (xs.take k)).2 ∧ Below w1.heap.size w1 wr) (fun _ i _ => ln - (intOf i).toNat)
      case atStart => exact ⟨0, _, by omega, rfl, rfl, HK2.out, HO2.out, HB2.out⟩
      case round =>
        obtain ⟨k, v, hk, rfl, rfl, hkr, hor, hbr⟩ := hrel
        have HKr := Lib.hid hkr
        have HOr := Lib.hid hor
        have HBr := Lib.hid hbr
        have HZr := Lib.hid (HZ1.out.below hbr)
        have HJr := Lib.hid (HJ1.out.below hbr)
        clear hkr hor hbr
        have HGr : Hid (Good r ((runC r (hn, F) (xs.take k)).1 : Int) (runC r (hn, F) (xs.take k)).2) := Lib.hid (runC_good (s := (hn, F)) HG.out (fun x hx => HT.out.2 x (List.mem_of_mem_take hx)))
        have hhl : hitsC r (hn, F) (xs.take k) ≤ 200 := by have := hitsC_le r (hn, F) (xs.take k); rw [List.length_take] at this; omega
        by_cases hlt : k < ln
        · have hin : (k : Int) < (ln : Int) := by omega
          have hiB : (0 : Int) ≤ (k : Int) := by omega
          have hkx : k < xs.length := by rw [HLN.out]; exact hlt
          obtain ⟨b, o, rfl, ht⟩ := HJr.out.2.2.2 (by omega)
          have e1 := ht.2 k hkx
          clear ht
          have HT1 := Lib.hid (take_one hkx)
          have HR1 : Hid (runC r (hn, F) (xs.take (k + 1)) = tch r (runC r (hn, F) (xs.take k)) (gi xs k)) := Lib.hid (by rw [HT1.out, runC_snoc])
          have HH1 : Hid (hitsC r (hn, F) (xs.take (k + 1)) = hitsC r (hn, F) (xs.take k) + (if gi xs k ∈ keys (runC r (hn, F) (xs.take k)).2 then 1 else 0)) := Lib.hid (by rw [HT1.out, hitsC_snoc])
          have HU := Lib.hid (use_any w1.heap.size pp r (runC r (hn, F) (xs.take k)).1 v (runC r (hn, F) (xs.take k)).2 (gi xs k) wr HKr.out HOr.out HQ.out HBr.out.size HGr.out)
          clear hkx
          generalize gi xs k = x at *
          generalize runC r (hn, F) (xs.take k) = M at *
          generalize hitsC r (hn, F) (xs.take k) = hh at *
          unfold UR at HU
          by_cases hm : x ∈ keys M.2
          · rw [if_pos hm] at HH1
            have HD : Hid (decide (x ∈ keys M.2) = true) := Lib.hid (by simpa using hm)
            clear hm
            go_wp2_with fail
            refine HU.out.mono ?_
            rintro e w4 ⟨v4, rfl, hk4, ho4, hb4⟩
            rw [HD.out]
            have HK4 := Lib.hid hk4
            have HO4 := Lib.hid ho4
            have HB4 := Lib.hid (HBr.out.trans hb4)
            clear hk4 ho4 hb4 e1
            go_wp2
            go_roundw
            case rel => exact ⟨k + 1, v4, by omega, by go_num, by rw [HH1.out]; go_num, by rw [HR1.out]; exact HK4.out, by rw [HR1.out]; exact HO4.out, HB4.out⟩
            case measure => simp [intOf]; omega
          · rw [if_neg hm] at HH1
            have HD : Hid (decide (x ∈ keys M.2) = false) := Lib.hid (by simpa using hm)
            clear hm
            go_wp2_with fail
            refine HU.out.mono ?_
            rintro e w4 ⟨v4, rfl, hk4, ho4, hb4⟩
            rw [HD.out]
            have HK4 := Lib.hid hk4
            have HO4 := Lib.hid ho4
            have HB4 := Lib.hid (HBr.out.trans hb4)
            clear hk4 ho4 hb4 e1
            go_wp2
            go_roundw
            case rel => exact ⟨k + 1, v4, by omega, by go_num, by rw [HH1.out]; rfl, by rw [HR1.out]; exact HK4.out, by rw [HR1.out]; exact HO4.out, HB4.out⟩
            case measure => simp [intOf]; omega
        · obtain rfl : k = ln := by omega
          have HtL : Hid (xs.take k = xs) := Lib.hid (by rw [← HLN.out]; exact List.take_length)
          rw [HtL.out] at HOr HKr hhl ⊢
          obtain ⟨A4, c4, rfl, hF4, hA4⟩ := frs_of_own HOr.out
          have HF4 := Lib.hid hF4
          have HA4 := Lib.hid hA4
          have HB4 : Hid (Below w.heap.size w wr) := Lib.hid (HB1.out.trans (HBr.out.mono HB1.out.size))
          clear hF4 hA4 HGr HOr hlt
          obtain ⟨n4, hn4⟩ : ∃ n4, n4 = (runC r (hn, F) xs).2.length := ⟨_, rfl⟩
          rw [← hn4] at HKr
          have HN4 := Lib.hid hn4
          clear hn4
          obtain ⟨x1, x2, x3, -, -, -⟩ := HKr.out.cells
          obtain ⟨z1, z2, z3, u1, u2, u3⟩ := HZr.out.cells
          generalize hP : ((runC r (hn, F) xs).1 : Int) = P at *
          have HP := Lib.hid hP
          clear hP
          go_wp2
          refine bodyPost_ret (v := .tuple #[kv r P (.slice A4 n4 c4), .int .i64 (hitsC r (hn, F) xs : Int), .int .i64 0]) (by simp [results, Try.results16, go_sem, z1, z2, z3]) rfl ?_
          rw [← HP.out]
          exact NR.good HE.out HN4.out (HF4.out.set3 (fun a ha => by have := HA4.out a ha; have := HL2.out; omega) _ _ _) (fun a ha => by have := HA4.out a ha; have := HL2.out; omega) (bel_set3 HB4.out (p := w.heap.size + 1) (by omega) _ _ _)
    · have HE : Hid (rnE r h F xs = traceE xs) := Lib.hid (by unfold rnE; rw [if_pos h0])
      have H1 := Lib.hid h1
      have q : (traceE xs != 0) = true := by simpa using h1
      clear h0 h1
      obtain ⟨x1, x2, x3, -, -, -⟩ := HK0.out.cells
      go_enter Try.func16, Try.ntmps16
      go_wp2_with fail
      refine HC.out.mono ?_
      rintro e w1 ⟨rfl, hb1⟩
      have HZ1 := Lib.hid (HZ0.out.below hb1)
      have HB1 : Hid (Below w.heap.size w w1) := Lib.hid (HB0.out.trans (hb1.mono HB0.out.size))
      clear hb1 x1 x2 x3
      go_wp2_with fail
      refine (Lru.checkTrace_any B d xs w1 (HJ.out.below HB1.out)).mono ?_
      rintro e w2 ⟨rfl, rfl⟩
      obtain ⟨z1, z2, z3, u1, u2, u3⟩ := HZ1.out.cells
      go_wp2
      refine bodyPost_ret (v := .tuple #[nk, .int .i64 0, .int .i64 (traceE xs)]) (by simp [results, Try.results16, go_sem, z1, z2, z3]) rfl ?_
      exact NR.bad HE.out H1.out (bel_set3 HB1.out (p := w.heap.size + 1) (by omega) _ _ _)
  · have HE : Hid (rnE r h F xs = checkK r h F) := Lib.hid (by unfold rnE; rw [if_neg h0])
    have H0 := Lib.hid h0
    have q : (checkK r h F != 0) = true := by simpa using h0
    clear h0
    obtain ⟨x1, x2, x3, -, -, -⟩ := HK0.out.cells
    go_enter Try.func16, Try.ntmps16
    go_wp2_with fail
    refine HC.out.mono ?_
    rintro e w1 ⟨rfl, hb1⟩
    have HZ1 := Lib.hid (HZ0.out.below hb1)
    have HB1 : Hid (Below w.heap.size w w1) := Lib.hid (HB0.out.trans (hb1.mono HB0.out.size))
    clear hb1 x1 x2 x3
    obtain ⟨z1, z2, z3, u1, u2, u3⟩ := HZ1.out.cells
    go_wp2
    refine bodyPost_ret (v := .tuple #[nk, .int .i64 0, .int .i64 (checkK r h F)]) (by simp [results, Try.results16, go_sem, z1, z2, z3]) rfl ?_
    exact NR.bad HE.out H0.out (bel_set3 HB1.out (p := w.heap.size + 1) (by omega) _ _ _)

/-- The first k frames off. -/
def offK (F : List Fr) (k : Nat) : List Fr := off (F.take k) ++ F.drop k
theorem offK_len (F : List Fr) (k : Nat) : (offK F k).length = F.length := by unfold offK off; simp; omega
theorem offK_all {F : List Fr} {k : Nat} (h : F.length ≤ k) : offK F k = off F := by unfold offK; rw [List.take_of_length_le h, List.drop_of_length_le h, List.append_nil]
theorem offK_step {F : List Fr} {k : Nat} (hk : k < F.length) : (offK F k).set k ⟨(gf (offK F k) k).key, false⟩ = offK F (k + 1) := by
  have hl : (off (F.take k)).length = k := by unfold off; simp; omega
  have e : gf (offK F k) k = F[k] := by
    rw [gf_get (by rw [offK_len]; exact hk)]
    unfold offK
    rw [List.getElem_append_right (by omega)]
    simp [hl]
  rw [e]
  unfold offK
  have e2 : off (F.take (k + 1)) = off (F.take k) ++ [⟨F[k].key, false⟩] := by
    rw [List.take_add_one, List.getElem?_eq_getElem hk]
    simp only [off, List.map_append, Option.toList, List.map_cons, List.map_nil]
  rw [List.set_append_right _ _ (by omega), hl, Nat.sub_self, List.drop_eq_getElem_cons hk, List.set_cons_zero, e2, List.append_assoc]
  rfl

end Go.Proofs.Ytmhhiddnkdcflaa.Clk
