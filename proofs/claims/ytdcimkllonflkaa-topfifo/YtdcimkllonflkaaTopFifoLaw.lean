/-
  The walk of the law on keys that are accessed once, in clock and in lru.
-/
import Derived.Test.YtdcimkllonflkaaTopBase
import Derived.Test.YtdcimkllonflkaaClockApi2
import Derived.Test.YtdcimkllonflkaaClockMath2
import Derived.Deep.CutRange
namespace Go.Proofs.Ytdcimkllonflkaa.Top
open Go.RowKit Go.Maps
open Lru (isRm isK keysE keysE_zero traceE trace_zero ints_lit cv co zo slice_upto)
open Clk (Fr Frs Kb kv ko zk gf St rot Fif lastN bel_al bel_set bel_set3 bel_drewN keys)
set_option linter.unusedVariables false
set_option maxRecDepth 100000

/-- The clock and the cache behind k keys that are all different. -/
def Inv (r : Int) (xs : List Int) (k : Nat) (h : Int) (F : List Fr) (L : List Int) : Prop :=
  if isRm r then ∃ hn : Nat, h = (hn : Int) ∧ Fif r (hn, F) ∧ Clk.Good r (hn : Int) F ∧ Lru.Good r L ∧ L = (rot (hn, F)).reverse ∧ rot (hn, F) = lastN r.toNat (xs.take k)
  else h = 0 ∧ F = [] ∧ L = []
theorem inv_zero (r : Int) (xs : List Int) : Inv r xs 0 0 [] [] := by
  unfold Inv
  split
  · rename_i h
    exact ⟨0, rfl, ⟨fun i hi => by simp at hi, fun _ => rfl, .inr rfl, by simp; have := h.1; omega⟩, ⟨h, by simp; have := h.1; omega, fun x hx => by simp [keys] at hx, by simp [keys], by unfold Clk.handOk; simp⟩, ⟨h, by simp; have := h.1; omega, fun x hx => by simp at hx, by simp⟩, rfl, by simp [rot, lastN, keys]⟩
  · exact ⟨rfl, rfl, rfl⟩
theorem inv_step {r : Int} {xs : List Int} {k : Nat} {h : Int} {F : List Fr} {L : List Int} (I : Inv r xs k h F L) (hk : k < xs.length) (hx : gi xs k ∉ xs.take k) :
    Clk.acE r h F (gi xs k) = Lru.acE r L (gi xs k) ∧ (Lru.acE r L (gi xs k) = 0 → Clk.acH r h F (gi xs k) = false ∧ Lru.acH r L (gi xs k) = false ∧ Clk.acG r h F (gi xs k) = Lru.acG r L (gi xs k) ∧ Clk.acR r h F (gi xs k) = r ∧ Lru.acR r L (gi xs k) = r ∧
      Inv r xs (k + 1) (Clk.acP r h F (gi xs k)) (Clk.acF r h F (gi xs k)) (Lru.acL r L (gi xs k))) := by
  unfold Inv at I
  split at I
  · rename_i hr
    obtain ⟨hn, rfl, f, g, g2, eL, eR⟩ := I
    have e1 : Clk.checkK r (hn : Int) F = 0 := Clk.check_zero.2 g
    have e2 : Lru.checkC r L = 0 := Lru.check_zero.2 g2
    by_cases hX : isK (gi xs k)
    · have a1 : Clk.acE r (hn : Int) F (gi xs k) = 0 := by unfold Clk.acE; rw [if_pos e1, if_pos hX]
      have a2 : Lru.acE r L (gi xs k) = 0 := by unfold Lru.acE; rw [if_pos e2, if_pos hX]
      have hxR : gi xs k ∉ rot (hn, F) := by rw [eR]; exact fun hm => hx (Clk.lastN_mem hm)
      have hxF : gi xs k ∉ keys F := fun hm => hxR (Clk.rot_mem.2 hm)
      have hxL : gi xs k ∉ L := by rw [eL]; simpa using hxR
      have hlen : L.length = F.length := by rw [eL, List.length_reverse, Clk.rot_len]
      obtain ⟨s1, s2, s3⟩ := Clk.fif_step f hr.1 hxF
      have gt := Clk.tch_good (s := (hn, F)) g hX
      dsimp only at s2 s3
      refine ⟨by rw [a1, a2], fun _ => ⟨?_, ?_, ?_, ?_, ?_, ?_⟩⟩
      · unfold Clk.acH; rw [if_pos a1]; simpa using hxF
      · unfold Lru.acH; rw [if_pos a2]; simpa using hxL
      · unfold Clk.acG Lru.acG
        rw [if_pos a1, if_pos a2, Int.toNat_natCast, s3]
        unfold Lru.gone
        rw [if_neg hxL]
        by_cases hl : (F.length : Int) < r
        · rw [if_pos hl, if_neg (by omega)]
        · have hf := g.few
          rw [if_neg hl, if_pos (by omega)]
          have hr1 := hr.1
          have h0 : 0 < (rot (hn, F)).length := by rw [Clk.rot_len]; show 0 < F.length; omega
          rw [gi_get (by omega)]
          simp only [eL]
          rw [List.getElem_reverse]
          simp only [List.length_reverse]
          have : (rot (hn, F)).length - 1 - ((rot (hn, F)).length - 1) = 0 := by omega
          simp only [this]
          rw [← List.head_eq_getElem (List.ne_nil_of_length_pos h0)]
          exact (List.headD_eq_head?_getD ..).trans (by rw [List.head?_eq_some_head (List.ne_nil_of_length_pos h0)]; rfl)
      · unfold Clk.acR; rw [if_pos a1]
      · unfold Lru.acR; rw [if_pos a2]
      · unfold Inv
        rw [if_pos hr]
        have et : xs.take (k + 1) = xs.take k ++ [gi xs k] := Clk.take_one hk
        have eR2 : rot (Clk.tch r (hn, F) (gi xs k)) = lastN r.toNat (xs.take (k + 1)) := by
          have hr1 := hr.1
          rw [s2, et, Clk.lastN_snoc (by omega), ← eR, Clk.rot_len]
          congr 1
          by_cases hl : (F.length : Int) < r
          · rw [if_pos hl, if_pos (by show F.length < _; omega)]
          · rw [if_neg hl, if_neg (by show ¬ F.length < _; omega)]
        have eL2 : Lru.acL r L (gi xs k) = (rot (Clk.tch r (hn, F) (gi xs k))).reverse := by
          unfold Lru.acL
          rw [if_pos a2, s2, List.reverse_append]
          by_cases hl : (F.length : Int) < r
          · rw [if_pos hl, Lru.touch_room hxL (by omega), eL]; rfl
          · have hf := g.few
            rw [if_neg hl, Lru.touch_full hxL (by omega), List.reverse_drop, ← eL, Clk.rot_len, hlen]; rfl
        refine ⟨(Clk.tch r (hn, F) (gi xs k)).1, ?_, ?_, ?_, ?_, ?_, ?_⟩
        · unfold Clk.acP; rw [if_pos a1, Int.toNat_natCast]
        · unfold Clk.acF; rw [if_pos a1, Int.toNat_natCast]; exact s1
        · unfold Clk.acF; rw [if_pos a1, Int.toNat_natCast]; exact gt
        · have := Lru.touch_good (x := gi xs k) g2 hX
          unfold Lru.acL; rw [if_pos a2]; exact this
        · rw [eL2]; unfold Clk.acF; rw [if_pos a1, Int.toNat_natCast]
        · unfold Clk.acF; rw [if_pos a1, Int.toNat_natCast]; exact eR2
    · have a1 : Clk.acE r (hn : Int) F (gi xs k) = 3 := by unfold Clk.acE; rw [if_pos e1, if_neg hX]
      have a2 : Lru.acE r L (gi xs k) = 3 := by unfold Lru.acE; rw [if_pos e2, if_neg hX]
      exact ⟨by rw [a1, a2], fun h => by rw [a2] at h; cases h⟩
  · rename_i hr
    obtain ⟨rfl, rfl, rfl⟩ := I
    have e1 : Clk.checkK r 0 [] = 3 := by unfold Clk.checkK; rw [if_neg hr]
    have e2 : Lru.checkC r [] = 3 := by unfold Lru.checkC; rw [if_neg hr]
    have a1 : Clk.acE r 0 [] (gi xs k) = 3 := by unfold Clk.acE; rw [e1]; rfl
    have a2 : Lru.acE r [] (gi xs k) = 3 := by unfold Lru.acE; rw [e2]; rfl
    exact ⟨by rw [a1, a2], fun h => by rw [a2] at h; cases h⟩

/-! ### Boxes -/
/-- Block p holds a cache (as a block, whatever its keys). -/
def Vc (w : World) (p : Nat) (r : Int) (v : Value) : Prop := w.heap[p]? = some (.cells #[.int .i64 r, v] 49 (0, 0))
section
variable {w w' : World} {p : Nat} {r : Int} {v : Value}
theorem Vc.lt (h : Vc w p r v) : p < w.heap.size := (Array.getElem?_eq_some_iff.1 h).1
theorem Vc.cells (h : Vc w p r v) : w.cell? ⟨p, 0, none⟩ = some (.int .i64 r) ∧ w.cell? ⟨p, 1, none⟩ = some v ∧ w.frozen? ⟨p, 0, none⟩ = false ∧ w.frozen? ⟨p, 1, none⟩ = false := by
  have h : w.heap[p]? = some (.cells #[.int .i64 r, v] 49 (0, 0)) := h
  exact ⟨by rw [cell_of_row w p 0 _ _ (0, 0) h]; rfl, by rw [cell_of_row w p 1 _ _ (0, 0) h]; rfl, by simp [World.frozen?, h], by simp [World.frozen?, h]⟩
theorem Vc.below (h : Vc w p r v) (hb : Below w.heap.size w w') : Vc w' p r v := (hb.block p h.lt).trans h
theorem Vc.alloc (h : Vc w p r v) (o : Obj) : Vc (w.alloc o) p r v := h.below (bel_al (Below.refl _ _) (Nat.le_refl _) o)
theorem Vc.new (w : World) (r : Int) (v : Value) : Vc (w.alloc (.cells #[.int .i64 r, v] 49)) w.heap.size r v := Array.getElem?_push_size
theorem Vc.put2 (h : Vc w p r v) (q : Int) (u : Value) : Vc ((w.setCell ⟨p, 0, none⟩ (.int .i64 q)).setCell ⟨p, 1, none⟩ u) p q u := by
  have h : w.heap[p]? = some (.cells #[.int .i64 r, v] 49 (0, 0)) := h
  show ((w.setCell ⟨p, 0, none⟩ (.int .i64 q)).setCell ⟨p, 1, none⟩ u).heap[p]? = _
  simp [World.setCell, Array.getElem?_modify, h]
theorem Vc.other (h : Vc w p r v) {a : Addr} (ha : p ≠ a.block) (u : Value) : Vc (w.setCell a u) p r v := (Below.heap_setCell w a u p ha).trans h
end
theorem bel_set2 {B : Nat} {w w' : World} (h : Below B w w') {p : Nat} (hp : B ≤ p) (a b : Value) : Below B w ((w'.setCell ⟨p, 0, none⟩ a).setCell ⟨p, 1, none⟩ b) :=
  bel_set (bel_set h (a := ⟨p, 0, none⟩) hp a) (a := ⟨p, 1, none⟩) hp b
theorem has_sw (A : Option Addr) (c : Nat) (L : List Int) (n : Int) (b : Bool) (w : World) (ha : Ints w A c L) (hb : decide (n ∈ L) = b) :
    Calls Try.prog 20 #[.slice A L.length c, .int .i64 n] w fun e w' => e = .returned (.bool b) ∧ w' = w := by
  subst hb
  exact (has_any A c L n w ha).mono (fun e w' ⟨h1, h2⟩ => ⟨h1, h2.symm⟩)
theorem dnI {w : World} {A : Option Addr} {c : Nat} {L : List Int} (h : Ints w A c L) (n : Nat) : Ints (w.drewN n) A c L := h.below (bel_drewN (Below.refl _ _) n)

set_option maxHeartbeats 20000000 in
theorem topFifo_walk (r : Int) (A : Option Addr) (c : Nat) (xs : List Int) (w : World) (hJ : Ints w A c xs) :
    Calls Try.prog 7 #[.int .i64 r, .slice A xs.length c] w fun e w' => e = .returned (.bool true) ∧ Below w.heap.size w w' := by
  have hlen := hJ.len
  have HJ := Lib.hid hJ
  clear hJ
  obtain ⟨ln, hln⟩ : ∃ ln, xs.length = ln := ⟨_, rfl⟩
  have HLN := Lib.hid hln
  rw [hln] at hlen ⊢
  clear hln
  go_enter Try.func7, Try.ntmps7
  go_wp2_with fail
  refine (begun_any _).mono ?_
  rintro e w0 ⟨rfl, hb0⟩
  have HB0 := Lib.hid hb0
  clear hb0
  go_wp2
  have HKc := Lib.hid ((Kb.new w0 r 0 (.slice none 0 0)).alloc (.cells #[.int .i64 r, .slice none 0 0] 49))
  have HVc : Hid (Vc ((w0.alloc (ko r 0 (.slice none 0 0))).alloc (.cells #[.int .i64 r, .slice none 0 0] 49)) (w0.heap.size + 1) r (.slice none 0 0)) := Lib.hid (by
    have := Vc.new (w0.alloc (ko r 0 (.slice none 0 0))) r (.slice none 0 0)
    rwa [show (w0.alloc (ko r 0 (.slice none 0 0))).heap.size = w0.heap.size + 1 by simp] at this)
  have HB1 : Hid (Below w0.heap.size w0 ((w0.alloc (ko r 0 (.slice none 0 0))).alloc (.cells #[.int .i64 r, .slice none 0 0] 49))) := Lib.hid (bel_al (bel_al (Below.refl _ _) (Nat.le_refl _) _) (by simp) _)
  generalize (w0.alloc (ko r 0 (.slice none 0 0))).alloc (.cells #[.int .i64 r, .slice none 0 0] 49) = w1 at *
  go_loopw [7] (fun i wr => ∃ (k : Nat) (h : Int) (F : List Fr) (L : List Int) (Ac Ad : Option Addr) (kc kd : Nat), k ≤ ln ∧ i = .int .i64 (k : Int) ∧ Hid (Inv r xs k h F L) ∧ Hid (Kb wr w0.heap.size r h (.slice Ac F.length kc)) ∧ Hid (Frs wr Ac kc F) ∧ Hid (Vc wr (w0.heap.size + 1) r (.slice Ad L.length kd)) ∧ Hid (Ints wr Ad kd L) ∧ Hid (Below w0.heap.size w0 wr)) (fun i _ => ln - (intOf i).toNat)
  case atStart => exact ⟨0, 0, [], [], none, none, 0, 0, by omega, rfl, Lib.hid (inv_zero r xs), HKc, Lib.hid (Frs.none_ _), HVc, Lib.hid (Ints.none_ _), HB1⟩
  case round =>
    obtain ⟨k, h, F, L, Ac, Ad, kc, kd, hk, rfl, HInv, HKr, HFr, HVr, HIr, HBr⟩ := hrel
    have HBw : Hid (Below w.heap.size w wr) := Lib.hid (HB0.out.trans (HBr.out.mono HB0.out.size))
    have HJr := Lib.hid (HJ.out.below HBw.out)
    by_cases hlt : k < ln
    · have hkn : (k : Int) < (ln : Int) := by omega
      by_cases h60 : k < 60
      · have HKX : Hid (k < xs.length) := Lib.hid (by rw [HLN.out]; exact hlt)
        obtain ⟨A', hsl, hT', -⟩ := slice_upto HJr.out (k := k) (by rw [HLN.out]; exact hk)
        have HT' := Lib.hid hT'
        have htl : (xs.take k).length = k := by rw [List.length_take, HLN.out]; omega
        rw [htl, HLN.out] at hsl
        have HHas := Lib.hid (fun (W : World) (hW : Ints W A' c (xs.take k)) => has_sw A' c (xs.take k) (gi xs k) _ W hW rfl)
        rw [htl] at HHas
        obtain ⟨b, o, rfl, ht⟩ := HJr.out.2.2.2 (by have := HKX.out; omega)
        have e1 := ht.2 k HKX.out
        have hbl := ht.1
        clear ht htl hT'
        by_cases hm : gi xs k ∈ xs.take k
        · rw [show decide (gi xs k ∈ xs.take k) = true by simpa using hm] at HHas
          clear hm
          generalize gi xs k = x at *
          go_wp2
          go_quiet (first | (go_at_call 20; (with_reducible refine Calls.quiet_of_same (HHas.out _ ?_)); exact dnI HT'.out _))
          have HB2 : Hid (Below w.heap.size w (wr.drewN nq)) := Lib.hid (bel_drewN HBw.out _)
          clear e1
          generalize wr.drewN nq = w5 at *
          go_wp2
          go_ret
          exact ⟨rfl, HB2.out⟩
        · rw [show decide (gi xs k ∈ xs.take k) = false by simpa using hm] at HHas
          have HSt := Lib.hid (inv_step HInv.out HKX.out hm)
          clear hm
          generalize gi xs k = x at *
          have HAc := Lib.hid (fun (W : World) (hW : Frs W Ac kc F) => Clk.access_any r h Ac kc F x W hW)
          have HAd := Lib.hid (fun (W : World) (hW : Ints W Ad kd L) => Lru.access_any r Ad kd L x W hW)
          unfold Clk.AR at HAc
          unfold Lru.AR at HAd
          generalize Clk.acF r h F x = M at *
          generalize Clk.acR r h F x = Rc at *
          generalize Clk.acP r h F x = Pc at *
          generalize Clk.acH r h F x = Hc at *
          generalize Clk.acG r h F x = Gc at *
          generalize Clk.acE r h F x = Ec at *
          generalize Lru.acL r L x = N at *
          generalize Lru.acR r L x = Rd at *
          generalize Lru.acH r L x = Hd at *
          generalize Lru.acG r L x = Gd at *
          generalize Lru.acE r L x = Ed at *
          obtain ⟨lf, hlf⟩ : ∃ lf, F.length = lf := ⟨_, rfl⟩
          obtain ⟨ll, hll⟩ : ∃ ll, L.length = ll := ⟨_, rfl⟩
          obtain ⟨lm, hlm⟩ : ∃ lm, M.length = lm := ⟨_, rfl⟩
          obtain ⟨lN, hlN⟩ : ∃ lN, N.length = lN := ⟨_, rfl⟩
          have HLM := Lib.hid hlm
          have HLNN := Lib.hid hlN
          simp only [hlf, hlm] at HAc
          simp only [hll, hlN, cv] at HAd
          rw [hlf] at HKr
          rw [hll] at HVr
          clear hlf hll hlm hlN
          go_upto_region 8 with fail
          go_quiet (first | (go_at_call 20; (with_reducible refine Calls.quiet_of_same (HHas.out _ ?_)); exact dnI HT'.out _))
          have HB2 : Hid (Below w0.heap.size w0 (wr.drewN nq)) := Lib.hid (bel_drewN HBr.out _)
          have HJ2 := Lib.hid (dnI HJr.out nq)
          have HK2 : Hid (Kb (wr.drewN nq) w0.heap.size r h (.slice Ac lf kc)) := HKr
          have HF2 := Lib.hid (Clk.Frs.below HFr.out (bel_drewN (Below.refl _ _) nq))
          have HV2 : Hid (Vc (wr.drewN nq) (w0.heap.size + 1) r (.slice Ad ll kd)) := HVr
          have HI2 := Lib.hid (dnI HIr.out nq)
          have e2 : (wr.drewN nq).cell? ⟨b, o + k, none⟩ = some (.int .i64 x) := e1
          have hbl2 : b < (wr.drewN nq).heap.size := hbl
          clear e1 hbl
          generalize wr.drewN nq = w5 at *
          go_upto_region 10 with fail
          go_cut [8, 9, 10, 11] from 22 to 81 (fun s8 s9 s10 s11 wx => ∃ p B d, s8 = .pointer (some ⟨p, 0, none⟩) ∧ s9 = .bool Hc ∧ s10 = .int .i64 Gc ∧ s11 = .int .i64 Ec ∧ Kb wx p Rc Pc (.slice B lm d) ∧ Frs wx B d M ∧ Clk.FA w5 B ∧ w5.heap.size ≤ p ∧ Below w5.heap.size w5 wx)
          case first =>
            as_aux_lemma =>
              have HS : Hid (∀ W, Below w5.heap.size w5 W → W.cell? ⟨w0.heap.size, 0, none⟩ = some (.int .i64 r) ∧ W.cell? ⟨w0.heap.size, 1, none⟩ = some (.int .i64 h) ∧ W.cell? ⟨w0.heap.size, 2, none⟩ = some (.slice Ac lf kc) ∧ W.cell? ⟨b, o + k, none⟩ = some (.int .i64 x)) := Lib.hid (fun W hW => by
                obtain ⟨z1, z2, z3, -⟩ := (HK2.out.below hW).cells
                exact ⟨z1, z2, z3, (hW.cell (p := ⟨b, _, none⟩) hbl2).trans e2⟩)
              clear e2
              go_region_held3 (fun w' => w'.cell? ⟨w0.heap.size, 0, none⟩ = some (.int .i64 r) ∧ w'.cell? ⟨w0.heap.size, 1, none⟩ = some (.int .i64 h) ∧ w'.cell? ⟨w0.heap.size, 2, none⟩ = some (.slice Ac lf kc) ∧ w'.cell? ⟨b, o + k, none⟩ = some (.int .i64 x))
                (first | exact HS.out _ hb9 | exact HS.out _ (Below.refl _ _).drew | exact HS.out _ (bel_al (Below.refl _ _) (Nat.le_refl _) _).drew | exact HS.out _ (bel_al hb9 hb9.size _) | exact HS.out _ (bel_set3 hb9 (Nat.le_refl _) _ _ _))
                (first
                  | (go_at_call 8; refine (HAc.out w5.drew (HF2.out.below (Below.refl _ _).drew)).mono ?_; rintro e w9 ⟨A9, c9, rfl, hi9, hf9, hb9'⟩; have hb9 : Below w5.heap.size w5 w9 := (Below.refl _ _).drew.trans hb9')
                  | (go_at_call 8; refine (HAc.out (w5.alloc zk).drew (HF2.out.below (bel_al (Below.refl _ _) (Nat.le_refl _) _).drew)).mono ?_; rintro e w9 ⟨A9, c9, rfl, hi9, hf9, hb9'⟩; have hb8 : Below (w5.alloc zk).heap.size (w5.alloc zk) w9 := (Below.refl _ _).drew.trans hb9'; have hb9 : Below w5.heap.size w5 w9 := (bel_al (Below.refl _ _) (Nat.le_refl _) _).trans (hb8.mono (by simp)); have hzd := (Kb.new w5 0 0 (.slice none 0 0)).below hb8; obtain ⟨r0, r1, r2, f0, f1, f2⟩ := hzd.cells))
              · rename_i hHH
                clear hHH
                have HP := Lib.hid (Kb.new w9 Rc Pc (.slice A9 lm c9))
                have HQ := Lib.hid (bel_al hb9 hb9.size (ko Rc Pc (.slice A9 lm c9)))
                go_wp2
                go_meet
                exact ⟨_, A9, c9, rfl, rfl, rfl, rfl, HP.out, Clk.Frs.alloc hi9 _, fun a ha => hf9 a ha, hb9.size, HQ.out⟩
              · rename_i hHH
                clear hHH
                have HP := Lib.hid (hzd.put3 Rc Pc (.slice A9 lm c9))
                have HQ := Lib.hid (bel_set3 hb9 (p := w5.heap.size) (Nat.le_refl _) (.int .i64 Rc) (.int .i64 Pc) (.slice A9 lm c9))
                go_wp2
                go_meet
                exact ⟨_, A9, c9, rfl, rfl, rfl, rfl, HP.out, Clk.Frs.set3 hi9 (fun a ha => by have := hf9 a ha; simp at this; omega) _ _ _, fun a ha => by have := hf9 a ha; simp at this; omega, Nat.le_refl _, HQ.out⟩
          case rest =>
            obtain ⟨p8, B8, d8, rfl, rfl, rfl, rfl, hk8, hf8, ha8, hp8, hb8⟩ := hcut
            rename World => wc
            have HK8 := Lib.hid hk8
            have HF8 := Lib.hid hf8
            have HA8 := Lib.hid ha8
            have HP8 := Lib.hid hp8
            have HK3 := Lib.hid (HK2.out.below hb8)
            have HV3 := Lib.hid (HV2.out.below hb8)
            have HI3 := Lib.hid (HI2.out.below hb8)
            have HB3 : Hid (Below w0.heap.size w0 wc) := Lib.hid (HB2.out.trans (hb8.mono HB2.out.size))
            have e3 : wc.cell? ⟨b, o + k, none⟩ = some (.int .i64 x) := (hb8.cell (p := ⟨b, _, none⟩) hbl2).trans e2
            have hbl3 : b < wc.heap.size := Nat.lt_of_lt_of_le hbl2 hb8.size
            clear hk8 hf8 ha8 hp8 hb8 e2 hbl2
            go_upto_region 11 with fail
            go_cut [12, 13, 14, 15] from 22 to 81 (fun s8 s9 s10 s11 wx => ∃ p B d, s8 = .pointer (some ⟨p, 0, none⟩) ∧ s9 = .bool Hd ∧ s10 = .int .i64 Gd ∧ s11 = .int .i64 Ed ∧ Vc wx p Rd (.slice B lN d) ∧ Ints wx B d N ∧ Lru.FA wc B ∧ wc.heap.size ≤ p ∧ Below wc.heap.size wc wx)
            case first =>
              as_aux_lemma =>
                have HS : Hid (∀ W, Below wc.heap.size wc W → W.cell? ⟨w0.heap.size + 1, 0, none⟩ = some (.int .i64 r) ∧ W.cell? ⟨w0.heap.size + 1, 1, none⟩ = some (.slice Ad ll kd) ∧ W.cell? ⟨b, o + k, none⟩ = some (.int .i64 x)) := Lib.hid (fun W hW => by
                  obtain ⟨z1, z2, -⟩ := (HV3.out.below hW).cells
                  exact ⟨z1, z2, (hW.cell (p := ⟨b, _, none⟩) hbl3).trans e3⟩)
                clear e3
                go_region_held3 (fun w' => w'.cell? ⟨w0.heap.size + 1, 0, none⟩ = some (.int .i64 r) ∧ w'.cell? ⟨w0.heap.size + 1, 1, none⟩ = some (.slice Ad ll kd) ∧ w'.cell? ⟨b, o + k, none⟩ = some (.int .i64 x))
                  (first | exact HS.out _ hb9 | exact HS.out _ (Below.refl _ _).drew | exact HS.out _ (bel_al (Below.refl _ _) (Nat.le_refl _) _).drew | exact HS.out _ (bel_al hb9 hb9.size _) | exact HS.out _ (bel_set2 hb9 (Nat.le_refl _) _ _))
                  (first
                    | (go_at_call 21; refine (HAd.out wc.drew (HI3.out.below (Below.refl _ _).drew)).mono ?_; rintro e w9 ⟨A9, c9, rfl, hi9, hf9, hb9'⟩; have hb9 : Below wc.heap.size wc w9 := (Below.refl _ _).drew.trans hb9')
                    | (go_at_call 21; refine (HAd.out (wc.alloc zo).drew (HI3.out.below (bel_al (Below.refl _ _) (Nat.le_refl _) _).drew)).mono ?_; rintro e w9 ⟨A9, c9, rfl, hi9, hf9, hb9'⟩; have hb8 : Below (wc.alloc zo).heap.size (wc.alloc zo) w9 := (Below.refl _ _).drew.trans hb9'; have hb9 : Below wc.heap.size wc w9 := (bel_al (Below.refl _ _) (Nat.le_refl _) _).trans (hb8.mono (by simp)); have hzd := (Vc.new wc 0 (.slice none 0 0)).below hb8; obtain ⟨r0, r1, f0, f1⟩ := hzd.cells))
                · rename_i hHH
                  clear hHH
                  have HP := Lib.hid (Vc.new w9 Rd (.slice A9 lN c9))
                  have HQ := Lib.hid (bel_al hb9 hb9.size (.cells #[.int .i64 Rd, .slice A9 lN c9] 49))
                  go_wp2
                  go_meet
                  exact ⟨_, A9, c9, rfl, rfl, rfl, rfl, HP.out, hi9.alloc _, fun a ha => hf9 a ha, hb9.size, HQ.out⟩
                · rename_i hHH
                  clear hHH
                  have HP := Lib.hid (hzd.put2 Rd (.slice A9 lN c9))
                  have HQ := Lib.hid (bel_set2 hb9 (p := wc.heap.size) (Nat.le_refl _) (.int .i64 Rd) (.slice A9 lN c9))
                  go_wp2
                  go_meet
                  exact ⟨_, A9, c9, rfl, rfl, rfl, rfl, HP.out, Lru.ints_set2 hi9 (fun a ha => by have := hf9 a ha; simp at this; omega) _ _, fun a ha => by have := hf9 a ha; simp at this; omega, Nat.le_refl _, HQ.out⟩
            case rest =>
              obtain ⟨p9, B9, d9, rfl, rfl, rfl, rfl, hv9, hi9, ha9, hp9, hb9⟩ := hcut
              rename World => wd
              have HK9 := Lib.hid (HK8.out.below hb9)
              have HF9 := Lib.hid (HF8.out.below hb9)
              have HK4 := Lib.hid (HK3.out.below hb9)
              have HV4 := Lib.hid (HV3.out.below hb9)
              have HV9 := Lib.hid hv9
              have HI9 := Lib.hid hi9
              have HB4 : Hid (Below w0.heap.size w0 wd) := Lib.hid (HB3.out.trans (hb9.mono HB3.out.size))
              have HBw4 : Hid (Below w.heap.size w wd) := Lib.hid (HB0.out.trans (HB4.out.mono HB0.out.size))
              have HZ5 : Hid (w0.heap.size + 1 < w5.heap.size) := Lib.hid HV2.out.lt
              have HZc : Hid (w5.heap.size ≤ wc.heap.size) := Lib.hid (by have := HK8.out.lt; have := HP8.out; omega)
              have HN8 : Hid (∀ a, B8 = some a → w0.heap.size + 1 < a.block) := Lib.hid (fun a ha => Nat.lt_of_lt_of_le HZ5.out (HA8.out a ha))
              have HN9 : Hid (∀ a, B9 = some a → w0.heap.size + 1 < a.block) := Lib.hid (fun a ha => Nat.lt_of_lt_of_le HZ5.out (Nat.le_trans HZc.out (ha9 a ha)))
              have HQ8 : Hid (w0.heap.size + 1 < p8) := Lib.hid (Nat.lt_of_lt_of_le HZ5.out HP8.out)
              have HQ9 : Hid (w0.heap.size + 1 < p9) := Lib.hid (Nat.lt_of_lt_of_le HZ5.out (Nat.le_trans HZc.out hp9))
              clear hv9 hi9 ha9 hp9 hb9 e3 hbl3
              by_cases hE : Ed = 0
              · obtain ⟨hE2, h1, h2, h3, h4, h5, h6⟩ : Ec = 0 ∧ _ := ⟨HSt.out.1.trans hE, HSt.out.2 hE⟩
                have HI6 := Lib.hid h6
                subst hE hE2 h1 h2 h3 h4 h5
                clear HSt h6
                obtain ⟨x1, x2, x3, y1, y2, y3⟩ := HK4.out.cells
                obtain ⟨v1, v2, v3, v4⟩ := HV4.out.cells
                obtain ⟨a1, a2, a3, -, -, -⟩ := HK9.out.cells
                obtain ⟨b1, b2, -, -⟩ := HV9.out.cells
                have n1 : ¬ p9 = w0.heap.size := by have := HQ9.out; omega
                have n2 : ¬ w0.heap.size = p9 := by have := HQ9.out; omega
                have n3 : ¬ p9 = w0.heap.size + 1 := by have := HQ9.out; omega
                have n4 : ¬ w0.heap.size + 1 = p9 := by have := HQ9.out; omega
                have n5 : ¬ p8 = w0.heap.size := by have := HQ8.out; omega
                have n6 : ¬ w0.heap.size = p8 := by have := HQ8.out; omega
                have n7 : ¬ p8 = w0.heap.size + 1 := by have := HQ8.out; omega
                have n8 : ¬ w0.heap.size + 1 = p8 := by have := HQ8.out; omega
                go_wp2
                go_region
                have K6 : Hid (Kb (((((wd.setCell ⟨w0.heap.size, 0, none⟩ (.int .i64 Rd)).setCell ⟨w0.heap.size, 1, none⟩ (.int .i64 Pc)).setCell ⟨w0.heap.size, 2, none⟩ (.slice B8 lm d8)).setCell ⟨w0.heap.size + 1, 0, none⟩ (.int .i64 Rd)).setCell ⟨w0.heap.size + 1, 1, none⟩ (.slice B9 lN d9)).drew w0.heap.size Rd Pc (.slice B8 lm d8)) := Lib.hid (((HK4.out.put3 Rd Pc (.slice B8 lm d8)).other (a := ⟨w0.heap.size + 1, 0, none⟩) (by show w0.heap.size ≠ w0.heap.size + 1; omega) _).other (a := ⟨w0.heap.size + 1, 1, none⟩) (by show w0.heap.size ≠ w0.heap.size + 1; omega) _)
                have V6 : Hid (Vc (((((wd.setCell ⟨w0.heap.size, 0, none⟩ (.int .i64 Rd)).setCell ⟨w0.heap.size, 1, none⟩ (.int .i64 Pc)).setCell ⟨w0.heap.size, 2, none⟩ (.slice B8 lm d8)).setCell ⟨w0.heap.size + 1, 0, none⟩ (.int .i64 Rd)).setCell ⟨w0.heap.size + 1, 1, none⟩ (.slice B9 lN d9)).drew (w0.heap.size + 1) Rd (.slice B9 lN d9)) := Lib.hid ((((HV4.out.other (a := ⟨w0.heap.size, 0, none⟩) (by show w0.heap.size + 1 ≠ w0.heap.size; omega) _).other (a := ⟨w0.heap.size, 1, none⟩) (by show w0.heap.size + 1 ≠ w0.heap.size; omega) _).other (a := ⟨w0.heap.size, 2, none⟩) (by show w0.heap.size + 1 ≠ w0.heap.size; omega) _).put2 Rd (.slice B9 lN d9))
                have F6 : Hid (Frs (((((wd.setCell ⟨w0.heap.size, 0, none⟩ (.int .i64 Rd)).setCell ⟨w0.heap.size, 1, none⟩ (.int .i64 Pc)).setCell ⟨w0.heap.size, 2, none⟩ (.slice B8 lm d8)).setCell ⟨w0.heap.size + 1, 0, none⟩ (.int .i64 Rd)).setCell ⟨w0.heap.size + 1, 1, none⟩ (.slice B9 lN d9)).drew B8 d8 M) := Lib.hid (Clk.Frs.drew (((Clk.Frs.set3 HF9.out (p := w0.heap.size) (fun a ha => by have := HN8.out a ha; omega) _ _ _).setCell (p := ⟨w0.heap.size + 1, 0, none⟩) (fun a ha => by have := HN8.out a ha; show w0.heap.size + 1 ≠ _; omega) _).setCell (p := ⟨w0.heap.size + 1, 1, none⟩) (fun a ha => by have := HN8.out a ha; show w0.heap.size + 1 ≠ _; omega) _))
                have I6 : Hid (Ints (((((wd.setCell ⟨w0.heap.size, 0, none⟩ (.int .i64 Rd)).setCell ⟨w0.heap.size, 1, none⟩ (.int .i64 Pc)).setCell ⟨w0.heap.size, 2, none⟩ (.slice B8 lm d8)).setCell ⟨w0.heap.size + 1, 0, none⟩ (.int .i64 Rd)).setCell ⟨w0.heap.size + 1, 1, none⟩ (.slice B9 lN d9)).drew B9 d9 N) := Lib.hid (Ints.drew (((((HI9.out.setCell (p := ⟨w0.heap.size, 0, none⟩) (fun a ha => by have := HN9.out a ha; show a.block ≠ w0.heap.size; omega) _).setCell (p := ⟨w0.heap.size, 1, none⟩) (fun a ha => by have := HN9.out a ha; show a.block ≠ w0.heap.size; omega) _).setCell (p := ⟨w0.heap.size, 2, none⟩) (fun a ha => by have := HN9.out a ha; show a.block ≠ w0.heap.size; omega) _).setCell (p := ⟨w0.heap.size + 1, 0, none⟩) (fun a ha => by have := HN9.out a ha; show a.block ≠ w0.heap.size + 1; omega) _).setCell (p := ⟨w0.heap.size + 1, 1, none⟩) (fun a ha => by have := HN9.out a ha; show a.block ≠ w0.heap.size + 1; omega) _))
                have B6 : Hid (Below w0.heap.size w0 (((((wd.setCell ⟨w0.heap.size, 0, none⟩ (.int .i64 Rd)).setCell ⟨w0.heap.size, 1, none⟩ (.int .i64 Pc)).setCell ⟨w0.heap.size, 2, none⟩ (.slice B8 lm d8)).setCell ⟨w0.heap.size + 1, 0, none⟩ (.int .i64 Rd)).setCell ⟨w0.heap.size + 1, 1, none⟩ (.slice B9 lN d9)).drew) := Lib.hid (Below.drew (bel_set2 (bel_set3 HB4.out (Nat.le_refl _) _ _ _) (p := w0.heap.size + 1) (by omega) _ _))
                clear x1 x2 x3 y1 y2 y3 v1 v2 v3 v4 a1 a2 a3 b1 b2 n1 n2 n3 n4 n5 n6 n7 n8
                generalize (((((wd.setCell ⟨w0.heap.size, 0, none⟩ (.int .i64 Rd)).setCell ⟨w0.heap.size, 1, none⟩ (.int .i64 Pc)).setCell ⟨w0.heap.size, 2, none⟩ (.slice B8 lm d8)).setCell ⟨w0.heap.size + 1, 0, none⟩ (.int .i64 Rd)).setCell ⟨w0.heap.size + 1, 1, none⟩ (.slice B9 lN d9)).drew = w6 at *
                go_wp2
                go_roundw
                case rel => exact ⟨k + 1, Pc, M, N, B8, B9, d8, d9, by omega, by go_num, HI6, by rw [HLM.out]; exact K6, F6, by rw [HLNN.out]; exact V6, I6, B6⟩
                case measure => simp [intOf]; omega
              · have d1 : (Ec != 0) = true := by rw [HSt.out.1]; simpa using hE
                have d2 : (Ec == Ed) = true := by simpa using HSt.out.1
                clear hE
                go_wp2
                go_ret
                exact ⟨rfl, HBw4.out⟩
      · go_wp2
        go_ret
        exact ⟨rfl, HBw.out⟩
    · obtain rfl : k = ln := by omega
      go_wp2
      go_ret
      exact ⟨rfl, HBw.out⟩

end Go.Proofs.Ytdcimkllonflkaa.Top
