/-
  Package optimal: Evictions.
-/
import Derived.Test.YtgdklpgmoanfkaaOptApi
namespace Go.Proofs.Ytgdklpgmoanfkaa.Opt
open Go.RowKit
open Bst
open Lfu (Us gu gu_get gu_mem gu_set keys keys_len keys_get keys_mem)
open Lru (isRm isK keysE keysE_zero traceE trace_zero)
set_option linter.unusedVariables false
set_option maxRecDepth 100000

def evE (r : Int) (l : List Int) : Int := if traceE l = 0 then (if isRm r then 0 else 3) else traceE l
def evs (r : Int) (l : List Int) : List Int := if evE r l = 0 then gsI r.toNat l l.length else []
def evm (r : Int) (l : List Int) : Nat := if evE r l = 0 then mI r.toNat l l.length else 0
/-- The row of evicted keys behind k accesses. -/
def evk (r : Nat) (l : List Int) (k : Nat) : List Int := gsI r l k ++ List.replicate (l.length - k) 0
theorem evk_len (r : Nat) (l : List Int) {k : Nat} (h : k ≤ l.length) : (evk r l k).length = l.length := by unfold evk; simp [gsI_len]; omega
theorem evk_all (r : Nat) (l : List Int) : evk r l l.length = gsI r l l.length := by unfold evk; simp
theorem evk_set (r : Nat) (l : List Int) {k : Nat} (h : k < l.length) : (evk r l k).set k (outI r (stI r l k) (gi l k) (l.drop k)) = evk r l (k + 1) := by
  unfold evk
  rw [List.set_append_right _ _ (by rw [gsI_len]; omega), gsI_len, Nat.sub_self, show l.length - k = (l.length - (k + 1)) + 1 by omega, List.replicate_succ, List.set_cons_zero]
  show _ = (gsI r l k ++ [_]) ++ _
  rw [List.append_assoc, List.singleton_append]
theorem evk_pre (r : Nat) (l : List Int) {k : Nat} (u v : Int) : ((evk r l k).set k u).set k v = (evk r l k).set k v := by rw [List.set_set]

def rd (w : World) (m j : Nat) : Value := (w.cell? ⟨m, j, none⟩).getD (.int .i64 0)
theorem rd_of {w : World} {m j : Nat} {v : Value} (h : w.cell? ⟨m, j, none⟩ = some v) : w.cell? ⟨m, j, none⟩ = some (rd w m j) := by unfold rd; rw [h]; rfl

/-- Block p is a variable with a key. -/
def KeyAt (w : World) (p : Nat) (x : Int) : Prop := w.heap[p]? = some (.cells #[.int .i64 x] 3 (0, 0))
section
variable {w w' : World} {p g base : Nat} {x : Int} {v : Value} {F : List Us} {L : List Int}
theorem KeyAt.lt (h : KeyAt w p x) : p < w.heap.size := (Array.getElem?_eq_some_iff.1 h).1
theorem KeyAt.cell (h : KeyAt w p x) : w.cell? ⟨p, 0, none⟩ = some (.int .i64 x) := by
  have h : w.heap[p]? = some (.cells #[.int .i64 x] 3 (0, 0)) := h
  rw [cell_of_row w p 0 _ _ (0, 0) h]; rfl
theorem KeyAt.below (h : KeyAt w p x) (hb : Below w.heap.size w w') : KeyAt w' p x := (hb.block p h.lt).trans h
theorem KeyAt.other (h : KeyAt w p x) {a : Addr} (ha : p ≠ a.block) (u : Value) : KeyAt (w.setCell a u) p x := (Below.heap_setCell w a u p ha).trans h
theorem KeyAt.new (w : World) (x : Int) : KeyAt (w.alloc (.cells #[.int .i64 x] 3)) w.heap.size x := Array.getElem?_push_size
theorem KeyAt.own (k : KeyAt w p x) (ho : OwnU w base v F) : v.ownBlock ≠ some p := by
  intro e
  rcases ho.2 with ⟨rfl, -⟩ | ⟨g, cap, cur, rfl, -, hg, -⟩
  · cases e
  · cases e
    have k : w.heap[g]? = some (.cells #[.int .i64 x] 3 (0, 0)) := k
    rw [hg] at k
    simp at k
theorem ints_belowB {A : Option Addr} {c B : Nat} (h : Ints w A c L) (hb : Below B w w') (hB : ∀ a, A = some a → a.block < B) : Ints w' A c L :=
  ⟨h.1, h.2.1, h.2.2.1, fun hl => by obtain ⟨b, o, e, ht⟩ := h.2.2.2 hl; exact ⟨b, o, e, ht.below (hB _ e) hb⟩⟩
theorem RowI.other (h : RowI w p L) {a : Addr} (ha : p ≠ a.block) (u : Value) : RowI (w.setCell a u) p L := (Below.heap_setCell w a u p ha).trans h
theorem own_ne (h : OwnU w base v F) (hp : p < base) : v.ownBlock ≠ some p := fun e => by
  rcases h.2 with ⟨rfl, -⟩ | ⟨g, cap, cur, rfl, hb, -⟩
  · cases e
  · cases e; exact Nat.lt_irrefl _ (Nat.lt_of_lt_of_le hp hb)
theorem indexO (h : OwnU w base v F) (k : KeyAt w p x) :
    Calls Try.prog 36 #[v, .func (.func 37) #[] #[.pointer (some ⟨p, 0, none⟩)]] w fun e w' => e = .returned (.int .i64 (fnd F x)) ∧ Below w.heap.size w w' := by
  obtain ⟨A, c, rfl, hF, -⟩ := uss_of_own h
  exact index_any A c F x p w hF k.lt k.cell
/-- The cells that the last store writes, and the variable. -/
abbrev SV (p g a : Nat) (x : Int) (w' : World) : Prop :=
  w'.cell? ⟨p, 0, none⟩ = some (.int .i64 x) ∧ w'.cell? ⟨g, a * 2, none⟩ = some (rd w' g (a * 2)) ∧ w'.cell? ⟨g, a * 2 + 1, none⟩ = some (rd w' g (a * 2 + 1)) ∧ w'.frozen? ⟨g, a * 2, none⟩ = false ∧ w'.frozen? ⟨g, a * 2 + 1, none⟩ = false
theorem sv_of {n c a : Nat} (h : OwnU w base (.slice (some ⟨g, 0, none⟩) n c) F) (k : KeyAt w p x) (hn : n = F.length) (ha : a < F.length) : SV p g a x w := by
  obtain ⟨c1, c2, f1, f2⟩ := h.cells hn ha
  exact ⟨k.cell, rd_of c1, rd_of c2, f1, f2⟩
theorem sv_all {n c a : Nat} (h : OwnU w base (.slice (some ⟨g, 0, none⟩) n c) F) (k : KeyAt w p x) (hn : n = F.length) (ha : a < F.length) (hb : Below w.heap.size w w') (u : Us) :
    SV p g a x w' ∧ SV p g a x ((w'.setCell ⟨g, a * 2, none⟩ (.int .i64 u.key)).setCell ⟨g, a * 2 + 1, none⟩ (.int .i64 u.cnt)) := by
  have h' := h.below hb
  have k' := k.below hb
  have hne : p ≠ g := fun e => k'.own h' (by rw [e]; rfl)
  refine ⟨sv_of h' k' hn ha, sv_of (h'.put hn u) ((k'.other (a := ⟨g, a * 2, none⟩) hne _).other (a := ⟨g, a * 2 + 1, none⟩) hne _) (by rw [List.length_set]; exact hn) (by rw [List.length_set]; exact ha)⟩
end

/-- What Evictions gives. -/
def ER (r : Int) (l : List Int) (w : World) (e : Ending) (w' : World) : Prop :=
  ∃ A c, e = .returned (.tuple #[.slice A (evs r l).length c, .int .i64 (evm r l : Int), .int .i64 (evE r l)]) ∧ Ints w' A c (evs r l) ∧ Below w.heap.size w w'
theorem ER.bad {r : Int} {l : List Int} {w w' : World} {e : Int} (h : evE r l = e) (h0 : e ≠ 0) (hb : Below w.heap.size w w') : ER r l w (.returned (.tuple #[.slice none 0 0, .int .i64 0, .int .i64 e])) w' := by
  have h1 : evs r l = [] := by unfold evs; rw [if_neg (by rw [h]; exact h0)]
  have h2 : evm r l = 0 := by unfold evm; rw [if_neg (by rw [h]; exact h0)]
  exact ⟨none, 0, by rw [h, h1, h2]; rfl, by rw [h1]; exact Ints.none_ _, hb⟩

set_option maxHeartbeats 8000000 in
theorem Evictions_any (A : Option Addr) (c : Nat) (L : List Int) (r : Int) (w : World) (hI : Ints w A c L) :
    Calls Try.prog 21 #[.slice A L.length c, .int .i64 r] w (ER r L w) := by
  have HC := Lib.hid (Lru.checkTrace_any A c L w hI)
  have HI := Lib.hid hI
  clear hI
  by_cases h0 : traceE L = 0
  · have hl200 := (trace_zero.1 h0).1
    by_cases h1 : isRm r
    · have HE : Hid (evE r L = 0) := Lib.hid (by unfold evE; rw [if_pos h0, if_pos h1])
      have HRm := Lib.hid h1
      have hR := isRoom_any r w
      rw [decide_eq_true h1] at hR
      have HR := Lib.hid hR
      obtain ⟨rn, hrn⟩ : ∃ rn, rn = r.toNat := ⟨_, rfl⟩
      have HRn := Lib.hid hrn
      have hr0 : 0 < rn := by have := h1.1; omega
      have HR0 := Lib.hid hr0
      rw [h0] at HC
      clear h0 h1 hR hrn hr0
      obtain ⟨n, hn⟩ : ∃ n, L.length = n := ⟨_, rfl⟩
      have HN := Lib.hid hn
      rw [hn] at HC hl200 ⊢
      clear hn
      have hmk : ∀ W : World, (Instr.makeSlice 22 (.int .i64 (n : Int)) (.int .i64 (n : Int))).run Try.prog W = .ok (.slice (some ⟨W.heap.size, 0, none⟩) n n) (W.alloc (.cells (Array.replicate n (Value.int .i64 0)) 3)) := fun W => by
        rw [run_make_ints n (by omega) W, List.toArray_replicate]
      have HRo : Hid (RowI (w.alloc (.cells (Array.replicate n (Value.int .i64 0)) 3)) w.heap.size (evk rn L 0)) := Lib.hid (by
        have e : evk rn L 0 = List.replicate n 0 := by unfold evk gsI; rw [HN.out]; simp
        rw [e, ← List.toArray_replicate]; exact RowI.new w n)
      have HBo : Hid (Below w.heap.size w (w.alloc (.cells (Array.replicate n (Value.int .i64 0)) 3))) := Lib.hid (bel_al (Below.refl _ _) (Nat.le_refl _) _)
      have HSo : Hid (w.heap.size + 1 ≤ (w.alloc (.cells (Array.replicate n (Value.int .i64 0)) 3)).heap.size) := Lib.hid (by simp)
      go_enter Try.func21, Try.ntmps21
      go_wp2_with fail
      refine HC.out.mono ?_
      rintro e w2 ⟨rfl, rfl⟩
      go_wp2_with fail
      refine HR.out.mono ?_
      rintro e w2 ⟨rfl, rfl⟩
      go_wp2
      obtain ⟨g, hg⟩ : ∃ g, g = w.heap.size := ⟨_, rfl⟩
      have HG := Lib.hid hg
      rw [← hg] at HRo HBo HSo ⊢
      clear hg hmk
      generalize w.alloc (.cells (Array.replicate n (Value.int .i64 0)) 3) = w0 at *
      go_loopw [9, 10, 27] (fun s9 s10 s27 wr => ∃ (k : Nat) (v : Value), k ≤ n ∧ s27 = .int .i64 (k : Int) ∧ s9 = .int .i64 (mI rn L k : Int) ∧ s10 = v ∧ OwnU wr (g + 1) v (cl L k (stI rn L k)) ∧ RowI wr g (evk rn L k) ∧ Below g w wr ∧ g + 1 ≤ wr.heap.size) (fun _ _ i _ => n - (intOf i).toNat)
      case atStart => exact ⟨0, _, by omega, rfl, rfl, rfl, World.ownsRow_nil _ _ _ _, HRo.out, HBo.out, HSo.out⟩
      case round =>
        obtain ⟨k, v, hk, rfl, rfl, hv, hor, hro, hbr, hsr⟩ := hrel
        have hv2 := hv.symm
        clear hv
        subst hv2
        have hgw : g ≤ w.heap.size := by rw [HG.out]; exact Nat.le_refl _
        have HJr : Hid (Ints wr A c L) := Lib.hid (HI.out.below (by rw [← HG.out]; exact hbr))
        by_cases hlt : k < n
        · have hin : (k : Int) < (n : Int) := by omega
          have hiB : (0 : Int) ≤ (k : Int) := by omega
          have hkL : k < L.length := by rw [HN.out]; exact hlt
          have HKL := Lib.hid hkL
          obtain ⟨b, o, rfl, ht⟩ := HJr.out.2.2.2 (by omega)
          have e1 := ht.2 k hkL
          have HBL : Hid (b < g) := Lib.hid (by
            obtain ⟨b', o', e, ht'⟩ := HI.out.2.2.2 (by omega)
            cases e
            rw [HG.out]; exact ht'.1)
          obtain ⟨pp, hpp⟩ : ∃ pp, pp = wr.heap.size := ⟨_, rfl⟩
          have HPG : Hid (g + 1 ≤ pp) := Lib.hid (by rw [hpp]; exact hsr)
          obtain ⟨x, hx⟩ : ∃ x, x = gi L k := ⟨_, rfl⟩
          have HX := Lib.hid hx
          rw [← hx] at e1
          have hcr := hro.cell (j := k) (by rw [evk_len _ _ (by omega)]; omega)
          have hfr := hro.frozen k
          have hroa : RowI (wr.alloc (.cells #[.int .i64 x] 3)) g (evk rn L k) := hro.below ((Below.refl _ _).alloc (Nat.le_refl _) _) (by omega)
          have hca := hroa.cell (j := k) (by rw [evk_len _ _ (by omega)]; omega)
          have hfa := hroa.frozen k
          generalize gi (evk rn L k) k = u0 at *
          have HOr := Lib.hid hor
          have HBr := Lib.hid hbr
          have HRa := Lib.hid hroa
          have HSr := Lib.hid hsr
          clear hro hroa hor hbr hsr ht hkL hx hgw
          go_wp2_with fail
          have HKb : Hid (KeyAt ((wr.alloc (.cells #[.int .i64 x] 3)).setCell ⟨g, k, none⟩ (.int .i64 (-1))) pp x) := Lib.hid (by rw [hpp]; exact (KeyAt.new wr x).other (a := ⟨g, k, none⟩) (by have := HSr.out; dsimp only; omega) _)
          have HOb : Hid (OwnU ((wr.alloc (.cells #[.int .i64 x] 3)).setCell ⟨g, k, none⟩ (.int .i64 (-1))) (g + 1) v (cl L k (stI rn L k))) := Lib.hid ((HOr.out.alloc _).set (own_ne HOr.out (Nat.lt_succ_self g)) k _)
          have HRb : Hid (RowI ((wr.alloc (.cells #[.int .i64 x] 3)).setCell ⟨g, k, none⟩ (.int .i64 (-1))) g ((evk rn L k).set k (-1))) := Lib.hid (HRa.out.set k (-1))
          have HIb : Hid (Ints ((wr.alloc (.cells #[.int .i64 x] 3)).setCell ⟨g, k, none⟩ (.int .i64 (-1))) (some ⟨b, o, none⟩) c L) := Lib.hid ((HJr.out.alloc _).setCell (p := ⟨g, k, none⟩) (fun a ha => by cases ha; have := HBL.out; dsimp only; omega) _)
          have HBb : Hid (Below g w ((wr.alloc (.cells #[.int .i64 x] 3)).setCell ⟨g, k, none⟩ (.int .i64 (-1)))) := Lib.hid (bel_set (bel_al HBr.out (by have := HSr.out; omega) _) (a := ⟨g, k, none⟩) (Nat.le_refl _) _)
          have HSb : Hid (g + 1 ≤ ((wr.alloc (.cells #[.int .i64 x] 3)).setCell ⟨g, k, none⟩ (.int .i64 (-1))).heap.size) := Lib.hid (by have := HSr.out; simp [World.setCell]; omega)
          rw [← hpp]
          clear hpp HRa HOr HJr HBr HSr
          generalize (wr.alloc (.cells #[.int .i64 x] 3)).setCell ⟨g, k, none⟩ (.int .i64 (-1)) = wb at *
          have HFi := Lib.hid (indexO HOb.out HKb.out)
          have HNx := Lib.hid (fun (W : World) (hW : Ints W (some ⟨b, o, none⟩) c L) => next_any (some ⟨b, o, none⟩) c L k W hW HKL.out (by rw [HN.out]; omega))
          rw [HN.out, ← HX.out] at HNx
          have HIS : Hid ((stI rn L k).Nodup) := Lib.hid (stI_nodup HR0.out (Nat.le_of_lt HKL.out))
          have HLS : Hid ((stI rn L k).length ≤ rn) := Lib.hid (stI_len rn L k)
          have hml : mI rn L k ≤ 200 := Nat.le_trans (mI_le rn L k) (by omega)
          have HML := Lib.hid hml
          by_cases hm : x ∈ stI rn L k
          · have hk0 := List.idxOf_lt_length_of_mem hm
            have HF0 : Hid (fnd (cl L k (stI rn L k)) x = (((stI rn L k).idxOf x : Nat) : Int)) := Lib.hid (by rw [fnd_eq, cl_keys, if_pos hm])
            have HT : Hid (cl L (k + 1) (stI rn L (k + 1)) = (cl L k (stI rn L k)).set ((stI rn L k).idxOf x) ⟨x, (again L (k + 1) x : Int)⟩) := Lib.hid (by
              rw [HX.out] at hm ⊢
              rw [cl_hit HKL.out HIS.out hm]
              show cl L (k + 1) (stepI _ _ _ _) = _
              unfold stepI
              rw [if_pos hm])
            have HG2 : Hid (evk rn L (k + 1) = (evk rn L k).set k (-1)) := Lib.hid (by
              rw [← evk_set rn L HKL.out, ← HX.out]
              unfold outI
              rw [if_pos hm])
            have HM2 : Hid (mI rn L (k + 1) = mI rn L k) := Lib.hid (by
              show mI rn L k + (if gi L k ∈ stI rn L k then 0 else 1) = _
              rw [← HX.out, if_pos hm]; rfl)
            have HKl : Hid ((stI rn L k).idxOf x < (cl L k (stI rn L k)).length) := Lib.hid (by rw [cl_len]; exact hk0)
            rw [HF0.out] at HFi
            generalize (stI rn L k).idxOf x = a at *
            generalize cl L k (stI rn L k) = M at *
            generalize again L (k + 1) x = q at *
            generalize mI rn L k = mm at *
            have q1 : decide ((a : Int) < 0) = false := by simp
            clear hm hk0 hml HF0
            go_wp2_with fail
            refine HFi.out.mono ?_
            rintro e w3 ⟨rfl, hb3⟩
            have HO3 := Lib.hid (HOb.out.below hb3)
            have HK3 := Lib.hid (HKb.out.below hb3)
            have HR3 := Lib.hid (HRb.out.below hb3 HRb.out.lt)
            have HI3 := Lib.hid (HIb.out.below hb3)
            have HB3 : Hid (Below g w w3) := Lib.hid (HBb.out.trans (hb3.mono (by have := HSb.out; omega)))
            have HS3 : Hid (g + 1 ≤ w3.heap.size) := Lib.hid (Nat.le_trans HSb.out hb3.size)
            clear hb3
            obtain ⟨g1, c1, rfl, hg1⟩ := HO3.out.form (by have := HKl.out; omega)
            obtain ⟨m, hmm⟩ : ∃ m, m = M.length := ⟨_, rfl⟩
            have HMm := Lib.hid hmm
            rw [← hmm] at HO3 ⊢
            have HSv := Lib.hid (fun (W : World) (hW : Below w3.heap.size w3 W) => sv_all HO3.out HK3.out HMm.out HKl.out hW ⟨x, (q : Int)⟩)
            have i1 : (a : Int) < (m : Int) := by have := HKl.out; omega
            have i2 : (0 : Int) ≤ (a : Int) := by omega
            clear hmm
            go_wp2
            go_region_held3 (fun w' => w'.cell? ⟨pp, 0, none⟩ = some (.int .i64 x) ∧ w'.cell? ⟨g1, a * 2, none⟩ = some (rd w' g1 (a * 2)) ∧ w'.cell? ⟨g1, a * 2 + 1, none⟩ = some (rd w' g1 (a * 2 + 1)) ∧ w'.frozen? ⟨g1, a * 2, none⟩ = false ∧ w'.frozen? ⟨g1, a * 2 + 1, none⟩ = false)
              (first | exact (HSv.out _ hB5).2 | exact (HSv.out _ hB5).1 | exact (HSv.out _ (Below.refl _ _).drew).1)
              (first | (go_at_call 39; refine (HNx.out w3.drew (dnI HI3.out 1)).mono ?_; rintro e w5 ⟨rfl, hb5⟩; have hB5 : Below w3.heap.size w3 w5 := (Below.refl _ _).drew.trans hb5))
            rename_i hHH
            have hgg : g ≤ g1 := Nat.le_trans (Nat.le_succ g) hg1
            have hng : g ≠ g1 := by intro e; rw [e] at hg1; exact Nat.not_succ_le_self _ hg1
            have HO6 : Hid (OwnU ((w5.setCell ⟨g1, a * 2, none⟩ (.int .i64 x)).setCell ⟨g1, a * 2 + 1, none⟩ (.int .i64 (q : Int))) (g + 1) (.slice (some ⟨g1, 0, none⟩) m c1) (cl L (k + 1) (stI rn L (k + 1)))) := Lib.hid (by rw [HT.out]; exact (HO3.out.below hB5).put HMm.out ⟨x, (q : Int)⟩)
            have HR6 : Hid (RowI ((w5.setCell ⟨g1, a * 2, none⟩ (.int .i64 x)).setCell ⟨g1, a * 2 + 1, none⟩ (.int .i64 (q : Int))) g (evk rn L (k + 1))) := Lib.hid (by rw [HG2.out]; exact ((HR3.out.below hB5 HR3.out.lt).other (a := ⟨g1, a * 2, none⟩) hng _).other (a := ⟨g1, a * 2 + 1, none⟩) hng _)
            have HB6 : Hid (Below g w ((w5.setCell ⟨g1, a * 2, none⟩ (.int .i64 x)).setCell ⟨g1, a * 2 + 1, none⟩ (.int .i64 (q : Int)))) := Lib.hid (bel_set (bel_set (HB3.out.trans (hB5.mono (Nat.le_trans (Nat.le_succ g) HS3.out))) (a := ⟨g1, a * 2, none⟩) hgg _) (a := ⟨g1, a * 2 + 1, none⟩) hgg _)
            have HS6 : Hid (g + 1 ≤ ((w5.setCell ⟨g1, a * 2, none⟩ (.int .i64 x)).setCell ⟨g1, a * 2 + 1, none⟩ (.int .i64 (q : Int))).heap.size) := Lib.hid (by have := Nat.le_trans HS3.out hB5.size; simpa [World.setCell] using this)
            clear hHH hB5 hb5 hcr hca hfr hfa e1
            generalize (w5.setCell ⟨g1, a * 2, none⟩ (.int .i64 x)).setCell ⟨g1, a * 2 + 1, none⟩ (.int .i64 (q : Int)) = w6 at *
            go_wp2
            go_roundw
            case rel => exact ⟨k + 1, _, by omega, by go_num, by rw [HM2.out], rfl, HO6.out, HR6.out, HB6.out, HS6.out⟩
            case measure => simp [intOf]; omega
          · have HF0 : Hid (fnd (cl L k (stI rn L k)) x = -1) := Lib.hid (by rw [fnd_eq, cl_keys, if_neg hm])
            have hcm := cl_miss HR0.out HKL.out HLS.out (by rw [← HX.out]; exact hm)
            rw [← HX.out] at hcm
            have HT : Hid (cl L (k + 1) (stI rn L (k + 1)) = (mkL rn (cl L k (stI rn L k))).set (mkA rn (cl L k (stI rn L k))) ⟨x, (again L (k + 1) x : Int)⟩) := Lib.hid (by
              rw [hcm.1, HX.out]
              rfl)
            have HG2 : Hid (evk rn L (k + 1) = ((evk rn L k).set k (-1)).set k (mkE rn (cl L k (stI rn L k)))) := Lib.hid (by
              rw [evk_pre, hcm.2, HX.out]
              exact (evk_set rn L HKL.out).symm)
            have HM2 : Hid (mI rn L (k + 1) = mI rn L k + 1) := Lib.hid (by
              show mI rn L k + (if gi L k ∈ stI rn L k then 0 else 1) = _
              rw [← HX.out, if_neg hm])
            have HKl0 : Hid (mkA rn (cl L k (stI rn L k)) < (mkL rn (cl L k (stI rn L k))).length) := Lib.hid (mkA_lt HR0.out)
            have HEl : Hid (k < ((evk rn L k).set k (-1)).length) := Lib.hid (by rw [List.length_set, evk_len _ _ (Nat.le_of_lt HKL.out)]; exact HKL.out)
            have HMk := Lib.hid (fun (W : World) (hW : OwnU W (g + 1) v (cl L k (stI rn L k))) (hs : g + 1 ≤ W.heap.size) => make_any (g + 1) v (cl L k (stI rn L k)) r W hW hs HRm.out (by rw [cl_len]; have h1 := HLS.out; have h2 := HRn.out; have h3 := HRm.out.1; omega))
            rw [← HRn.out] at HMk
            rw [HF0.out] at HFi
            clear hcm hm HF0
            generalize mkA rn (cl L k (stI rn L k)) = a at *
            generalize mkE rn (cl L k (stI rn L k)) = ev at *
            generalize mkL rn (cl L k (stI rn L k)) = M at *
            generalize cl L k (stI rn L k) = M0 at *
            generalize again L (k + 1) x = q at *
            generalize mI rn L k = mm at *
            have q1 : decide ((-1 : Int) < 0) = true := by decide
            have hwm : IntKind.i64.wrap ((mm : Int) + 1) = (mm : Int) + 1 := by rw [IntKind.wrap_i64]; omega
            clear hml
            go_wp2_with fail
            refine HFi.out.mono ?_
            rintro e w3 ⟨rfl, hb3⟩
            have HO2 := Lib.hid (HOb.out.below hb3)
            have HK2 := Lib.hid (HKb.out.below hb3)
            have HR2 := Lib.hid (HRb.out.below hb3 HRb.out.lt)
            have HI2 := Lib.hid (HIb.out.below hb3)
            have HB2 : Hid (Below g w w3) := Lib.hid (HBb.out.trans (hb3.mono (by have := HSb.out; omega)))
            have HS2 : Hid (g + 1 ≤ w3.heap.size) := Lib.hid (Nat.le_trans HSb.out hb3.size)
            clear hb3 HOb HKb HRb HIb HBb HSb
            go_wp2_with fail
            refine (HMk.out w3 HO2.out HS2.out).mono ?_
            rintro e w4 ⟨v4, rfl, ho4, hb4, hq4⟩
            have HKa : Hid (KeyAt w4 pp x) := Lib.hid ((hq4 pp HK2.out.lt (fun e => HK2.out.own HO2.out e.symm)).trans HK2.out)
            have HRa := Lib.hid (HR2.out.below hb4 (Nat.lt_succ_self g))
            have HIa := Lib.hid (ints_belowB HI2.out hb4 (fun b' e => by cases e; exact Nat.lt_succ_of_lt HBL.out))
            have HBa : Hid (Below g w w4) := Lib.hid (HB2.out.trans (hb4.mono (Nat.le_succ g)))
            have HSa : Hid (g + 1 ≤ w4.heap.size) := Lib.hid (Nat.le_trans HS2.out hb4.size)
            have HOa := Lib.hid ho4
            clear ho4 hb4 hq4 HO2 HK2 HR2 HI2 HB2 HS2
            have hc4 := HRa.out.cell HEl.out
            have hf4 := HRa.out.frozen k
            generalize gi ((evk rn L k).set k (-1)) k = u1 at *
            go_wp2_with fail
            have HO3 : Hid (OwnU (w4.setCell ⟨g, k, none⟩ (.int .i64 ev)) (g + 1) v4 M) := Lib.hid (HOa.out.set (own_ne HOa.out (Nat.lt_succ_self g)) k _)
            have HK3 : Hid (KeyAt (w4.setCell ⟨g, k, none⟩ (.int .i64 ev)) pp x) := Lib.hid (HKa.out.other (a := ⟨g, k, none⟩) (by have := HPG.out; dsimp only; omega) _)
            have HR3 : Hid (RowI (w4.setCell ⟨g, k, none⟩ (.int .i64 ev)) g (((evk rn L k).set k (-1)).set k ev)) := Lib.hid (HRa.out.set k ev)
            have HI3 : Hid (Ints (w4.setCell ⟨g, k, none⟩ (.int .i64 ev)) (some ⟨b, o, none⟩) c L) := Lib.hid (HIa.out.setCell (p := ⟨g, k, none⟩) (fun a ha => by cases ha; have := HBL.out; dsimp only; omega) _)
            have HB3 : Hid (Below g w (w4.setCell ⟨g, k, none⟩ (.int .i64 ev))) := Lib.hid (bel_set HBa.out (a := ⟨g, k, none⟩) (Nat.le_refl _) _)
            have HS3 : Hid (g + 1 ≤ (w4.setCell ⟨g, k, none⟩ (.int .i64 ev)).heap.size) := Lib.hid (by simpa [World.setCell] using HSa.out)
            clear HOa HKa HRa HIa HBa HSa hc4 hf4
            have HKl := HKl0
            generalize w4.setCell ⟨g, k, none⟩ (.int .i64 ev) = w3 at *
            obtain ⟨g1, c1, rfl, hg1⟩ := HO3.out.form (by have := HKl.out; omega)
            obtain ⟨m, hmm⟩ : ∃ m, m = M.length := ⟨_, rfl⟩
            have HMm := Lib.hid hmm
            rw [← hmm] at HO3 ⊢
            have HSv := Lib.hid (fun (W : World) (hW : Below w3.heap.size w3 W) => sv_all HO3.out HK3.out HMm.out HKl.out hW ⟨x, (q : Int)⟩)
            have i1 : (a : Int) < (m : Int) := by have := HKl.out; omega
            have i2 : (0 : Int) ≤ (a : Int) := by omega
            clear hmm
            go_region_held3 (fun w' => w'.cell? ⟨pp, 0, none⟩ = some (.int .i64 x) ∧ w'.cell? ⟨g1, a * 2, none⟩ = some (rd w' g1 (a * 2)) ∧ w'.cell? ⟨g1, a * 2 + 1, none⟩ = some (rd w' g1 (a * 2 + 1)) ∧ w'.frozen? ⟨g1, a * 2, none⟩ = false ∧ w'.frozen? ⟨g1, a * 2 + 1, none⟩ = false)
              (first | exact (HSv.out _ hB5).2 | exact (HSv.out _ hB5).1 | exact (HSv.out _ (Below.refl _ _).drew).1)
              (first | (go_at_call 39; refine (HNx.out w3.drew (dnI HI3.out 1)).mono ?_; rintro e w5 ⟨rfl, hb5⟩; have hB5 : Below w3.heap.size w3 w5 := (Below.refl _ _).drew.trans hb5))
            rename_i hHH
            have hgg : g ≤ g1 := Nat.le_trans (Nat.le_succ g) hg1
            have hng : g ≠ g1 := by intro e; rw [e] at hg1; exact Nat.not_succ_le_self _ hg1
            have HO6 : Hid (OwnU ((w5.setCell ⟨g1, a * 2, none⟩ (.int .i64 x)).setCell ⟨g1, a * 2 + 1, none⟩ (.int .i64 (q : Int))) (g + 1) (.slice (some ⟨g1, 0, none⟩) m c1) (cl L (k + 1) (stI rn L (k + 1)))) := Lib.hid (by rw [HT.out]; exact (HO3.out.below hB5).put HMm.out ⟨x, (q : Int)⟩)
            have HR6 : Hid (RowI ((w5.setCell ⟨g1, a * 2, none⟩ (.int .i64 x)).setCell ⟨g1, a * 2 + 1, none⟩ (.int .i64 (q : Int))) g (evk rn L (k + 1))) := Lib.hid (by rw [HG2.out]; exact ((HR3.out.below hB5 HR3.out.lt).other (a := ⟨g1, a * 2, none⟩) hng _).other (a := ⟨g1, a * 2 + 1, none⟩) hng _)
            have HB6 : Hid (Below g w ((w5.setCell ⟨g1, a * 2, none⟩ (.int .i64 x)).setCell ⟨g1, a * 2 + 1, none⟩ (.int .i64 (q : Int)))) := Lib.hid (bel_set (bel_set (HB3.out.trans (hB5.mono (Nat.le_trans (Nat.le_succ g) HS3.out))) (a := ⟨g1, a * 2, none⟩) hgg _) (a := ⟨g1, a * 2 + 1, none⟩) hgg _)
            have HS6 : Hid (g + 1 ≤ ((w5.setCell ⟨g1, a * 2, none⟩ (.int .i64 x)).setCell ⟨g1, a * 2 + 1, none⟩ (.int .i64 (q : Int))).heap.size) := Lib.hid (by have := Nat.le_trans HS3.out hB5.size; simpa [World.setCell] using this)
            clear hHH hB5 hb5 hcr hca hfr hfa e1
            generalize (w5.setCell ⟨g1, a * 2, none⟩ (.int .i64 x)).setCell ⟨g1, a * 2 + 1, none⟩ (.int .i64 (q : Int)) = w6 at *
            go_wp2
            go_roundw
            case rel => exact ⟨k + 1, _, by omega, by go_num, by rw [HM2.out]; go_num, rfl, HO6.out, HR6.out, HB6.out, HS6.out⟩
            case measure => simp [intOf]; omega
        · obtain rfl : k = n := by omega
          have HMe : Hid (evm r L = mI rn L k) := Lib.hid (by unfold evm; rw [if_pos HE.out, HN.out, HRn.out])
          have HSe : Hid (evs r L = evk rn L k) := Lib.hid (by unfold evs; rw [if_pos HE.out, ← HRn.out, ← evk_all, HN.out])
          have hln : (evk rn L k).length = k := by rw [evk_len _ _ (by rw [HN.out]; exact Nat.le_refl _), HN.out]
          have HOe := hro.own g (Nat.le_refl _) (by rw [hln]; omega)
          rw [hln] at HOe
          have HOe2 := Lib.hid HOe
          have HLn := Lib.hid hln
          have HBr := Lib.hid hbr
          clear hln HOe hor hro hbr hsr
          go_wp2
          refine bodyPost_ret (v := .tuple #[.slice (some ⟨g, 0, none⟩) k k, .int .i64 (mI rn L k : Int), .int .i64 0]) (by simp [results, Try.results21, go_sem]) rfl ?_
          obtain ⟨A1, c1, e1, hI1⟩ := ints_of_own HOe2.out
          rw [HLn.out] at e1
          cases e1
          exact ⟨_, _, by rw [HSe.out, HLn.out, HMe.out, HE.out], by rw [HSe.out]; exact hI1, by rw [← HG.out]; exact HBr.out⟩
    · have HE : Hid (evE r L = 3) := Lib.hid (by unfold evE; rw [if_pos h0, if_neg h1])
      have hR := isRoom_any r w
      rw [decide_eq_false h1] at hR
      have HR := Lib.hid hR
      rw [h0] at HC
      clear h0 h1 hR
      generalize L.length = n at *
      go_enter Try.func21, Try.ntmps21
      go_wp2_with fail
      refine HC.out.mono ?_
      rintro e w2 ⟨rfl, rfl⟩
      go_wp2_with fail
      refine HR.out.mono ?_
      rintro e w2 ⟨rfl, rfl⟩
      go_wp2
      refine bodyPost_ret (v := .tuple #[.slice none 0 0, .int .i64 0, .int .i64 3]) (by simp [results, Try.results21, go_sem]) rfl ?_
      exact ER.bad HE.out (by decide) (Below.refl _ _)
  · have HE : Hid (evE r L = traceE L) := Lib.hid (by unfold evE; rw [if_neg h0])
    have q : (traceE L != 0) = true := by simpa using h0
    have H0 := Lib.hid h0
    clear h0
    generalize traceE L = t at *
    generalize hn : L.length = n at HC q ⊢
    clear hn
    go_enter Try.func21, Try.ntmps21
    go_wp2_with fail
    refine HC.out.mono ?_
    rintro e w2 ⟨rfl, rfl⟩
    go_wp2
    refine bodyPost_ret (v := .tuple #[.slice none 0 0, .int .i64 0, .int .i64 t]) (by simp [results, Try.results21, go_sem]) rfl ?_
    exact ER.bad HE.out H0.out (Below.refl _ _)

end Go.Proofs.Ytgdklpgmoanfkaa.Opt
