/-
  No estimate is less than the number of additions, and none is greater than their total.
-/
import Derived.Test.YtfeejodeiakfoaaSketchAddsLaw0
import Derived.Test.YtfeejodeiakfoaaSketchOpen
import Derived.Deep.CutRange
namespace Go.Proofs.Ytfeejodeiakfoaa.Skt
open Go.RowKit
set_option linter.unusedVariables false

def gs (S : List ByteArray) (i : Nat) : ByteArray := S.getD i ByteArray.empty
theorem gs_mem {S : List ByteArray} {i : Nat} (h : i < S.length) : gs S i ∈ S := by
  unfold gs; rw [List.getD_eq_getElem?_getD, List.getElem?_eq_getElem h]; exact List.getElem_mem h

/-- How many of the first k. -/
def num (p : Nat → Bool) : Nat → Nat
  | 0 => 0
  | k + 1 => num p k + (if p k then 1 else 0)
theorem num_le (p : Nat → Bool) : ∀ k, num p k ≤ k
  | 0 => Nat.le_refl _
  | k + 1 => by have := num_le p k; unfold num; split <;> omega
def pI (S : List ByteArray) (i : Int) (j : Nat) : Bool := decide (0 ≤ i ∧ i < (S.length : Int) ∧ gs S j = gs S i.toNat)

/-- The sketch behind k additions. -/
structure EI (S : List ByteArray) (i : Int) (h m k : Nat) (G : Sk) : Prop where
  good : Good G
  wide : G.wide = (m : Int)
  rows : G.rows.length = h
  tot : totM G = (k : Int)
  cnt : 0 ≤ i → i < (S.length : Int) → ∀ r, r < h → (num (pI S i) k : Int) ≤ cnt G (gs S i.toNat) r
theorem EI.start {S : List ByteArray} {i : Int} {h m : Nat} (h1 : 1 ≤ h) (h2 : h ≤ 6) (m1 : 1 ≤ m) (m2 : m ≤ 64) : EI S i h m 0 (Z h m) := by
  have g := good_Z h1 h2 m1 m2
  refine ⟨g, rfl, zeros_len h m, ?_, fun _ _ r hr => ?_⟩
  · rw [tot_ok g]
    show sm (gl (zeros h m) 0) = _
    rw [gl_zeros (by omega), sm_zeros]; rfl
  · unfold Skt.cnt
    show _ ≤ gi (gl (zeros h m) r) _
    rw [gl_zeros hr, gi_zeros]
    exact Int.le_refl _
theorem cnt_le {G : Sk} (g : Good G) {r j : Nat} (hr : r < G.rows.length) (hj : j < (gl G.rows r).length) : gi (gl G.rows r) j ≤ totM G := by
  rw [tot_ok g, ← g.ev r hr]
  exact sig_ge (fun j hj => (g.bd r hr j hj).1) j hj
theorem EI.err {S : List ByteArray} {i : Int} {h m k : Nat} {G : Sk} (e : EI S i h m k G) {s : ByteArray} (hs : s.size ≤ 40) (hk : k < 1048576) : errA G s 1 = 0 := by
  refine errA_of e.good hs (by omega) (by omega) (fun r hr j hj => ?_)
  rw [rows_add] at hr
  rw [len_add] at hj
  rw [gi_add hj]
  have := cnt_le e.good hr hj
  rw [e.tot] at this
  split <;> omega
theorem EI.step {S : List ByteArray} {i : Int} {h m k : Nat} {G : Sk} (e : EI S i h m k G) (hE : errA G (gs S k) 1 = 0) : EI S i h m (k + 1) (addL G (gs S k) 1) := by
  have g' := good_addA hE
  refine ⟨g', e.wide, (rows_add _ _ _).trans e.rows, by rw [tot_add hE, e.tot]; rfl, fun h1 h2 r hr => ?_⟩
  have hc := e.cnt h1 h2 r hr
  unfold Skt.cnt at hc ⊢
  have hp := plc_lt' e.good.toFine (gs S i.toNat) (r := r) (by rw [e.rows]; exact hr)
  rw [plc_same (S := addL G (gs S k) 1) (T := G) rfl, gi_add hp]
  unfold num
  by_cases hq : pI S i k = true
  · rw [if_pos hq]
    have hs : gs S k = gs S i.toNat := by unfold pI at hq; simp only [decide_eq_true_eq] at hq; exact hq.2.2
    rw [hs, if_pos rfl]
    omega
  · rw [if_neg hq]
    split <;> omega
theorem EI.est {S : List ByteArray} {i : Int} {h m k : Nat} {G : Sk} (e : EI S i h m k G) (h1 : 0 ≤ i) (h2 : i < (S.length : Int)) (hs : (gs S i.toNat).size ≤ 40) (hk : k ≤ 1048576) :
    errS G (gs S i.toNat) = 0 ∧ (num (pI S i) k : Int) ≤ estM G (gs S i.toNat) ∧ estM G (gs S i.toNat) ≤ (k : Int) := by
  have e1 := errS_of e.good hs
  refine ⟨e1, ?_⟩
  have hl := e.good.l1
  have hn := num_le (pI S i) k
  unfold estM estL
  rw [if_pos e1]
  refine ⟨est_ge (by omega) (fun r hr => e.cnt h1 h2 r (by rw [← e.rows]; exact hr)), Int.le_trans (est_le 0 (by omega)) ?_⟩
  rw [← e.tot]
  exact cnt_le e.good (by omega) (plc_lt' e.good.toFine _ (by omega))

/-- A slice of slices of ints that keeps away from block p. -/
def GN (p : Nat) (w : World) (A : Option Addr) (c : Nat) (LL : List (List Int)) : Prop :=
  LL.length ≤ c ∧ c ≤ maxLen ∧ (A = none → c = 0) ∧ (0 < LL.length → ∃ b o, A = some ⟨b, o, none⟩ ∧ b < w.heap.size ∧ b ≠ p ∧
    ∀ i, i < LL.length → ∃ A' c', w.cell? ⟨b, o + i, none⟩ = some (.slice A' (gl LL i).length c') ∧ Ints w A' c' (gl LL i) ∧ (0 < (gl LL i).length → ∀ a, A' = some a → a.block ≠ p))
section
variable {p : Nat} {w w' : World} {A : Option Addr} {c : Nat} {LL : List (List Int)}
theorem GN.grid (h : GN p w A c LL) : Grid 0 w A c LL :=
  ⟨h.1, h.2.1, h.2.2.1, fun hl => by
    obtain ⟨b, o, e, h1, h2, h3⟩ := h.2.2.2 hl
    exact ⟨b, o, e, h1, Nat.zero_le _, fun i hi => by
      obtain ⟨A', c', a1, a2, _⟩ := h3 i hi
      exact ⟨A', c', a1, a2, fun _ _ => Nat.zero_le _⟩⟩⟩
theorem Grid.gn {B : Nat} (h : Grid B w A c LL) (hp : p < B) : GN p w A c LL :=
  ⟨h.1, h.2.1, h.2.2.1, fun hl => by
    obtain ⟨b, o, e, h1, h2, h3⟩ := h.2.2.2 hl
    exact ⟨b, o, e, h1, by omega, fun i hi => by
      obtain ⟨A', c', a1, a2, a3⟩ := h3 i hi
      exact ⟨A', c', a1, a2, fun _ a ha => by have := a3 a ha; omega⟩⟩⟩
theorem Grid.gn_new {B : Nat} (h : Grid B w A c LL) (o : Obj) : GN w.heap.size (w.alloc o) A c LL := by
  have h' := h.alloc o
  refine ⟨h.1, h.2.1, h.2.2.1, fun hl => ?_⟩
  obtain ⟨b, o', e, h1, h2, h3⟩ := h.2.2.2 hl
  obtain ⟨b2, o2, e', g1, g2, g3⟩ := h'.2.2.2 hl
  rw [e] at e'
  cases e'
  refine ⟨b, o', e, g1, by omega, fun i hi => ?_⟩
  obtain ⟨A', c', a1, a2, _⟩ := g3 i hi
  obtain ⟨A2, c2, b1, b2, _⟩ := h3 i hi
  have hb := ((Below.refl w.heap.size w).alloc (Nat.le_refl _) o).cell (p := ⟨b, o' + i, none⟩) h1
  rw [hb.trans b1] at a1
  simp only [Option.some.injEq, Value.slice.injEq, true_and] at a1
  obtain ⟨rfl, rfl⟩ := a1
  refine ⟨A2, c2, hb.trans b1, a2, fun hl a ha => ?_⟩
  obtain ⟨b4, o4, e4, t4⟩ := b2.2.2.2 hl
  rw [ha] at e4
  cases e4
  have := t4.1
  show b4 ≠ _
  omega
theorem GN.below (h : GN p w A c LL) (hb : Below w.heap.size w w') : GN p w' A c LL :=
  ⟨h.1, h.2.1, h.2.2.1, fun hl => by
    obtain ⟨b, o, e, h1, h2, h3⟩ := h.2.2.2 hl
    refine ⟨b, o, e, Nat.lt_of_lt_of_le h1 hb.size, h2, fun i hi => ?_⟩
    obtain ⟨A', c', a1, a2, a3⟩ := h3 i hi
    exact ⟨A', c', (hb.cell (p := ⟨b, _, none⟩) h1).trans a1, a2.below hb, a3⟩⟩
theorem GN.setCell (h : GN p w A c LL) (j : Nat) (u : Value) : GN p (w.setCell ⟨p, j, none⟩ u) A c LL :=
  ⟨h.1, h.2.1, h.2.2.1, fun hl => by
    obtain ⟨b, o, e, h1, h2, h3⟩ := h.2.2.2 hl
    refine ⟨b, o, e, by simpa [World.setCell] using h1, h2, fun i hi => ?_⟩
    obtain ⟨A', c', a1, a2, a3⟩ := h3 i hi
    refine ⟨A', c', (World.cell?_of_block (w := w) (Below.heap_setCell w ⟨p, j, none⟩ u b h2)).trans a1, ?_, a3⟩
    by_cases hz : 0 < (gl LL i).length
    · exact a2.setCell (a3 hz) u
    · exact ⟨a2.1, a2.2.1, a2.2.2.1, fun hl => absurd hl hz⟩⟩
end

/-- Block p holds the sketch G and can be written. -/
def VB (w : World) (p : Nat) (G : Sk) (A : Option Addr) (c : Nat) : Prop :=
  p < w.heap.size ∧ w.cell? ⟨p, 0, none⟩ = some (.int .i64 G.wide) ∧ w.cell? ⟨p, 1, none⟩ = some (.slice A G.rows.length c) ∧ w.frozen? ⟨p, 0, none⟩ = false ∧ w.frozen? ⟨p, 1, none⟩ = false ∧ GN p w A c G.rows
theorem VB.new {B : Nat} {w : World} {G : Sk} {A : Option Addr} {c : Nat} (h : Grid B w A c G.rows) : VB (w.alloc (so G A c)) w.heap.size G A c :=
  ⟨by simp, by simp [go_sem], by simp [go_sem], by simp [go_sem], by simp [go_sem], h.gn_new _⟩
theorem VB.below {w w' : World} {p : Nat} {G : Sk} {A : Option Addr} {c : Nat} (h : VB w p G A c) (hb : Below w.heap.size w w') : VB w' p G A c :=
  ⟨Nat.lt_of_lt_of_le h.1 hb.size, (hb.cell h.1).trans h.2.1, (hb.cell h.1).trans h.2.2.1, (hb.frozen h.1).trans h.2.2.2.1, (hb.frozen h.1).trans h.2.2.2.2.1, h.2.2.2.2.2.below hb⟩
theorem VB.put {B : Nat} {w : World} {p : Nat} {G H : Sk} {A A' : Option Addr} {c c' : Nat} (h : VB w p G A c) (hg : Grid B w A' c' H.rows) (hp : p < B) :
    VB ((w.setCell ⟨p, 0, none⟩ (.int .i64 H.wide)).setCell ⟨p, 1, none⟩ (.slice A' H.rows.length c')) p H A' c' := by
  obtain ⟨h0, h1, h2, h3, h4, h5⟩ := h
  exact ⟨by simpa [World.setCell] using h0, by simp [go_sem, h1], by simp [go_sem, h2], by simpa [go_sem] using h3, by simpa [go_sem] using h4, ((hg.gn hp).setCell 0 _).setCell 1 _⟩

abbrev z2 : Obj := .cells #[.int .i64 0, .slice none 0 0] 24
theorem new2 {w w' : World} (h : Below (w.alloc z2).heap.size (w.alloc z2) w') : w'.cell? ⟨w.heap.size, 0, none⟩ = some (.int .i64 0) ∧ w'.cell? ⟨w.heap.size, 1, none⟩ = some (.slice none 0 0) ∧
    w'.frozen? ⟨w.heap.size, 0, none⟩ = false ∧ w'.frozen? ⟨w.heap.size, 1, none⟩ = false :=
  ⟨(h.cell (by simp)).trans (by simp [go_sem]), (h.cell (by simp)).trans (by simp [go_sem]), (h.frozen (by simp)).trans (by simp [go_sem]), (h.frozen (by simp)).trans (by simp [go_sem])⟩
theorem str_ne {a b : ByteArray} (h : a ≠ b) : (a.toList == b.toList) = false := by
  rw [Bool.eq_false_iff]; intro hx; rw [beq_iff_eq, ByteArray.toList_eq, ByteArray.toList_eq] at hx; exact h (ByteArray.ext (Array.toList_inj.mp hx))
theorem str_eq {s t : ByteArray} (h : s = t) : (s.toList == t.toList) = true := by subst h; simp

set_option maxHeartbeats 8000000 in
theorem sketchEstimate_walk (x y : Int) (B : Option Addr) (d : Nat) (S : List ByteArray) (i : Int) (w : World) (hS : Strs w B d S) (hup : S.length ≤ 1048576) :
    Calls Try.prog 4 #[.int .i64 x, .int .i64 y, .slice B S.length d, .int .i64 i] w fun e w' => e = .returned (.bool true) ∧ Below w.heap.size w w' := by
  by_cases x1 : x < 1
  · have q1 : decide (x < 1) = true := by simpa using x1
    clear x1
    go_enter Try.func4, Try.ntmps4
    go_wp2_with fail
    refine (begun_any _).mono ?_
    rintro e w1 ⟨rfl, hb1⟩
    go_wp2
    go_ret
    exact ⟨rfl, hb1⟩
  have q1 : decide (x < 1) = false := by simpa using x1
  by_cases x2 : 6 < x
  · have q2 : decide (6 < x) = true := by simpa using x2
    clear x1 x2
    go_enter Try.func4, Try.ntmps4
    go_wp2_with fail
    refine (begun_any _).mono ?_
    rintro e w1 ⟨rfl, hb1⟩
    go_wp2
    go_ret
    exact ⟨rfl, hb1⟩
  have q2 : decide (6 < x) = false := by simpa using x2
  by_cases y1 : y < 1
  · have q3 : decide (y < 1) = true := by simpa using y1
    clear x1 x2 y1
    go_enter Try.func4, Try.ntmps4
    go_wp2_with fail
    refine (begun_any _).mono ?_
    rintro e w1 ⟨rfl, hb1⟩
    go_wp2
    go_ret
    exact ⟨rfl, hb1⟩
  have q3 : decide (y < 1) = false := by simpa using y1
  by_cases y2 : 64 < y
  · have q4 : decide (64 < y) = true := by simpa using y2
    clear x1 x2 y1 y2
    go_enter Try.func4, Try.ntmps4
    go_wp2_with fail
    refine (begun_any _).mono ?_
    rintro e w1 ⟨rfl, hb1⟩
    go_wp2
    go_ret
    exact ⟨rfl, hb1⟩
  have q4 : decide (64 < y) = false := by simpa using y2
  obtain ⟨h, rfl⟩ : ∃ h : Nat, x = (h : Int) := ⟨x.toNat, by omega⟩
  obtain ⟨m, rfl⟩ : ∃ m : Nat, y = (m : Int) := ⟨y.toNat, by omega⟩
  have h1 : 1 ≤ h := by omega
  have h2 : h ≤ 6 := by omega
  have m1 : 1 ≤ m := by omega
  have m2 : m ≤ 64 := by omega
  clear x1 x2 y1 y2
  go_enter Try.func4, Try.ntmps4
  go_wp2_with fail
  refine (begun_any _).mono ?_
  rintro e w1 ⟨rfl, hb1⟩
  go_wp2_with fail
  refine (empty_any h m _ h2 m1 m2).mono ?_
  rintro e w2 ⟨A2, c2, rfl, hg2, hb2⟩
  have X2 := VB.new (G := Z h m) hg2
  have HB2 : Below w.heap.size w (w2.alloc (so (Z h m) A2 c2)) := bel_al (hb1.trans (hb2.mono hb1.size)) (Nat.le_refl _) _
  have HE := Lib.hid (EI.start (S := S) (i := i) h1 h2 m1 m2)
  have hp : w.heap.size ≤ w2.heap.size := by have := hb1.size; have := hb2.size; omega
  clear hb1 hb2 hg2
  go_wp2
  change Code.wp _ _ _ _ (w2.alloc (so (Z h m) A2 c2))
  generalize w2.alloc (so (Z h m) A2 c2) = w3 at *
  generalize w2.heap.size = p at *
  go_loopw [10, 11] (fun u v wr => ∃ (k : Nat) (G : Sk) (A' : Option Addr) (c' : Nat), k ≤ S.length ∧ v = .int .i64 (k : Int) ∧ u = .int .i64 (num (pI S i) k : Int) ∧ VB wr p G A' c' ∧ Hid (EI S i h m k G) ∧ Hid (∀ j, j < k → (gs S j).size ≤ 40) ∧ Below w.heap.size w wr) (fun _ v _ => S.length - (intOf v).toNat)
  case atStart => exact ⟨0, Z h m, A2, c2, Nat.zero_le _, rfl, rfl, X2, HE, Lib.hid (fun j hj => by omega), HB2⟩
  case round =>
    clear X2 HB2 HE
    obtain ⟨k, G, A', c', hk, rfl, rfl, X, HEI, HA, HB⟩ := hrel
    have hSr := hS.below HB
    have hnum := num_le (pI S i) k
    by_cases hlt : k < S.length
    · obtain ⟨b, o, rfl, hbw, hcw⟩ := hS.2.2 (by omega)
      have hbl : b < wr.heap.size := Nat.lt_of_lt_of_le hbw HB.size
      have hcs : ∀ j, j < S.length → wr.cell? ⟨b, o + j, none⟩ = some (.string (gs S j)) := fun j hj => (HB.cell (p := ⟨b, _, none⟩) hbw).trans (hcw j hj)
      have ck : wr.cell? ⟨b, o + k, none⟩ = some (.string (gs S k)) := hcs k hlt
      have hsk : (gs S k).size ≤ maxLen := hS.2.1 _ (gs_mem hlt)
      have l1 : (k : Int) < (S.length : Int) := by omega
      obtain ⟨xp, x1, x2, xf0, xf1, xg⟩ := id X
      have HX := Lib.hid X
      have HG := Lib.hid xg.grid
      have hold : ∀ w', Below wr.heap.size wr w' → w'.cell? ⟨p, 0, none⟩ = some (.int .i64 G.wide) ∧ w'.cell? ⟨p, 1, none⟩ = some (.slice A' G.rows.length c') ∧
            w'.cell? ⟨b, o + k, none⟩ = some (.string (gs S k)) ∧ Below wr.heap.size wr w' := fun w' h =>
        ⟨(h.cell xp).trans x1, (h.cell xp).trans x2, (h.cell (p := ⟨b, _, none⟩) hbl).trans ck, h⟩
      go_upto_region 10 with fail
      go_cut [12, 13] from 37 to 77 (fun s8 s9 wx => ∃ q A1 c1, s8 = .pointer (some ⟨q, 0, none⟩) ∧ s9 = .int .i64 (errA G (gs S k) 1) ∧ q < wx.heap.size ∧ wx.cell? ⟨q, 0, none⟩ = some (.int .i64 (addM G (gs S k) 1).wide) ∧ wx.cell? ⟨q, 1, none⟩ = some (.slice A1 (addM G (gs S k) 1).rows.length c1) ∧ Grid wr.heap.size wx A1 c1 (addM G (gs S k) 1).rows ∧ Below wr.heap.size wr wx)
      case first =>
        go_region_held3 (fun w' => w'.cell? ⟨p, 0, none⟩ = some (.int .i64 G.wide) ∧ w'.cell? ⟨p, 1, none⟩ = some (.slice A' G.rows.length c') ∧
            w'.cell? ⟨b, o + k, none⟩ = some (.string (gs S k)) ∧ Below wr.heap.size wr w')
          (first | exact hold _ hb9 | exact hold _ (Below.refl _ _).drew | exact hold _ ((Below.refl _ _).alloc (Nat.le_refl _) _).drew | exact hold _ (Below.alloc hb9 hb9.size _) | exact hold _ ((hb9.setCell (Nat.le_refl _) _).setCell (Nat.le_refl _) _))
          (first
            | (go_at_call 7; refine (add_any 0 G A' c' (gs S k) 1 wr.drew (HG.out.drew) hsk).mono ?_; rintro e w9 ⟨A9, c9, rfl, hg9, hb9'⟩; have hb9 := below_undrew hb9')
            | (go_at_call 7; refine (add_any 0 G A' c' (gs S k) 1 (wr.alloc z2).drew ((HG.out.alloc _).drew) hsk).mono ?_; rintro e w9 ⟨A9, c9, rfl, hg9, hb9'⟩; have hb8 : Below (wr.alloc z2).heap.size (wr.alloc z2) w9 := below_undrew hb9'; have hb9 : Below wr.heap.size wr w9 := fromAlloc' (hb8.mono (by simp)) (Nat.le_refl _); obtain ⟨r0, r1, f0, f1⟩ := new2 hb8))
        · rename_i hHH
          clear hHH
          have HP : Hid (Bx (w9.alloc (so (addM G (gs S k) 1) A9 c9)) w9.heap.size (addM G (gs S k) 1) A9 c9) := Lib.hid (Bx.new (hg9.mono (Nat.zero_le _)))
          have HGr : Hid (Grid wr.heap.size (w9.alloc (so (addM G (gs S k) 1) A9 c9)) A9 c9 (addM G (gs S k) 1).rows) := Lib.hid (hg9.alloc _)
          have HQ := Lib.hid (Below.alloc hb9 hb9.size (so (addM G (gs S k) 1) A9 c9))
          go_wp2
          go_meet
          exact ⟨_, A9, c9, rfl, rfl, HP.out.1, HP.out.2.1, HP.out.2.2.1, HGr.out, HQ.out⟩
        · rename_i hHH
          clear hHH
          have hp9 : wr.heap.size < w9.heap.size := by have := hb8.size; simp at this; omega
          have hg8 : Grid (wr.heap.size + 1) w9 A9 c9 (addM G (gs S k) 1).rows := hg9.mono (by simp)
          have HGr : Hid (Grid wr.heap.size ((w9.setCell ⟨wr.heap.size, 0, none⟩ (.int .i64 (addM G (gs S k) 1).wide)).setCell ⟨wr.heap.size, 1, none⟩ (.slice A9 (addM G (gs S k) 1).rows.length c9)) A9 c9 (addM G (gs S k) 1).rows) := Lib.hid (Grid.mono (B := wr.heap.size + 1) ((hg8.setCell (p := ⟨wr.heap.size, 0, none⟩) (by show wr.heap.size < wr.heap.size + 1; omega) _).setCell (p := ⟨wr.heap.size, 1, none⟩) (by show wr.heap.size < wr.heap.size + 1; omega) _) (by omega))
          have HQ := Lib.hid ((hb9.setCell (p := ⟨wr.heap.size, 0, none⟩) (Nat.le_refl _) (.int .i64 (addM G (gs S k) 1).wide)).setCell (p := ⟨wr.heap.size, 1, none⟩) (Nat.le_refl _) (.slice A9 (addM G (gs S k) 1).rows.length c9))
          have HC : Hid (wr.heap.size < ((w9.setCell ⟨wr.heap.size, 0, none⟩ (.int .i64 (addM G (gs S k) 1).wide)).setCell ⟨wr.heap.size, 1, none⟩ (.slice A9 (addM G (gs S k) 1).rows.length c9)).heap.size ∧
              ((w9.setCell ⟨wr.heap.size, 0, none⟩ (.int .i64 (addM G (gs S k) 1).wide)).setCell ⟨wr.heap.size, 1, none⟩ (.slice A9 (addM G (gs S k) 1).rows.length c9)).cell? ⟨wr.heap.size, 0, none⟩ = some (.int .i64 (addM G (gs S k) 1).wide) ∧
              ((w9.setCell ⟨wr.heap.size, 0, none⟩ (.int .i64 (addM G (gs S k) 1).wide)).setCell ⟨wr.heap.size, 1, none⟩ (.slice A9 (addM G (gs S k) 1).rows.length c9)).cell? ⟨wr.heap.size, 1, none⟩ = some (.slice A9 (addM G (gs S k) 1).rows.length c9)) := Lib.hid ⟨by simpa [World.setCell] using hp9, by simp [go_sem, r0], by simp [go_sem, r1]⟩
          go_wp2
          go_meet
          exact ⟨_, A9, c9, rfl, rfl, HC.out.1, HC.out.2.1, HC.out.2.2, HGr.out, HQ.out⟩
      case rest =>
        obtain ⟨q, A1, c1, rfl, rfl, q0, qc0, qc1, hg1, hb1⟩ := hcut
        have HBc := HB.trans (hb1.mono HB.size)
        have Xc := X.below hb1
        have HXp := Lib.hid xp
        clear hold x1 x2 xf0 xf1 xg HX HG X ck hSr HB hcs hbl
        by_cases hlong : 40 < (gs S k).size
        · have HM : Hid (errA G (gs S k) 1 = 2) := Lib.hid (by
            have e : errS G (gs S k) = 2 := by unfold errS; rw [if_pos HEI.out.good.check, if_pos hlong]
            rw [(errA_err (n := 1) (by rw [e]; decide)).1, e])
          clear hlong
          rw [HM.out]
          go_wp2
          go_ret
          exact ⟨rfl, HBc⟩
        · have HM : Hid (errA G (gs S k) 1 = 0) := Lib.hid (HEI.out.err (by omega) (by omega))
          have HMA := Lib.hid (addM_ok HM.out)
          have HE1 : Hid (EI S i h m (k + 1) (addL G (gs S k) 1)) := Lib.hid (HEI.out.step HM.out)
          have HA1 : Hid (∀ j, j < k + 1 → (gs S j).size ≤ 40) := Lib.hid (fun j hj => by
            by_cases e : j = k
            · subst e; omega
            · exact HA.out j (by omega))
          clear hlong
          rw [HM.out]
          rw [HMA.out] at qc0 qc1 hg1
          have hVB := Xc.put hg1 HXp.out
          have hBX : Below w.heap.size w ((wc.setCell ⟨p, 0, none⟩ (.int .i64 (addL G (gs S k) 1).wide)).setCell ⟨p, 1, none⟩ (.slice A1 (addL G (gs S k) 1).rows.length c1)) := (HBc.setCell (p := ⟨p, 0, none⟩) hp _).setCell (p := ⟨p, 1, none⟩) hp _
          have HVB := Lib.hid hVB
          have HBX := Lib.hid hBX
          obtain ⟨_, y1, y2, yf0, yf1, _⟩ := Xc
          have hcs3 : ∀ j, j < S.length → ((wc.setCell ⟨p, 0, none⟩ (.int .i64 (addL G (gs S k) 1).wide)).setCell ⟨p, 1, none⟩ (.slice A1 (addL G (gs S k) 1).rows.length c1)).cell? ⟨b, o + j, none⟩ = some (.string (gs S j)) := fun j hj => (hBX.cell (p := ⟨b, _, none⟩) hbw).trans (hcw j hj)
          clear hVB hBX hg1
          by_cases i1 : 0 ≤ i
          · have p1 : decide (0 ≤ i) = true := by simpa using i1
            by_cases i2 : i < (S.length : Int)
            · have p2 : decide (i < (S.length : Int)) = true := by simpa using i2
              obtain ⟨t, rfl⟩ : ∃ t : Nat, i = (t : Int) := ⟨i.toNat, by omega⟩
              have ht : t < S.length := by omega
              have z1 := hcs3 k hlt
              have z2 := hcs3 t ht
              clear hcs3 hcw
              by_cases he : gs S k = gs S t
              · have p3 := str_eq he
                have HN : Hid (num (pI S (t : Int)) (k + 1) = num (pI S (t : Int)) k + 1) := Lib.hid (by
                  show num _ k + _ = _
                  rw [if_pos (by unfold pI; simp only [decide_eq_true_eq]; exact ⟨i1, i2, by rw [Int.toNat_natCast]; exact he⟩)])
                clear he
                go_wp2
                go_quiet (fail)
                go_wp2
                go_roundw
                case rel => exact ⟨k + 1, addL G (gs S k) 1, A1, c1, by omega, by go_num, by rw [HN.out]; go_num, HVB.out.below (below_drewN (Below.refl _ _) _), HE1, HA1, below_drewN HBX.out _⟩
                case measure => simp [intOf]; omega
              · have p3 := str_ne he
                have HN : Hid (num (pI S (t : Int)) (k + 1) = num (pI S (t : Int)) k) := Lib.hid (by
                  show num _ k + _ = _
                  rw [if_neg (by unfold pI; simp only [decide_eq_true_eq]; rintro ⟨_, _, h3⟩; rw [Int.toNat_natCast] at h3; exact he h3)]; rfl)
                clear he
                go_wp2
                go_quiet (fail)
                go_wp2
                go_roundw
                case rel => exact ⟨k + 1, addL G (gs S k) 1, A1, c1, by omega, by go_num, by rw [HN.out], HVB.out.below (below_drewN (Below.refl _ _) _), HE1, HA1, below_drewN HBX.out _⟩
                case measure => simp [intOf]; omega
            · have p2 : decide (i < (S.length : Int)) = false := by simpa using i2
              have HN : Hid (num (pI S i) (k + 1) = num (pI S i) k) := Lib.hid (by
                show num _ k + _ = _
                rw [if_neg (by unfold pI; simp only [decide_eq_true_eq]; rintro ⟨_, h2, _⟩; exact i2 h2)]; rfl)
              clear i2 hcs3 hcw
              go_wp2
              go_quiet (fail)
              go_wp2
              go_roundw
              case rel => exact ⟨k + 1, addL G (gs S k) 1, A1, c1, by omega, by go_num, by rw [HN.out], HVB.out.below (below_drewN (Below.refl _ _) _), HE1, HA1, below_drewN HBX.out _⟩
              case measure => simp [intOf]; omega
          · have p1 : decide (0 ≤ i) = false := by simpa using i1
            have HN : Hid (num (pI S i) (k + 1) = num (pI S i) k) := Lib.hid (by
              show num _ k + _ = _
              rw [if_neg (by unfold pI; simp only [decide_eq_true_eq]; rintro ⟨h1, _, _⟩; exact i1 h1)]; rfl)
            clear i1 hcs3 hcw
            go_wp2
            go_quiet (fail)
            go_wp2
            go_roundw
            case rel => exact ⟨k + 1, addL G (gs S k) 1, A1, c1, by omega, by go_num, by rw [HN.out], HVB.out.below (below_drewN (Below.refl _ _) _), HE1, HA1, below_drewN HBX.out _⟩
            case measure => simp [intOf]; omega
    · obtain rfl : k = S.length := by omega
      obtain ⟨xp, x1, x2, xf0, xf1, xg⟩ := id X
      have HX := Lib.hid X
      have HT := Lib.hid HEI.out.tot
      have HC := Lib.hid HEI.out.good.check
      have HG := Lib.hid xg.grid
      clear xg X
      have qt : ((S.length : Int) != (S.length : Int)) = false := by simp
      go_wp2_with fail
      refine (total_any 0 G A' c' _ HG.out).mono ?_
      rintro e w5 ⟨rfl, hb5⟩
      rw [HT.out, HC.out]
      have X5 := HX.out.below hb5
      have HB5 := HB.trans (hb5.mono HB.size)
      clear hb5 x1 x2 xf0 xf1 HX HG HB xp
      obtain ⟨xp, x1, x2, xf0, xf1, xg⟩ := id X5
      have HX := Lib.hid X5
      have HG := Lib.hid xg.grid
      clear xg X5
      go_wp2_with fail
      refine (check_any 0 G A' c' _ HG.out).mono ?_
      rintro e w6 ⟨rfl, hb6⟩
      rw [HC.out]
      have X6 := HX.out.below hb6
      have HB6 := HB5.trans (hb6.mono HB5.size)
      clear hb6 x1 x2 xf0 xf1 HX HG HB5 xp
      obtain ⟨xp, x1, x2, xf0, xf1, xg⟩ := id X6
      have HG := Lib.hid xg.grid
      clear xg X6
      by_cases i1 : i < 0
      · have p1 : decide (i < 0) = true := by simpa using i1
        clear i1
        go_wp2
        go_ret
        exact ⟨rfl, HB6⟩
      · have p1 : decide (i < 0) = false := by simpa using i1
        by_cases i2 : (S.length : Int) ≤ i
        · have p2 : decide ((S.length : Int) ≤ i) = true := by simpa using i2
          clear i1 i2
          go_wp2
          go_ret
          exact ⟨rfl, HB6⟩
        · have p2 : decide ((S.length : Int) ≤ i) = false := by simpa using i2
          have hF := HEI.out.est (by omega) (by omega) (HA.out i.toNat (by omega)) hup
          obtain ⟨t, rfl⟩ : ∃ t : Nat, i = (t : Int) := ⟨i.toNat, by omega⟩
          rw [Int.toNat_natCast] at hF
          have ht : t < S.length := by omega
          obtain ⟨b, o, rfl, hbw, hcw⟩ := hS.2.2 (by omega)
          have ck : w6.cell? ⟨b, o + t, none⟩ = some (.string (gs S t)) := (HB6.cell (p := ⟨b, _, none⟩) hbw).trans (hcw t ht)
          have hbl : b < w6.heap.size := Nat.lt_of_lt_of_le hbw HB6.size
          have hsk : (gs S t).size ≤ maxLen := hS.2.1 _ (gs_mem ht)
          have l1 : (t : Int) < (S.length : Int) := by omega
          have p3 : decide ((num (pI S (t : Int)) S.length : Int) ≤ estM G (gs S t)) = true := by simpa using hF.2.1
          have p4 : decide (estM G (gs S t) ≤ (S.length : Int)) = true := by simpa using hF.2.2
          have HF := Lib.hid hF.1
          clear hF i1 i2 hcw hSr
          generalize num (pI S (t : Int)) S.length = nn at *
          go_upto_region 21 with fail
          go_region_held3 (fun w' => w'.cell? ⟨p, 0, none⟩ = some (.int .i64 G.wide) ∧ w'.cell? ⟨p, 1, none⟩ = some (.slice A' G.rows.length c') ∧
              w'.cell? ⟨b, o + t, none⟩ = some (.string (gs S t)) ∧ Below w6.heap.size w6 w')
            (first | exact ⟨(hb9.cell xp).trans x1, (hb9.cell xp).trans x2, (hb9.cell (p := ⟨b, _, none⟩) hbl).trans ck, hb9⟩ | exact ⟨x1, x2, ck, (Below.refl _ _).drew⟩)
            (first
              | (go_at_call 8; refine (estimate_any 0 G A' c' (gs S t) w6.drew (HG.out.drew) hsk).mono ?_; rintro e w9 ⟨rfl, hb9'⟩; have hb9 := below_undrew hb9'; rw [HF.out]))
          rename_i hHH
          clear hHH
          generalize estM G (gs S t) = ee at *
          go_wp2
          go_ret
          exact ⟨rfl, HB6.trans (hb9.mono HB6.size)⟩

end Go.Proofs.Ytfeejodeiakfoaa.Skt
