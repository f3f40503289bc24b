/-
  What Access of package greedy returns.
-/
import Derived.Test.YtmobohamlimhdaaGrCheck
import Derived.Test.YtmobohamlimhdaaGrEvict
namespace Go.Proofs.Ytmobohamlimhdaa.Grd
open Go.RowKit
open Lru (isK)
set_option linter.unusedVariables false
set_option maxRecDepth 100000

/-! ### The answers -/
def acE (r fl : Int) (L : List It) (t : It) : Int := if checkG 8 r fl L = 0 then (if okI t then 0 else 3) else checkG 8 r fl L
def acR (r fl : Int) (L : List It) (t : It) : Int := if acE r fl L t = 0 then r else 0
def acF (r fl : Int) (L : List It) (t : It) : Int := if acE r fl L t = 0 then (tch r fl L t).floor else 0
def acL (r fl : Int) (L : List It) (t : It) : List It := if acE r fl L t = 0 then (tch r fl L t).left else []
def acH (r fl : Int) (L : List It) (t : It) : Bool := if acE r fl L t = 0 then decide (t.key ∈ keys L) else false
def acG (r fl : Int) (L : List It) (t : It) : List Int := if acE r fl L t = 0 then keys (tch r fl L t).gone else []
/-- A slice of the call's own (or nil). -/
def FA (w : World) (A : Option Addr) : Prop := ∀ a, A = some a → w.heap.size ≤ a.block
theorem FA.none_ (w : World) : FA w none := fun a h => (by cases h)
def AR (r fl : Int) (L : List It) (t : It) (w : World) (e : Ending) (w' : World) : Prop :=
  ∃ A c B d, e = .returned (.tuple #[kv (acR r fl L t) (acF r fl L t) (.slice A (acL r fl L t).length c), .bool (acH r fl L t), .slice B (acG r fl L t).length d, .int .i64 (acE r fl L t)]) ∧ Tss w' A c (acL r fl L t) ∧ Ints w' B d (acG r fl L t) ∧ FA w A ∧ FA w B ∧ Below w.heap.size w w'
abbrev nk : Value := kv 0 0 (.slice none 0 0)
abbrev zk : Obj := ko 0 0 (.slice none 0 0)
theorem AR.bad {r fl : Int} {L : List It} {t : It} {er : Int} {w w' : World} (he : acE r fl L t = er) (h0 : er ≠ 0) (hb : Below w.heap.size w w') : AR r fl L t w (.returned (.tuple #[nk, .bool false, .slice none 0 0, .int .i64 er])) w' := by
  have h : ¬ acE r fl L t = 0 := by rw [he]; exact h0
  refine ⟨none, 0, none, 0, ?_, ?_, ?_, FA.none_ _, FA.none_ _, hb⟩
  · unfold acR acF acL acH acG; rw [if_neg h, if_neg h, if_neg h, if_neg h, if_neg h, he]; rfl
  · unfold acL; rw [if_neg h]; exact Tss.none_ _
  · unfold acG; rw [if_neg h]; exact Ints.none_ _
theorem AR.good {r fl fl' : Int} {L M : List It} {t : It} {G : List Int} {h : Bool} {w w' : World} {base : Nat} {v u : Value} (he : acE r fl L t = 0) (hf : (tch r fl L t).floor = fl') (hl : (tch r fl L t).left = M) (hg : keys (tch r fl L t).gone = G) (hh : decide (t.key ∈ keys L) = h)
    (ho : OwnT w' base v M) (hi : OwnI w' base u G) (hbs : w.heap.size ≤ base) (hb : Below w.heap.size w w') :
    AR r fl L t w (.returned (.tuple #[kv r fl' v, .bool h, u, .int .i64 0])) w' := by
  subst hf; subst hl; subst hg; subst hh
  obtain ⟨A, c, rfl, h1, h2⟩ := tss_of_own ho
  obtain ⟨B, d, rfl, h3⟩ := ints_of_own hi
  have h4 : FA w B := fun a ha => by
    subst ha
    rcases hi.2 with ⟨e, -⟩ | ⟨g, cap, cur, e, hbb, -⟩
    · cases e
    · cases e; exact Nat.le_trans hbs hbb
  refine ⟨A, c, B, d, ?_, ?_, ?_, fun a ha => Nat.le_trans hbs (h2 a ha), h4, hb⟩
  · unfold acR acF acL acH acG; rw [he, if_pos rfl, if_pos rfl, if_pos rfl, if_pos rfl, if_pos rfl]
  · unfold acL; rw [he, if_pos rfl]; exact h1
  · unfold acG; rw [he, if_pos rfl]; exact h3
/-- Access's boxes: the cache, the item, the result. -/
structure AcI (w wr : World) (p bs : Nat) (r fl : Int) (t : It) (v : Value) (L : List It) : Prop where
  at_ : p = w.heap.size
  box : Kb wr p r fl v
  item : Ib wr (p + 1) t
  out : Kb wr (p + 1 + 1) 0 0 (.slice none 0 0)
  gap : p + 1 + 1 < bs
  bsz : bs ≤ wr.heap.size
  things : OwnT wr bs v L
  bel : Below w.heap.size w wr
theorem AcI.below {w wr w' : World} {p bs : Nat} {r fl : Int} {t : It} {v : Value} {L : List It} (h : AcI w wr p bs r fl t v L) (hb : Below wr.heap.size wr w') : AcI w w' p bs r fl t v L :=
  ⟨h.at_, h.box.below hb, h.item.below hb, h.out.below hb, h.gap, Nat.le_trans h.bsz hb.size, h.things.below hb, h.bel.trans (hb.mono (by have := h.at_; have := h.gap; have := h.bsz; omega))⟩
theorem box3 (w : World) (r fl : Int) (v : Value) (t : It) : Kb (((w.alloc (ko r fl v)).alloc (fo t)).alloc zk) w.heap.size r fl v ∧ Ib (((w.alloc (ko r fl v)).alloc (fo t)).alloc zk) (w.heap.size + 1) t ∧ Kb (((w.alloc (ko r fl v)).alloc (fo t)).alloc zk) (w.heap.size + 1 + 1) 0 0 (.slice none 0 0) ∧ Below w.heap.size w (((w.alloc (ko r fl v)).alloc (fo t)).alloc zk) := by
  refine ⟨((Kb.new w r fl v).alloc _).alloc _, ?_, ?_, bel_al (bel_al (bel_al (Below.refl _ _) (Nat.le_refl _) _) (by simp) _) (by simp; omega) _⟩
  · have := Ib.new (w.alloc (ko r fl v)) t
    rw [show (w.alloc (ko r fl v)).heap.size = w.heap.size + 1 by simp] at this
    exact this.alloc _
  · have := Kb.new ((w.alloc (ko r fl v)).alloc (fo t)) 0 0 (.slice none 0 0)
    rwa [show ((w.alloc (ko r fl v)).alloc (fo t)).heap.size = w.heap.size + 1 + 1 by simp] at this
def rd (w : World) (m j : Nat) : Value := (w.cell? ⟨m, j, none⟩).getD (.int .i64 0)
theorem rd_of {w : World} {m j : Nat} {v : Value} (h : w.cell? ⟨m, j, none⟩ = some v) : w.cell? ⟨m, j, none⟩ = some (rd w m j) := by unfold rd; rw [h]; rfl
theorem rd_eq {w : World} {m j : Nat} {v : Value} (h : w.cell? ⟨m, j, none⟩ = some v) : rd w m j = v := by unfold rd; rw [h]; rfl
/-- What the region that stores the new worth reads and writes. -/
abbrev SV (p g k n c : Nat) (fl ky sz co : Int) (w' : World) : Prop :=
  w'.cell? ⟨p, 2, none⟩ = some (.slice (some ⟨g, 0, none⟩) n c) ∧ w'.cell? ⟨p, 1, none⟩ = some (.int .i64 fl) ∧ w'.cell? ⟨g, k * 4, none⟩ = some (.int .i64 ky) ∧ w'.cell? ⟨g, k * 4 + 1, none⟩ = some (.int .i64 sz) ∧ w'.cell? ⟨g, k * 4 + 2, none⟩ = some (.int .i64 co) ∧ w'.cell? ⟨g, k * 4 + 3, none⟩ = some (rd w' g (k * 4 + 3)) ∧ w'.frozen? ⟨g, k * 4 + 3, none⟩ = false
theorem sv_of {w : World} {base p g k n c : Nat} {r fl : Int} {L : List It} (h : OwnT w base (.slice (some ⟨g, 0, none⟩) n c) L) (hk : Kb w p r fl (.slice (some ⟨g, 0, none⟩) n c)) (hn : n = L.length) (hl : k < L.length) : SV p g k n c fl (gt L k).key (gt L k).size (gt L k).cost w := by
  obtain ⟨c0, c1, c2, c3, f⟩ := h.cells hn hl
  obtain ⟨x0, x1, x2⟩ := hk.cells
  exact ⟨x2, x1, c0, c1, c2, rd_of c3, f _⟩
theorem sv_all {w w' : World} {base p g k n c : Nat} {r fl : Int} {L : List It} (h : OwnT w base (.slice (some ⟨g, 0, none⟩) n c) L) (hk : Kb w p r fl (.slice (some ⟨g, 0, none⟩) n c)) (hn : n = L.length) (hl : k < L.length) (hb : Below w.heap.size w w') (u : Int) :
    SV p g k n c fl (gt L k).key (gt L k).size (gt L k).cost w' ∧ SV p g k n c fl (gt L k).key (gt L k).size (gt L k).cost (w'.setCell ⟨g, k * 4 + 3, none⟩ (.int .i64 u)) := by
  have h' := h.below hb
  have hk' := hk.below hb
  have hne : p ≠ g := fun e => hk'.ownT h' (by rw [e]; rfl)
  refine ⟨sv_of h' hk' hn hl, ?_⟩
  have q := sv_of (h'.putW hn hl u) (hk'.other (a := ⟨g, k * 4 + 3, none⟩) hne _) (by rw [List.length_set]; exact hn) (k := k) (by rw [List.length_set]; exact hl)
  have e : gt (L.set k ⟨(gt L k).key, (gt L k).size, (gt L k).cost, u⟩) k = ⟨(gt L k).key, (gt L k).size, (gt L k).cost, u⟩ := by unfold gt; simp [List.getD_eq_getElem?_getD, hl]
  rw [e] at q
  exact q

set_option maxHeartbeats 8000000 in
theorem access_any (r fl : Int) (A : Option Addr) (c : Nat) (L : List It) (t : It) (w : World) (hT : Tss w A c L) :
    Calls Try.prog 7 #[kv r fl (.slice A L.length c), fv t] w (AR r fl L t w) := by
  obtain ⟨hk0, hi0, hz0, hb0⟩ := box3 w r fl (.slice A L.length c) t
  obtain ⟨x0, x1, x2⟩ := hk0.cells
  obtain ⟨p, hp⟩ : ∃ p, p = w.heap.size := ⟨_, rfl⟩
  rw [← hp] at hk0 hi0 hz0
  have HK0 := Lib.hid hk0
  have HI0 := Lib.hid hi0
  have HZ0 := Lib.hid hz0
  have HB0 := Lib.hid hb0
  have HT0 := Lib.hid (hT.below hb0)
  have HP := Lib.hid hp
  clear hk0 hi0 hz0 hb0 hT hp
  have HC := Lib.hid (check_any r fl A c L _ HT0.out)
  unfold CkC at HC
  have HIs : Hid (∀ W : World, Calls Try.prog 21 #[fv t] W fun e w' => e = .returned (.bool (decide (okI t))) ∧ Below W.heap.size W w') := Lib.hid (fun W => isItem_any t W)
  by_cases h0 : checkG 8 r fl L = 0
  · have HG := Lib.hid ((check_zero (full := 8) (by decide)).1 h0)
    rw [h0] at HC
    by_cases h1 : okI t
    · have HOk := Lib.hid h1
      have HE : Hid (acE r fl L t = 0) := Lib.hid (by unfold acE; rw [if_pos h0, if_pos h1])
      rw [decide_eq_true h1] at HIs
      have HCl := Lib.hid (fun (W : World) (hW : Tss W A c L) => sclone_any A c L W hW (by have := HG.out.few; omega))
      have HFi := Lib.hid (fun (A' : Option Addr) (c' : Nat) (W : World) (hW : Tss W A' c' L) => find_any A' c' L t.key W hW)
      rw [fnd_eq] at HFi
      clear h0 h1
      by_cases hx : t.key ∈ keys L
      · obtain ⟨hkl, hky⟩ := hit_at hx
        rw [if_pos hx] at HFi
        have HX := Lib.hid hx
        have HD : Hid (decide (t.key ∈ keys L) = true) := Lib.hid (by simpa using hx)
        have HTc : Hid ((tch r fl L t).floor = fl ∧ (tch r fl L t).left = L.set (hitAt L t.key) ⟨(gt L (hitAt L t.key)).key, (gt L (hitAt L t.key)).size, (gt L (hitAt L t.key)).cost, fresh fl (gt L (hitAt L t.key)).size (gt L (hitAt L t.key)).cost⟩ ∧ keys (tch r fl L t).gone = []) := Lib.hid (by unfold tch; rw [if_pos hx]; exact ⟨rfl, rfl, rfl⟩)
        have hfo := (HG.out.items _ (gt_mem hkl)).1
        replace HFi : Hid (∀ (A' : Option Addr) (c' : Nat) (W : World), Tss W A' c' L → Calls Try.prog 23 #[.slice A' L.length c', .int .i64 t.key] W fun e w' => e = .returned (.int .i64 ((hitAt L t.key : Nat) : Int)) ∧ Below W.heap.size W w') := Lib.hid (fun A' c' W hW => (HFi.out A' c' W hW))
        generalize hitAt L t.key = k at *
        have HKl := Lib.hid hkl
        have HIn := Lib.hid (fun (W : World) => initial_any fl (gt L k) W HG.out.floor hfo)
        have d5 : decide ((0 : Int) ≤ (k : Int)) = true := by simp
        clear hx hky hfo
        obtain ⟨n, hn⟩ : ∃ n, n = L.length := ⟨_, rfl⟩
        have HN := Lib.hid hn
        have j1 : (k : Int) < (n : Int) := by omega
        have j2 : (0 : Int) ≤ (k : Int) := by omega
        rw [← hn] at HK0 HB0 HI0 HZ0 HT0 HC HCl HFi x0 x1 x2 ⊢
        clear hn hkl
        go_enter Try.func7, Try.ntmps7
        go_wp2_with fail
        refine HC.out.mono ?_
        rintro e w1 ⟨rfl, hb1⟩
        have HK1 := Lib.hid (HK0.out.below hb1)
        have HI1 := Lib.hid (HI0.out.below hb1)
        have HZ1 := Lib.hid (HZ0.out.below hb1)
        have HT1 := Lib.hid (HT0.out.below hb1)
        have HB1 : Hid (Below w.heap.size w w1) := Lib.hid (HB0.out.trans (hb1.mono HB0.out.size))
        clear hb1 x0 x1 x2
        rw [← HP.out]
        obtain ⟨i0, i1, i2, i3⟩ := HI1.out.cells
        go_wp2_with fail
        refine (HIs.out _).mono ?_
        rintro e w2 ⟨rfl, hb2⟩
        have HK2 := Lib.hid (HK1.out.below hb2)
        have HI2 := Lib.hid (HI1.out.below hb2)
        have HZ2 := Lib.hid (HZ1.out.below hb2)
        have HT2 := Lib.hid (HT1.out.below hb2)
        have HB2 : Hid (Below w.heap.size w w2) := Lib.hid (HB1.out.trans (hb2.mono HB1.out.size))
        clear hb2 i0 i1 i2 i3
        obtain ⟨x0, x1, x2⟩ := HK2.out.cells
        go_wp2_with fail
        refine (HCl.out _ HT2.out).mono ?_
        rintro e w3 ⟨v3, rfl, ho3, hb3⟩
        obtain ⟨A3, c3, rfl, -, -⟩ := tss_of_own ho3
        rw [← HN.out] at ho3 ⊢
        have HG3 : Hid (p + 1 + 1 < w2.heap.size) := Lib.hid HZ2.out.lt
        have HO3 := Lib.hid ho3
        have HK3 := Lib.hid (HK2.out.below hb3)
        have HI3 := Lib.hid (HI2.out.below hb3)
        have HZ3 := Lib.hid (HZ2.out.below hb3)
        have HB3 : Hid (Below w.heap.size w w3) := Lib.hid (HB2.out.trans (hb3.mono HB2.out.size))
        have HS3 : Hid (w2.heap.size ≤ w3.heap.size) := Lib.hid hb3.size
        clear ho3 hb3 x0 x1 x2
        obtain ⟨x0, x1, x2⟩ := HK3.out.cells
        obtain ⟨y0, y1, y2⟩ := HK3.out.free
        obtain ⟨i0, i1, i2, i3⟩ := HI3.out.cells
        have HA4 : Hid (AcI w (w3.setCell ⟨p, 2, none⟩ (.slice A3 n c3)) p w2.heap.size r fl t (.slice A3 n c3) L) := Lib.hid ⟨HP.out, HK3.out.setV _, HI3.out.other (a := ⟨p, 2, none⟩) (by simp) _, HZ3.out.other (a := ⟨p, 2, none⟩) (by dsimp only; omega) _, HG3.out, by simpa [World.setCell] using HS3.out, HO3.out.set (HK3.out.ownT HO3.out) _ _, bel_set HB3.out (a := ⟨p, 2, none⟩) (by rw [HP.out]; exact Nat.le_refl _) _⟩
        obtain ⟨j0, j9, j8, j7⟩ := HA4.out.item.cells
        obtain ⟨y5, y6, y7⟩ := HA4.out.box.cells
        go_wp2_with fail
        clear x0 x1 x2 y0 y1 y2 y5 y6 y7 i0 i1 i2 i3 j0 j9 j8 j7 HO3 HK3 HI3 HZ3 HB3 HS3 HG3 HK2 HI2 HZ2 HT2 HB2 HK1 HI1 HZ1 HT1 HB1 HK0 HI0 HZ0 HB0 HT0 HC HIs HCl
        generalize w3.setCell ⟨p, 2, none⟩ (.slice A3 n c3) = w4 at *
        generalize w2.heap.size = bs at *
        have HT4 : Hid (Tss w4 A3 c3 L) := Lib.hid (by obtain ⟨A9, c9, e, h9, -⟩ := tss_of_own HA4.out.things; cases e; exact h9)
        refine (HFi.out A3 c3 w4 HT4.out).mono ?_
        rintro e w5 ⟨rfl, hb5⟩
        have HA5 := Lib.hid (HA4.out.below hb5)
        clear hb5 HT4 HA4 HFi
        obtain ⟨g, cg, e, hbg, -⟩ := HA5.out.things.form (by have := HKl.out; omega)
        have e1 : A3 = some ⟨g, 0, none⟩ := by cases e; rfl
        clear e
        subst e1
        have HPt := Lib.hid (fun (W : World) (hW : Below w5.heap.size w5 W) => (HA5.out.things.below hW).putW HN.out HKl.out (fresh fl (gt L k).size (gt L k).cost))
        have HSv := Lib.hid (fun (W : World) (hW : Below w5.heap.size w5 W) => (⟨(HA5.out.box.below hW).cells.2.2, ((HA5.out.things.below hW).cells HN.out HKl.out).2.2.2.1, ((HA5.out.things.below hW).cells HN.out HKl.out).2.2.2.2 (k * 4 + 3)⟩ : W.cell? ⟨p, 2, none⟩ = some (.slice (some ⟨g, 0, none⟩) n c3) ∧ W.cell? ⟨g, k * 4 + 3, none⟩ = some (.int .i64 (gt L k).worth) ∧ W.frozen? ⟨g, k * 4 + 3, none⟩ = false))
        obtain ⟨x0, x1, x2⟩ := HA5.out.box.cells
        obtain ⟨c0, c1, c2, c4, -⟩ := HA5.out.things.cells HN.out HKl.out
        have hf := (HSv.out _ (Below.refl _ _)).2.2
        replace HIn := Lib.hid (HIn.out w5.drew)
        generalize gt L k = f at *
        obtain ⟨ky, sz, co, wo⟩ := f
        dsimp only at HSv HIn HPt HTc c0 c1 c2 c4
        generalize fresh fl sz co = fr at *
        go_wp2_with fail
        go_region_with (first | (go_at_call 24; refine HIn.out.mono ?_; rintro e w6 ⟨rfl, hb6⟩; have hB6 : Below w5.heap.size w5 w6 := (Below.refl _ _).drew.trans hb6; obtain ⟨q0, q1, q2⟩ := HSv.out _ hB6))
        all_goals (
          clear x0 x1 x2 c0 c1 c2 c4 hf q0 q1 q2
          have HPo : Hid (OwnT (w6.setCell ⟨g, k * 4 + 3, none⟩ (.int .i64 fr)) bs (.slice (some ⟨g, 0, none⟩) n c3) (L.set k ⟨ky, sz, co, fr⟩)) := Lib.hid (HPt.out w6 hB6)
          have HA6 := Lib.hid (HA5.out.below hB6)
          have hpg : p ≠ g := fun e => HA6.out.box.ownT HA6.out.things (by rw [e]; rfl)
          have hog : p + 1 + 1 ≠ g := fun e => HA6.out.out.ownT HA6.out.things (by rw [e]; rfl)
          have HK7 : Hid (Kb (w6.setCell ⟨g, k * 4 + 3, none⟩ (.int .i64 fr)) p r fl (.slice (some ⟨g, 0, none⟩) n c3)) := Lib.hid (HA6.out.box.other (a := ⟨g, k * 4 + 3, none⟩) hpg _)
          have HZ7 : Hid (Kb (w6.setCell ⟨g, k * 4 + 3, none⟩ (.int .i64 fr)) (p + 1 + 1) 0 0 (.slice none 0 0)) := Lib.hid (HA6.out.out.other (a := ⟨g, k * 4 + 3, none⟩) hog _)
          have HBs : Hid (w.heap.size ≤ bs) := Lib.hid (by have := HP.out; have := HA5.out.gap; omega)
          have HB7 : Hid (Below w.heap.size w (w6.setCell ⟨g, k * 4 + 3, none⟩ (.int .i64 fr))) := Lib.hid (bel_set HA6.out.bel (a := ⟨g, k * 4 + 3, none⟩) (Nat.le_trans HBs.out hbg) _)
          clear hB6 hb6 HSv HPt HIn HA5 HA6 hpg hog
          generalize w6.setCell ⟨g, k * 4 + 3, none⟩ (.int .i64 fr) = w7 at *
          obtain ⟨x0, x1, x2⟩ := HK7.out.cells
          obtain ⟨z0, z1, z2⟩ := HZ7.out.cells
          obtain ⟨u0, u1, u2⟩ := HZ7.out.free
          go_wp2
          refine bodyPost_ret (v := .tuple #[kv r fl (.slice (some ⟨g, 0, none⟩) n c3), .bool true, .slice none 0 0, .int .i64 0]) (by simp [results, Try.results7, go_sem, z0, z1, z2]) rfl ?_
          exact AR.good HE.out HTc.out.1 HTc.out.2.1 HTc.out.2.2 HD.out (HPo.out.set3 (HZ7.out.ownT HPo.out) _ _ _) (Two.own_none _ bs) HBs.out (bel_set3 HB7.out (p := p + 1 + 1) (by rw [HP.out]; omega) _ _ _))
      · rw [if_neg hx] at HFi
        have HD : Hid (decide (t.key ∈ keys L) = false) := Lib.hid (by simpa using hx)
        have d5 : decide ((0 : Int) ≤ -1) = false := by decide
        by_cases hs : r < t.size
        · have d6 : decide (r < t.size) = true := by simpa using hs
          have HTc : Hid ((tch r fl L t).floor = fl ∧ (tch r fl L t).left = L ∧ keys (tch r fl L t).gone = []) := Lib.hid (by unfold tch; rw [if_neg hx, if_pos hs]; exact ⟨rfl, rfl, rfl⟩)
          clear hx hs
          obtain ⟨n, hn⟩ : ∃ n, n = L.length := ⟨_, rfl⟩
          have HN := Lib.hid hn
          rw [← hn] at HK0 HB0 HI0 HZ0 HT0 HC HCl HFi x0 x1 x2 ⊢
          clear hn
          go_enter Try.func7, Try.ntmps7
          go_wp2_with fail
          refine HC.out.mono ?_
          rintro e w1 ⟨rfl, hb1⟩
          have HK1 := Lib.hid (HK0.out.below hb1)
          have HI1 := Lib.hid (HI0.out.below hb1)
          have HZ1 := Lib.hid (HZ0.out.below hb1)
          have HT1 := Lib.hid (HT0.out.below hb1)
          have HB1 : Hid (Below w.heap.size w w1) := Lib.hid (HB0.out.trans (hb1.mono HB0.out.size))
          clear hb1 x0 x1 x2
          rw [← HP.out]
          obtain ⟨i0, i1, i2, i3⟩ := HI1.out.cells
          go_wp2_with fail
          refine (HIs.out _).mono ?_
          rintro e w2 ⟨rfl, hb2⟩
          have HK2 := Lib.hid (HK1.out.below hb2)
          have HI2 := Lib.hid (HI1.out.below hb2)
          have HZ2 := Lib.hid (HZ1.out.below hb2)
          have HT2 := Lib.hid (HT1.out.below hb2)
          have HB2 : Hid (Below w.heap.size w w2) := Lib.hid (HB1.out.trans (hb2.mono HB1.out.size))
          clear hb2 i0 i1 i2 i3
          obtain ⟨x0, x1, x2⟩ := HK2.out.cells
          go_wp2_with fail
          refine (HCl.out _ HT2.out).mono ?_
          rintro e w3 ⟨v3, rfl, ho3, hb3⟩
          obtain ⟨A3, c3, rfl, -, -⟩ := tss_of_own ho3
          rw [← HN.out] at ho3 ⊢
          have HG3 : Hid (p + 1 + 1 < w2.heap.size) := Lib.hid HZ2.out.lt
          have HO3 := Lib.hid ho3
          have HK3 := Lib.hid (HK2.out.below hb3)
          have HI3 := Lib.hid (HI2.out.below hb3)
          have HZ3 := Lib.hid (HZ2.out.below hb3)
          have HB3 : Hid (Below w.heap.size w w3) := Lib.hid (HB2.out.trans (hb3.mono HB2.out.size))
          have HS3 : Hid (w2.heap.size ≤ w3.heap.size) := Lib.hid hb3.size
          clear ho3 hb3 x0 x1 x2
          obtain ⟨x0, x1, x2⟩ := HK3.out.cells
          obtain ⟨y0, y1, y2⟩ := HK3.out.free
          obtain ⟨i0, i1, i2, i3⟩ := HI3.out.cells
          have HA4 : Hid (AcI w (w3.setCell ⟨p, 2, none⟩ (.slice A3 n c3)) p w2.heap.size r fl t (.slice A3 n c3) L) := Lib.hid ⟨HP.out, HK3.out.setV _, HI3.out.other (a := ⟨p, 2, none⟩) (by simp) _, HZ3.out.other (a := ⟨p, 2, none⟩) (by dsimp only; omega) _, HG3.out, by simpa [World.setCell] using HS3.out, HO3.out.set (HK3.out.ownT HO3.out) _ _, bel_set HB3.out (a := ⟨p, 2, none⟩) (by rw [HP.out]; exact Nat.le_refl _) _⟩
          obtain ⟨j0, j9, j8, j7⟩ := HA4.out.item.cells
          obtain ⟨y5, y6, y7⟩ := HA4.out.box.cells
          go_wp2_with fail
          clear x0 x1 x2 y0 y1 y2 y5 y6 y7 i0 i1 i2 i3 j0 j9 j8 j7 HO3 HK3 HI3 HZ3 HB3 HS3 HG3 HK2 HI2 HZ2 HT2 HB2 HK1 HI1 HZ1 HT1 HB1 HK0 HI0 HZ0 HB0 HT0 HC HIs HCl
          generalize w3.setCell ⟨p, 2, none⟩ (.slice A3 n c3) = w4 at *
          generalize w2.heap.size = bs at *
          have HT4 : Hid (Tss w4 A3 c3 L) := Lib.hid (by obtain ⟨A9, c9, e, h9, -⟩ := tss_of_own HA4.out.things; cases e; exact h9)
          refine (HFi.out A3 c3 w4 HT4.out).mono ?_
          rintro e w5 ⟨rfl, hb5⟩
          have HA5 := Lib.hid (HA4.out.below hb5)
          clear hb5 HT4 HA4 HFi
          obtain ⟨x0, x1, x2⟩ := HA5.out.box.cells
          obtain ⟨i0, i1, i2, i3⟩ := HA5.out.item.cells
          obtain ⟨z0, z1, z2⟩ := HA5.out.out.cells
          obtain ⟨u0, u1, u2⟩ := HA5.out.out.free
          go_wp2
          refine bodyPost_ret (v := .tuple #[kv r fl (.slice A3 n c3), .bool false, .slice none 0 0, .int .i64 0]) (by simp [results, Try.results7, go_sem, z0, z1, z2]) rfl ?_
          exact AR.good HE.out HTc.out.1 HTc.out.2.1 HTc.out.2.2 HD.out (HA5.out.things.set3 (HA5.out.out.ownT HA5.out.things) _ _ _) (Two.own_none _ bs) (by have := HP.out; have := HA5.out.gap; omega) (bel_set3 HA5.out.bel (p := p + 1 + 1) (by rw [HP.out]; omega) _ _ _)
        · have d6 : decide (r < t.size) = false := by simpa using hs
          have hz : 1 ≤ t.size ∧ t.size ≤ r := ⟨HOk.out.2.1.1, Int.not_lt.1 hs⟩
          obtain ⟨E, hE⟩ : ∃ E, E = evs r t.size L.length fl L := ⟨_, rfl⟩
          have HTc : Hid ((tch r fl L t).floor = E.floor ∧ (tch r fl L t).left = E.left ++ [⟨t.key, t.size, t.cost, fresh E.floor t.size t.cost⟩] ∧ keys (tch r fl L t).gone = keys E.gone) := Lib.hid (by unfold tch; rw [if_neg hx, if_neg hs, hE]; exact ⟨rfl, rfl, rfl⟩)
          have hsp := evs_spec hz.2 (f := L.length) (fl := fl) (L := L) (Nat.le_refl _) HG.out
          have HEv := Lib.hid (fun (bs : Nat) (v : Value) (W : World) (hW : OwnT W bs v L) (hB : bs ≤ W.heap.size) => evict_any bs v L r fl t.size W hW hB HG.out hz)
          rw [← hE] at hsp HEv
          have HEl : Hid (E.left.length + 1 ≤ 16777216) := Lib.hid (by have := hsp.1.few; omega)
          have HIn := Lib.hid (fun (W : World) => initial_any E.floor t W hsp.1.floor HOk.out)
          clear hx hs hz hsp hE
          obtain ⟨n, hn⟩ : ∃ n, n = L.length := ⟨_, rfl⟩
          have HN := Lib.hid hn
          rw [← hn] at HK0 HB0 HI0 HZ0 HT0 HC HCl HFi x0 x1 x2 ⊢
          clear hn
          go_enter Try.func7, Try.ntmps7
          go_wp2_with fail
          refine HC.out.mono ?_
          rintro e w1 ⟨rfl, hb1⟩
          have HK1 := Lib.hid (HK0.out.below hb1)
          have HI1 := Lib.hid (HI0.out.below hb1)
          have HZ1 := Lib.hid (HZ0.out.below hb1)
          have HT1 := Lib.hid (HT0.out.below hb1)
          have HB1 : Hid (Below w.heap.size w w1) := Lib.hid (HB0.out.trans (hb1.mono HB0.out.size))
          clear hb1 x0 x1 x2
          rw [← HP.out]
          obtain ⟨i0, i1, i2, i3⟩ := HI1.out.cells
          go_wp2_with fail
          refine (HIs.out _).mono ?_
          rintro e w2 ⟨rfl, hb2⟩
          have HK2 := Lib.hid (HK1.out.below hb2)
          have HI2 := Lib.hid (HI1.out.below hb2)
          have HZ2 := Lib.hid (HZ1.out.below hb2)
          have HT2 := Lib.hid (HT1.out.below hb2)
          have HB2 : Hid (Below w.heap.size w w2) := Lib.hid (HB1.out.trans (hb2.mono HB1.out.size))
          clear hb2 i0 i1 i2 i3
          obtain ⟨x0, x1, x2⟩ := HK2.out.cells
          go_wp2_with fail
          refine (HCl.out _ HT2.out).mono ?_
          rintro e w3 ⟨v3, rfl, ho3, hb3⟩
          obtain ⟨A3, c3, rfl, -, -⟩ := tss_of_own ho3
          rw [← HN.out] at ho3 ⊢
          have HG3 : Hid (p + 1 + 1 < w2.heap.size) := Lib.hid HZ2.out.lt
          have HO3 := Lib.hid ho3
          have HK3 := Lib.hid (HK2.out.below hb3)
          have HI3 := Lib.hid (HI2.out.below hb3)
          have HZ3 := Lib.hid (HZ2.out.below hb3)
          have HB3 : Hid (Below w.heap.size w w3) := Lib.hid (HB2.out.trans (hb3.mono HB2.out.size))
          have HS3 : Hid (w2.heap.size ≤ w3.heap.size) := Lib.hid hb3.size
          clear ho3 hb3 x0 x1 x2
          obtain ⟨x0, x1, x2⟩ := HK3.out.cells
          obtain ⟨y0, y1, y2⟩ := HK3.out.free
          obtain ⟨i0, i1, i2, i3⟩ := HI3.out.cells
          have HA4 : Hid (AcI w (w3.setCell ⟨p, 2, none⟩ (.slice A3 n c3)) p w2.heap.size r fl t (.slice A3 n c3) L) := Lib.hid ⟨HP.out, HK3.out.setV _, HI3.out.other (a := ⟨p, 2, none⟩) (by simp) _, HZ3.out.other (a := ⟨p, 2, none⟩) (by dsimp only; omega) _, HG3.out, by simpa [World.setCell] using HS3.out, HO3.out.set (HK3.out.ownT HO3.out) _ _, bel_set HB3.out (a := ⟨p, 2, none⟩) (by rw [HP.out]; exact Nat.le_refl _) _⟩
          obtain ⟨j0, j9, j8, j7⟩ := HA4.out.item.cells
          obtain ⟨y5, y6, y7⟩ := HA4.out.box.cells
          go_wp2_with fail
          clear x0 x1 x2 y0 y1 y2 y5 y6 y7 i0 i1 i2 i3 j0 j9 j8 j7 HO3 HK3 HI3 HZ3 HB3 HS3 HG3 HK2 HI2 HZ2 HT2 HB2 HK1 HI1 HZ1 HT1 HB1 HK0 HI0 HZ0 HB0 HT0 HC HIs HCl
          generalize w3.setCell ⟨p, 2, none⟩ (.slice A3 n c3) = w4 at *
          generalize w2.heap.size = bs at *
          have HT4 : Hid (Tss w4 A3 c3 L) := Lib.hid (by obtain ⟨A9, c9, e, h9, -⟩ := tss_of_own HA4.out.things; cases e; exact h9)
          refine (HFi.out A3 c3 w4 HT4.out).mono ?_
          rintro e w5 ⟨rfl, hb5⟩
          have HA5 := Lib.hid (HA4.out.below hb5)
          clear hb5 HT4 HA4 HFi
          obtain ⟨x0, x1, x2⟩ := HA5.out.box.cells
          obtain ⟨i0, i1, i2, i3⟩ := HA5.out.item.cells
          go_wp2_with fail
          refine (HEv.out bs (.slice A3 n c3) w5 HA5.out.things HA5.out.bsz).mono ?_
          rintro e w6 ⟨v6, vg, rfl, ho6, hi6, hb6⟩
          obtain ⟨A6, c6, rfl, -, -⟩ := tss_of_own ho6
          have HPb : Hid (p < bs ∧ p + 1 < bs ∧ p + 1 + 1 < bs) := Lib.hid (by have := HA5.out.gap; omega)
          have HBs : Hid (w.heap.size ≤ bs) := Lib.hid (by have := HP.out; have := HPb.out; omega)
          have HO6 := Lib.hid ho6
          have HI6 := Lib.hid hi6
          have HK6 : Hid (Kb w6 p r fl (.slice A3 n c3)) := Lib.hid (HA5.out.box.belowB hb6 HPb.out.1)
          have HT6 : Hid (Ib w6 (p + 1) t) := Lib.hid (HA5.out.item.belowB hb6 HPb.out.2.1)
          have HZ6 : Hid (Kb w6 (p + 1 + 1) 0 0 (.slice none 0 0)) := Lib.hid (HA5.out.out.belowB hb6 HPb.out.2.2)
          have HB6 : Hid (Below w.heap.size w w6) := Lib.hid (HA5.out.bel.trans (hb6.mono HBs.out))
          have HS6 : Hid (bs ≤ w6.heap.size) := Lib.hid (Nat.le_trans HA5.out.bsz hb6.size)
          clear ho6 hi6 hb6 x0 x1 x2 i0 i1 i2 i3 HA5 HEv
          generalize hl6 : E.left.length = n6 at *
          have HL6 := Lib.hid hl6
          clear hl6
          obtain ⟨x0, x1, x2⟩ := HK6.out.cells
          obtain ⟨y0, y1, y2⟩ := HK6.out.free
          have HK7 : Hid (Kb (((w6.setCell ⟨p, 0, none⟩ (.int .i64 r)).setCell ⟨p, 1, none⟩ (.int .i64 E.floor)).setCell ⟨p, 2, none⟩ (.slice A6 n6 c6)) p r E.floor (.slice A6 n6 c6)) := Lib.hid (HK6.out.put3 _ _ _)
          have HT7 : Hid (Ib (((w6.setCell ⟨p, 0, none⟩ (.int .i64 r)).setCell ⟨p, 1, none⟩ (.int .i64 E.floor)).setCell ⟨p, 2, none⟩ (.slice A6 n6 c6)) (p + 1) t) := Lib.hid (((HT6.out.other (a := ⟨p, 0, none⟩) (by simp) _).other (a := ⟨p, 1, none⟩) (by simp) _).other (a := ⟨p, 2, none⟩) (by simp) _)
          have HZ7 : Hid (Kb (((w6.setCell ⟨p, 0, none⟩ (.int .i64 r)).setCell ⟨p, 1, none⟩ (.int .i64 E.floor)).setCell ⟨p, 2, none⟩ (.slice A6 n6 c6)) (p + 1 + 1) 0 0 (.slice none 0 0)) := Lib.hid (HZ6.out.other3 (by omega) _ _ _)
          have HO7 : Hid (OwnT (((w6.setCell ⟨p, 0, none⟩ (.int .i64 r)).setCell ⟨p, 1, none⟩ (.int .i64 E.floor)).setCell ⟨p, 2, none⟩ (.slice A6 n6 c6)) bs (.slice A6 n6 c6) E.left) := Lib.hid (HO6.out.set3 (HK6.out.ownT HO6.out) _ _ _)
          have HI7 : Hid (OwnI (((w6.setCell ⟨p, 0, none⟩ (.int .i64 r)).setCell ⟨p, 1, none⟩ (.int .i64 E.floor)).setCell ⟨p, 2, none⟩ (.slice A6 n6 c6)) bs vg (keys E.gone)) := Lib.hid (ownI_set3 HI6.out (HK6.out.ownI HI6.out) _ _ _)
          have HB7 : Hid (Below w.heap.size w (((w6.setCell ⟨p, 0, none⟩ (.int .i64 r)).setCell ⟨p, 1, none⟩ (.int .i64 E.floor)).setCell ⟨p, 2, none⟩ (.slice A6 n6 c6))) := Lib.hid (bel_set3 HB6.out (p := p) (by rw [HP.out]; exact Nat.le_refl _) _ _ _)
          have HS7 : Hid (bs ≤ (((w6.setCell ⟨p, 0, none⟩ (.int .i64 r)).setCell ⟨p, 1, none⟩ (.int .i64 E.floor)).setCell ⟨p, 2, none⟩ (.slice A6 n6 c6)).heap.size) := Lib.hid (by simpa [World.setCell] using HS6.out)
          obtain ⟨k0, k1, k2⟩ := HK7.out.cells
          obtain ⟨i0, i1, i2, i3⟩ := HT7.out.cells
          go_wp2_with fail
          clear x0 x1 x2 y0 y1 y2 k0 k1 k2 i0 i1 i2 i3 HK6 HT6 HZ6 HO6 HI6 HB6 HS6
          generalize ((w6.setCell ⟨p, 0, none⟩ (.int .i64 r)).setCell ⟨p, 1, none⟩ (.int .i64 E.floor)).setCell ⟨p, 2, none⟩ (.slice A6 n6 c6) = w7 at *
          refine (HIn.out w7).mono ?_
          rintro e w8 ⟨rfl, hb8⟩
          have HK8 := Lib.hid (HK7.out.below hb8)
          have HT8 := Lib.hid (HT7.out.below hb8)
          have HZ8 := Lib.hid (HZ7.out.below hb8)
          have HO8 := Lib.hid (HO7.out.below hb8)
          have HI8 := Lib.hid (Two.own_bel HI7.out hb8)
          have HB8 : Hid (Below w.heap.size w w8) := Lib.hid (HB7.out.trans (hb8.mono HB7.out.size))
          have HS8 : Hid (bs ≤ w8.heap.size) := Lib.hid (Nat.le_trans HS7.out hb8.size)
          clear hb8 HK7 HT7 HZ7 HO7 HI7 HB7 HS7
          obtain ⟨tk, ts, tc, tw⟩ := t
          dsimp only at HTc ⊢
          generalize fresh E.floor ts tc = fr at *
          have HPi : Hid (∀ b, (∃ v, b = some v ∧ v = p + 1) → (Value.slice A6 n6 c6).ownBlock ≠ b ∧ vg.ownBlock ≠ b) := Lib.hid (by
            rintro b ⟨v, rfl, rfl⟩
            exact ⟨fun e => by have := (HO8.out.lt _ e).1; have := HPb.out; omega, HT8.out.ownI HI8.out⟩)
          have HK9 : Hid (Kb (w8.setCell ⟨p + 1, 3, none⟩ (.int .i64 fr)) p r E.floor (.slice A6 n6 c6)) := Lib.hid (HK8.out.other (a := ⟨p + 1, 3, none⟩) (by simp) _)
          have HT9 : Hid (Ib (w8.setCell ⟨p + 1, 3, none⟩ (.int .i64 fr)) (p + 1) ⟨tk, ts, tc, fr⟩) := Lib.hid (HT8.out.setW _)
          have HZ9 : Hid (Kb (w8.setCell ⟨p + 1, 3, none⟩ (.int .i64 fr)) (p + 1 + 1) 0 0 (.slice none 0 0)) := Lib.hid (HZ8.out.other (a := ⟨p + 1, 3, none⟩) (by simp) _)
          have HO9 : Hid (OwnT (w8.setCell ⟨p + 1, 3, none⟩ (.int .i64 fr)) bs (.slice A6 n6 c6) E.left) := Lib.hid (HO8.out.set (HPi.out _ ⟨_, rfl, rfl⟩).1 _ _)
          have HI9 : Hid (OwnI (w8.setCell ⟨p + 1, 3, none⟩ (.int .i64 fr)) bs vg (keys E.gone)) := Lib.hid (Two.own_set HI8.out (HPi.out _ ⟨_, rfl, rfl⟩).2 _ _)
          have HB9 : Hid (Below w.heap.size w (w8.setCell ⟨p + 1, 3, none⟩ (.int .i64 fr))) := Lib.hid (bel_set HB8.out (a := ⟨p + 1, 3, none⟩) (by rw [HP.out]; dsimp only; omega) _)
          have HS9 : Hid (bs ≤ (w8.setCell ⟨p + 1, 3, none⟩ (.int .i64 fr)).heap.size) := Lib.hid (by simpa [World.setCell] using HS8.out)
          obtain ⟨i0, i1, i2, i3⟩ := HT8.out.cells
          obtain ⟨f0, f1, f2, f3⟩ := HT8.out.free
          obtain ⟨x0, x1, x2⟩ := HK9.out.cells
          obtain ⟨h0, h1, h2, h3⟩ := HT9.out.cells
          have HX : Hid (Tss ((w8.setCell ⟨p + 1, 3, none⟩ (.int .i64 fr)).alloc (fo ⟨tk, ts, tc, fr⟩)) (some ⟨w8.heap.size, 0, none⟩) 1 [⟨tk, ts, tc, fr⟩]) := Lib.hid (by
            have h := (Ib.new (w8.setCell ⟨p + 1, 3, none⟩ (.int .i64 fr)) ⟨tk, ts, tc, fr⟩).one
            rwa [show (w8.setCell ⟨p + 1, 3, none⟩ (.int .i64 fr)).heap.size = w8.heap.size by simp [World.setCell]] at h)
          have HKa := Lib.hid (HK9.out.alloc (fo ⟨tk, ts, tc, fr⟩))
          have HZa := Lib.hid (HZ9.out.alloc (fo ⟨tk, ts, tc, fr⟩))
          have HOa := Lib.hid (HO9.out.alloc (fo ⟨tk, ts, tc, fr⟩))
          have HIa := Lib.hid (Two.own_al HI9.out (fo ⟨tk, ts, tc, fr⟩))
          have HBa : Hid (Below w.heap.size w ((w8.setCell ⟨p + 1, 3, none⟩ (.int .i64 fr)).alloc (fo ⟨tk, ts, tc, fr⟩))) := Lib.hid (bel_al HB9.out HB9.out.size _)
          have HSa : Hid (bs ≤ ((w8.setCell ⟨p + 1, 3, none⟩ (.int .i64 fr)).alloc (fo ⟨tk, ts, tc, fr⟩)).heap.size) := Lib.hid (Nat.le_trans HS9.out (by simp))
          have HLn : Hid (E.left.length + 1 ≤ 16777216) := Lib.hid (by rw [HL6.out]; exact HEl.out)
          have HFin : Hid (∀ v10 w10, OwnT w10 bs v10 (E.left ++ [⟨tk, ts, tc, fr⟩]) → ((w8.setCell ⟨p + 1, 3, none⟩ (.int .i64 fr)).alloc (fo ⟨tk, ts, tc, fr⟩)).grownBy w10 (Value.slice A6 n6 c6).ownBlock → ∃ A10 n10 c10, v10 = .slice A10 n10 c10 ∧ Kb w10 p r E.floor (.slice A6 n6 c6) ∧ Kb w10 (p + 1 + 1) 0 0 (.slice none 0 0) ∧ OwnT w10 bs (.slice A10 n10 c10) (E.left ++ [⟨tk, ts, tc, fr⟩]) ∧ OwnI w10 bs vg (keys E.gone) ∧ Below w.heap.size w w10) := Lib.hid (by
            intro v10 w10 ho hg
            obtain ⟨A10, c10, rfl, -, -⟩ := tss_of_own ho
            exact ⟨A10, _, c10, rfl, HKa.out.grown HOa.out hg, HZa.out.grown HOa.out hg, ho, ownI_grownT HIa.out HOa.out hg, HBa.out.grown hg HBa.out.size (fun k hk => Nat.le_trans HBs.out (HOa.out.lt k hk).1)⟩)
          go_wp2_with (at_builtin; refine wpList_append_tss (by rfl) _ _ (by rfl) bs _ E.left (by rfl) HOa.out (some ⟨w8.heap.size, 0, none⟩) 1 _ [⟨tk, ts, tc, fr⟩] rfl (by rfl) HX.out HLn.out HSa.out ?_; intro v10 w10 hown10 hg10; obtain ⟨A10, n10, c10, rfl, hk10, hz10, ho10, hi10, hb10⟩ := HFin.out v10 w10 hown10 hg10; clear hown10 hg10 i0 i1 i2 i3 f0 f1 f2 f3 x0 x1 x2 h0 h1 h2 h3; obtain ⟨x0, x1, x2⟩ := hk10.cells; obtain ⟨y0, y1, y2⟩ := hk10.free; obtain ⟨z0, z1, z2⟩ := (hz10.other (a := ⟨p, 2, none⟩) (show p + 1 + 1 ≠ p by omega) (.slice A10 n10 c10)).cells; obtain ⟨u0, u1, u2⟩ := (hz10.other (a := ⟨p, 2, none⟩) (show p + 1 + 1 ≠ p by omega) (.slice A10 n10 c10)).free; obtain ⟨t0, t1, t2⟩ := (hk10.setV (.slice A10 n10 c10)).cells; have HK10 := Lib.hid hk10; have HZ10 := Lib.hid hz10; have HO10 := Lib.hid ho10; have HI10 := Lib.hid hi10; have HB10 := Lib.hid hb10; clear hk10 hz10 ho10 hi10 hb10)
          refine bodyPost_ret (v := .tuple #[kv r E.floor (.slice A10 n10 c10), .bool false, vg, .int .i64 0]) (by simp [results, Try.results7, go_sem, z0, z1, z2]) rfl ?_
          have hZ11 := HZ10.out.other (a := ⟨p, 2, none⟩) (show p + 1 + 1 ≠ p by omega) (.slice A10 n10 c10)
          have hO11 := HO10.out.set (HK10.out.ownT HO10.out) 2 (.slice A10 n10 c10)
          have hI11 := Two.own_set HI10.out (HK10.out.ownI HI10.out) 2 (.slice A10 n10 c10)
          have hB11 := bel_set HB10.out (a := ⟨p, 2, none⟩) (by rw [HP.out]; exact Nat.le_refl _) (.slice A10 n10 c10)
          exact AR.good HE.out HTc.out.1 HTc.out.2.1 HTc.out.2.2 HD.out (hO11.set3 (hZ11.ownT hO11) _ _ _) (ownI_set3 hI11 (hZ11.ownI hI11) _ _ _) HBs.out (bel_set3 hB11 (p := p + 1 + 1) (by rw [HP.out]; omega) _ _ _)
    · have HE : Hid (acE r fl L t = 3) := Lib.hid (by unfold acE; rw [if_pos h0, if_neg h1])
      rw [decide_eq_false h1] at HIs
      clear h0 h1
      go_enter Try.func7, Try.ntmps7
      go_wp2_with fail
      refine HC.out.mono ?_
      rintro e w1 ⟨rfl, hb1⟩
      have HZ1 := Lib.hid (HZ0.out.below hb1)
      have HI1 := Lib.hid (HI0.out.below hb1)
      have HB1 : Hid (Below w.heap.size w w1) := Lib.hid (HB0.out.trans (hb1.mono HB0.out.size))
      clear hb1 x0 x1 x2
      rw [← HP.out]
      obtain ⟨i0, i1, i2, i3⟩ := HI1.out.cells
      go_wp2_with fail
      refine (HIs.out _).mono ?_
      rintro e w2 ⟨rfl, hb2⟩
      have HZ2 := Lib.hid (HZ1.out.below hb2)
      have HB2 : Hid (Below w.heap.size w w2) := Lib.hid (HB1.out.trans (hb2.mono HB1.out.size))
      clear hb2 i0 i1 i2 i3
      obtain ⟨z0, z1, z2⟩ := HZ2.out.cells
      obtain ⟨u0, u1, u2⟩ := HZ2.out.free
      go_wp2
      refine bodyPost_ret (v := .tuple #[nk, .bool false, .slice none 0 0, .int .i64 3]) (by simp [results, Try.results7, go_sem, z0, z1, z2]) rfl ?_
      exact AR.bad HE.out (by decide) (bel_set3 HB2.out (p := p + 1 + 1) (by rw [HP.out]; omega) _ _ _)
  · have HE : Hid (acE r fl L t = checkG 8 r fl L) := Lib.hid (by unfold acE; rw [if_neg h0])
    have H0 := Lib.hid h0
    have q : (checkG 8 r fl L != 0) = true := by simpa using h0
    clear h0
    go_enter Try.func7, Try.ntmps7
    go_wp2_with fail
    refine HC.out.mono ?_
    rintro e w1 ⟨rfl, hb1⟩
    have HZ1 := Lib.hid (HZ0.out.below hb1)
    have HB1 : Hid (Below w.heap.size w w1) := Lib.hid (HB0.out.trans (hb1.mono HB0.out.size))
    clear hb1 x0 x1 x2
    rw [← HP.out]
    obtain ⟨z0, z1, z2⟩ := HZ1.out.cells
    obtain ⟨u0, u1, u2⟩ := HZ1.out.free
    go_wp2
    refine bodyPost_ret (v := .tuple #[nk, .bool false, .slice none 0 0, .int .i64 (checkG 8 r fl L)]) (by simp [results, Try.results7, go_sem, z0, z1, z2]) rfl ?_
    exact AR.bad HE.out H0.out (bel_set3 HB1.out (p := p + 1 + 1) (by rw [HP.out]; omega) _ _ _)

end Go.Proofs.Ytmobohamlimhdaa.Grd
