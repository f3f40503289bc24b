/-
  What Access, Run and Resize of package lru return.
-/
import Derived.Test.YtjmhemkbfephpaaLruUse
namespace Go.Proofs.Ytjmhemkbfephpaa.Lru
open Go.RowKit Go.Maps
set_option linter.unusedVariables false

/-- What a block holds at a place (whatever it is). -/
def rd (w : World) (m j : Nat) : Value := (w.cell? ⟨m, j, none⟩).getD (.int .i64 0)
theorem rd_of {w : World} {m j : Nat} {v : Value} (h : w.cell? ⟨m, j, none⟩ = some v) : w.cell? ⟨m, j, none⟩ = some (rd w m j) := by unfold rd; rw [h]; rfl
/-- Block m holds a result: two cells that may be written. -/
abbrev RS (m : Nat) (w0 w' : World) : Prop :=
  w'.cell? ⟨m, 0, none⟩ = some (rd w' m 0) ∧ w'.cell? ⟨m, 1, none⟩ = some (rd w' m 1) ∧ w'.frozen? ⟨m, 0, none⟩ = false ∧ w'.frozen? ⟨m, 1, none⟩ = false ∧ m + 1 ≤ w'.heap.size ∧ Below m w0 w'
section
variable {m : Nat} {w0 w' w'' : World}
theorem RS.new (w : World) (hm : m = w.heap.size) : RS m w (w.alloc zo) := by
  subst hm
  exact ⟨rd_of (v := .int .i64 0) (by simp [go_sem]), rd_of (v := .slice none 0 0) (by simp [go_sem]), by simp [go_sem], by simp [go_sem], by simp, (Below.refl _ _).alloc (Nat.le_refl _) _⟩
theorem RS.next (h : RS m w0 w') {B : Nat} (hB : m < B) (hb : Below B w' w'') : RS m w0 w'' := by
  obtain ⟨h1, h2, h3, h4, h5, h6⟩ := h
  exact ⟨rd_of ((hb.cell (p := ⟨m, 0, none⟩) hB).trans h1), rd_of ((hb.cell (p := ⟨m, 1, none⟩) hB).trans h2), (hb.frozen (p := ⟨m, 0, none⟩) hB).trans h3, (hb.frozen (p := ⟨m, 1, none⟩) hB).trans h4, Nat.le_trans h5 hb.size, h6.trans (hb.mono (Nat.le_of_lt hB))⟩
theorem RS.size (h : RS m w0 w') : m < w'.heap.size := h.2.2.2.2.1
theorem RS.below (h : RS m w0 w') : Below m w0 w' := h.2.2.2.2.2
end
theorem below_set2 {m : Nat} {w0 w' : World} (h : Below m w0 w') (u v : Value) : Below m w0 ((w'.setCell ⟨m, 0, none⟩ u).setCell ⟨m, 1, none⟩ v) :=
  (h.setCell (p := ⟨m, 0, none⟩) (Nat.le_refl _) _).setCell (p := ⟨m, 1, none⟩) (Nat.le_refl _) _
/-- The boxes of Access, Run and Resize: the cache, the result. -/
abbrev CS (n : Nat) (r : Int) (A : Option Addr) (c : Nat) (L : List Int) (w0 w' : World) : Prop :=
  w'.cell? ⟨n, 0, none⟩ = some (.int .i64 r) ∧ w'.cell? ⟨n, 1, none⟩ = some (.slice A L.length c) ∧ RS (n + 1) w0 w'
section
variable {n : Nat} {r : Int} {A : Option Addr} {c : Nat} {L : List Int} {w0 w' w'' : World}
theorem CS.next (h : CS n r A c L w0 w') {B : Nat} (hB : n + 1 < B) (hb : Below B w' w'') : CS n r A c L w0 w'' := by
  obtain ⟨h1, h2, h5⟩ := h
  exact ⟨(hb.cell (p := ⟨n, 0, none⟩) (by show n < B; omega)).trans h1, (hb.cell (p := ⟨n, 1, none⟩) (by show n < B; omega)).trans h2, RS.next h5 hB hb⟩
theorem CS.size (h : CS n r A c L w0 w') : n + 1 < w'.heap.size := RS.size h.2.2
theorem CS.below (h : CS n r A c L w0 w') : Below (n + 1) w0 w' := RS.below h.2.2
theorem CS.new (w : World) (hn : n = w.heap.size) : CS n r A c L (w.alloc (co r A c L)) ((w.alloc (co r A c L)).alloc zo) := by
  subst hn
  have hs1 : (w.alloc (co r A c L)).heap.size = w.heap.size + 1 := by simp
  have h1 : Below (w.heap.size + 1) (w.alloc (co r A c L)) ((w.alloc (co r A c L)).alloc zo) := (Below.refl _ _).alloc (by rw [hs1]; exact Nat.le_refl _) _
  exact ⟨(h1.cell (p := ⟨w.heap.size, 0, none⟩) (Nat.lt_succ_self _)).trans (by simp [go_sem]), (h1.cell (p := ⟨w.heap.size, 1, none⟩) (Nat.lt_succ_self _)).trans (by simp [go_sem]), RS.new (m := w.heap.size + 1) (w.alloc (co r A c L)) hs1.symm⟩
end
theorem ints_of_own2 {w : World} {base : Nat} {v : Value} {L : List Int} (h : OwnI w base v L) : ∃ A c, v = .slice A L.length c ∧ Ints w A c L ∧ ∀ a, A = some a → base ≤ a.block := by
  obtain ⟨A, c, e, h1⟩ := ints_of_own h
  refine ⟨A, c, e, h1, fun a ha => ?_⟩
  subst ha
  rcases h.2 with ⟨h3, -⟩ | ⟨g, cap, cur, h3, hb, -⟩
  · rw [e] at h3; cases h3
  · rw [e] at h3; cases h3; exact hb
theorem ints_set2 {w : World} {A : Option Addr} {c m : Nat} {L : List Int} (h : Ints w A c L) (hA : ∀ a, A = some a → m < a.block) (u v : Value) : Ints ((w.setCell ⟨m, 0, none⟩ u).setCell ⟨m, 1, none⟩ v) A c L :=
  (h.setCell (p := ⟨m, 0, none⟩) (fun a ha => by have := hA a ha; show a.block ≠ m; omega) u).setCell (p := ⟨m, 1, none⟩) (fun a ha => by have := hA a ha; show a.block ≠ m; omega) v

/-! ### The answers -/
def acE (r : Int) (L : List Int) (x : Int) : Int := if checkC r L = 0 then (if isK x then 0 else 3) else checkC r L
def acR (r : Int) (L : List Int) (x : Int) : Int := if acE r L x = 0 then r else 0
def acL (r : Int) (L : List Int) (x : Int) : List Int := if acE r L x = 0 then touch r L x else []
def acH (r : Int) (L : List Int) (x : Int) : Bool := if acE r L x = 0 then decide (x ∈ L) else false
def acG (r : Int) (L : List Int) (x : Int) : Int := if acE r L x = 0 then gone r L x else 0
def rnE (r : Int) (L xs : List Int) : Int := if checkC r L = 0 then traceE xs else checkC r L
def rnR (r : Int) (L xs : List Int) : Int := if rnE r L xs = 0 then r else 0
def rnL (r : Int) (L xs : List Int) : List Int := if rnE r L xs = 0 then runL r L xs else []
def rnH (r : Int) (L xs : List Int) : Int := if rnE r L xs = 0 then (hitsM r L xs : Int) else 0
def rzE (r : Int) (L : List Int) (q : Int) : Int := if checkC r L = 0 then (if isRm q then 0 else 3) else checkC r L
def rzR (r : Int) (L : List Int) (q : Int) : Int := if rzE r L q = 0 then q else 0
def rzL (r : Int) (L : List Int) (q : Int) : List Int := if rzE r L q = 0 then L.take q.toNat else []
def rzO (r : Int) (L : List Int) (q : Int) : List Int := if rzE r L q = 0 then (L.drop q.toNat).reverse else []

/-- A slice of the call's own (or nil). -/
def FA (w : World) (A : Option Addr) : Prop := ∀ a, A = some a → w.heap.size ≤ a.block
theorem FA.none_ (w : World) : FA w none := fun a h => (by cases h)
def AR (r : Int) (L : List Int) (x : Int) (w : World) (e : Ending) (w' : World) : Prop :=
  ∃ A c, e = .returned (.tuple #[cv (acR r L x) A c (acL r L x), .bool (acH r L x), .int .i64 (acG r L x), .int .i64 (acE r L x)]) ∧ Ints w' A c (acL r L x) ∧ FA w A ∧ Below w.heap.size w w'
def NR (r : Int) (L xs : List Int) (w : World) (e : Ending) (w' : World) : Prop :=
  ∃ A c, e = .returned (.tuple #[cv (rnR r L xs) A c (rnL r L xs), .int .i64 (rnH r L xs), .int .i64 (rnE r L xs)]) ∧ Ints w' A c (rnL r L xs) ∧ FA w A ∧ Below w.heap.size w w'
def ZR (r : Int) (L : List Int) (q : Int) (w : World) (e : Ending) (w' : World) : Prop :=
  ∃ A c B d, e = .returned (.tuple #[cv (rzR r L q) A c (rzL r L q), .slice B (rzO r L q).length d, .int .i64 (rzE r L q)]) ∧ Ints w' A c (rzL r L q) ∧ Ints w' B d (rzO r L q) ∧ FA w A ∧ FA w B ∧ Below w.heap.size w w'
theorem AR.bad {r : Int} {L : List Int} {x er : Int} {w w' : World} (he : acE r L x = er) (h0 : er ≠ 0) (hb : Below w.heap.size w w') : AR r L x w (.returned (.tuple #[cv 0 none 0 [], .bool false, .int .i64 0, .int .i64 er])) w' := by
  have h : ¬ acE r L x = 0 := by rw [he]; exact h0
  refine ⟨none, 0, ?_, ?_, FA.none_ _, hb⟩
  · unfold acR acL acH acG; rw [if_neg h, if_neg h, if_neg h, if_neg h, he]
  · unfold acL; rw [if_neg h]; exact Ints.none_ _
theorem NR.bad {r : Int} {L xs : List Int} {er : Int} {w w' : World} (he : rnE r L xs = er) (h0 : er ≠ 0) (hb : Below w.heap.size w w') : NR r L xs w (.returned (.tuple #[cv 0 none 0 [], .int .i64 0, .int .i64 er])) w' := by
  have h : ¬ rnE r L xs = 0 := by rw [he]; exact h0
  refine ⟨none, 0, ?_, ?_, FA.none_ _, hb⟩
  · unfold rnR rnL rnH; rw [if_neg h, if_neg h, if_neg h, he]
  · unfold rnL; rw [if_neg h]; exact Ints.none_ _
theorem ZR.bad {r : Int} {L : List Int} {q er : Int} {w w' : World} (he : rzE r L q = er) (h0 : er ≠ 0) (hb : Below w.heap.size w w') : ZR r L q w (.returned (.tuple #[cv 0 none 0 [], .slice none 0 0, .int .i64 er])) w' := by
  have h : ¬ rzE r L q = 0 := by rw [he]; exact h0
  refine ⟨none, 0, none, 0, ?_, ?_, ?_, FA.none_ _, FA.none_ _, hb⟩
  · unfold rzR rzL rzO; rw [if_neg h, if_neg h, if_neg h, he]; rfl
  · unfold rzL; rw [if_neg h]; exact Ints.none_ _
  · unfold rzO; rw [if_neg h]; exact Ints.none_ _

set_option maxHeartbeats 4000000 in
theorem access_any (r : Int) (A : Option Addr) (c : Nat) (L : List Int) (x : Int) (w : World) (hI : Ints w A c L) :
    Calls Try.prog 22 #[cv r A c L, .int .i64 x] w (AR r L x w) := by
  have HS := Lib.hid (CS.new (n := w.heap.size) (r := r) (A := A) (c := c) (L := L) w rfl)
  have HB0 : Hid (Below w.heap.size w (w.alloc (co r A c L))) := Lib.hid ((Below.refl _ w).alloc (Nat.le_refl _) (co r A c L))
  have HI := Lib.hid hI
  clear hI
  by_cases h0 : checkC r L = 0
  · have H0 := Lib.hid h0
    have HGd := Lib.hid (check_zero.1 h0)
    by_cases h1 : isK x
    · have HE : Hid (acE r L x = 0) := Lib.hid (by unfold acE; rw [if_pos h0, if_pos h1])
      have p1 : decide (isK x) = true := by simpa using h1
      clear h0 h1
      go_enter Try.func22, Try.ntmps22
      go_wp2_with fail
      refine (check_any r A c L _ (HI.out.below (HB0.out.trans ((CS.below HS.out).mono (by omega))))).mono ?_
      rintro e w1 ⟨rfl, hb1⟩
      have HS1 := Lib.hid (CS.next HS.out (CS.size HS.out) hb1)
      clear hb1 HS
      generalize (w.alloc (co r A c L)) = w0 at *
      generalize hn : w.heap.size = n at *
      have HN := Lib.hid hn
      clear hn
      rw [H0.out]
      go_wp2_with fail
      refine (isKey_any _ _).mono ?_
      rintro e w2 ⟨rfl, rfl⟩
      rw [p1]
      have HI1 : Hid (Ints w1 A c L) := Lib.hid (HI.out.below (w' := w1) (by rw [HN.out]; exact HB0.out.trans ((CS.below HS1.out).mono (by omega))))
      have HC := Lib.hid (clone_any A c L w1.drew HI1.out (by have := HGd.out.few; have := HGd.out.room.2; omega))
      have HU := Lib.hid (fun (v : Value) (w2 : World) (ho : OwnI w2 w1.heap.size v L) (hB : w1.heap.size ≤ w2.heap.size) => use_any w1.heap.size v L r x w2 ho hB HGd.out.room HGd.out.few)
      have HZ1 := Lib.hid (CS.size HS1.out)
      have HK : Hid (∀ w' : World, Below w1.heap.size w1 w' → w'.cell? ⟨n, 0, none⟩ = some (.int .i64 r) ∧ w'.cell? ⟨n, 1, none⟩ = some (.slice A L.length c)) := Lib.hid (fun w' hb => by
        have := CS.next HS1.out (CS.size HS1.out) hb
        exact ⟨this.1, this.2.1⟩)
      go_wp2
      go_region_held3 (fun w' => w'.cell? ⟨n, 0, none⟩ = some (.int .i64 r) ∧ w'.cell? ⟨n, 1, none⟩ = some (.slice A L.length c))
        (first | exact HK.out _ hB5 | exact HK.out _ hB4 | exact HK.out _ (Below.refl _ _).drew)
        (first
          | (go_at_call 40; refine HC.out.mono ?_; rintro e w4 ⟨v4, rfl, ho4, hb4⟩; have hB4 : Below w1.heap.size w1 w4 := below_undrew hb4)
          | (go_at_call 39; refine (HU.out v4 w4 ho4 hB4.size).mono ?_; rintro e w5 ⟨v5, rfl, ho5, hb5⟩; have hB5 : Below w1.heap.size w1 w5 := hB4.trans hb5))
      have HS5 := Lib.hid (CS.next HS1.out HZ1.out hB5)
      obtain ⟨A5, c5, rfl, hI5, hA5⟩ := ints_of_own2 ho5
      have HI5 := Lib.hid hI5
      have HA5 := Lib.hid hA5
      rename_i hHH
      clear hHH hB4 hb4 hb5 ho4 ho5 hB5 hI5 hA5
      obtain ⟨x0, x1, r0, r1, f0, f1, -, -⟩ := HS5.out
      obtain ⟨LL, hLL⟩ : ∃ LL, LL = touch r L x := ⟨_, rfl⟩
      rw [← hLL] at HI5 ⊢
      have HLL := Lib.hid hLL
      clear hLL
      go_wp2
      refine bodyPost_ret (v := .tuple #[cv r A5 c5 LL, .bool (decide (x ∈ L)), .int .i64 (gone r L x), .int .i64 0]) (by simp [results, Try.results22, go_sem, r0, r1]) rfl ?_
      refine ⟨A5, c5, ?_, ?_, fun a ha => by have := HA5.out a ha; have := HZ1.out; rw [HN.out]; omega, by rw [HN.out]; exact HB0.out.trans (below_set2 (CS.below HS5.out) _ _ |>.mono (by omega))⟩
      · unfold acR acL acH acG; rw [HE.out, if_pos rfl, if_pos rfl, if_pos rfl, if_pos rfl, HLL.out]
      · unfold acL; rw [HE.out, if_pos rfl, ← HLL.out]
        exact ints_set2 HI5.out (fun a ha => Nat.lt_of_lt_of_le HZ1.out (HA5.out a ha)) _ _
    · have HE : Hid (acE r L x = 3) := Lib.hid (by unfold acE; rw [if_pos h0, if_neg h1])
      have p1 : decide (isK x) = false := by simpa using h1
      clear h0 h1
      go_enter Try.func22, Try.ntmps22
      go_wp2_with fail
      refine (check_any r A c L _ (HI.out.below (HB0.out.trans ((CS.below HS.out).mono (by omega))))).mono ?_
      rintro e w1 ⟨rfl, hb1⟩
      have HS1 := Lib.hid (CS.next HS.out (CS.size HS.out) hb1)
      clear hb1 HS
      generalize (w.alloc (co r A c L)) = w0 at *
      generalize hn : w.heap.size = n at *
      have HN := Lib.hid hn
      clear hn
      rw [H0.out]
      go_wp2_with fail
      refine (isKey_any _ _).mono ?_
      rintro e w2 ⟨rfl, rfl⟩
      rw [p1]
      obtain ⟨-, -, r0, r1, f0, f1, -, -⟩ := HS1.out
      go_wp2
      refine bodyPost_ret (v := .tuple #[cv 0 none 0 [], .bool false, .int .i64 0, .int .i64 3]) (by simp [results, Try.results22, go_sem, r0, r1]; try exact ⟨rfl, rfl⟩) rfl ?_
      exact AR.bad HE.out (by decide) (by rw [HN.out]; exact HB0.out.trans (below_set2 (CS.below HS1.out) _ _ |>.mono (by omega)))
  · have HE : Hid (acE r L x = checkC r L) := Lib.hid (by unfold acE; rw [if_neg h0])
    have H0 := Lib.hid h0
    have q : (checkC r L != 0) = true := by simpa using h0
    clear h0
    go_enter Try.func22, Try.ntmps22
    go_wp2_with fail
    refine (check_any r A c L _ (HI.out.below (HB0.out.trans ((CS.below HS.out).mono (by omega))))).mono ?_
    rintro e w1 ⟨rfl, hb1⟩
    have HS1 := Lib.hid (CS.next HS.out (CS.size HS.out) hb1)
    clear hb1 HS
    generalize (w.alloc (co r A c L)) = w0 at *
    generalize hn : w.heap.size = n at *
    have HN := Lib.hid hn
    clear hn
    obtain ⟨-, -, r0, r1, f0, f1, -, -⟩ := HS1.out
    go_wp2
    refine bodyPost_ret (v := .tuple #[cv 0 none 0 [], .bool false, .int .i64 0, .int .i64 (checkC r L)]) (by simp [results, Try.results22, go_sem, r0, r1]; try exact ⟨rfl, rfl⟩) rfl ?_
    exact AR.bad HE.out H0.out (by rw [HN.out]; exact HB0.out.trans (below_set2 (CS.below HS1.out) _ _ |>.mono (by omega)))

end Go.Proofs.Ytjmhemkbfephpaa.Lru
