/-
  What Access, Run, Age and Victim of package lfu return.
-/
import Derived.Test.YtdliacdmoeogcaaLfuApi
namespace Go.Proofs.Ytdliacdmoeogcaa.Lfu
open Go.RowKit
open Lru (isRm isK keysE keysE_zero traceE trace_zero)
set_option linter.unusedVariables false
set_option maxRecDepth 100000

/-! ### The answers -/
def acE (r : Int) (F : List Us) (x : Int) : Int := if checkK r F = 0 then (if isK x then 0 else 3) else checkK r F
def acR (r : Int) (F : List Us) (x : Int) : Int := if acE r F x = 0 then r else 0
def acF (r : Int) (F : List Us) (x : Int) : List Us := if acE r F x = 0 then tch r F x else []
def acH (r : Int) (F : List Us) (x : Int) : Bool := if acE r F x = 0 then decide (x ∈ keys F) else false
def acG (r : Int) (F : List Us) (x : Int) : Int := if acE r F x = 0 then gone r F x else 0
def rnE (r : Int) (F : List Us) (xs : List Int) : Int := if checkK r F = 0 then traceE xs else checkK r F
def rnR (r : Int) (F : List Us) (xs : List Int) : Int := if rnE r F xs = 0 then r else 0
def rnF (r : Int) (F : List Us) (xs : List Int) : List Us := if rnE r F xs = 0 then runU r F xs else []
def rnH (r : Int) (F : List Us) (xs : List Int) : Int := if rnE r F xs = 0 then (hitsU r F xs : Int) else 0
def agR (r : Int) (F : List Us) : Int := if checkK r F = 0 then r else 0
def agF (r : Int) (F : List Us) : List Us := if checkK r F = 0 then half F else []
def viE (r : Int) (F : List Us) : Int := if checkK r F = 0 then (if F.length = 0 then 5 else 0) else checkK r F
def viN (r : Int) (F : List Us) : Int := if viE r F = 0 then (gu F (vicN F)).key else 0
/-- A slice of the call's own (or nil). -/
def FA (w : World) (A : Option Addr) : Prop := ∀ a, A = some a → w.heap.size ≤ a.block
theorem FA.none_ (w : World) : FA w none := fun a h => (by cases h)
def AR (r : Int) (F : List Us) (x : Int) (w : World) (e : Ending) (w' : World) : Prop :=
  ∃ A c, e = .returned (.tuple #[kv (acR r F x) (.slice A (acF r F x).length c), .bool (acH r F x), .int .i64 (acG r F x), .int .i64 (acE r F x)]) ∧ Uss w' A c (acF r F x) ∧ FA w A ∧ Below w.heap.size w w'
def NR (r : Int) (F : List Us) (xs : List Int) (w : World) (e : Ending) (w' : World) : Prop :=
  ∃ A c, e = .returned (.tuple #[kv (rnR r F xs) (.slice A (rnF r F xs).length c), .int .i64 (rnH r F xs), .int .i64 (rnE r F xs)]) ∧ Uss w' A c (rnF r F xs) ∧ FA w A ∧ Below w.heap.size w w'
def GR (r : Int) (F : List Us) (w : World) (e : Ending) (w' : World) : Prop :=
  ∃ A c, e = .returned (.tuple #[kv (agR r F) (.slice A (agF r F).length c), .int .i64 (checkK r F)]) ∧ Uss w' A c (agF r F) ∧ FA w A ∧ Below w.heap.size w w'
abbrev nk : Value := kv 0 (.slice none 0 0)
abbrev zk : Obj := ko 0 (.slice none 0 0)
theorem AR.bad {r : Int} {F : List Us} {x er : Int} {w w' : World} (he : acE r F x = er) (h0 : er ≠ 0) (hb : Below w.heap.size w w') : AR r F x w (.returned (.tuple #[nk, .bool false, .int .i64 0, .int .i64 er])) w' := by
  have h : ¬ acE r F x = 0 := by rw [he]; exact h0
  refine ⟨none, 0, ?_, ?_, FA.none_ _, hb⟩
  · unfold acR acF acH acG; rw [if_neg h, if_neg h, if_neg h, if_neg h, he]; rfl
  · unfold acF; rw [if_neg h]; exact Uss.none_ _
theorem NR.bad {r : Int} {F : List Us} {xs : List Int} {er : Int} {w w' : World} (he : rnE r F xs = er) (h0 : er ≠ 0) (hb : Below w.heap.size w w') : NR r F xs w (.returned (.tuple #[nk, .int .i64 0, .int .i64 er])) w' := by
  have h : ¬ rnE r F xs = 0 := by rw [he]; exact h0
  refine ⟨none, 0, ?_, ?_, FA.none_ _, hb⟩
  · unfold rnR rnF rnH; rw [if_neg h, if_neg h, if_neg h, he]; rfl
  · unfold rnF; rw [if_neg h]; exact Uss.none_ _
theorem GR.bad {r : Int} {F : List Us} {er : Int} {w w' : World} (he : checkK r F = er) (h0 : er ≠ 0) (hb : Below w.heap.size w w') : GR r F w (.returned (.tuple #[nk, .int .i64 er])) w' := by
  have h : ¬ checkK r F = 0 := by rw [he]; exact h0
  refine ⟨none, 0, ?_, ?_, FA.none_ _, hb⟩
  · unfold agR agF; rw [if_neg h, if_neg h, he]; rfl
  · unfold agF; rw [if_neg h]; exact Uss.none_ _
theorem AR.good {r : Int} {F : List Us} {x : Int} {w w' : World} {A : Option Addr} {c n : Nat} (he : acE r F x = 0) (hn' : n = (tch r F x).length) (hF : Uss w' A c (tch r F x)) (hA : FA w A) (hb : Below w.heap.size w w') :
    AR r F x w (.returned (.tuple #[kv r (.slice A n c), .bool (decide (x ∈ keys F)), .int .i64 (gone r F x), .int .i64 0])) w' := by
  subst hn'
  refine ⟨A, c, ?_, ?_, hA, hb⟩
  · unfold acR acF acH acG; rw [he, if_pos rfl, if_pos rfl, if_pos rfl, if_pos rfl]
  · unfold acF; rw [he, if_pos rfl]; exact hF
theorem NR.good {r : Int} {F : List Us} {xs : List Int} {w w' : World} {A : Option Addr} {c n : Nat} (he : rnE r F xs = 0) (hn' : n = (runU r F xs).length) (hF : Uss w' A c (runU r F xs)) (hA : FA w A) (hb : Below w.heap.size w w') :
    NR r F xs w (.returned (.tuple #[kv r (.slice A n c), .int .i64 (hitsU r F xs : Int), .int .i64 0])) w' := by
  subst hn'
  refine ⟨A, c, ?_, ?_, hA, hb⟩
  · unfold rnR rnF rnH; rw [he, if_pos rfl, if_pos rfl, if_pos rfl]
  · unfold rnF; rw [he, if_pos rfl]; exact hF
theorem GR.good {r : Int} {F : List Us} {w w' : World} {A : Option Addr} {c n : Nat} (he : checkK r F = 0) (hn' : n = F.length) (hF : Uss w' A c (half F)) (hA : FA w A) (hb : Below w.heap.size w w') :
    GR r F w (.returned (.tuple #[kv r (.slice A n c), .int .i64 0])) w' := by
  subst hn'
  refine ⟨A, c, ?_, ?_, hA, hb⟩
  · unfold agR agF; rw [he, if_pos rfl, if_pos rfl, half_len]
  · unfold agF; rw [he, if_pos rfl]; exact hF
theorem Kb.neF {w : World} {p : Nat} {r : Int} {v : Value} {B : Option Addr} (k : Kb w p r v) (hA : FA w B) : ∀ a, B = some a → p ≠ a.block := fun a ha e => by have := hA a ha; have := k.lt; omega
/-- The two boxes of a function of the package: its argument and its result. -/
theorem box2 (w : World) (r : Int) (v : Value) : Kb ((w.alloc (ko r v)).alloc zk) w.heap.size r v ∧ Kb ((w.alloc (ko r v)).alloc zk) (w.heap.size + 1) 0 (.slice none 0 0) ∧ Below w.heap.size w ((w.alloc (ko r v)).alloc zk) := by
  refine ⟨(Kb.new w r _).alloc _, ?_, bel_al (bel_al (Below.refl _ _) (Nat.le_refl _) _) (by simp) _⟩
  have := Kb.new (w.alloc (ko r v)) 0 (.slice none 0 0)
  rwa [show (w.alloc (ko r v)).heap.size = w.heap.size + 1 by simp] at this

set_option maxHeartbeats 4000000 in
theorem access_any (r : Int) (A : Option Addr) (c : Nat) (F : List Us) (x : Int) (w : World) (hF : Uss w A c F) :
    Calls Try.prog 7 #[kv r (.slice A F.length c), .int .i64 x] w (AR r F x w) := by
  obtain ⟨hk0, hz0, hb0⟩ := box2 w r (.slice A F.length c)
  have HK0 := Lib.hid hk0
  have HZ0 := Lib.hid hz0
  have HB0 := Lib.hid hb0
  have HF0 := Lib.hid (hF.below hb0)
  clear hk0 hz0 hb0 hF
  have HC := Lib.hid (check_any r A c F _ HF0.out)
  by_cases h0 : checkK r F = 0
  · have HG := Lib.hid (check_zero.1 h0)
    rw [h0] at HC
    by_cases h1 : isK x
    · have HE : Hid (acE r F x = 0) := Lib.hid (by unfold acE; rw [if_pos h0, if_pos h1])
      have p1 : decide (isK x) = true := by simpa using h1
      clear h0 h1
      obtain ⟨x1, x2, -, -⟩ := HK0.out.cells
      go_enter Try.func7, Try.ntmps7
      go_wp2_with fail
      refine HC.out.mono ?_
      rintro e w1 ⟨rfl, hb1⟩
      have HK1 := Lib.hid (HK0.out.below hb1)
      have HZ1 := Lib.hid (HZ0.out.below hb1)
      have HB1 : Hid (Below w.heap.size w w1) := Lib.hid (HB0.out.trans (hb1.mono HB0.out.size))
      have HF1 := Lib.hid (HF0.out.below hb1)
      clear hb1 x1 x2
      go_wp2_with fail
      refine (isKey_any _ _).mono ?_
      rintro e w2 ⟨rfl, rfl⟩
      rw [p1]
      have HCl := Lib.hid (sclone_any A c F w1.drew HF1.out.drew (by have := HG.out.len40; omega))
      have HS : Hid (∀ W, Below w1.heap.size w1 W → W.cell? ⟨w.heap.size, 0, none⟩ = some (.int .i64 r) ∧ W.cell? ⟨w.heap.size, 1, none⟩ = some (.slice A F.length c)) := Lib.hid (fun W hW => ⟨(HK1.out.below hW).cells.1, (HK1.out.below hW).cells.2.1⟩)
      have HU := Lib.hid (fun (v : Value) (W : World) (hW : OwnU W w1.heap.size v F) (hs : w1.heap.size ≤ W.heap.size) => acc_any w1.heap.size v F r x W hW hs HG.out)
      unfold UR at HU
      obtain ⟨n, hn⟩ : ∃ n, F.length = n := ⟨_, rfl⟩
      rw [hn] at HS
      rw [hn] at HCl
      clear hn
      go_wp2
      go_region_held3 (fun w' => w'.cell? ⟨w.heap.size, 0, none⟩ = some (.int .i64 r) ∧ w'.cell? ⟨w.heap.size, 1, none⟩ = some (.slice A n c))
        (first | exact HS.out _ hB7 | exact HS.out _ hB5 | exact HS.out _ (Below.refl _ _).drew)
        (first
          | (go_at_call 22; refine HCl.out.mono ?_; rintro e w5 ⟨v5, rfl, ho5, hb5⟩; have hB5 : Below w1.heap.size w1 w5 := (Below.refl _ _).drew.trans hb5)
          | (go_at_call 21; refine (HU.out v5 w5 ho5 hB5.size).mono ?_; rintro e w7 ⟨v7, rfl, ho7, hb7⟩; have hB7 : Below w1.heap.size w1 w7 := hB5.trans hb7))
      rename_i hHH
      have HO7 := Lib.hid ho7
      have HB7 := Lib.hid hB7
      obtain ⟨A7, c7, rfl, hF7, hA7⟩ := uss_of_own ho7
      have HF7 := Lib.hid hF7
      have HA7 := Lib.hid hA7
      clear hHH ho7 hB7 hF7 hA7 hb7 hB5 hb5 ho5
      have HZ7 := Lib.hid (HZ1.out.below HB7.out)
      have HK7 := Lib.hid (HK1.out.below HB7.out)
      have HL : Hid (w.heap.size + 1 < w1.heap.size) := Lib.hid HZ1.out.lt
      have HA8 : Hid (∀ a, A7 = some a → w.heap.size + 1 ≠ a.block) := Lib.hid (fun a ha => by have := HA7.out a ha; have := HL.out; omega)
      have HA9 : Hid (FA w A7) := Lib.hid (fun a ha => by have := HA7.out a ha; have := HL.out; omega)
      have HBw : Hid (Below w.heap.size w w7) := Lib.hid (HB1.out.trans (HB7.out.mono HB1.out.size))
      obtain ⟨n7, hn7⟩ : ∃ n7, n7 = (tch r F x).length := ⟨_, rfl⟩
      rw [← hn7]
      have HN7 := Lib.hid hn7
      clear hn7
      obtain ⟨x1, x2, -, -⟩ := HK7.out.cells
      obtain ⟨z1, z2, u1, u2⟩ := HZ7.out.cells
      go_wp2
      refine bodyPost_ret (v := .tuple #[kv r (.slice A7 n7 c7), .bool (decide (x ∈ keys F)), .int .i64 (gone r F x), .int .i64 0]) (by simp [results, Try.results7, go_sem, z1, z2]) rfl ?_
      exact AR.good HE.out HN7.out (HF7.out.set2 HA8.out _ _) HA9.out (bel_set2 HBw.out (p := w.heap.size + 1) (by omega) _ _)
    · have HE : Hid (acE r F x = 3) := Lib.hid (by unfold acE; rw [if_pos h0, if_neg h1])
      have p1 : decide (isK x) = false := by simpa using h1
      clear h0 h1
      obtain ⟨x1, x2, -, -⟩ := HK0.out.cells
      go_enter Try.func7, Try.ntmps7
      go_wp2_with fail
      refine HC.out.mono ?_
      rintro e w1 ⟨rfl, hb1⟩
      have HZ1 := Lib.hid (HZ0.out.below hb1)
      have HB1 : Hid (Below w.heap.size w w1) := Lib.hid (HB0.out.trans (hb1.mono HB0.out.size))
      clear hb1 x1 x2
      go_wp2_with fail
      refine (isKey_any _ _).mono ?_
      rintro e w2 ⟨rfl, rfl⟩
      rw [p1]
      obtain ⟨z1, z2, u1, u2⟩ := HZ1.out.cells
      go_wp2
      refine bodyPost_ret (v := .tuple #[nk, .bool false, .int .i64 0, .int .i64 3]) (by simp [results, Try.results7, go_sem, z1, z2]) rfl ?_
      exact AR.bad HE.out (by decide) (bel_set2 HB1.out (p := w.heap.size + 1) (by omega) _ _)
  · have HE : Hid (acE r F x = checkK r F) := Lib.hid (by unfold acE; rw [if_neg h0])
    have H0 := Lib.hid h0
    have q : (checkK r F != 0) = true := by simpa using h0
    clear h0
    obtain ⟨x1, x2, -, -⟩ := HK0.out.cells
    go_enter Try.func7, Try.ntmps7
    go_wp2_with fail
    refine HC.out.mono ?_
    rintro e w1 ⟨rfl, hb1⟩
    have HZ1 := Lib.hid (HZ0.out.below hb1)
    have HB1 : Hid (Below w.heap.size w w1) := Lib.hid (HB0.out.trans (hb1.mono HB0.out.size))
    clear hb1 x1 x2
    obtain ⟨z1, z2, u1, u2⟩ := HZ1.out.cells
    go_wp2
    refine bodyPost_ret (v := .tuple #[nk, .bool false, .int .i64 0, .int .i64 (checkK r F)]) (by simp [results, Try.results7, go_sem, z1, z2]) rfl ?_
    exact AR.bad HE.out H0.out (bel_set2 HB1.out (p := w.heap.size + 1) (by omega) _ _)

end Go.Proofs.Ytdliacdmoeogcaa.Lfu
