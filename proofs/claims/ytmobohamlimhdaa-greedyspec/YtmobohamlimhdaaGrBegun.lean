/-
  What must be in any case: the laws' first test (hoardBegun) is true.
-/
import Derived.Test.YtmobohamlimhdaaGrApi
import Derived.Test.YtmobohamlimhdaaGrApi2
namespace Go.Proofs.Ytmobohamlimhdaa.Grd
open Go.RowKit
open Lru (isK)
set_option linter.unusedVariables false
set_option maxRecDepth 100000

/-- Access at given answers. -/
abbrev AcC (r fl : Int) (L : List It) (t : It) (r' fl' : Int) (M : List It) (n : Nat) (h : Bool) (G : List Int) (m : Nat) (er : Int) : Prop :=
  ∀ (A : Option Addr) (c : Nat) (W : World), Tss W A c L → ∀ k, k = L.length → Calls Try.prog 7 #[kv r fl (.slice A k c), fv t] W fun e w' =>
    ∃ A' c' B d, e = .returned (.tuple #[kv r' fl' (.slice A' n c'), .bool h, .slice B m d, .int .i64 er]) ∧ Tss w' A' c' M ∧ Ints w' B d G ∧ FA W A' ∧ FA W B ∧ Below W.heap.size W w'
theorem acC_of {r fl : Int} {L : List It} {t : It} {r' fl' : Int} {M : List It} {n : Nat} {h : Bool} {G : List Int} {m : Nat} {er : Int} (h1 : acR r fl L t = r') (h2 : acF r fl L t = fl') (h3 : acL r fl L t = M) (h4 : acH r fl L t = h) (h5 : acG r fl L t = G) (h6 : acE r fl L t = er) (hn : M.length = n) (hm : G.length = m) : AcC r fl L t r' fl' M n h G m er := by
  subst h1; subst h2; subst h3; subst h4; subst h5; subst h6; subst hn; subst hm
  intro A c W hT k hk
  subst hk
  exact access_any r fl A c L t W hT
/-- Block p holds a cache whose items read as L. -/
structure VK (w : World) (p : Nat) (r fl : Int) (A : Option Addr) (n c : Nat) (L : List It) : Prop where
  box : Kb w p r fl (.slice A n c)
  things : Tss w A c L
  len : L.length = n
theorem VK.below {w w' : World} {p : Nat} {r fl : Int} {A : Option Addr} {n c : Nat} {L : List It} (h : VK w p r fl A n c L) (hb : Below w.heap.size w w') : VK w' p r fl A n c L := ⟨h.box.below hb, h.things.below hb, h.len⟩
theorem VK.new {w : World} {r fl : Int} {A : Option Addr} {n c : Nat} {L : List It} (h : Tss w A c L) (hn : L.length = n) : VK (w.alloc (ko r fl (.slice A n c))) w.heap.size r fl A n c L := ⟨Kb.new _ _ _ _, h.alloc _, hn⟩
/-- The variable is written over. -/
theorem VK.put {w : World} {p : Nat} {r fl r' fl' : Int} {A A' : Option Addr} {n c n' c' : Nat} {L M : List It} (h : VK w p r fl A n c L) (hT : Tss w A' c' M) (hn : M.length = n') (hA : ∀ a, A' = some a → p ≠ a.block) :
    VK (((w.setCell ⟨p, 0, none⟩ (.int .i64 r')).setCell ⟨p, 1, none⟩ (.int .i64 fl')).setCell ⟨p, 2, none⟩ (.slice A' n' c')) p r' fl' A' n' c' M := ⟨h.box.put3 _ _ _, hT.set3 hA _ _ _, hn⟩

theorem bg1 : acR 10 0 [] ⟨1, 4, 8, 0⟩ = 10 ∧ acF 10 0 [] ⟨1, 4, 8, 0⟩ = 0 ∧ acL 10 0 [] ⟨1, 4, 8, 0⟩ = [⟨1, 4, 8, 2048⟩] ∧ acH 10 0 [] ⟨1, 4, 8, 0⟩ = false ∧ acG 10 0 [] ⟨1, 4, 8, 0⟩ = [] ∧ acE 10 0 [] ⟨1, 4, 8, 0⟩ = 0 := by decide
theorem bg2 : acR 10 0 [⟨1, 4, 8, 2048⟩] ⟨2, 4, 4, 0⟩ = 10 ∧ acF 10 0 [⟨1, 4, 8, 2048⟩] ⟨2, 4, 4, 0⟩ = 0 ∧ acL 10 0 [⟨1, 4, 8, 2048⟩] ⟨2, 4, 4, 0⟩ = [⟨1, 4, 8, 2048⟩, ⟨2, 4, 4, 1024⟩] ∧ acH 10 0 [⟨1, 4, 8, 2048⟩] ⟨2, 4, 4, 0⟩ = false ∧ acG 10 0 [⟨1, 4, 8, 2048⟩] ⟨2, 4, 4, 0⟩ = [] ∧ acE 10 0 [⟨1, 4, 8, 2048⟩] ⟨2, 4, 4, 0⟩ = 0 := by decide
theorem bg3 : acR 10 0 [⟨1, 4, 8, 2048⟩, ⟨2, 4, 4, 1024⟩] ⟨3, 4, 2, 0⟩ = 10 ∧ acF 10 0 [⟨1, 4, 8, 2048⟩, ⟨2, 4, 4, 1024⟩] ⟨3, 4, 2, 0⟩ = 1024 ∧ acL 10 0 [⟨1, 4, 8, 2048⟩, ⟨2, 4, 4, 1024⟩] ⟨3, 4, 2, 0⟩ = [⟨1, 4, 8, 2048⟩, ⟨3, 4, 2, 1536⟩] ∧ acH 10 0 [⟨1, 4, 8, 2048⟩, ⟨2, 4, 4, 1024⟩] ⟨3, 4, 2, 0⟩ = false ∧ acG 10 0 [⟨1, 4, 8, 2048⟩, ⟨2, 4, 4, 1024⟩] ⟨3, 4, 2, 0⟩ = [2] ∧ acE 10 0 [⟨1, 4, 8, 2048⟩, ⟨2, 4, 4, 1024⟩] ⟨3, 4, 2, 0⟩ = 0 := by decide
theorem bg4 : acR 10 1024 [⟨1, 4, 8, 2048⟩, ⟨3, 4, 2, 1536⟩] ⟨1, 1, 0, 0⟩ = 10 ∧ acF 10 1024 [⟨1, 4, 8, 2048⟩, ⟨3, 4, 2, 1536⟩] ⟨1, 1, 0, 0⟩ = 1024 ∧ acL 10 1024 [⟨1, 4, 8, 2048⟩, ⟨3, 4, 2, 1536⟩] ⟨1, 1, 0, 0⟩ = [⟨1, 4, 8, 3072⟩, ⟨3, 4, 2, 1536⟩] ∧ acH 10 1024 [⟨1, 4, 8, 2048⟩, ⟨3, 4, 2, 1536⟩] ⟨1, 1, 0, 0⟩ = true ∧ acG 10 1024 [⟨1, 4, 8, 2048⟩, ⟨3, 4, 2, 1536⟩] ⟨1, 1, 0, 0⟩ = [] ∧ acE 10 1024 [⟨1, 4, 8, 2048⟩, ⟨3, 4, 2, 1536⟩] ⟨1, 1, 0, 0⟩ = 0 := by decide
theorem bg5 : checkG 8 10 1024 [⟨1, 4, 8, 3072⟩, ⟨3, 4, 2, 1536⟩] = 0 ∧ toS 10 1024 [⟨1, 4, 8, 3072⟩, ⟨3, 4, 2, 1536⟩] = 8 ∧ toC 10 1024 [⟨1, 4, 8, 3072⟩, ⟨3, 4, 2, 1536⟩] = 10 := by decide
theorem bg6 : viK 10 1024 [⟨1, 4, 8, 3072⟩, ⟨3, 4, 2, 1536⟩] = 3 ∧ viE 10 1024 [⟨1, 4, 8, 3072⟩, ⟨3, 4, 2, 1536⟩] = 0 ∧ checkG 8 0 0 [] = 3 := by decide

set_option maxHeartbeats 8000000 in
theorem begun_any (w : World) : Calls Try.prog 15 #[] w fun e w' => e = .returned (.bool true) ∧ Below w.heap.size w w' := by
  have C1 : Hid (AcC 10 0 [] ⟨1, 4, 8, 0⟩ 10 0 [⟨1, 4, 8, 2048⟩] 1 false [] 0 0) := Lib.hid (acC_of bg1.1 bg1.2.1 bg1.2.2.1 bg1.2.2.2.1 bg1.2.2.2.2.1 bg1.2.2.2.2.2 rfl rfl)
  have C2 : Hid (AcC 10 0 [⟨1, 4, 8, 2048⟩] ⟨2, 4, 4, 0⟩ 10 0 [⟨1, 4, 8, 2048⟩, ⟨2, 4, 4, 1024⟩] 2 false [] 0 0) := Lib.hid (acC_of bg2.1 bg2.2.1 bg2.2.2.1 bg2.2.2.2.1 bg2.2.2.2.2.1 bg2.2.2.2.2.2 rfl rfl)
  have C3 : Hid (AcC 10 0 [⟨1, 4, 8, 2048⟩, ⟨2, 4, 4, 1024⟩] ⟨3, 4, 2, 0⟩ 10 1024 [⟨1, 4, 8, 2048⟩, ⟨3, 4, 2, 1536⟩] 2 false [2] 1 0) := Lib.hid (acC_of bg3.1 bg3.2.1 bg3.2.2.1 bg3.2.2.2.1 bg3.2.2.2.2.1 bg3.2.2.2.2.2 rfl rfl)
  have C4 : Hid (AcC 10 1024 [⟨1, 4, 8, 2048⟩, ⟨3, 4, 2, 1536⟩] ⟨1, 1, 0, 0⟩ 10 1024 [⟨1, 4, 8, 3072⟩, ⟨3, 4, 2, 1536⟩] 2 true [] 0 0) := Lib.hid (acC_of bg4.1 bg4.2.1 bg4.2.2.1 bg4.2.2.2.1 bg4.2.2.2.2.1 bg4.2.2.2.2.2 rfl rfl)
  have C5 : Hid (∀ (A : Option Addr) (c : Nat) (W : World), Tss W A c [⟨1, 4, 8, 3072⟩, ⟨3, 4, 2, 1536⟩] → Calls Try.prog 8 #[kv 10 1024 (.slice A 2 c)] W fun e w' => e = .returned (.tuple #[.int .i64 8, .int .i64 10, .int .i64 0]) ∧ Below W.heap.size W w') := Lib.hid (fun A c W hT => by have h := totalA_any 10 1024 A c _ W hT; rwa [bg5.1, bg5.2.1, bg5.2.2] at h)
  have C6 : Hid (∀ (A : Option Addr) (c : Nat) (W : World), Tss W A c [⟨1, 4, 8, 3072⟩, ⟨3, 4, 2, 1536⟩] → Calls Try.prog 9 #[kv 10 1024 (.slice A 2 c)] W fun e w' => e = .returned (.tuple #[.int .i64 3, .int .i64 0]) ∧ Below W.heap.size W w') := Lib.hid (fun A c W hT => by have h := victimA_any 10 1024 A c _ W hT; rwa [bg6.1, bg6.2.1] at h)
  have C7 : Hid (∀ (W : World), Calls Try.prog 16 #[nk] W fun e w' => e = .returned (.int .i64 3) ∧ Below W.heap.size W w') := Lib.hid (fun W => by have h := check_any 0 0 none 0 [] W (Tss.none_ W); unfold CkC at h; rwa [bg6.2.2] at h)
  go_enter Try.func15, Try.ntmps15
  go_wp2_with fail
  refine (C1.out none 0 _ (Tss.none_ _) 0 rfl).mono ?_
  rintro e w1 ⟨A1, c1, B1, d1, rfl, ht1, -, ha1, -, hb1⟩
  have HV1 : Hid (VK (w1.alloc (ko 10 0 (.slice A1 1 c1))) w1.heap.size 10 0 A1 1 c1 [⟨1, 4, 8, 2048⟩]) := Lib.hid (VK.new ht1 rfl)
  have HB1 : Hid (Below w.heap.size w (w1.alloc (ko 10 0 (.slice A1 1 c1)))) := Lib.hid (bel_al hb1 hb1.size _)
  have HP : Hid (w.heap.size ≤ w1.heap.size) := Lib.hid hb1.size
  clear hb1 ht1 ha1
  obtain ⟨x0, x1, x2⟩ := HV1.out.box.cells
  go_wp2_with fail
  refine (C2.out A1 c1 _ HV1.out.things 1 rfl).mono ?_
  rintro e w2 ⟨A2, c2, B2, d2, rfl, ht2, -, ha2, -, hb2⟩
  clear x0 x1 x2
  obtain ⟨p, hp⟩ : ∃ p, p = w1.heap.size := ⟨_, rfl⟩
  have HV2 : Hid (VK w2 p 10 0 A1 1 c1 [⟨1, 4, 8, 2048⟩]) := Lib.hid (by rw [hp]; exact HV1.out.below hb2)
  have HB2 : Hid (Below w.heap.size w w2) := Lib.hid (HB1.out.trans (hb2.mono HB1.out.size))
  have HPp : Hid (w.heap.size ≤ p) := Lib.hid (by rw [hp]; exact HP.out)
  have hA : ∀ a, A2 = some a → p ≠ a.block := fun a ha e => by
    have h1 := ha2 a ha
    have h2 : p < (w1.alloc (ko 10 0 (.slice A1 1 c1))).heap.size := by rw [hp]; simp
    omega
  have HV3 : Hid (VK (((w2.setCell ⟨p, 0, none⟩ (.int .i64 10)).setCell ⟨p, 1, none⟩ (.int .i64 0)).setCell ⟨p, 2, none⟩ (.slice A2 2 c2)) p 10 0 A2 2 c2 [⟨1, 4, 8, 2048⟩, ⟨2, 4, 4, 1024⟩]) := Lib.hid (HV2.out.put ht2 rfl hA)
  have HB3 : Hid (Below w.heap.size w (((w2.setCell ⟨p, 0, none⟩ (.int .i64 10)).setCell ⟨p, 1, none⟩ (.int .i64 0)).setCell ⟨p, 2, none⟩ (.slice A2 2 c2))) := Lib.hid (bel_set3 HB2.out HPp.out _ _ _)
  rw [← hp]
  clear HP hp hb2 ht2 ha2 hA HV1 HB1
  obtain ⟨x0, x1, x2⟩ := HV2.out.box.cells
  obtain ⟨y0, y1, y2⟩ := HV2.out.box.free
  obtain ⟨z0, z1, z2⟩ := HV3.out.box.cells
  go_wp2_with fail
  clear x0 x1 x2 y0 y1 y2 z0 z1 z2 HV2 HB2
  generalize (((w2.setCell ⟨p, 0, none⟩ (.int .i64 10)).setCell ⟨p, 1, none⟩ (.int .i64 0)).setCell ⟨p, 2, none⟩ (.slice A2 2 c2)) = w3 at *
  refine (C3.out A2 c2 _ HV3.out.things 2 rfl).mono ?_
  rintro e w4 ⟨A4, c4, B4, d4, rfl, ht4, hi4, ha4, -, hb4⟩
  have HI4 : Hid (Ints (w4.alloc (ko 10 1024 (.slice A4 2 c4))) B4 d4 [2]) := Lib.hid (hi4.alloc _)
  have HV4 : Hid (VK (w4.alloc (ko 10 1024 (.slice A4 2 c4))) w4.heap.size 10 1024 A4 2 c4 [⟨1, 4, 8, 2048⟩, ⟨3, 4, 2, 1536⟩]) := Lib.hid (VK.new ht4 rfl)
  have HB4 : Hid (Below w.heap.size w (w4.alloc (ko 10 1024 (.slice A4 2 c4)))) := Lib.hid (bel_al (HB3.out.trans (hb4.mono HB3.out.size)) (HB3.out.trans (hb4.mono HB3.out.size)).size _)
  clear ht4 hi4 ha4 hb4 HV3 HB3
  obtain ⟨x0, x1, x2⟩ := HV4.out.box.cells
  go_wp2_with fail
  clear x0 x1 x2
  obtain ⟨q, hq⟩ : ∃ q, q = w4.heap.size := ⟨_, rfl⟩
  rw [← hq] at HV4 ⊢
  clear hq
  generalize w4.alloc (ko 10 1024 (.slice A4 2 c4)) = w5 at *
  refine (C4.out A4 c4 _ HV4.out.things 2 rfl).mono ?_
  rintro e w6 ⟨A6, c6, B6, d6, rfl, ht6, -, ha6, -, hb6⟩
  have HI6 : Hid (Ints (w6.alloc (ko 10 1024 (.slice A6 2 c6))) B4 d4 [2]) := Lib.hid ((HI4.out.below hb6).alloc _)
  have HX6 := Lib.hid ((HV4.out.below hb6).below (bel_al (Below.refl _ _) (Nat.le_refl _) (ko 10 1024 (.slice A6 2 c6))))
  have HV6 : Hid (VK (w6.alloc (ko 10 1024 (.slice A6 2 c6))) w6.heap.size 10 1024 A6 2 c6 [⟨1, 4, 8, 3072⟩, ⟨3, 4, 2, 1536⟩]) := Lib.hid (VK.new ht6 rfl)
  have hb6' : Below w.heap.size w w6 := HB4.out.trans (hb6.mono HB4.out.size)
  have HB6 : Hid (Below w.heap.size w (w6.alloc (ko 10 1024 (.slice A6 2 c6)))) := Lib.hid (bel_al hb6' hb6'.size _)
  clear ht6 ha6 hb6 hb6' HI4 HV4 HB4
  obtain ⟨x0, x1, x2⟩ := HV6.out.box.cells
  go_wp2_with fail
  clear x0 x1 x2
  obtain ⟨u, hu⟩ : ∃ u, u = w6.heap.size := ⟨_, rfl⟩
  rw [← hu] at HV6 ⊢
  clear hu
  generalize w6.alloc (ko 10 1024 (.slice A6 2 c6)) = w7 at *
  refine (C5.out A6 c6 _ HV6.out.things).mono ?_
  rintro e w8 ⟨rfl, hb8⟩
  have HI8 := Lib.hid (HI6.out.below hb8)
  have HX8 := Lib.hid (HX6.out.below hb8)
  have HV8 := Lib.hid (HV6.out.below hb8)
  have HB8 : Hid (Below w.heap.size w w8) := Lib.hid (HB6.out.trans (hb8.mono HB6.out.size))
  clear hb8 HI6 HX6 HV6 HB6
  obtain ⟨x0, x1, x2⟩ := HV8.out.box.cells
  go_wp2_with fail
  clear x0 x1 x2
  refine (C6.out A6 c6 _ HV8.out.things).mono ?_
  rintro e w9 ⟨rfl, hb9⟩
  have HI9 : Hid (Ints (w9.alloc (.cells #[.int .i64 2] 3)) B4 d4 [2]) := Lib.hid ((HI8.out.below hb9).alloc _)
  have HX9 := Lib.hid ((HX8.out.below hb9).below (bel_al (Below.refl _ _) (Nat.le_refl _) (.cells #[.int .i64 2] 3)))
  have HV9 := Lib.hid ((HV8.out.below hb9).below (bel_al (Below.refl _ _) (Nat.le_refl _) (.cells #[.int .i64 2] 3)))
  have hb9' : Below w.heap.size w w9 := HB8.out.trans (hb9.mono HB8.out.size)
  have HB9 : Hid (Below w.heap.size w (w9.alloc (.cells #[.int .i64 2] 3))) := Lib.hid (bel_al hb9' hb9'.size _)
  have HO9 : Hid (Ints (w9.alloc (.cells #[.int .i64 2] 3)) (some ⟨w9.heap.size, 0, none⟩) 1 [2]) := Lib.hid (Two.own_ints (Two.own_one1 w9 2 _ (Nat.le_refl _)))
  have HSm : Hid (Calls Try.prog 18 #[.slice B4 1 d4, .slice (some ⟨w9.heap.size, 0, none⟩) 1 1] (w9.alloc (.cells #[.int .i64 2] 3)) fun e w' => e = .returned (.bool true) ∧ Below (w9.alloc (.cells #[.int .i64 2] 3)).heap.size (w9.alloc (.cells #[.int .i64 2] 3)) w') := Lib.hid (by
    have h := sameInts_any B4 (some ⟨w9.heap.size, 0, none⟩) d4 1 [2] [2] _ HI9.out HO9.out
    simpa using h)
  clear hb9 hb9' HI8 HX8 HV8 HB8
  go_wp2_with fail
  refine HSm.out.mono ?_
  rintro e w10 ⟨rfl, hb10⟩
  have HX10 := Lib.hid (HX9.out.below hb10)
  have HV10 := Lib.hid (HV9.out.below hb10)
  have HB10 : Hid (Below w.heap.size w w10) := Lib.hid (HB9.out.trans (hb10.mono HB9.out.size))
  clear hb10 HI9 HX9 HV9 HB9 HO9 HSm
  obtain ⟨x0, x1, x2⟩ := HX10.out.box.cells
  obtain ⟨y0, y1, y2⟩ := HV10.out.box.cells
  obtain ⟨b4, o4, rfl, -, -, -, e4⟩ := HX10.out.things.us (k := 1) (by decide)
  obtain ⟨b6, o6, rfl, -, -, -, e6⟩ := HV10.out.things.us (k := 0) (by decide)
  have e4 : w10.cell? ⟨b4, o4 + 4 + 3, none⟩ = some (.int .i64 1536) := e4
  have e6 : w10.cell? ⟨b6, o6 + 3, none⟩ = some (.int .i64 3072) := by simpa [gt] using e6
  go_wp2_with fail
  refine (C7.out _).mono ?_
  rintro e w11 ⟨rfl, hb11⟩
  go_wp2
  go_ret
  exact ⟨rfl, HB10.out.trans (hb11.mono HB10.out.size)⟩

end Go.Proofs.Ytmobohamlimhdaa.Grd
