/-
  ShardMoves.
-/
import Derived.Test.YtgecmgldamdpgaaShRef2
import Derived.Test.YtgecmgldamdpgaaShBegun
import Derived.Deep.RegionHeld
namespace Go.Proofs.Ytgecmgldamdpgaa.Shd
open Go.RowKit
open Two (REO own_none own_bel)
set_option linter.unusedVariables false
set_option maxRecDepth 100000

/-! ### A region step by step -/
section
variable {P : Program} {md : Region.Mode} {ops : Array Oper} {Q : Exit → Act → World → Prop} {S S' : World → Prop}
theorem any_on {i : Nat} (d : Option Tmp) (v : Value) {fuel : Nat} {listed : Array Bool} {a : Act} {w : World} (hd : (ops[i]?).map Oper.dst = some d) (hs : Region.noSelect ops = true) (hf : Region.free md ops listed i = true) (hr : (Region.ready md ops listed).contains i = true)
    (hQ : ∀ c a w, Q (.panic c) (a.put d v) w → Q (.panic c) a w) (hw : ((ops[i]?).map fun o => Region.wanted o (yielded ops a.tmps)) = some true) (hv : ∀ w, S w → ((ops[i]?).map fun o => (execOp a.eval o).run P w) = some (.ok (.value v) w)) (hS : S w)
    (h : wpAnyH P md ops Q S fuel (listed.setIfInBounds i true) (a.put d v) w) : wpAnyH P md ops Q S (fuel + 1) listed a w := by
  cases ho : ops[i]? with
  | none => rw [ho] at hd; cases hd
  | some o =>
    rw [ho] at hd hw
    simp only [Option.map_some, Option.some.injEq] at hd hw
    subst hd
    exact wpAnyH_take ho hs hf hr hQ (Or.inl ⟨hw, fun w' hS' => by have := hv w' hS'; rw [ho] at this; exact Option.some.inj this⟩) hS h
/-- From here on a stronger condition holds. -/
theorem any_mono (hSS : ∀ w, S' w → S w) : ∀ (fuel : Nat) (listed : Array Bool) (a : Act) (w : World), wpAnyH P md ops Q S' fuel listed a w → wpAnyH P md ops Q S fuel listed a w
  | 0, _, _, _, h => h
  | fuel + 1, _, _, _, h => ⟨h.1, fun i hi => wpOp_mono (fun a' w' h' => ⟨hSS _ h'.1, any_mono hSS fuel _ a' w' h'.2⟩) (h.2 i hi)⟩
theorem any_to (hSS : ∀ w, S' w → S w) {fuel : Nat} {listed : Array Bool} {a : Act} {w : World} (hS : S' w) (h : S' w → wpAnyH P md ops Q S' fuel listed a w) : wpAnyH P md ops Q S fuel listed a w := any_mono hSS _ _ _ _ (h hS)
end
/-- What the test of a key reads. -/
abbrev R0 (w : World) (bk pk : Nat) (s : ByteArray) (bL pL : Nat) (x : ByteArray) (bM pM : Nat) (y : ByteArray) (W : World) : Prop :=
  W.cell? ⟨bk, pk, none⟩ = some (.string s) ∧ W.cell? ⟨bL, pL, none⟩ = some (.string x) ∧ W.cell? ⟨bM, pM, none⟩ = some (.string y) ∧ Below w.heap.size w W
abbrev R1 (w : World) (bk pk : Nat) (s : ByteArray) (bL pL : Nat) (x : ByteArray) (bM pM : Nat) (y : ByteArray) (b1 o1 i1 : Nat) (W : World) : Prop :=
  W.cell? ⟨b1, o1, none⟩ = some (.int .i64 (i1 : Int)) ∧ R0 w bk pk s bL pL x bM pM y W
abbrev R2 (w : World) (bk pk : Nat) (s : ByteArray) (bL pL : Nat) (x : ByteArray) (bM pM : Nat) (y : ByteArray) (b1 o1 i1 b2 o2 i2 : Nat) (W : World) : Prop :=
  W.cell? ⟨b2, o2, none⟩ = some (.int .i64 (i2 : Int)) ∧ R1 w bk pk s bL pL x bM pM y b1 o1 i1 W

theorem owl_one {L : List Sh} {s : ByteArray} (h : 0 < L.length) : zs ((owl L s).take 1) = [((own L s : Nat) : Int)] := by
  have := owl_next (s := s) h h
  rw [this]; rfl
theorem refOwner1 (A : Option Addr) (c : Nat) (L : List Sh) (s : ByteArray) (w : World) (h : ShA w A c L) (he : err L s = 0) :
    Calls Try.prog 10 #[.slice A L.length c, .string s, .int .i64 1] w fun e w' => ∃ b o cc, e = .returned (.slice (some ⟨b, o, none⟩) 1 cc) ∧ w'.cell? ⟨b, o, none⟩ = some (.int .i64 ((own L s : Nat) : Int)) ∧ b < w'.heap.size ∧ Below w.heap.size w w' := by
  have h0 := (err_zero.1 he).2.2
  have k := refOwners_any A c L s 1 w h he (by omega)
  rw [owl_one h0] at k
  refine k.mono ?_
  rintro e w' ⟨v, rfl, ho, hb⟩
  obtain ⟨A', c', rfl, hI⟩ := ints_of_own ho
  obtain ⟨b, o, rfl, hlt, hc⟩ := hI.2.2.2 (by simp)
  exact ⟨b, o, c', rfl, hc 0 (by simp), hlt, hb⟩

set_option maxHeartbeats 40000000 in
theorem shardMoves_walk (A : Option Addr) (a : Nat) (L : List Sh) (B : Option Addr) (b : Nat) (M : List Sh) (C : Option Addr) (c : Nat) (K : List ByteArray) (w : World) (hL : Shs w A a L) (hLn : Nms L) (hM : Shs w B b M) (hMn : Nms M) (hK : Strs w C c K) (hS : ∀ i, i < K.length → (ky K i).size ≤ maxLen) :
    Calls Try.prog 4 #[.slice A L.length a, .slice B M.length b, .slice C K.length c] w fun e w' => e = .returned (.bool true) ∧ Below w.heap.size w w' := by
  have HBG := Lib.hid begun_any
  have HMV := Lib.hid (moved_any A B C a b c L M K w ⟨hL, hLn⟩ ⟨hM, hMn⟩ hK hS)
  have HL : Hid (ShA w A a L) := Lib.hid ⟨hL, hLn⟩
  have HM : Hid (ShA w B b M) := Lib.hid ⟨hM, hMn⟩
  have HK := Lib.hid hK
  have HS := Lib.hid hS
  have hkl : K.length ≤ 9223372036854775807 := by have h1 := hK.1; have h2 := hK.2.1; unfold maxLen at h2; omega
  have HEL := Lib.hid (fun (W : World) (s : ByteArray) (h : ShA W A a L) (hs : s.size ≤ maxLen) => ownerErr_any A a L s W h hs)
  have HEM := Lib.hid (fun (W : World) (s : ByteArray) (h : ShA W B b M) (hs : s.size ≤ maxLen) => ownerErr_any B b M s W h hs)
  have HRL := Lib.hid (fun (W : World) (s : ByteArray) (h : ShA W A a L) (he : err L s = 0) => refOwner1 A a L s W h he)
  have HRM := Lib.hid (fun (W : World) (s : ByteArray) (h : ShA W B b M) (he : err M s = 0) => refOwner1 B b M s W h he)
  have HOWL := Lib.hid (fun (s : ByteArray) (he : err L s = 0) => own_lt (s := s) (err_zero.1 he).2.2)
  have HOWM := Lib.hid (fun (s : ByteArray) (he : err M s = 0) => own_lt (s := s) (err_zero.1 he).2.2)
  have HNL : Hid (∀ W, ShA W A a L → ∀ k, k < L.length → ∃ b o, A = some ⟨b, o, none⟩ ∧ W.cell? ⟨b, o + k * 2, none⟩ = some (.string (gs L k).name)) := Lib.hid (fun W h k hk => by
    obtain ⟨b, o, e, e1, _⟩ := h.sh.sh hk
    exact ⟨b, o, e, e1⟩)
  have HNM : Hid (∀ W, ShA W B b M → ∀ k, k < M.length → ∃ b o, B = some ⟨b, o, none⟩ ∧ W.cell? ⟨b, o + k * 2, none⟩ = some (.string (gs M k).name)) := Lib.hid (fun W h k hk => by
    obtain ⟨b, o, e, e1, _⟩ := h.sh.sh hk
    exact ⟨b, o, e, e1⟩)
  have HE1 : Hid (200 < K.length → movE L M K = 2) := Lib.hid (fun h => by unfold movE; rw [if_pos h])
  have HE2 : Hid (¬ 200 < K.length → movE L M K = scan (fun i => keyE L M (ky K i)) 0 K.length) := Lib.hid (fun h => by unfold movE; rw [if_neg h])
  have HR0' : Hid (movE L M K ≠ 0 → movL L M K = []) := Lib.hid (fun h => by unfold movL; rw [if_neg h])
  have HR1' : Hid (movE L M K = 0 → movL L M K = zs (movN L M K K.length)) := Lib.hid (fun h => by unfold movL; rw [if_pos h])
  clear hL hLn hM hMn hK hS
  obtain ⟨lL, hlL⟩ : ∃ n, L.length = n := ⟨_, rfl⟩
  obtain ⟨lM, hlM⟩ : ∃ n, M.length = n := ⟨_, rfl⟩
  obtain ⟨ln, hln⟩ : ∃ n, K.length = n := ⟨_, rfl⟩
  have HLN := Lib.hid hln
  rw [hlL] at HEL HRL HOWL HNL HMV
  rw [hlM] at HEM HRM HOWM HNM HMV
  rw [hln] at HE1 HE2 HR1' HMV hkl
  rw [hlL, hlM, hln]
  clear hlL hlM hln
  -- how it ends
  have HEND : Hid (∀ (W : World) (A1 : Option Addr) (c1 base : Nat) (v : Value) (X : List Int), Ints W A1 c1 (movL L M K) → OwnI W base v X → movL L M K = X → Calls Try.prog 17 #[.slice A1 (movL L M K).length c1, v] W fun e w' => e = .returned (.bool true) ∧ Below W.heap.size W w') := Lib.hid (fun W A1 c1 base v X h1 h2 h3 => by
    obtain ⟨B1, d1, rfl, h4⟩ := ints_of_own h2
    have k := sameInts_any A1 B1 c1 d1 _ _ W h1 h4
    rwa [decide_eq_true h3] at k)
  by_cases q1 : 200 < ln
  · have p1 : decide ((200 : Int) < (ln : Int)) = true := by simp; omega
    have HEq := Lib.hid (HE1.out q1)
    have HRq := Lib.hid (HR0'.out (by rw [HEq.out]; decide))
    clear q1
    go_enter Try.func4, Try.ntmps4
    go_wp2_with fail
    refine HMV.out.mono ?_
    rintro e w1 ⟨v1, rfl, ho1, hb1⟩
    obtain ⟨A1, c1, rfl, hi1⟩ := ints_of_own ho1
    rw [HEq.out]
    have HI1 := Lib.hid hi1
    have HB1 := Lib.hid hb1
    clear ho1 hi1 hb1
    go_wp2
    go_loopw [9, 11] (fun e i wr => e = .int .i64 2 ∧ i = .int .i64 0 ∧ w1 = wr) (fun _ _ _ => 0)
    case atStart => exact ⟨rfl, rfl, rfl⟩
    case round =>
      obtain ⟨rfl, rfl, rfl⟩ := hrel
      have hl0 : decide ((0 : Int) < (ln : Int)) = true := by
        have : (200 : Int) < (ln : Int) := by simpa using p1
        simp; omega
      have hl0' : decide (0 < ln) = true := by simpa using hl0
      have hl1 : 0 < ln := by simpa using hl0
      go_wp2_with fail
      refine (HBG.out _).mono ?_
      rintro e w2 ⟨rfl, hb2⟩
      have HI2 := Lib.hid (HI1.out.below hb2)
      have HB2 := Lib.hid (HB1.out.trans (hb2.mono HB1.out.size))
      clear hb2
      go_wp2_with (go_at_call 17; refine (HEND.out _ A1 c1 0 _ [] HI2.out (own_none _ _) HRq.out).mono ?_; rintro e w3 ⟨rfl, hb3⟩; have HB3 := Lib.hid (HB2.out.trans (hb3.mono HB2.out.size)); clear hb3)
      go_ret
      exact ⟨rfl, HB3.out⟩
  · have p1 : decide ((200 : Int) < (ln : Int)) = false := by simp; omega
    have HE := Lib.hid (HE2.out q1)
    have hln200 : ln ≤ 200 := by omega
    clear q1
    go_enter Try.func4, Try.ntmps4
    go_wp2_with fail
    refine HMV.out.mono ?_
    rintro e w1 ⟨v1, rfl, ho1, hb1⟩
    obtain ⟨A1, c1, rfl, hi1⟩ := ints_of_own ho1
    have HI1 := Lib.hid hi1
    have HB1 := Lib.hid hb1
    clear ho1 hi1 hb1
    obtain ⟨eE, heE⟩ : ∃ q, movE L M K = q := ⟨_, rfl⟩
    obtain ⟨lR, hlR⟩ : ∃ q, (movL L M K).length = q := ⟨_, rfl⟩
    have HEE := Lib.hid heE
    rw [hlR] at HEND ⊢
    rw [heE] at ⊢ HE HR0' HR1'
    clear heE hlR
    go_wp2
    go_loopw [9, 10, 11] (fun e v i wr => ∃ k : Nat, k ≤ ln ∧ i = .int .i64 (k : Int) ∧ Hid (Below w1.heap.size w1 wr) ∧ ((e = .int .i64 0 ∧ Hid (OwnI wr w1.heap.size v (zs (movN L M K k))) ∧ Hid (scan (fun i => keyE L M (ky K i)) 0 ln = scan (fun i => keyE L M (ky K i)) k (ln - k))) ∨ (∃ er, e = .int .i64 er ∧ er ≠ 0 ∧ eE = er))) (fun _ _ i _ => ln - (intOf i).toNat)
    case atStart => exact ⟨0, by omega, rfl, Lib.hid (Below.refl _ _), .inl ⟨rfl, Lib.hid (own_none _ _), Lib.hid rfl⟩⟩
    case round =>
      obtain ⟨k, hk, rfl, HBr1, hst⟩ := hrel
      have HBr := Lib.hid (HB1.out.trans (HBr1.out.mono HB1.out.size))
      clear p1
      rcases hst with ⟨rfl, HO, HA⟩ | ⟨er, rfl, her, HQ⟩
      · by_cases hlt : k < ln
        · have hin : (k : Int) < (ln : Int) := by omega
          have hin' : decide ((k : Int) < (ln : Int)) = true := by simpa using hlt
          have hiB : (0 : Int) ≤ (k : Int) := by omega
          have HKr := Lib.hid (HK.out.below HBr.out)
          obtain ⟨bk, ok, rfl, e1⟩ := HKr.out.str (k := k) (by rw [HLN.out]; exact hlt)
          have HSZ := Lib.hid (HS.out k (by rw [HLN.out]; exact hlt))
          have HSU := Lib.hid (movN_succ L M K k)
          have HGO : Hid (keyE L M (ky K k) = 0 → scan (fun i => keyE L M (ky K i)) 0 ln = scan (fun i => keyE L M (ky K i)) (k + 1) (ln - (k + 1))) := Lib.hid (fun e => HA.out.trans (scan_go (f := fun i => keyE L M (ky K i)) hlt e))
          have HHIT : Hid (keyE L M (ky K k) ≠ 0 → eE = keyE L M (ky K k)) := Lib.hid (fun e => HE.out.trans (HA.out.trans (scan_hit (f := fun i => keyE L M (ky K i)) hlt e)))
          have HOL := Lib.hid (movN_len L M K k)
          replace e1 : wr.cell? ⟨bk, ok + k, none⟩ = some (.string (ky K k)) := e1
          have HX1 : Hid (∀ W, Below wr.heap.size wr W → W.cell? ⟨bk, ok + k, none⟩ = some (.string (ky K k))) := Lib.hid (fun W hW => by
            obtain ⟨b', o', e, _, hc⟩ := HKr.out.2.2 (by rw [HLN.out]; omega)
            cases e
            exact (hW.cell (p := ⟨bk, ok + k, none⟩) (by assumption)).trans e1)
          have HLr := Lib.hid (HL.out.below HBr.out)
          have HMr := Lib.hid (HM.out.below HBr.out)
          have HC0 := Lib.hid (HEL.out wr (ky K k) HLr.out HSZ.out)
          have HC0' := Lib.hid (fun (W : World) (hW : Below wr.heap.size wr W) => HEM.out W (ky K k) (HMr.out.below hW) HSZ.out)
          have HKEY : Hid (keyE L M (ky K k) = if err L (ky K k) ≠ 0 then err L (ky K k) else err M (ky K k)) := Lib.hid rfl
          by_cases z1 : err L (ky K k) = 0
          · rw [z1] at HC0
            by_cases z2 : err M (ky K k) = 0
            · have HK0 : Hid (keyE L M (ky K k) = 0) := Lib.hid (by rw [HKEY.out, if_neg (fun h => h z1)]; exact z2)
              have HA2 := Lib.hid (HGO.out HK0.out)
              have HC1 := Lib.hid (fun (W : World) (hW : Below wr.heap.size wr W) => HRL.out W (ky K k) (HLr.out.below hW) z1)
              have HC2 := Lib.hid (fun (W : World) (hW : Below wr.heap.size wr W) => HRM.out W (ky K k) (HMr.out.below hW) z2)
              obtain ⟨bL, oL, hA, -⟩ := HNL.out wr HLr.out _ (HOWL.out _ z1)
              obtain ⟨bM, oM, hB, -⟩ := HNM.out wr HMr.out _ (HOWM.out _ z2)
              have HR0a : Hid (∀ W, Below wr.heap.size wr W → R0 wr bk (ok + k) (ky K k) bL (oL + own L (ky K k) * 2) (gs L (own L (ky K k))).name bM (oM + own M (ky K k) * 2) (gs M (own M (ky K k))).name W) := Lib.hid (fun W hW => ⟨HX1.out W hW, by
                  obtain ⟨b', o', e, c1⟩ := HNL.out W (HLr.out.below hW) _ (HOWL.out _ z1)
                  rw [hA] at e
                  cases e; exact c1, by
                  obtain ⟨b', o', e, c1⟩ := HNM.out W (HMr.out.below hW) _ (HOWM.out _ z2)
                  rw [hB] at e
                  cases e; exact c1, hW⟩)
              have hb1 := HOWL.out _ z1
              have hb2 := HOWM.out _ z2
              have HMVk : Hid (mv L M (ky K k) = !((gs L (own L (ky K k))).name.toList == (gs M (own M (ky K k))).name.toList)) := Lib.hid rfl
              rw [z2] at HC0'
              subst hA hB
              clear z1 z2
              generalize ky K k = s at *
              generalize (gs L (own L s)).name = x at *
              generalize (gs M (own M s)).name = y at *
              generalize own L s = i1 at *
              generalize own M s = i2 at *
              obtain ⟨tb, htb⟩ : ∃ t, (!(x.toList == y.toList)) = t := ⟨_, rfl⟩
              have HTB : Hid (mv L M s = tb) := Lib.hid (HMVk.out.trans htb)
              have f1 : (i1 : Int) < (lL : Int) := by omega
              have f2 : (i2 : Int) < (lM : Int) := by omega
              have f3 : (0 : Int) ≤ (i1 : Int) := by omega
              have f4 : (0 : Int) ≤ (i2 : Int) := by omega
              go_wp2_with fail
              refine HC0.out.mono ?_
              rintro e w5 ⟨rfl, h5⟩
              have HB5 := Lib.hid h5
              have e5 := HX1.out _ h5
              clear h5 e1
              go_wp2_with fail
              refine (HC0'.out _ HB5.out).mono ?_
              rintro e w6 ⟨rfl, h6⟩
              have hb6 : Below wr.heap.size wr w6 := HB5.out.trans (h6.mono HB5.out.size)
              have HO6' := Lib.hid (own_bel HO.out hb6)
              have HB6' := Lib.hid (HBr1.out.trans (hb6.mono HBr1.out.size))
              have HR06 : Hid (∀ W, Below w6.heap.size w6 W → R0 w6 bk (ok + k) s bL (oL + i1 * 2) x bM (oM + i2 * 2) y W) := Lib.hid (fun W hW => by
                obtain ⟨g1, g2, g3, -⟩ := HR0a.out W (hb6.trans (hW.mono hb6.size))
                exact ⟨g1, g2, g3, hW⟩)
              have HC16 := Lib.hid (fun (W : World) (hW : Below w6.heap.size w6 W) => HC1.out W (hb6.trans (hW.mono hb6.size)))
              have HC26 := Lib.hid (fun (W : World) (hW : Below w6.heap.size w6 W) => HC2.out W (hb6.trans (hW.mono hb6.size)))
              clear e5 HC0 HC0' HC1 HC2 HR0a HB5 HX1 HO HBr h6 hb6 HLr HMr HKr HMVk HRL HRM HNL HNM HOWL HOWM HEL HEM
              go_wp2_with fail
              refine wp_region_held_drew (S := R0 w6 bk (ok + k) s bL (oL + i1 * 2) x bM (oM + i2 * 2) y) (by kernel_rfl) (HR06.out _ (Below.refl _ _).drew) (fun hHeld => ?_)
              refine any_on (i := 0) (some 46) (.int .i64 0) rfl (by kernel_rfl) (by kernel_rfl) (by kernel_rfl) (fun _ _ _ h => h) rfl (fun w hSw => by obtain ⟨s1, s2, s3, -⟩ := hSw; go_simp) (by assumption) ?_
              try simp only [Act.put, List.setIfInBounds_toArray, List.set_cons_zero, List.set_cons_succ]
              refine any_on (i := 1) (some 47) (.bool true) rfl (by kernel_rfl) (by kernel_rfl) (by kernel_rfl) (fun _ _ _ h => h) rfl (fun w hSw => by obtain ⟨s1, s2, s3, -⟩ := hSw; go_simp) (by assumption) ?_
              try simp only [Act.put, List.setIfInBounds_toArray, List.set_cons_zero, List.set_cons_succ]
              refine any_on (i := 2) (some 48) (.bool true) rfl (by kernel_rfl) (by kernel_rfl) (by kernel_rfl) (fun _ _ _ h => h) rfl (fun w hSw => by obtain ⟨s1, s2, s3, -⟩ := hSw; go_simp) (by assumption) ?_
              try simp only [Act.put, List.setIfInBounds_toArray, List.set_cons_zero, List.set_cons_succ]
              refine any_on (i := 3) (some 49) (.slice (some ⟨bL, oL, none⟩) lL a) rfl (by kernel_rfl) (by kernel_rfl) (by kernel_rfl) (fun _ _ _ h => h) rfl (fun w hSw => by obtain ⟨s1, s2, s3, -⟩ := hSw; go_simp) (by assumption) ?_
              try simp only [Act.put, List.setIfInBounds_toArray, List.set_cons_zero, List.set_cons_succ]
              refine any_on (i := 4) (some 50) (.slice (some ⟨bL, oL, none⟩) lL a) rfl (by kernel_rfl) (by kernel_rfl) (by kernel_rfl) (fun _ _ _ h => h) rfl (fun w hSw => by obtain ⟨s1, s2, s3, -⟩ := hSw; go_simp) (by assumption) ?_
              try simp only [Act.put, List.setIfInBounds_toArray, List.set_cons_zero, List.set_cons_succ]
              refine any_on (i := 5) (some 51) (.slice (some ⟨bk, ok, none⟩) ln c) rfl (by kernel_rfl) (by kernel_rfl) (by kernel_rfl) (fun _ _ _ h => h) rfl (fun w hSw => by obtain ⟨s1, s2, s3, -⟩ := hSw; go_simp) (by assumption) ?_
              try simp only [Act.put, List.setIfInBounds_toArray, List.set_cons_zero, List.set_cons_succ]
              refine any_on (i := 6) (some 52) (.int .i64 (k : Int)) rfl (by kernel_rfl) (by kernel_rfl) (by kernel_rfl) (fun _ _ _ h => h) rfl (fun w hSw => by obtain ⟨s1, s2, s3, -⟩ := hSw; go_simp) (by assumption) ?_
              try simp only [Act.put, List.setIfInBounds_toArray, List.set_cons_zero, List.set_cons_succ]
              refine any_on (i := 7) (some 53) (.pointer (some ⟨bk, ok + k, none⟩)) rfl (by kernel_rfl) (by kernel_rfl) (by kernel_rfl) (fun _ _ _ h => h) rfl (fun w hSw => by obtain ⟨s1, s2, s3, -⟩ := hSw; go_simp) (by assumption) ?_
              try simp only [Act.put, List.setIfInBounds_toArray, List.set_cons_zero, List.set_cons_succ]
              refine any_on (i := 8) (some 54) (.string s) rfl (by kernel_rfl) (by kernel_rfl) (by kernel_rfl) (fun _ _ _ h => h) rfl (fun w hSw => by obtain ⟨s1, s2, s3, -⟩ := hSw; go_simp) (by assumption) ?_
              try simp only [Act.put, List.setIfInBounds_toArray, List.set_cons_zero, List.set_cons_succ]
              refine any_on (i := 15) (some 61) (.slice (some ⟨bM, oM, none⟩) lM b) rfl (by kernel_rfl) (by kernel_rfl) (by kernel_rfl) (fun _ _ _ h => h) rfl (fun w hSw => by obtain ⟨s1, s2, s3, -⟩ := hSw; go_simp) (by assumption) ?_
              try simp only [Act.put, List.setIfInBounds_toArray, List.set_cons_zero, List.set_cons_succ]
              refine any_on (i := 16) (some 62) (.slice (some ⟨bM, oM, none⟩) lM b) rfl (by kernel_rfl) (by kernel_rfl) (by kernel_rfl) (fun _ _ _ h => h) rfl (fun w hSw => by obtain ⟨s1, s2, s3, -⟩ := hSw; go_simp) (by assumption) ?_
              try simp only [Act.put, List.setIfInBounds_toArray, List.set_cons_zero, List.set_cons_succ]
              refine any_on (i := 17) (some 63) (.slice (some ⟨bk, ok, none⟩) ln c) rfl (by kernel_rfl) (by kernel_rfl) (by kernel_rfl) (fun _ _ _ h => h) rfl (fun w hSw => by obtain ⟨s1, s2, s3, -⟩ := hSw; go_simp) (by assumption) ?_
              try simp only [Act.put, List.setIfInBounds_toArray, List.set_cons_zero, List.set_cons_succ]
              refine any_on (i := 18) (some 64) (.int .i64 (k : Int)) rfl (by kernel_rfl) (by kernel_rfl) (by kernel_rfl) (fun _ _ _ h => h) rfl (fun w hSw => by obtain ⟨s1, s2, s3, -⟩ := hSw; go_simp) (by assumption) ?_
              try simp only [Act.put, List.setIfInBounds_toArray, List.set_cons_zero, List.set_cons_succ]
              refine any_on (i := 19) (some 65) (.pointer (some ⟨bk, ok + k, none⟩)) rfl (by kernel_rfl) (by kernel_rfl) (by kernel_rfl) (fun _ _ _ h => h) rfl (fun w hSw => by obtain ⟨s1, s2, s3, -⟩ := hSw; go_simp) (by assumption) ?_
              try simp only [Act.put, List.setIfInBounds_toArray, List.set_cons_zero, List.set_cons_succ]
              refine any_on (i := 20) (some 66) (.string s) rfl (by kernel_rfl) (by kernel_rfl) (by kernel_rfl) (fun _ _ _ h => h) rfl (fun w hSw => by obtain ⟨s1, s2, s3, -⟩ := hSw; go_simp) (by assumption) ?_
              try simp only [Act.put, List.setIfInBounds_toArray, List.set_cons_zero, List.set_cons_succ]
              refine wpAnyH_ready (rs := [9]) (by kernel_rfl) (by simp) ?_
              refine AllReadyH.cons (o := _) rfl (fun K hK => ?_) AllReadyH.nil
              go_simp
              refine (HC16.out _ (Below.refl _ _).drew).mono ?_
              rintro e wA ⟨b1, o1, cc1, rfl, y1, hl1, hb1⟩
              try go_wp2_with fail
              have hB1 : Below w6.heap.size w6 wA := (Below.refl w6.heap.size w6).drew.trans hb1
              have hR0 := HR06.out _ hB1
              refine hK.out _ _ hR0 (fun hHeld2 => ?_)
              clear hK K
              try simp only [Act.put, List.setIfInBounds_toArray, List.set_cons_zero, List.set_cons_succ]
              refine any_to (S' := R1 w6 bk (ok + k) s bL (oL + i1 * 2) x bM (oM + i2 * 2) y b1 o1 i1) (fun w h => h.2) ⟨y1, hR0⟩ (fun hH1 => ?_)
              refine any_on (i := 10) (some 56) (.pointer (some ⟨b1, o1, none⟩)) rfl (by kernel_rfl) (by kernel_rfl) (by kernel_rfl) (fun _ _ _ h => h) rfl (fun w hSw => by obtain ⟨s0, s1, s2, s3, -⟩ := hSw; go_simp) (by assumption) ?_
              try simp only [Act.put, List.setIfInBounds_toArray, List.set_cons_zero, List.set_cons_succ]
              refine any_on (i := 11) (some 57) (.int .i64 (i1 : Int)) rfl (by kernel_rfl) (by kernel_rfl) (by kernel_rfl) (fun _ _ _ h => h) rfl (fun w hSw => by obtain ⟨s0, s1, s2, s3, -⟩ := hSw; go_simp) (by assumption) ?_
              try simp only [Act.put, List.setIfInBounds_toArray, List.set_cons_zero, List.set_cons_succ]
              refine any_on (i := 12) (some 58) (.pointer (some ⟨bL, oL + i1 * 2, none⟩)) rfl (by kernel_rfl) (by kernel_rfl) (by kernel_rfl) (fun _ _ _ h => h) rfl (fun w hSw => by obtain ⟨s0, s1, s2, s3, -⟩ := hSw; go_simp) (by assumption) ?_
              try simp only [Act.put, List.setIfInBounds_toArray, List.set_cons_zero, List.set_cons_succ]
              refine any_on (i := 13) (some 59) (.pointer (some ⟨bL, oL + i1 * 2, none⟩)) rfl (by kernel_rfl) (by kernel_rfl) (by kernel_rfl) (fun _ _ _ h => h) rfl (fun w hSw => by obtain ⟨s0, s1, s2, s3, -⟩ := hSw; go_simp) (by assumption) ?_
              try simp only [Act.put, List.setIfInBounds_toArray, List.set_cons_zero, List.set_cons_succ]
              refine any_on (i := 14) (some 60) (.string x) rfl (by kernel_rfl) (by kernel_rfl) (by kernel_rfl) (fun _ _ _ h => h) rfl (fun w hSw => by obtain ⟨s0, s1, s2, s3, -⟩ := hSw; go_simp) (by assumption) ?_
              try simp only [Act.put, List.setIfInBounds_toArray, List.set_cons_zero, List.set_cons_succ]
              refine wpAnyH_ready (rs := [21]) (by kernel_rfl) (by simp) ?_
              refine AllReadyH.cons (o := _) rfl (fun K hK => ?_) AllReadyH.nil
              go_simp
              refine (HC26.out _ hB1).mono ?_
              rintro e wB ⟨b2, o2, cc2, rfl, y2, hl2, hb2⟩
              try go_wp2_with fail
              have hB2 : Below w6.heap.size w6 wB := hB1.trans (hb2.mono hB1.size)
              have hR2 := HR06.out _ hB2
              have y1' := (hb2.cell (p := ⟨b1, o1, none⟩) hl1).trans y1
              refine hK.out _ _ ⟨y1', hR2⟩ (fun hHeld3 => ?_)
              clear hK K
              try simp only [Act.put, List.setIfInBounds_toArray, List.set_cons_zero, List.set_cons_succ]
              refine any_to (S' := R2 w6 bk (ok + k) s bL (oL + i1 * 2) x bM (oM + i2 * 2) y b1 o1 i1 b2 o2 i2) (fun w h => h.2) ⟨y2, y1', hR2⟩ (fun hH2 => ?_)
              refine any_on (i := 22) (some 68) (.pointer (some ⟨b2, o2, none⟩)) rfl (by kernel_rfl) (by kernel_rfl) (by kernel_rfl) (fun _ _ _ h => h) rfl (fun w hSw => by obtain ⟨s9, s0, s1, s2, s3, -⟩ := hSw; go_simp) (by assumption) ?_
              try simp only [Act.put, List.setIfInBounds_toArray, List.set_cons_zero, List.set_cons_succ]
              refine any_on (i := 23) (some 69) (.int .i64 (i2 : Int)) rfl (by kernel_rfl) (by kernel_rfl) (by kernel_rfl) (fun _ _ _ h => h) rfl (fun w hSw => by obtain ⟨s9, s0, s1, s2, s3, -⟩ := hSw; go_simp) (by assumption) ?_
              try simp only [Act.put, List.setIfInBounds_toArray, List.set_cons_zero, List.set_cons_succ]
              refine any_on (i := 24) (some 70) (.pointer (some ⟨bM, oM + i2 * 2, none⟩)) rfl (by kernel_rfl) (by kernel_rfl) (by kernel_rfl) (fun _ _ _ h => h) rfl (fun w hSw => by obtain ⟨s9, s0, s1, s2, s3, -⟩ := hSw; go_simp) (by assumption) ?_
              try simp only [Act.put, List.setIfInBounds_toArray, List.set_cons_zero, List.set_cons_succ]
              refine any_on (i := 25) (some 71) (.pointer (some ⟨bM, oM + i2 * 2, none⟩)) rfl (by kernel_rfl) (by kernel_rfl) (by kernel_rfl) (fun _ _ _ h => h) rfl (fun w hSw => by obtain ⟨s9, s0, s1, s2, s3, -⟩ := hSw; go_simp) (by assumption) ?_
              try simp only [Act.put, List.setIfInBounds_toArray, List.set_cons_zero, List.set_cons_succ]
              refine any_on (i := 26) (some 72) (.string y) rfl (by kernel_rfl) (by kernel_rfl) (by kernel_rfl) (fun _ _ _ h => h) rfl (fun w hSw => by obtain ⟨s9, s0, s1, s2, s3, -⟩ := hSw; go_simp) (by assumption) ?_
              try simp only [Act.put, List.setIfInBounds_toArray, List.set_cons_zero, List.set_cons_succ]
              refine any_on (i := 27) (some 73) (.bool tb) rfl (by kernel_rfl) (by kernel_rfl) (by kernel_rfl) (fun _ _ _ h => h) rfl (fun w hSw => by obtain ⟨s9, s0, s1, s2, s3, -⟩ := hSw; go_simp) (by assumption) ?_
              try simp only [Act.put, List.setIfInBounds_toArray, List.set_cons_zero, List.set_cons_succ]
              refine any_on (i := 28) (some 74) (.bool tb) rfl (by kernel_rfl) (by kernel_rfl) (by kernel_rfl) (fun _ _ _ h => h) rfl (fun w hSw => by obtain ⟨s9, s0, s1, s2, s3, -⟩ := hSw; go_simp) (by assumption) ?_
              try simp only [Act.put, List.setIfInBounds_toArray, List.set_cons_zero, List.set_cons_succ]
              refine wpAnyH_done (by kernel_rfl) ?_ _
              have HB9 := Lib.hid (HB6'.out.trans (hB2.mono HB6'.out.size))
              have HO9 := Lib.hid (own_bel HO6'.out hB2)
              clear hHeld hHeld2 hHeld3 hH1 hH2 hR0 hR2 y1 y1' y2 hb1 hb2 hB1 hB2 hl1 hl2
              generalize wB = w9 at *
              clear wA
              cases tb with
              | true =>
                have HOL' : Hid ((zs (movN L M K k)).length ≤ 1048576) := Lib.hid (by have := HOL.out; omega)
                go_simp
                go_wp2_with (first | (at_builtin; refine append_one rfl _ _ rfl w1.heap.size _ _ rfl HO9.out (k : Int) _ rfl HOL'.out HB9.out.size ?_; intro v6 w66 ho6 hg6; have HO6 := Lib.hid ho6; have HB6 := Lib.hid (own_grow HO9.out HB9.out HB9.out.size (Nat.le_refl _) hg6); clear ho6 hg6))
                go_roundw
                case rel => exact ⟨k + 1, by omega, by go_num, HB6, .inl ⟨rfl, Lib.hid (by rw [HSU.out, if_pos HTB.out]; exact HO6.out), HA2⟩⟩
                case measure => simp [intOf]; omega
              | false =>
                go_simp
                go_wp2
                go_roundw
                case rel => exact ⟨k + 1, by omega, by go_num, HB9, .inl ⟨rfl, Lib.hid (by rw [HSU.out, if_neg (by rw [HTB.out]; decide)]; exact HO9.out), HA2⟩⟩
                case measure => simp [intOf]; omega
            · have hq := bd_ne z2
              have hq' := bd_eq z2
              have HK0 : Hid (eE = err M (ky K k)) := Lib.hid (by
                have e : keyE L M (ky K k) = err M (ky K k) := by rw [HKEY.out, if_neg (fun h => h z1)]
                rw [HHIT.out (by rw [e]; exact z2), e])
              have hz2 := z2
              generalize ky K k = s at *
              generalize err M s = qe at *
              clear z1 z2
              go_wp2_with fail
              refine HC0.out.mono ?_
              rintro e w5 ⟨rfl, h5⟩
              have HB5 := Lib.hid h5
              have e5 := HX1.out _ h5
              clear h5 e1
              go_wp2_with fail
              refine (HC0'.out _ HB5.out).mono ?_
              rintro e w6 ⟨rfl, h6⟩
              have HB6 := Lib.hid (HBr1.out.trans ((HB5.out.trans (h6.mono HB5.out.size)).mono HBr1.out.size))
              clear h6 e5
              have HZ := Lib.hid hz2
              clear hz2
              go_wp2_with fail
              go_quiet (fail)
              have HB7 := Lib.hid (bel_drewN HB6.out nq)
              generalize w6.drewN nq = w7 at *
              go_wp2
              go_roundw
              case rel => exact ⟨k + 1, by omega, by go_num, HB7, .inr ⟨qe, rfl, HZ.out, HK0.out⟩⟩
              case measure => simp [intOf]; omega
          · have hq := bd_ne z1
            have hq' := bd_eq z1
            have HK0 : Hid (eE = err L (ky K k)) := Lib.hid (by
              have e : keyE L M (ky K k) = err L (ky K k) := by rw [HKEY.out, if_pos z1]
              rw [HHIT.out (by rw [e]; exact z1), e])
            have hz1 := Lib.hid z1
            generalize ky K k = s at *
            generalize err L s = qe at *
            clear z1
            go_wp2_with fail
            refine HC0.out.mono ?_
            rintro e w5 ⟨rfl, h5⟩
            have HB6 := Lib.hid (HBr1.out.trans (h5.mono HBr1.out.size))
            clear h5 e1
            go_wp2_with fail
            go_quiet (fail)
            have HB7 := Lib.hid (bel_drewN HB6.out nq)
            generalize w5.drewN nq = w7 at *
            go_wp2
            go_roundw
            case rel => exact ⟨k + 1, by omega, by go_num, HB7, .inr ⟨qe, rfl, hz1.out, HK0.out⟩⟩
            case measure => simp [intOf]; omega
        · obtain rfl : k = ln := by omega
          have hin' : decide ((k : Int) < (k : Int)) = false := by simp
          have hE0 : eE = 0 := HE.out.trans (HA.out.trans (scan_nil _ (Nat.le_refl _)))
          have HRq := Lib.hid (HR1'.out hE0)
          subst hE0
          have HIr := Lib.hid (HI1.out.below HBr1.out)
          go_wp2_with fail
          refine (HBG.out _).mono ?_
          rintro e w2 ⟨rfl, hb2⟩
          have HI2 := Lib.hid (HIr.out.below hb2)
          have HO2 := Lib.hid (own_bel HO.out hb2)
          have HB2 := Lib.hid (HBr.out.trans (hb2.mono HBr.out.size))
          clear hb2
          go_wp2_with (go_at_call 17; refine (HEND.out _ A1 c1 _ _ _ HI2.out HO2.out HRq.out).mono ?_; rintro e w3 ⟨rfl, hb3⟩; have HB3 := Lib.hid (HB2.out.trans (hb3.mono HB2.out.size)); clear hb3)
          go_ret
          exact ⟨rfl, HB3.out⟩
      · have hne := bd_ne her
        have hnq := bd_eq her
        have HRq := Lib.hid (HR0'.out (by rw [HQ]; exact her))
        have HIr := Lib.hid (HI1.out.below HBr1.out)
        subst HQ
        clear her
        by_cases hlt : k < ln
        · have hin : (k : Int) < (ln : Int) := by omega
          have hin' : decide ((k : Int) < (ln : Int)) = true := by simpa using hlt
          have hin'' : decide (k < ln) = true := by simpa using hlt
          clear hlt
          go_wp2_with fail
          refine (HBG.out _).mono ?_
          rintro e w2 ⟨rfl, hb2⟩
          have HI2 := Lib.hid (HIr.out.below hb2)
          have HB2 := Lib.hid (HBr.out.trans (hb2.mono HBr.out.size))
          clear hb2
          go_wp2_with (go_at_call 17; refine (HEND.out _ A1 c1 0 _ [] HI2.out (own_none _ _) HRq.out).mono ?_; rintro e w3 ⟨rfl, hb3⟩; have HB3 := Lib.hid (HB2.out.trans (hb3.mono HB2.out.size)); clear hb3)
          go_ret
          exact ⟨rfl, HB3.out⟩
        · have hin' : decide ((k : Int) < (ln : Int)) = false := by simp; omega
          have hin'' : decide (k < ln) = false := by simp; omega
          clear hlt
          go_wp2_with fail
          refine (HBG.out _).mono ?_
          rintro e w2 ⟨rfl, hb2⟩
          have HI2 := Lib.hid (HIr.out.below hb2)
          have HB2 := Lib.hid (HBr.out.trans (hb2.mono HBr.out.size))
          clear hb2
          go_wp2_with (go_at_call 17; refine (HEND.out _ A1 c1 0 _ [] HI2.out (own_none _ _) HRq.out).mono ?_; rintro e w3 ⟨rfl, hb3⟩; have HB3 := Lib.hid (HB2.out.trans (hb3.mono HB2.out.size)); clear hb3)
          go_ret
          exact ⟨rfl, HB3.out⟩

end Go.Proofs.Ytgecmgldamdpgaa.Shd
