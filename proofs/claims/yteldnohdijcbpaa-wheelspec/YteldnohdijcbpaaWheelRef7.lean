/-
  The reference of package wheel: WheelCheck.
-/
import Derived.Test.YteldnohdijcbpaaWheelRef5
namespace Go.Proofs.Yteldnohdijcbpaa.Whl
open Go.RowKit Go.Maps
set_option linter.unusedVariables false

/-! ### A region step by step -/
section
variable {P : Program} {md : Region.Mode} {ops : Array Oper} {Q : Exit → Act → World → Prop} {S : World → Prop}
theorem any_off {i : Nat} (d : Option Tmp) {fuel : Nat} {listed : Array Bool} {a : Act} {w : World} (hd : (ops[i]?).map Oper.dst = some d) (hs : Region.noSelect ops = true) (hf : Region.free md ops listed i = true) (hr : (Region.ready md ops listed).contains i = true)
    (hQ : ∀ c a w, Q (.panic c) (a.put d undef) w → Q (.panic c) a w) (hw : ((ops[i]?).map fun o => Region.wanted o (yielded ops a.tmps)) = some false) (hS : S w)
    (h : wpAnyH P md ops Q S fuel (listed.setIfInBounds i true) (a.put d undef) w) : wpAnyH P md ops Q S (fuel + 1) listed a w := by
  cases ho : ops[i]? with
  | none => rw [ho] at hd; cases hd
  | some o =>
    rw [ho] at hd hw
    simp only [Option.map_some, Option.some.injEq] at hd hw
    subst hd
    exact wpAnyH_take ho hs hf hr hQ (Or.inr ⟨hw, rfl⟩) hS h
theorem any_on {i : Nat} (d : Option Tmp) (v : Value) {fuel : Nat} {listed : Array Bool} {a : Act} {w : World} (hd : (ops[i]?).map Oper.dst = some d) (hs : Region.noSelect ops = true) (hf : Region.free md ops listed i = true) (hr : (Region.ready md ops listed).contains i = true)
    (hQ : ∀ c a w, Q (.panic c) (a.put d v) w → Q (.panic c) a w) (hw : ((ops[i]?).map fun o => Region.wanted o (yielded ops a.tmps)) = some true) (hv : ∀ w, S w → ((ops[i]?).map fun o => (execOp a.eval o).run P w) = some (.ok (.value v) w)) (hS : S w)
    (h : wpAnyH P md ops Q S fuel (listed.setIfInBounds i true) (a.put d v) w) : wpAnyH P md ops Q S (fuel + 1) listed a w := by
  cases ho : ops[i]? with
  | none => rw [ho] at hd; cases hd
  | some o =>
    rw [ho] at hd hw
    simp only [Option.map_some, Option.some.injEq] at hd hw
    subst hd
    exact wpAnyH_take ho hs hf hr hQ (Or.inl ⟨hw, fun w' hS' => by have := hv w' hS'; rw [ho] at this; exact Option.some.inj this⟩) hS h
end

/-- What the test of a timer reads. -/
abbrev S9 (n p bg og bl om : Nat) (vn vs vr : Value) (t q : Tm) (w w' : World) : Prop :=
  w'.cell? ⟨n, 0, none⟩ = some vn ∧ w'.cell? ⟨n, 1, none⟩ = some vs ∧ w'.cell? ⟨p, 0, none⟩ = some (.int .i64 t.id) ∧ w'.cell? ⟨p, 1, none⟩ = some (.int .i64 t.tm) ∧ w'.cell? ⟨bg, og, none⟩ = some vr ∧ w'.cell? ⟨bl, om, none⟩ = some (.int .i64 q.id) ∧ w'.cell? ⟨bl, om + 1, none⟩ = some (.int .i64 q.tm) ∧ Below w.heap.size w w'
section
variable {n p bg og bl om : Nat} {vn vs vr : Value} {t q : Tm} {w w' w'' : World}
theorem S9.next (h : S9 n p bg og bl om vn vs vr t q w w') (hn : n < w.heap.size) (hp : p < w.heap.size) (hg : bg < w.heap.size) (hl : bl < w.heap.size) (hb : Below w'.heap.size w' w'') : S9 n p bg og bl om vn vs vr t q w w'' := by
  obtain ⟨e1, e2, e3, e4, e5, e6, e7, e8⟩ := h
  have hs := e8.size
  exact ⟨(hb.cell (p := ⟨n, 0, none⟩) (by show n < _; omega)).trans e1, (hb.cell (p := ⟨n, 1, none⟩) (by show n < _; omega)).trans e2, (hb.cell (p := ⟨p, 0, none⟩) (by show p < _; omega)).trans e3, (hb.cell (p := ⟨p, 1, none⟩) (by show p < _; omega)).trans e4, (hb.cell (p := ⟨bg, og, none⟩) (by show bg < _; omega)).trans e5, (hb.cell (p := ⟨bl, om, none⟩) (by show bl < _; omega)).trans e6, (hb.cell (p := ⟨bl, om + 1, none⟩) (by show bl < _; omega)).trans e7, e8.trans (hb.mono hs)⟩
theorem S9.drew (h : S9 n p bg og bl om vn vs vr t q w w') : S9 n p bg og bl om vn vs vr t q w w'.drew := by
  obtain ⟨e1, e2, e3, e4, e5, e6, e7, e8⟩ := h
  exact ⟨e1, e2, e3, e4, e5, e6, e7, e8.drew⟩
end
set_option maxRecDepth 100000 in
set_option maxHeartbeats 16000000 in
theorem refCheck_any (W : Whl) (A : Option Addr) (c : Nat) (w : World) (hG : Grid 0 w A c W.slots) :
    Calls Try.prog 9 #[wv W A c] w fun e w' => e = .returned (.int .i64 (checkW W)) ∧ Below w.heap.size w w' := by
  have X := Bx.new (W := W) hG
  have HX := Lib.hid X
  have HB0 : Hid (Below w.heap.size w (w.alloc (wo W A c))) := Lib.hid ((Below.refl _ _).alloc (Nat.le_refl _) _)
  obtain ⟨-, x1, x2, -⟩ := X
  have hlen := hG.len
  clear hG
  by_cases h1 : isT W.now
  · have p1 : decide (0 ≤ W.now ∧ W.now ≤ 262143) = true := by unfold isT at h1; simpa using h1
    by_cases h2 : W.slots.length = 48
    · have HCk : Hid (checkW W = if (chkAll W.now 0 W.slots []).1 ≠ 0 then (chkAll W.now 0 W.slots []).1 else if 60 < (chkAll W.now 0 W.slots []).2.length then 2 else 0) := Lib.hid (by unfold checkW; rw [if_pos h1, if_pos h2])
      obtain ⟨bg, og, rfl, hbg, -, hr⟩ := HX.out.grid.2.2.2 (by omega)
      have HR := Lib.hid hr
      obtain ⟨now, SL⟩ := W
      simp only at *
      obtain ⟨N, rfl⟩ : ∃ N : Nat, now = (N : Int) := ⟨now.toNat, by have := h1.1; omega⟩
      have hN : N < 262144 := by have := h1.2; omega
      have H2 := Lib.hid h2
      have p2 : ((SL.length : Int) != 48) = false := by simp; omega
      have hz0 : (w.alloc (wo ⟨(N : Int), SL⟩ (some ⟨bg, og, none⟩) c)).heap.size = w.heap.size + 1 := by simp
      have HZ0 := Lib.hid hz0
      rw [hz0] at hbg
      clear hr h1 h2 hz0
      go_enter Try.func9, Try.ntmps9
      go_wp2_with fail
      refine (between_any _ _ _ _).mono ?_
      rintro e w' ⟨rfl, rfl⟩
      rw [p1]
      go_wp2
      have HC0 := Lib.hid (And.intro x1 x2)
      clear x1 x2 p1 p2
      generalize (w.alloc (wo ⟨(N : Int), SL⟩ (some ⟨bg, og, none⟩) c)) = w0 at *
      generalize hn : w.heap.size = n at *
      have HN := Lib.hid hn
      clear hn
      have HBw := HB0
      go_loopw [3, 4] (fun v x wr => ∃ (i : Nat) (sl : List Tm), i ≤ 48 ∧ x = .int .i64 (i : Int) ∧ chkAll (N : Int) 0 SL [] = chkAll (N : Int) i (SL.drop i) (sl.map Tm.id) ∧ OwnT wr (n + 1) v sl ∧ Ids (sl.map Tm.id) ∧ Below (n + 1) w0 wr) (fun _ x _ => 48 - (intOf x).toNat)
      case atStart => exact ⟨0, [], by omega, rfl, rfl, World.ownsRow_nil _ _ _ _, ⟨List.nodup_nil, fun x hx => by simp at hx⟩, Below.refl _ _⟩
      case round =>
        obtain ⟨i, sl0, hi, rfl, hall, hown, hids, hB⟩ := hrel
        have HA0 := Lib.hid hall
        have HO0 := Lib.hid hown
        have HI0 := Lib.hid hids
        have HBi := Lib.hid hB
        clear hall hown hids hB
        generalize u3 = v0 at *
        generalize wr = wz at *
        by_cases hi48 : i < 48
        · have hi1 : (i : Int) < 48 := by omega
          have hi2 : (i : Int) < (SL.length : Int) := by have := H2.out; omega
          have q48 : decide ((i : Int) < 48) = true := by simp; omega
          have hiS : i < SL.length := by rw [H2.out]; exact hi48
          obtain ⟨Al, cl, hrow, hTl, -⟩ := HR.out i hiS
          have HRow' := Lib.hid hrow
          have HTl := Lib.hid hTl
          have HAll0 := Lib.hid (HA0.out.trans (chkAll_drop (now := (N : Int)) (ids := sl0.map Tm.id) hiS))
          have hlk := hTl.len
          clear hrow hTl hiS
          generalize gr SL i = L at *
          obtain ⟨lk, hlk2⟩ : ∃ lk, L.length = lk := ⟨_, rfl⟩
          have HLK := Lib.hid hlk2
          rw [hlk2] at HRow' hlk
          clear hlk2
          have HAll : Hid (∀ (z : Int) (r : List Int), chk (N : Int) i L none (sl0.map Tm.id) = (z, r) → z ≠ 0 → (chkAll (N : Int) 0 SL []).1 = z) := Lib.hid (fun z r h hz => by rw [HAll0.out, h, if_pos hz])
          go_wp2
          go_loopw [3, 5] (fun v x wr => ∃ (k : Nat) (sl : List Tm), k ≤ lk ∧ x = .int .i64 (k : Int) ∧ chk (N : Int) i L none (sl0.map Tm.id) = chk (N : Int) i (L.drop k) (prev L k) (sl.map Tm.id) ∧ OwnT wr (n + 1) v sl ∧ Ids (sl.map Tm.id) ∧ Below (n + 1) w0 wr) (fun _ x _ => lk - (intOf x).toNat)
          case atStart => exact ⟨0, sl0, by omega, rfl, rfl, HO0.out, HI0.out, HBi.out⟩
          case round =>
            obtain ⟨k, sl, hk, rfl, hchk, hown, hids, hB⟩ := hrel
            have HC := Lib.hid hchk
            have HOr := Lib.hid hown
            have HI := Lib.hid hids
            have HB := Lib.hid hB
            have HZr0 : Hid (n + 1 ≤ wr.heap.size) := Lib.hid (by have := hB.size; have := HZ0.out; omega)
            clear hchk hown hids hB
            generalize u3 = v at *
            have c0 := (HB.out.cell (p := ⟨n, 0, none⟩) (Nat.lt_succ_self _)).trans HC0.out.1
            have c1 := (HB.out.cell (p := ⟨n, 1, none⟩) (Nat.lt_succ_self _)).trans HC0.out.2
            have c2 := (HB.out.cell (p := ⟨bg, og + i, none⟩) hbg).trans HRow'.out
            by_cases hlt : k < lk
            · have hkn : (k : Int) < (lk : Int) := by omega
              obtain ⟨bl, o, rfl, hbl0, hr⟩ := HTl.out.2.2.2 (by rw [HLK.out]; omega)
              have hbl : bl < n + 1 := by rw [HZ0.out] at hbl0; exact hbl0
              have HRow := HRow'
              obtain ⟨g1, g2⟩ := hr k (by rw [HLK.out]; exact hlt)
              have e1 := (HB.out.cell (p := ⟨bl, _, none⟩) hbl).trans g1
              have e2 := (HB.out.cell (p := ⟨bl, _, none⟩) hbl).trans g2
              have HD := Lib.hid (HC.out.trans (chk_drop (now := (N : Int)) (i := i) (ids := sl.map Tm.id) (by rw [HLK.out]; exact hlt)))
              have HW1 : Hid (Below wr.heap.size wr (wr.alloc (tbo (gt L k)))) := Lib.hid ((Below.refl _ _).alloc (Nat.le_refl _) _)
              have HTm : Hid (∀ W, Calls Try.prog 13 #[tv (gt L k), .int .i64 (N : Int)] W fun e w' => e = .returned (.bool (decide (okT (N : Int) (gt L k)))) ∧ Below W.heap.size W w') := Lib.hid (right_any _ _)
              have hx0 : (wr.alloc (tbo (gt L k))).cell? ⟨n, 0, none⟩ = some (.int .i64 (N : Int)) := (HW1.out.cell (p := ⟨n, 0, none⟩) (by show n < _; have := HZr0.out; omega)).trans c0
              by_cases hok : okT (N : Int) (gt L k)
              · have p1 : decide (okT (N : Int) (gt L k)) = true := by simpa using hok
                have HD1 := Lib.hid (HD.out.trans (if_pos hok))
                obtain ⟨hti1, hti2, hta, htn⟩ := id hok
                have hpr : ahead (prev L k) (gt L k) ↔ k = 0 ∨ ltT (gt L (k - 1)) (gt L k) := by
                  unfold prev ahead
                  by_cases e : k = 0 <;> simp [e]
                have hqq : 0 < k → w0.cell? ⟨bl, o + (k - 1) * 2, none⟩ = some (.int .i64 (gt L (k - 1)).id) ∧ w0.cell? ⟨bl, o + (k - 1) * 2 + 1, none⟩ = some (.int .i64 (gt L (k - 1)).tm) := fun h => hr (k - 1) (by rw [HLK.out]; omega)
                clear hok hr HD
                generalize gt L (k - 1) = qq at *
                generalize gt L k = t at *
                obtain ⟨ti, ta⟩ := t
                obtain ⟨a, rfl⟩ : ∃ a : Nat, ta = (a : Int) := ⟨ta.toNat, by have := hta.1; simp only at this; omega⟩
                have ha : a < 262144 := by have := hta.2; simp only at this; omega
                have hNa : N < a := by simp only at htn; omega
                simp only at hti1 hti2
                have HPl := Lib.hid (wplace_any a N · ha hN hNa)
                have HSl : Hid (slot (N : Int) ⟨ti, (a : Int)⟩ = slotN N a) := Lib.hid (by unfold slot; simp)
                clear hta htn
                dsimp only at e1 e2 g1 g2
                generalize slotN N a = s at *
                by_cases hsl : s = i
                · have hsl := hsl.symm
                  subst hsl
                  by_cases hk0 : k = 0
                  · have HE := Lib.hid (HD1.out.trans (if_pos ⟨HSl.out, hpr.2 (.inl hk0)⟩))
                    have hk4 : decide (0 < k) = false := by simp; omega
                    have hk5 : decide ((0 : Int) < (k : Int)) = false := by simp; omega
                    have HK0 := Lib.hid hk0
                    obtain ⟨m, hm⟩ : ∃ m, m = k := ⟨_, rfl⟩
                    obtain ⟨qi, hqi⟩ : ∃ qi, qi = ti := ⟨_, rfl⟩
                    obtain ⟨qa, hqa⟩ : ∃ qa : Int, qa = (a : Int) := ⟨_, rfl⟩
                    have HQ : Hid (w0.cell? ⟨bl, o + m * 2, none⟩ = some (.int .i64 qi) ∧ w0.cell? ⟨bl, o + m * 2 + 1, none⟩ = some (.int .i64 qa)) := Lib.hid (by rw [hm, hqi, hqa]; exact ⟨g1, g2⟩)
                    clear HD1 hpr hqq hk0 g1 g2 hm hqi hqa
                    go_wp2_with fail
                    refine (HTm.out _).mono ?_
                    rintro e w2 ⟨rfl, hb2⟩
                    rw [p1]
                    have HXp := Lib.hid (And.intro ((hb2.cell (p := ⟨wr.heap.size, 0, none⟩) (by simp)).trans (show (wr.alloc (tbo ⟨ti, (a : Int)⟩)).cell? ⟨wr.heap.size, 0, none⟩ = some (.int .i64 ti) by simp [go_sem])) ((hb2.cell (p := ⟨wr.heap.size, 1, none⟩) (by simp)).trans (show (wr.alloc (tbo ⟨ti, (a : Int)⟩)).cell? ⟨wr.heap.size, 1, none⟩ = some (.int .i64 (a : Int)) by simp [go_sem])))
                    have hb12 : Below wr.heap.size wr w2 := HW1.out.trans (hb2.mono (by simp))
                    have HB12 := Lib.hid hb12
                    have HPz : Hid (wr.heap.size < w2.heap.size) := Lib.hid (by have := hb2.size; simp at this; omega)
                    clear hb2 hb12
                    have HB2 : Hid (Below (n + 1) w0 w2) := Lib.hid (HB.out.trans (HB12.out.mono HZr0.out))
                    have HOw : Hid (OwnT w2 (n + 1) v sl) := Lib.hid (own_below HOr.out HB12.out)
                    generalize hp0 : wr.heap.size = p at *
                    have HP0 := Lib.hid hp0
                    clear hp0
                    have c0 := (HB2.out.cell (p := ⟨n, 0, none⟩) (Nat.lt_succ_self _)).trans HC0.out.1
                    have c1 := (HB2.out.cell (p := ⟨n, 1, none⟩) (Nat.lt_succ_self _)).trans HC0.out.2
                    have c2 := (HB2.out.cell (p := ⟨bg, og + i, none⟩) hbg).trans HRow.out
                    have d1 : w2.cell? ⟨bl, o + m * 2, none⟩ = some (.int .i64 qi) := (HB2.out.cell (p := ⟨bl, _, none⟩) hbl).trans HQ.out.1
                    have d2 : w2.cell? ⟨bl, o + m * 2 + 1, none⟩ = some (.int .i64 qa) := (HB2.out.cell (p := ⟨bl, _, none⟩) hbl).trans HQ.out.2
                    obtain ⟨x0, x1⟩ := HXp.out
                    have HS9 : Hid (S9 n p bg (og + i) bl (o + m * 2) (.int .i64 (N : Int)) (.slice (some ⟨bg, og, none⟩) SL.length c) (.slice (some ⟨bl, o, none⟩) lk cl) ⟨ti, (a : Int)⟩ ⟨qi, qa⟩ w2 w2) := Lib.hid ⟨c0, c1, x0, x1, c2, d1, d2, Below.refl _ _⟩
                    go_wp2
                    have HLtn : Hid (n < w2.heap.size) := Lib.hid (by have := HB2.out.size; have := HZ0.out; omega)
                    have HLtp : Hid (p < w2.heap.size) := HPz
                    have HLtg : Hid (bg < w2.heap.size) := Lib.hid (by have := HB2.out.size; have := HZ0.out; omega)
                    have HLtl : Hid (bl < w2.heap.size) := Lib.hid (by have := HB2.out.size; have := HZ0.out; omega)
                    clear x0 x1 c0 c1 c2 d1 d2
                    refine wp_region_held_drew (S := (fun w' => w'.cell? ⟨n, 0, none⟩ = some (.int .i64 (N : Int)) ∧ w'.cell? ⟨n, 1, none⟩ = some (.slice (some ⟨bg, og, none⟩) SL.length c) ∧ w'.cell? ⟨p, 0, none⟩ = some (.int .i64 ti) ∧ w'.cell? ⟨p, 1, none⟩ = some (.int .i64 (a : Int)) ∧ w'.cell? ⟨bg, og + i, none⟩ = some (.slice (some ⟨bl, o, none⟩) lk cl) ∧ w'.cell? ⟨bl, o + m * 2, none⟩ = some (.int .i64 qi) ∧ w'.cell? ⟨bl, o + m * 2 + 1, none⟩ = some (.int .i64 qa) ∧ Below w2.heap.size w2 w')) (by kernel_rfl) (S9.drew HS9.out) (fun hHeld => ?_)
                    refine any_on (i := 0) (some 43) (.pointer (some ⟨p, 1, none⟩)) rfl (by kernel_rfl) (by kernel_rfl) (by kernel_rfl) (fun _ _ _ h => h) rfl (fun w hSw => by obtain ⟨s1, s2, s3, s4, s5, s6, s7, -⟩ := hSw; go_simp) (by assumption) ?_
                    try simp only [Act.put, List.setIfInBounds_toArray, List.set_cons_zero, List.set_cons_succ]
                    refine any_on (i := 1) (some 44) (.int .i64 (a : Int)) rfl (by kernel_rfl) (by kernel_rfl) (by kernel_rfl) (fun _ _ _ h => h) rfl (fun w hSw => by obtain ⟨s1, s2, s3, s4, s5, s6, s7, -⟩ := hSw; go_simp) (by assumption) ?_
                    try simp only [Act.put, List.setIfInBounds_toArray, List.set_cons_zero, List.set_cons_succ]
                    refine any_on (i := 2) (some 45) (.pointer (some ⟨n, 0, none⟩)) rfl (by kernel_rfl) (by kernel_rfl) (by kernel_rfl) (fun _ _ _ h => h) rfl (fun w hSw => by obtain ⟨s1, s2, s3, s4, s5, s6, s7, -⟩ := hSw; go_simp) (by assumption) ?_
                    try simp only [Act.put, List.setIfInBounds_toArray, List.set_cons_zero, List.set_cons_succ]
                    refine any_on (i := 3) (some 46) (.int .i64 (N : Int)) rfl (by kernel_rfl) (by kernel_rfl) (by kernel_rfl) (fun _ _ _ h => h) rfl (fun w hSw => by obtain ⟨s1, s2, s3, s4, s5, s6, s7, -⟩ := hSw; go_simp) (by assumption) ?_
                    try simp only [Act.put, List.setIfInBounds_toArray, List.set_cons_zero, List.set_cons_succ]
                    refine any_on (i := 5) (some 48) (.int .i64 (i : Int)) rfl (by kernel_rfl) (by kernel_rfl) (by kernel_rfl) (fun _ _ _ h => h) rfl (fun w hSw => by obtain ⟨s1, s2, s3, s4, s5, s6, s7, -⟩ := hSw; go_simp) (by assumption) ?_
                    try simp only [Act.put, List.setIfInBounds_toArray, List.set_cons_zero, List.set_cons_succ]
                    refine wpAnyH_ready (rs := [4]) (by kernel_rfl) (by simp) ?_
                    refine AllReadyH.cons (o := _) rfl (fun K hK => ?_) AllReadyH.nil
                    go_simp
                    refine (HPl.out _).mono ?_
                    rintro e w8 ⟨rfl, hb8⟩
                    try go_wp2_with fail
                    refine hK.out _ _ (S9.next (t := ⟨ti, (a : Int)⟩) (q := ⟨qi, qa⟩) (S9.drew HS9.out) HLtn.out HLtp.out HLtg.out HLtl.out hb8) (fun hHeld2 => ?_)
                    clear hK K
                    try simp only [Act.put, List.setIfInBounds_toArray, List.set_cons_zero, List.set_cons_succ]
                    refine any_on (i := 6) (some 49) (.bool false) rfl (by kernel_rfl) (by kernel_rfl) (by kernel_rfl) (fun _ _ _ h => h) rfl (fun w hSw => by obtain ⟨s1, s2, s3, s4, s5, s6, s7, -⟩ := hSw; go_simp) (by assumption) ?_
                    try simp only [Act.put, List.setIfInBounds_toArray, List.set_cons_zero, List.set_cons_succ]
                    refine any_on (i := 7) (some 50) (.bool false) rfl (by kernel_rfl) (by kernel_rfl) (by kernel_rfl) (fun _ _ _ h => h) rfl (fun w hSw => by obtain ⟨s1, s2, s3, s4, s5, s6, s7, -⟩ := hSw; go_simp) (by assumption) ?_
                    try simp only [Act.put, List.setIfInBounds_toArray, List.set_cons_zero, List.set_cons_succ]
                    refine any_on (i := 8) (some 51) (.int .i64 (k : Int)) rfl (by kernel_rfl) (by kernel_rfl) (by kernel_rfl) (fun _ _ _ h => h) rfl (fun w hSw => by obtain ⟨s1, s2, s3, s4, s5, s6, s7, -⟩ := hSw; go_simp) (by assumption) ?_
                    try simp only [Act.put, List.setIfInBounds_toArray, List.set_cons_zero, List.set_cons_succ]
                    refine any_on (i := 9) (some 52) (.bool false) rfl (by kernel_rfl) (by kernel_rfl) (by kernel_rfl) (fun _ _ _ h => h) rfl (fun w hSw => by obtain ⟨s1, s2, s3, s4, s5, s6, s7, -⟩ := hSw; go_simp) (by assumption) ?_
                    try simp only [Act.put, List.setIfInBounds_toArray, List.set_cons_zero, List.set_cons_succ]
                    refine any_on (i := 10) (some 53) (.bool false) rfl (by kernel_rfl) (by kernel_rfl) (by kernel_rfl) (fun _ _ _ h => h) rfl (fun w hSw => by obtain ⟨s1, s2, s3, s4, s5, s6, s7, -⟩ := hSw; go_simp) (by assumption) ?_
                    try simp only [Act.put, List.setIfInBounds_toArray, List.set_cons_zero, List.set_cons_succ]
                    refine any_off (i := 11) (some 54) rfl (by kernel_rfl) (by kernel_rfl) (by kernel_rfl) (fun _ _ _ h => h) rfl (by assumption) ?_
                    try simp only [Act.put, List.setIfInBounds_toArray, List.set_cons_zero, List.set_cons_succ]
                    refine any_off (i := 12) (some 55) rfl (by kernel_rfl) (by kernel_rfl) (by kernel_rfl) (fun _ _ _ h => h) rfl (by assumption) ?_
                    try simp only [Act.put, List.setIfInBounds_toArray, List.set_cons_zero, List.set_cons_succ]
                    refine any_off (i := 13) (some 56) rfl (by kernel_rfl) (by kernel_rfl) (by kernel_rfl) (fun _ _ _ h => h) rfl (by assumption) ?_
                    try simp only [Act.put, List.setIfInBounds_toArray, List.set_cons_zero, List.set_cons_succ]
                    refine any_off (i := 14) (some 57) rfl (by kernel_rfl) (by kernel_rfl) (by kernel_rfl) (fun _ _ _ h => h) rfl (by assumption) ?_
                    try simp only [Act.put, List.setIfInBounds_toArray, List.set_cons_zero, List.set_cons_succ]
                    refine any_off (i := 15) (some 58) rfl (by kernel_rfl) (by kernel_rfl) (by kernel_rfl) (fun _ _ _ h => h) rfl (by assumption) ?_
                    try simp only [Act.put, List.setIfInBounds_toArray, List.set_cons_zero, List.set_cons_succ]
                    refine any_off (i := 16) (some 59) rfl (by kernel_rfl) (by kernel_rfl) (by kernel_rfl) (fun _ _ _ h => h) rfl (by assumption) ?_
                    try simp only [Act.put, List.setIfInBounds_toArray, List.set_cons_zero, List.set_cons_succ]
                    refine any_off (i := 17) (some 60) rfl (by kernel_rfl) (by kernel_rfl) (by kernel_rfl) (fun _ _ _ h => h) rfl (by assumption) ?_
                    try simp only [Act.put, List.setIfInBounds_toArray, List.set_cons_zero, List.set_cons_succ]
                    refine any_off (i := 18) (some 61) rfl (by kernel_rfl) (by kernel_rfl) (by kernel_rfl) (fun _ _ _ h => h) rfl (by assumption) ?_
                    try simp only [Act.put, List.setIfInBounds_toArray, List.set_cons_zero, List.set_cons_succ]
                    refine any_off (i := 19) (some 62) rfl (by kernel_rfl) (by kernel_rfl) (by kernel_rfl) (fun _ _ _ h => h) rfl (by assumption) ?_
                    try simp only [Act.put, List.setIfInBounds_toArray, List.set_cons_zero, List.set_cons_succ]
                    refine any_off (i := 20) (some 63) rfl (by kernel_rfl) (by kernel_rfl) (by kernel_rfl) (fun _ _ _ h => h) rfl (by assumption) ?_
                    try simp only [Act.put, List.setIfInBounds_toArray, List.set_cons_zero, List.set_cons_succ]
                    refine any_off (i := 21) (some 64) rfl (by kernel_rfl) (by kernel_rfl) (by kernel_rfl) (fun _ _ _ h => h) rfl (by assumption) ?_
                    try simp only [Act.put, List.setIfInBounds_toArray, List.set_cons_zero, List.set_cons_succ]
                    refine any_off (i := 22) (some 65) rfl (by kernel_rfl) (by kernel_rfl) (by kernel_rfl) (fun _ _ _ h => h) rfl (by assumption) ?_
                    try simp only [Act.put, List.setIfInBounds_toArray, List.set_cons_zero, List.set_cons_succ]
                    refine any_on (i := 23) (some 66) (.bool false) rfl (by kernel_rfl) (by kernel_rfl) (by kernel_rfl) (fun _ _ _ h => h) rfl (fun w hSw => by obtain ⟨s1, s2, s3, s4, s5, s6, s7, -⟩ := hSw; go_simp) (by assumption) ?_
                    try simp only [Act.put, List.setIfInBounds_toArray, List.set_cons_zero, List.set_cons_succ]
                    refine any_on (i := 24) (some 67) (.bool false) rfl (by kernel_rfl) (by kernel_rfl) (by kernel_rfl) (fun _ _ _ h => h) rfl (fun w hSw => by obtain ⟨s1, s2, s3, s4, s5, s6, s7, -⟩ := hSw; go_simp) (by assumption) ?_
                    try simp only [Act.put, List.setIfInBounds_toArray, List.set_cons_zero, List.set_cons_succ]
                    refine wpAnyH_done (by kernel_rfl) ?_ _
                    have hHH := hHeld2
                    clear hHeld hHeld2
                    have HXt := Lib.hid (And.intro hHH.2.2.1 hHH.2.2.2.1)
                    have HW29 : Hid (Below w2.heap.size w2 w8) := Lib.hid hHH.2.2.2.2.2.2.2
                    clear hHH hb8
                    generalize w8 = w9 at *
                    have HZ2' : Hid (n + 1 ≤ w2.heap.size) := Lib.hid (by have := HB2.out.size; have := HZ0.out; omega)
                    have HB9 : Hid (Below (n + 1) w0 w9) := Lib.hid (HB2.out.trans (HW29.out.mono HZ2'.out))
                    have HB9w : Hid (Below n w w9) := Lib.hid (HBw.out.trans (HB9.out.mono (Nat.le_succ _)))
                    have HN9' : Hid (n + 1 ≤ w9.heap.size) := Lib.hid (Nat.le_trans HZ2'.out HW29.out.size)
                    have HN9 : Hid (n ≤ w9.heap.size) := Lib.hid (by have := HN9'.out; omega)
                    have HPw : Hid (p < w9.heap.size) := Lib.hid (Nat.lt_of_lt_of_le HPz.out HW29.out.size)
                    have HOv : Hid (OwnT w9 (n + 1) v sl) := Lib.hid (own_below HOw.out HW29.out)
                    have HTs := Lib.hid HOv.out
                    obtain ⟨As, cs, hv, hTs, -⟩ := tms_of_own HTs.out
                    have HTv := Lib.hid hTs
                    obtain ⟨ms, hms⟩ : ∃ ms, sl.length = ms := ⟨_, rfl⟩
                    have HMs := Lib.hid hms
                    have hmsl : ms ≤ 1048577 := by have := HI.out.len; rw [List.length_map, hms] at this; exact this
                    rw [hms] at hv
                    subst hv
                    clear hTs hms
                    obtain ⟨x0, x1⟩ := HXt.out
                    go_wp2
                    clear x0 x1
                    go_loopw [7] (fun x wr => ∃ j : Nat, j ≤ ms ∧ x = .int .i64 (j : Int) ∧ (∀ q, q < j → (gt sl q).id ≠ ti) ∧ Below w9.heap.size w9 wr) (fun x _ => ms - (intOf x).toNat)
                    case atStart => exact ⟨0, by omega, rfl, fun q h => absurd h (by omega), Below.refl _ _⟩
                    case round =>
                      obtain ⟨j, hj, rfl, hnot, hbj⟩ := hrel
                      have HNot := Lib.hid hnot
                      have HBj := Lib.hid hbj
                      have x0 := (hbj.cell (p := ⟨p, 0, none⟩) HPw.out).trans HXt.out.1
                      have x1 := (hbj.cell (p := ⟨p, 1, none⟩) HPw.out).trans HXt.out.2
                      clear hnot hbj
                      by_cases hjl : j < ms
                      · have hjn : (j : Int) < (ms : Int) := by omega
                        obtain ⟨bs, os, rfl, ht⟩ := (HTv.out.below HBj.out).2.2.2 (by rw [HMs.out]; omega)
                        have e1 := (ht.2 j (by rw [HMs.out]; exact hjl)).1
                        have HMem : Hid ((gt sl j).id ∈ sl.map Tm.id) := Lib.hid (List.mem_map.2 ⟨_, gt_mem (by rw [HMs.out]; exact hjl), rfl⟩)
                        have HNx : Hid ((gt sl j).id ≠ ti → ∀ q, q < j + 1 → (gt sl q).id ≠ ti) := Lib.hid (fun hne q hq => by
                          rcases Nat.lt_or_eq_of_le (Nat.le_of_lt_succ hq) with h | h
                          · exact HNot.out q h
                          · rw [h]; exact hne)
                        clear ht
                        generalize (gt sl j).id = sj at *
                        by_cases he : sj = ti
                        · have HE2 := Lib.hid (HE.out.trans (if_pos (show ti ∈ sl.map Tm.id from he ▸ HMem.out)))
                          have q : (sj == ti) = true := by simpa using he
                          have HRes : Hid ((6 : Int) = checkW ⟨(N : Int), SL⟩) := Lib.hid (by rw [HCk.out, HAll.out 6 _ HE2.out (by decide), if_pos (by decide)])
                          clear he
                          go_wp2
                          go_quiet (fail)
                          have HBf : Hid (Below n w (wr.drewN nq)) := Lib.hid (HB9w.out.trans ((HBj.out.trans (below_drewN _ _ _)).mono HN9.out))
                          generalize wr.drewN nq = w12 at *
                          go_wp2
                          go_ret
                          exact ⟨ret_int HRes.out, by rw [HN.out]; exact HBf.out⟩
                        · have q : (sj == ti) = false := by simpa using he
                          have HNx2 := Lib.hid (HNx.out he)
                          clear he
                          go_wp2
                          go_quiet (fail)
                          have HBj2 : Hid (Below w9.heap.size w9 (wr.drewN nq)) := Lib.hid (HBj.out.trans (below_drewN _ _ _))
                          clear x0 x1 e1
                          generalize wr.drewN nq = w12 at *
                          go_wp2
                          go_roundw
                          case rel => exact ⟨j + 1, by omega, by go_num, HNx2.out, HBj2.out⟩
                          case measure => simp [intOf]; omega
                      · obtain rfl : j = ms := by omega
                        have hni : ti ∉ sl.map Tm.id := fun hm => by
                          obtain ⟨u, hu, e⟩ := List.mem_map.1 hm
                          obtain ⟨q, hq, rfl⟩ := List.getElem_of_mem hu
                          exact HNot.out q (by rw [← HMs.out]; exact hq) (by rw [gt_get hq]; exact e)
                        have HE2 := Lib.hid (HE.out.trans (if_neg hni))
                        have HI2 : Hid (Ids ((sl ++ [(⟨ti, (a : Int)⟩ : Tm)]).map Tm.id)) := Lib.hid (by rw [List.map_append]; exact HI.out.snoc hni hti1 hti2)
                        have HO1 : Hid (OwnT (wr.alloc (tbo ⟨ti, (a : Int)⟩)) (n + 1) (.slice As j cs) sl) := Lib.hid (own_below HTs.out (bel_al HBj.out HBj.out.size _))
                        have HZr : Hid (n + 1 ≤ wr.heap.size) := Lib.hid (Nat.le_trans HN9'.out HBj.out.size)
                        have HBa : Hid (Below (n + 1) w0 (wr.alloc (tbo ⟨ti, (a : Int)⟩))) := Lib.hid (bel_al (HB9.out.trans (HBj.out.mono HN9'.out)) HZr.out _)
                        have HZa : Hid (n + 1 ≤ (wr.alloc (tbo ⟨ti, (a : Int)⟩)).heap.size) := Lib.hid (Nat.le_trans HZr.out (by simp))
                        have HLk : Hid (sl.length + 1 ≤ 16777216) := Lib.hid (by rw [HMs.out]; omega)
                        clear hni hjl
                        go_wp2_with (at_builtin; refine wpList_append_wide (by rfl) _ _ (by rfl) (n + 1) _ sl (by rfl) HO1.out (some ⟨wr.heap.size, 0, none⟩) 1 _ [⟨ti, (a : Int)⟩] rfl (by rfl) (tms_one wr ⟨ti, (a : Int)⟩) HLk.out HZa.out ?_; intro v3 w13 hown3 hg3)
                        have HO3 : Hid (OwnT w13 (n + 1) v3 (sl ++ [⟨ti, (a : Int)⟩])) := Lib.hid hown3
                        have HB3 : Hid (Below (n + 1) w0 w13) := Lib.hid (HBa.out.grown hg3 HZa.out (fun q hq => (HO1.out.lt q hq).1))
                        clear hown3 hg3 x0 x1
                        have HE3 : Hid (chk (N : Int) i L none (sl0.map Tm.id) = chk (N : Int) i (L.drop (k + 1)) (prev L (k + 1)) ((sl ++ [(⟨ti, (a : Int)⟩ : Tm)]).map Tm.id)) := Lib.hid (by rw [HE2.out, List.map_append]; rfl)
                        go_wp2
                        go_roundw
                        case rel => exact ⟨k + 1, sl ++ [⟨ti, (a : Int)⟩], by omega, by go_num, HE3.out, HO3.out, HI2.out, HB3.out⟩
                        case measure => simp [intOf]; omega
                  · by_cases hlq : ltT qq ⟨ti, (a : Int)⟩
                    · have HE := Lib.hid (HD1.out.trans (if_pos ⟨HSl.out, hpr.2 (.inr hlq)⟩))
                      have pq : decide (ltT qq ⟨ti, (a : Int)⟩) = true := by simpa using hlq
                      obtain ⟨h1c, h2c⟩ := hqq (by omega)
                      have HAh : Hid (∀ W, Calls Try.prog 31 #[tv qq, tv ⟨ti, (a : Int)⟩] W fun e w' => e = .returned (.bool (decide (ltT qq ⟨ti, (a : Int)⟩))) ∧ Below W.heap.size W w') := Lib.hid (ahead_any _ _)
                      generalize decide (ltT qq ⟨ti, (a : Int)⟩) = dd at *
                      subst pq
                      obtain ⟨qi, qa⟩ := qq
                      obtain ⟨m, hm⟩ : ∃ m, m = k - 1 := ⟨_, rfl⟩
                      rw [← hm] at h1c h2c
                      have HQ : Hid (w0.cell? ⟨bl, o + m * 2, none⟩ = some (.int .i64 qi) ∧ w0.cell? ⟨bl, o + m * 2 + 1, none⟩ = some (.int .i64 qa)) := Lib.hid ⟨h1c, h2c⟩
                      have hk1 : decide ((0 : Int) < (k : Int)) = true := by simp; omega
                      have hk2 : decide (0 < k) = true := by simp; omega
                      have hk3 : (m : Int) < (lk : Int) := by omega
                      have hk6 : m < lk := by omega
                      have hk8 : (0 : Int) ≤ (m : Int) := by omega
                      have hk9 : IntKind.i64.wrap ((k : Int) - 1) = (m : Int) := by rw [IntKind.wrap_i64]; omega
                      have HM := Lib.hid hm
                      have HK0 := Lib.hid hk0
                      clear HD1 hpr hqq hlq hm hk0 h1c h2c g1 g2
                      go_wp2_with fail
                      refine (HTm.out _).mono ?_
                      rintro e w2 ⟨rfl, hb2⟩
                      rw [p1]
                      have HXp := Lib.hid (And.intro ((hb2.cell (p := ⟨wr.heap.size, 0, none⟩) (by simp)).trans (show (wr.alloc (tbo ⟨ti, (a : Int)⟩)).cell? ⟨wr.heap.size, 0, none⟩ = some (.int .i64 ti) by simp [go_sem])) ((hb2.cell (p := ⟨wr.heap.size, 1, none⟩) (by simp)).trans (show (wr.alloc (tbo ⟨ti, (a : Int)⟩)).cell? ⟨wr.heap.size, 1, none⟩ = some (.int .i64 (a : Int)) by simp [go_sem])))
                      have hb12 : Below wr.heap.size wr w2 := HW1.out.trans (hb2.mono (by simp))
                      have HB12 := Lib.hid hb12
                      have HPz : Hid (wr.heap.size < w2.heap.size) := Lib.hid (by have := hb2.size; simp at this; omega)
                      clear hb2 hb12
                      have HB2 : Hid (Below (n + 1) w0 w2) := Lib.hid (HB.out.trans (HB12.out.mono HZr0.out))
                      have HOw : Hid (OwnT w2 (n + 1) v sl) := Lib.hid (own_below HOr.out HB12.out)
                      generalize hp0 : wr.heap.size = p at *
                      have HP0 := Lib.hid hp0
                      clear hp0
                      have c0 := (HB2.out.cell (p := ⟨n, 0, none⟩) (Nat.lt_succ_self _)).trans HC0.out.1
                      have c1 := (HB2.out.cell (p := ⟨n, 1, none⟩) (Nat.lt_succ_self _)).trans HC0.out.2
                      have c2 := (HB2.out.cell (p := ⟨bg, og + i, none⟩) hbg).trans HRow.out
                      have d1 : w2.cell? ⟨bl, o + m * 2, none⟩ = some (.int .i64 qi) := (HB2.out.cell (p := ⟨bl, _, none⟩) hbl).trans HQ.out.1
                      have d2 : w2.cell? ⟨bl, o + m * 2 + 1, none⟩ = some (.int .i64 qa) := (HB2.out.cell (p := ⟨bl, _, none⟩) hbl).trans HQ.out.2
                      obtain ⟨x0, x1⟩ := HXp.out
                      have HS9 : Hid (S9 n p bg (og + i) bl (o + m * 2) (.int .i64 (N : Int)) (.slice (some ⟨bg, og, none⟩) SL.length c) (.slice (some ⟨bl, o, none⟩) lk cl) ⟨ti, (a : Int)⟩ ⟨qi, qa⟩ w2 w2) := Lib.hid ⟨c0, c1, x0, x1, c2, d1, d2, Below.refl _ _⟩
                      go_wp2
                      have HLtn : Hid (n < w2.heap.size) := Lib.hid (by have := HB2.out.size; have := HZ0.out; omega)
                      have HLtp : Hid (p < w2.heap.size) := HPz
                      have HLtg : Hid (bg < w2.heap.size) := Lib.hid (by have := HB2.out.size; have := HZ0.out; omega)
                      have HLtl : Hid (bl < w2.heap.size) := Lib.hid (by have := HB2.out.size; have := HZ0.out; omega)
                      clear x0 x1 c0 c1 c2 d1 d2
                      go_region_held3 (fun w' => w'.cell? ⟨n, 0, none⟩ = some (.int .i64 (N : Int)) ∧ w'.cell? ⟨n, 1, none⟩ = some (.slice (some ⟨bg, og, none⟩) SL.length c) ∧ w'.cell? ⟨p, 0, none⟩ = some (.int .i64 ti) ∧ w'.cell? ⟨p, 1, none⟩ = some (.int .i64 (a : Int)) ∧ w'.cell? ⟨bg, og + i, none⟩ = some (.slice (some ⟨bl, o, none⟩) lk cl) ∧ w'.cell? ⟨bl, o + m * 2, none⟩ = some (.int .i64 qi) ∧ w'.cell? ⟨bl, o + m * 2 + 1, none⟩ = some (.int .i64 qa) ∧ Below w2.heap.size w2 w')
                        (first | exact S9.next (t := ⟨ti, (a : Int)⟩) (q := ⟨qi, qa⟩) (S9.next (t := ⟨ti, (a : Int)⟩) (q := ⟨qi, qa⟩) (S9.drew HS9.out) HLtn.out HLtp.out HLtg.out HLtl.out hb8) HLtn.out HLtp.out HLtg.out HLtl.out hb9 | exact S9.next (t := ⟨ti, (a : Int)⟩) (q := ⟨qi, qa⟩) (S9.drew HS9.out) HLtn.out HLtp.out HLtg.out HLtl.out hb8 | exact S9.drew HS9.out)
                        (first | (go_at_call 30; refine (HPl.out _).mono ?_; rintro e w8 ⟨rfl, hb8⟩) | (go_at_call 31; refine (HAh.out _).mono ?_; rintro e w9 ⟨rfl, hb9⟩))
                      rename_i hHH
                      have HXt := Lib.hid (And.intro hHH.2.2.1 hHH.2.2.2.1)
                      have HW29 : Hid (Below w2.heap.size w2 w9) := Lib.hid hHH.2.2.2.2.2.2.2
                      clear hHH hb8 hb9
                      have HZ2' : Hid (n + 1 ≤ w2.heap.size) := Lib.hid (by have := HB2.out.size; have := HZ0.out; omega)
                      have HB9 : Hid (Below (n + 1) w0 w9) := Lib.hid (HB2.out.trans (HW29.out.mono HZ2'.out))
                      have HB9w : Hid (Below n w w9) := Lib.hid (HBw.out.trans (HB9.out.mono (Nat.le_succ _)))
                      have HN9' : Hid (n + 1 ≤ w9.heap.size) := Lib.hid (Nat.le_trans HZ2'.out HW29.out.size)
                      have HN9 : Hid (n ≤ w9.heap.size) := Lib.hid (by have := HN9'.out; omega)
                      have HPw : Hid (p < w9.heap.size) := Lib.hid (Nat.lt_of_lt_of_le HPz.out HW29.out.size)
                      have HOv : Hid (OwnT w9 (n + 1) v sl) := Lib.hid (own_below HOw.out HW29.out)
                      have HTs := Lib.hid HOv.out
                      obtain ⟨As, cs, hv, hTs, -⟩ := tms_of_own HTs.out
                      have HTv := Lib.hid hTs
                      obtain ⟨ms, hms⟩ : ∃ ms, sl.length = ms := ⟨_, rfl⟩
                      have HMs := Lib.hid hms
                      have hmsl : ms ≤ 1048577 := by have := HI.out.len; rw [List.length_map, hms] at this; exact this
                      rw [hms] at hv
                      subst hv
                      clear hTs hms
                      obtain ⟨x0, x1⟩ := HXt.out
                      go_wp2
                      clear x0 x1
                      go_loopw [7] (fun x wr => ∃ j : Nat, j ≤ ms ∧ x = .int .i64 (j : Int) ∧ (∀ q, q < j → (gt sl q).id ≠ ti) ∧ Below w9.heap.size w9 wr) (fun x _ => ms - (intOf x).toNat)
                      case atStart => exact ⟨0, by omega, rfl, fun q h => absurd h (by omega), Below.refl _ _⟩
                      case round =>
                        obtain ⟨j, hj, rfl, hnot, hbj⟩ := hrel
                        have HNot := Lib.hid hnot
                        have HBj := Lib.hid hbj
                        have x0 := (hbj.cell (p := ⟨p, 0, none⟩) HPw.out).trans HXt.out.1
                        have x1 := (hbj.cell (p := ⟨p, 1, none⟩) HPw.out).trans HXt.out.2
                        clear hnot hbj
                        by_cases hjl : j < ms
                        · have hjn : (j : Int) < (ms : Int) := by omega
                          obtain ⟨bs, os, rfl, ht⟩ := (HTv.out.below HBj.out).2.2.2 (by rw [HMs.out]; omega)
                          have e1 := (ht.2 j (by rw [HMs.out]; exact hjl)).1
                          have HMem : Hid ((gt sl j).id ∈ sl.map Tm.id) := Lib.hid (List.mem_map.2 ⟨_, gt_mem (by rw [HMs.out]; exact hjl), rfl⟩)
                          have HNx : Hid ((gt sl j).id ≠ ti → ∀ q, q < j + 1 → (gt sl q).id ≠ ti) := Lib.hid (fun hne q hq => by
                            rcases Nat.lt_or_eq_of_le (Nat.le_of_lt_succ hq) with h | h
                            · exact HNot.out q h
                            · rw [h]; exact hne)
                          clear ht
                          generalize (gt sl j).id = sj at *
                          by_cases he : sj = ti
                          · have HE2 := Lib.hid (HE.out.trans (if_pos (show ti ∈ sl.map Tm.id from he ▸ HMem.out)))
                            have q : (sj == ti) = true := by simpa using he
                            have HRes : Hid ((6 : Int) = checkW ⟨(N : Int), SL⟩) := Lib.hid (by rw [HCk.out, HAll.out 6 _ HE2.out (by decide), if_pos (by decide)])
                            clear he
                            go_wp2
                            go_quiet (fail)
                            have HBf : Hid (Below n w (wr.drewN nq)) := Lib.hid (HB9w.out.trans ((HBj.out.trans (below_drewN _ _ _)).mono HN9.out))
                            generalize wr.drewN nq = w12 at *
                            go_wp2
                            go_ret
                            exact ⟨ret_int HRes.out, by rw [HN.out]; exact HBf.out⟩
                          · have q : (sj == ti) = false := by simpa using he
                            have HNx2 := Lib.hid (HNx.out he)
                            clear he
                            go_wp2
                            go_quiet (fail)
                            have HBj2 : Hid (Below w9.heap.size w9 (wr.drewN nq)) := Lib.hid (HBj.out.trans (below_drewN _ _ _))
                            clear x0 x1 e1
                            generalize wr.drewN nq = w12 at *
                            go_wp2
                            go_roundw
                            case rel => exact ⟨j + 1, by omega, by go_num, HNx2.out, HBj2.out⟩
                            case measure => simp [intOf]; omega
                        · obtain rfl : j = ms := by omega
                          have hni : ti ∉ sl.map Tm.id := fun hm => by
                            obtain ⟨u, hu, e⟩ := List.mem_map.1 hm
                            obtain ⟨q, hq, rfl⟩ := List.getElem_of_mem hu
                            exact HNot.out q (by rw [← HMs.out]; exact hq) (by rw [gt_get hq]; exact e)
                          have HE2 := Lib.hid (HE.out.trans (if_neg hni))
                          have HI2 : Hid (Ids ((sl ++ [(⟨ti, (a : Int)⟩ : Tm)]).map Tm.id)) := Lib.hid (by rw [List.map_append]; exact HI.out.snoc hni hti1 hti2)
                          have HO1 : Hid (OwnT (wr.alloc (tbo ⟨ti, (a : Int)⟩)) (n + 1) (.slice As j cs) sl) := Lib.hid (own_below HTs.out (bel_al HBj.out HBj.out.size _))
                          have HZr : Hid (n + 1 ≤ wr.heap.size) := Lib.hid (Nat.le_trans HN9'.out HBj.out.size)
                          have HBa : Hid (Below (n + 1) w0 (wr.alloc (tbo ⟨ti, (a : Int)⟩))) := Lib.hid (bel_al (HB9.out.trans (HBj.out.mono HN9'.out)) HZr.out _)
                          have HZa : Hid (n + 1 ≤ (wr.alloc (tbo ⟨ti, (a : Int)⟩)).heap.size) := Lib.hid (Nat.le_trans HZr.out (by simp))
                          have HLk : Hid (sl.length + 1 ≤ 16777216) := Lib.hid (by rw [HMs.out]; omega)
                          clear hni hjl
                          go_wp2_with (at_builtin; refine wpList_append_wide (by rfl) _ _ (by rfl) (n + 1) _ sl (by rfl) HO1.out (some ⟨wr.heap.size, 0, none⟩) 1 _ [⟨ti, (a : Int)⟩] rfl (by rfl) (tms_one wr ⟨ti, (a : Int)⟩) HLk.out HZa.out ?_; intro v3 w13 hown3 hg3)
                          have HO3 : Hid (OwnT w13 (n + 1) v3 (sl ++ [⟨ti, (a : Int)⟩])) := Lib.hid hown3
                          have HB3 : Hid (Below (n + 1) w0 w13) := Lib.hid (HBa.out.grown hg3 HZa.out (fun q hq => (HO1.out.lt q hq).1))
                          clear hown3 hg3 x0 x1
                          have HE3 : Hid (chk (N : Int) i L none (sl0.map Tm.id) = chk (N : Int) i (L.drop (k + 1)) (prev L (k + 1)) ((sl ++ [(⟨ti, (a : Int)⟩ : Tm)]).map Tm.id)) := Lib.hid (by rw [HE2.out, List.map_append]; rfl)
                          go_wp2
                          go_roundw
                          case rel => exact ⟨k + 1, sl ++ [⟨ti, (a : Int)⟩], by omega, by go_num, HE3.out, HO3.out, HI2.out, HB3.out⟩
                          case measure => simp [intOf]; omega
                    · have HE := Lib.hid (HD1.out.trans (if_neg (fun h => (hpr.1 h.2).elim hk0 hlq)))
                      have pq : decide (ltT qq ⟨ti, (a : Int)⟩) = false := by simpa using hlq
                      obtain ⟨h1c, h2c⟩ := hqq (by omega)
                      have HAh : Hid (∀ W, Calls Try.prog 31 #[tv qq, tv ⟨ti, (a : Int)⟩] W fun e w' => e = .returned (.bool (decide (ltT qq ⟨ti, (a : Int)⟩))) ∧ Below W.heap.size W w') := Lib.hid (ahead_any _ _)
                      generalize decide (ltT qq ⟨ti, (a : Int)⟩) = dd at *
                      subst pq
                      obtain ⟨qi, qa⟩ := qq
                      obtain ⟨m, hm⟩ : ∃ m, m = k - 1 := ⟨_, rfl⟩
                      rw [← hm] at h1c h2c
                      have HQ : Hid (w0.cell? ⟨bl, o + m * 2, none⟩ = some (.int .i64 qi) ∧ w0.cell? ⟨bl, o + m * 2 + 1, none⟩ = some (.int .i64 qa)) := Lib.hid ⟨h1c, h2c⟩
                      have hk1 : decide ((0 : Int) < (k : Int)) = true := by simp; omega
                      have hk2 : decide (0 < k) = true := by simp; omega
                      have hk3 : (m : Int) < (lk : Int) := by omega
                      have hk6 : m < lk := by omega
                      have hk8 : (0 : Int) ≤ (m : Int) := by omega
                      have hk9 : IntKind.i64.wrap ((k : Int) - 1) = (m : Int) := by rw [IntKind.wrap_i64]; omega
                      have HM := Lib.hid hm
                      have HK0 := Lib.hid hk0
                      clear HD1 hpr hqq hlq hm hk0 h1c h2c g1 g2
                      go_wp2_with fail
                      refine (HTm.out _).mono ?_
                      rintro e w2 ⟨rfl, hb2⟩
                      rw [p1]
                      have HXp := Lib.hid (And.intro ((hb2.cell (p := ⟨wr.heap.size, 0, none⟩) (by simp)).trans (show (wr.alloc (tbo ⟨ti, (a : Int)⟩)).cell? ⟨wr.heap.size, 0, none⟩ = some (.int .i64 ti) by simp [go_sem])) ((hb2.cell (p := ⟨wr.heap.size, 1, none⟩) (by simp)).trans (show (wr.alloc (tbo ⟨ti, (a : Int)⟩)).cell? ⟨wr.heap.size, 1, none⟩ = some (.int .i64 (a : Int)) by simp [go_sem])))
                      have hb12 : Below wr.heap.size wr w2 := HW1.out.trans (hb2.mono (by simp))
                      have HB12 := Lib.hid hb12
                      have HPz : Hid (wr.heap.size < w2.heap.size) := Lib.hid (by have := hb2.size; simp at this; omega)
                      clear hb2 hb12
                      have HB2 : Hid (Below (n + 1) w0 w2) := Lib.hid (HB.out.trans (HB12.out.mono HZr0.out))
                      have HOw : Hid (OwnT w2 (n + 1) v sl) := Lib.hid (own_below HOr.out HB12.out)
                      generalize hp0 : wr.heap.size = p at *
                      have HP0 := Lib.hid hp0
                      clear hp0
                      have c0 := (HB2.out.cell (p := ⟨n, 0, none⟩) (Nat.lt_succ_self _)).trans HC0.out.1
                      have c1 := (HB2.out.cell (p := ⟨n, 1, none⟩) (Nat.lt_succ_self _)).trans HC0.out.2
                      have c2 := (HB2.out.cell (p := ⟨bg, og + i, none⟩) hbg).trans HRow.out
                      have d1 : w2.cell? ⟨bl, o + m * 2, none⟩ = some (.int .i64 qi) := (HB2.out.cell (p := ⟨bl, _, none⟩) hbl).trans HQ.out.1
                      have d2 : w2.cell? ⟨bl, o + m * 2 + 1, none⟩ = some (.int .i64 qa) := (HB2.out.cell (p := ⟨bl, _, none⟩) hbl).trans HQ.out.2
                      obtain ⟨x0, x1⟩ := HXp.out
                      have HS9 : Hid (S9 n p bg (og + i) bl (o + m * 2) (.int .i64 (N : Int)) (.slice (some ⟨bg, og, none⟩) SL.length c) (.slice (some ⟨bl, o, none⟩) lk cl) ⟨ti, (a : Int)⟩ ⟨qi, qa⟩ w2 w2) := Lib.hid ⟨c0, c1, x0, x1, c2, d1, d2, Below.refl _ _⟩
                      go_wp2
                      have HLtn : Hid (n < w2.heap.size) := Lib.hid (by have := HB2.out.size; have := HZ0.out; omega)
                      have HLtp : Hid (p < w2.heap.size) := HPz
                      have HLtg : Hid (bg < w2.heap.size) := Lib.hid (by have := HB2.out.size; have := HZ0.out; omega)
                      have HLtl : Hid (bl < w2.heap.size) := Lib.hid (by have := HB2.out.size; have := HZ0.out; omega)
                      clear x0 x1 c0 c1 c2 d1 d2
                      go_region_held3 (fun w' => w'.cell? ⟨n, 0, none⟩ = some (.int .i64 (N : Int)) ∧ w'.cell? ⟨n, 1, none⟩ = some (.slice (some ⟨bg, og, none⟩) SL.length c) ∧ w'.cell? ⟨p, 0, none⟩ = some (.int .i64 ti) ∧ w'.cell? ⟨p, 1, none⟩ = some (.int .i64 (a : Int)) ∧ w'.cell? ⟨bg, og + i, none⟩ = some (.slice (some ⟨bl, o, none⟩) lk cl) ∧ w'.cell? ⟨bl, o + m * 2, none⟩ = some (.int .i64 qi) ∧ w'.cell? ⟨bl, o + m * 2 + 1, none⟩ = some (.int .i64 qa) ∧ Below w2.heap.size w2 w')
                        (first | exact S9.next (t := ⟨ti, (a : Int)⟩) (q := ⟨qi, qa⟩) (S9.next (t := ⟨ti, (a : Int)⟩) (q := ⟨qi, qa⟩) (S9.drew HS9.out) HLtn.out HLtp.out HLtg.out HLtl.out hb8) HLtn.out HLtp.out HLtg.out HLtl.out hb9 | exact S9.next (t := ⟨ti, (a : Int)⟩) (q := ⟨qi, qa⟩) (S9.drew HS9.out) HLtn.out HLtp.out HLtg.out HLtl.out hb8 | exact S9.drew HS9.out)
                        (first | (go_at_call 30; refine (HPl.out _).mono ?_; rintro e w8 ⟨rfl, hb8⟩) | (go_at_call 31; refine (HAh.out _).mono ?_; rintro e w9 ⟨rfl, hb9⟩))
                      rename_i hHH
                      have HXt := Lib.hid (And.intro hHH.2.2.1 hHH.2.2.2.1)
                      have HW29 : Hid (Below w2.heap.size w2 w9) := Lib.hid hHH.2.2.2.2.2.2.2
                      clear hHH hb8 hb9
                      have HZ2' : Hid (n + 1 ≤ w2.heap.size) := Lib.hid (by have := HB2.out.size; have := HZ0.out; omega)
                      have HB9 : Hid (Below (n + 1) w0 w9) := Lib.hid (HB2.out.trans (HW29.out.mono HZ2'.out))
                      have HB9w : Hid (Below n w w9) := Lib.hid (HBw.out.trans (HB9.out.mono (Nat.le_succ _)))
                      have HN9' : Hid (n + 1 ≤ w9.heap.size) := Lib.hid (Nat.le_trans HZ2'.out HW29.out.size)
                      have HN9 : Hid (n ≤ w9.heap.size) := Lib.hid (by have := HN9'.out; omega)
                      have HPw : Hid (p < w9.heap.size) := Lib.hid (Nat.lt_of_lt_of_le HPz.out HW29.out.size)
                      have HOv : Hid (OwnT w9 (n + 1) v sl) := Lib.hid (own_below HOw.out HW29.out)
                      have HRes : Hid ((4 : Int) = checkW ⟨(N : Int), SL⟩) := Lib.hid (by rw [HCk.out, HAll.out 4 _ HE.out (by decide), if_pos (by decide)])
                      go_wp2
                      go_ret
                      exact ⟨ret_int HRes.out, by rw [HN.out]; exact HB9w.out⟩
                · have HE := Lib.hid (HD1.out.trans (if_neg (fun h => hsl (HSl.out.symm.trans h.1))))
                  have p2 : ((s : Int) != (i : Int)) = true := by simp; omega
                  have p3 : (s == i) = false := by simp; omega
                  have p4 : ((s : Int) == (i : Int)) = false := by simp; omega
                  obtain ⟨m, hm⟩ : ∃ m, m = k := ⟨_, rfl⟩
                  obtain ⟨qi, hqi⟩ : ∃ qi, qi = ti := ⟨_, rfl⟩
                  obtain ⟨qa, hqa⟩ : ∃ qa : Int, qa = (a : Int) := ⟨_, rfl⟩
                  have HQ : Hid (w0.cell? ⟨bl, o + m * 2, none⟩ = some (.int .i64 qi) ∧ w0.cell? ⟨bl, o + m * 2 + 1, none⟩ = some (.int .i64 qa)) := Lib.hid (by rw [hm, hqi, hqa]; exact ⟨g1, g2⟩)
                  clear HD1 hpr hqq g1 g2 hm hqi hqa
                  go_wp2_with fail
                  refine (HTm.out _).mono ?_
                  rintro e w2 ⟨rfl, hb2⟩
                  rw [p1]
                  have HXp := Lib.hid (And.intro ((hb2.cell (p := ⟨wr.heap.size, 0, none⟩) (by simp)).trans (show (wr.alloc (tbo ⟨ti, (a : Int)⟩)).cell? ⟨wr.heap.size, 0, none⟩ = some (.int .i64 ti) by simp [go_sem])) ((hb2.cell (p := ⟨wr.heap.size, 1, none⟩) (by simp)).trans (show (wr.alloc (tbo ⟨ti, (a : Int)⟩)).cell? ⟨wr.heap.size, 1, none⟩ = some (.int .i64 (a : Int)) by simp [go_sem])))
                  have hb12 : Below wr.heap.size wr w2 := HW1.out.trans (hb2.mono (by simp))
                  have HB12 := Lib.hid hb12
                  have HPz : Hid (wr.heap.size < w2.heap.size) := Lib.hid (by have := hb2.size; simp at this; omega)
                  clear hb2 hb12
                  have HB2 : Hid (Below (n + 1) w0 w2) := Lib.hid (HB.out.trans (HB12.out.mono HZr0.out))
                  have HOw : Hid (OwnT w2 (n + 1) v sl) := Lib.hid (own_below HOr.out HB12.out)
                  generalize hp0 : wr.heap.size = p at *
                  have HP0 := Lib.hid hp0
                  clear hp0
                  have c0 := (HB2.out.cell (p := ⟨n, 0, none⟩) (Nat.lt_succ_self _)).trans HC0.out.1
                  have c1 := (HB2.out.cell (p := ⟨n, 1, none⟩) (Nat.lt_succ_self _)).trans HC0.out.2
                  have c2 := (HB2.out.cell (p := ⟨bg, og + i, none⟩) hbg).trans HRow.out
                  have d1 : w2.cell? ⟨bl, o + m * 2, none⟩ = some (.int .i64 qi) := (HB2.out.cell (p := ⟨bl, _, none⟩) hbl).trans HQ.out.1
                  have d2 : w2.cell? ⟨bl, o + m * 2 + 1, none⟩ = some (.int .i64 qa) := (HB2.out.cell (p := ⟨bl, _, none⟩) hbl).trans HQ.out.2
                  obtain ⟨x0, x1⟩ := HXp.out
                  have HS9 : Hid (S9 n p bg (og + i) bl (o + m * 2) (.int .i64 (N : Int)) (.slice (some ⟨bg, og, none⟩) SL.length c) (.slice (some ⟨bl, o, none⟩) lk cl) ⟨ti, (a : Int)⟩ ⟨qi, qa⟩ w2 w2) := Lib.hid ⟨c0, c1, x0, x1, c2, d1, d2, Below.refl _ _⟩
                  go_wp2
                  have HLtn : Hid (n < w2.heap.size) := Lib.hid (by have := HB2.out.size; have := HZ0.out; omega)
                  have HLtp : Hid (p < w2.heap.size) := HPz
                  have HLtg : Hid (bg < w2.heap.size) := Lib.hid (by have := HB2.out.size; have := HZ0.out; omega)
                  have HLtl : Hid (bl < w2.heap.size) := Lib.hid (by have := HB2.out.size; have := HZ0.out; omega)
                  clear x0 x1 c0 c1 c2 d1 d2
                  refine wp_region_held_drew (S := (fun w' => w'.cell? ⟨n, 0, none⟩ = some (.int .i64 (N : Int)) ∧ w'.cell? ⟨n, 1, none⟩ = some (.slice (some ⟨bg, og, none⟩) SL.length c) ∧ w'.cell? ⟨p, 0, none⟩ = some (.int .i64 ti) ∧ w'.cell? ⟨p, 1, none⟩ = some (.int .i64 (a : Int)) ∧ w'.cell? ⟨bg, og + i, none⟩ = some (.slice (some ⟨bl, o, none⟩) lk cl) ∧ w'.cell? ⟨bl, o + m * 2, none⟩ = some (.int .i64 qi) ∧ w'.cell? ⟨bl, o + m * 2 + 1, none⟩ = some (.int .i64 qa) ∧ Below w2.heap.size w2 w')) (by kernel_rfl) (S9.drew HS9.out) (fun hHeld => ?_)
                  refine any_on (i := 0) (some 43) (.pointer (some ⟨p, 1, none⟩)) rfl (by kernel_rfl) (by kernel_rfl) (by kernel_rfl) (fun _ _ _ h => h) rfl (fun w hSw => by obtain ⟨s1, s2, s3, s4, s5, s6, s7, -⟩ := hSw; go_simp) (by assumption) ?_
                  try simp only [Act.put, List.setIfInBounds_toArray, List.set_cons_zero, List.set_cons_succ]
                  refine any_on (i := 1) (some 44) (.int .i64 (a : Int)) rfl (by kernel_rfl) (by kernel_rfl) (by kernel_rfl) (fun _ _ _ h => h) rfl (fun w hSw => by obtain ⟨s1, s2, s3, s4, s5, s6, s7, -⟩ := hSw; go_simp) (by assumption) ?_
                  try simp only [Act.put, List.setIfInBounds_toArray, List.set_cons_zero, List.set_cons_succ]
                  refine any_on (i := 2) (some 45) (.pointer (some ⟨n, 0, none⟩)) rfl (by kernel_rfl) (by kernel_rfl) (by kernel_rfl) (fun _ _ _ h => h) rfl (fun w hSw => by obtain ⟨s1, s2, s3, s4, s5, s6, s7, -⟩ := hSw; go_simp) (by assumption) ?_
                  try simp only [Act.put, List.setIfInBounds_toArray, List.set_cons_zero, List.set_cons_succ]
                  refine any_on (i := 3) (some 46) (.int .i64 (N : Int)) rfl (by kernel_rfl) (by kernel_rfl) (by kernel_rfl) (fun _ _ _ h => h) rfl (fun w hSw => by obtain ⟨s1, s2, s3, s4, s5, s6, s7, -⟩ := hSw; go_simp) (by assumption) ?_
                  try simp only [Act.put, List.setIfInBounds_toArray, List.set_cons_zero, List.set_cons_succ]
                  refine any_on (i := 5) (some 48) (.int .i64 (i : Int)) rfl (by kernel_rfl) (by kernel_rfl) (by kernel_rfl) (fun _ _ _ h => h) rfl (fun w hSw => by obtain ⟨s1, s2, s3, s4, s5, s6, s7, -⟩ := hSw; go_simp) (by assumption) ?_
                  try simp only [Act.put, List.setIfInBounds_toArray, List.set_cons_zero, List.set_cons_succ]
                  refine wpAnyH_ready (rs := [4]) (by kernel_rfl) (by simp) ?_
                  refine AllReadyH.cons (o := _) rfl (fun K hK => ?_) AllReadyH.nil
                  go_simp
                  refine (HPl.out _).mono ?_
                  rintro e w8 ⟨rfl, hb8⟩
                  try go_wp2_with fail
                  refine hK.out _ _ (S9.next (t := ⟨ti, (a : Int)⟩) (q := ⟨qi, qa⟩) (S9.drew HS9.out) HLtn.out HLtp.out HLtg.out HLtl.out hb8) (fun hHeld2 => ?_)
                  clear hK K
                  try simp only [Act.put, List.setIfInBounds_toArray, List.set_cons_zero, List.set_cons_succ]
                  refine any_on (i := 6) (some 49) (.bool true) rfl (by kernel_rfl) (by kernel_rfl) (by kernel_rfl) (fun _ _ _ h => h) rfl (fun w hSw => by obtain ⟨s1, s2, s3, s4, s5, s6, s7, -⟩ := hSw; go_simp) (by assumption) ?_
                  try simp only [Act.put, List.setIfInBounds_toArray, List.set_cons_zero, List.set_cons_succ]
                  refine any_on (i := 7) (some 50) (.bool true) rfl (by kernel_rfl) (by kernel_rfl) (by kernel_rfl) (fun _ _ _ h => h) rfl (fun w hSw => by obtain ⟨s1, s2, s3, s4, s5, s6, s7, -⟩ := hSw; go_simp) (by assumption) ?_
                  try simp only [Act.put, List.setIfInBounds_toArray, List.set_cons_zero, List.set_cons_succ]
                  refine any_off (i := 8) (some 51) rfl (by kernel_rfl) (by kernel_rfl) (by kernel_rfl) (fun _ _ _ h => h) rfl (by assumption) ?_
                  try simp only [Act.put, List.setIfInBounds_toArray, List.set_cons_zero, List.set_cons_succ]
                  refine any_off (i := 9) (some 52) rfl (by kernel_rfl) (by kernel_rfl) (by kernel_rfl) (fun _ _ _ h => h) rfl (by assumption) ?_
                  try simp only [Act.put, List.setIfInBounds_toArray, List.set_cons_zero, List.set_cons_succ]
                  refine any_off (i := 10) (some 53) rfl (by kernel_rfl) (by kernel_rfl) (by kernel_rfl) (fun _ _ _ h => h) rfl (by assumption) ?_
                  try simp only [Act.put, List.setIfInBounds_toArray, List.set_cons_zero, List.set_cons_succ]
                  refine any_off (i := 11) (some 54) rfl (by kernel_rfl) (by kernel_rfl) (by kernel_rfl) (fun _ _ _ h => h) rfl (by assumption) ?_
                  try simp only [Act.put, List.setIfInBounds_toArray, List.set_cons_zero, List.set_cons_succ]
                  refine any_off (i := 12) (some 55) rfl (by kernel_rfl) (by kernel_rfl) (by kernel_rfl) (fun _ _ _ h => h) rfl (by assumption) ?_
                  try simp only [Act.put, List.setIfInBounds_toArray, List.set_cons_zero, List.set_cons_succ]
                  refine any_off (i := 13) (some 56) rfl (by kernel_rfl) (by kernel_rfl) (by kernel_rfl) (fun _ _ _ h => h) rfl (by assumption) ?_
                  try simp only [Act.put, List.setIfInBounds_toArray, List.set_cons_zero, List.set_cons_succ]
                  refine any_off (i := 14) (some 57) rfl (by kernel_rfl) (by kernel_rfl) (by kernel_rfl) (fun _ _ _ h => h) rfl (by assumption) ?_
                  try simp only [Act.put, List.setIfInBounds_toArray, List.set_cons_zero, List.set_cons_succ]
                  refine any_off (i := 15) (some 58) rfl (by kernel_rfl) (by kernel_rfl) (by kernel_rfl) (fun _ _ _ h => h) rfl (by assumption) ?_
                  try simp only [Act.put, List.setIfInBounds_toArray, List.set_cons_zero, List.set_cons_succ]
                  refine any_off (i := 16) (some 59) rfl (by kernel_rfl) (by kernel_rfl) (by kernel_rfl) (fun _ _ _ h => h) rfl (by assumption) ?_
                  try simp only [Act.put, List.setIfInBounds_toArray, List.set_cons_zero, List.set_cons_succ]
                  refine any_off (i := 17) (some 60) rfl (by kernel_rfl) (by kernel_rfl) (by kernel_rfl) (fun _ _ _ h => h) rfl (by assumption) ?_
                  try simp only [Act.put, List.setIfInBounds_toArray, List.set_cons_zero, List.set_cons_succ]
                  refine any_off (i := 18) (some 61) rfl (by kernel_rfl) (by kernel_rfl) (by kernel_rfl) (fun _ _ _ h => h) rfl (by assumption) ?_
                  try simp only [Act.put, List.setIfInBounds_toArray, List.set_cons_zero, List.set_cons_succ]
                  refine any_off (i := 19) (some 62) rfl (by kernel_rfl) (by kernel_rfl) (by kernel_rfl) (fun _ _ _ h => h) rfl (by assumption) ?_
                  try simp only [Act.put, List.setIfInBounds_toArray, List.set_cons_zero, List.set_cons_succ]
                  refine any_off (i := 20) (some 63) rfl (by kernel_rfl) (by kernel_rfl) (by kernel_rfl) (fun _ _ _ h => h) rfl (by assumption) ?_
                  try simp only [Act.put, List.setIfInBounds_toArray, List.set_cons_zero, List.set_cons_succ]
                  refine any_off (i := 21) (some 64) rfl (by kernel_rfl) (by kernel_rfl) (by kernel_rfl) (fun _ _ _ h => h) rfl (by assumption) ?_
                  try simp only [Act.put, List.setIfInBounds_toArray, List.set_cons_zero, List.set_cons_succ]
                  refine any_off (i := 22) (some 65) rfl (by kernel_rfl) (by kernel_rfl) (by kernel_rfl) (fun _ _ _ h => h) rfl (by assumption) ?_
                  try simp only [Act.put, List.setIfInBounds_toArray, List.set_cons_zero, List.set_cons_succ]
                  refine any_off (i := 23) (some 66) rfl (by kernel_rfl) (by kernel_rfl) (by kernel_rfl) (fun _ _ _ h => h) rfl (by assumption) ?_
                  try simp only [Act.put, List.setIfInBounds_toArray, List.set_cons_zero, List.set_cons_succ]
                  refine any_on (i := 24) (some 67) (.bool true) rfl (by kernel_rfl) (by kernel_rfl) (by kernel_rfl) (fun _ _ _ h => h) rfl (fun w hSw => by obtain ⟨s1, s2, s3, s4, s5, s6, s7, -⟩ := hSw; go_simp) (by assumption) ?_
                  try simp only [Act.put, List.setIfInBounds_toArray, List.set_cons_zero, List.set_cons_succ]
                  refine wpAnyH_done (by kernel_rfl) ?_ _
                  have hHH := hHeld2
                  clear hHeld hHeld2
                  have HXt := Lib.hid (And.intro hHH.2.2.1 hHH.2.2.2.1)
                  have HW29 : Hid (Below w2.heap.size w2 w8) := Lib.hid hHH.2.2.2.2.2.2.2
                  clear hHH hb8
                  generalize w8 = w9 at *
                  have HZ2' : Hid (n + 1 ≤ w2.heap.size) := Lib.hid (by have := HB2.out.size; have := HZ0.out; omega)
                  have HB9 : Hid (Below (n + 1) w0 w9) := Lib.hid (HB2.out.trans (HW29.out.mono HZ2'.out))
                  have HB9w : Hid (Below n w w9) := Lib.hid (HBw.out.trans (HB9.out.mono (Nat.le_succ _)))
                  have HN9' : Hid (n + 1 ≤ w9.heap.size) := Lib.hid (Nat.le_trans HZ2'.out HW29.out.size)
                  have HN9 : Hid (n ≤ w9.heap.size) := Lib.hid (by have := HN9'.out; omega)
                  have HPw : Hid (p < w9.heap.size) := Lib.hid (Nat.lt_of_lt_of_le HPz.out HW29.out.size)
                  have HOv : Hid (OwnT w9 (n + 1) v sl) := Lib.hid (own_below HOw.out HW29.out)
                  have HRes : Hid ((4 : Int) = checkW ⟨(N : Int), SL⟩) := Lib.hid (by rw [HCk.out, HAll.out 4 _ HE.out (by decide), if_pos (by decide)])
                  go_wp2
                  go_ret
                  exact ⟨ret_int HRes.out, by rw [HN.out]; exact HB9w.out⟩
              · have p1 : decide (okT (N : Int) (gt L k)) = false := by simpa using hok
                have HE := Lib.hid (HD.out.trans (if_neg hok))
                have HRes : Hid ((3 : Int) = checkW ⟨(N : Int), SL⟩) := Lib.hid (by rw [HCk.out, HAll.out 3 _ HE.out (by decide), if_pos (by decide)])
                clear HD hok hr
                generalize gt L k = t at *
                obtain ⟨ti, ta⟩ := t
                go_wp2_with fail
                refine (HTm.out _).mono ?_
                rintro e w2 ⟨rfl, hb2⟩
                rw [p1]
                have HBf : Hid (Below n w w2) := Lib.hid (HBw.out.trans ((HB.out.mono (Nat.le_succ _)).trans ((HW1.out.trans (hb2.mono (by simp))).mono (by have := HZr0.out; omega))))
                clear hb2
                go_wp2
                go_ret
                exact ⟨ret_int HRes.out, by rw [HN.out]; exact HBf.out⟩
            · obtain rfl : k = lk := by omega
              have HE : Hid (chk (N : Int) i L none (sl0.map Tm.id) = (0, sl.map Tm.id)) := Lib.hid (by rw [HC.out, ← HLK.out, List.drop_length]; rfl)
              have HA1 : Hid (chkAll (N : Int) 0 SL [] = chkAll (N : Int) (i + 1) (SL.drop (i + 1)) (sl.map Tm.id)) := Lib.hid (by rw [HAll0.out, HE.out, if_neg (by simp)])
              go_wp2
              go_roundw
              case rel => exact ⟨i + 1, sl, by omega, by go_num, HA1.out, HOr.out, HI.out, HB.out⟩
              case measure => simp [intOf]; omega
        · obtain rfl : i = 48 := by omega
          have HE : Hid (chkAll (N : Int) 0 SL [] = (0, sl0.map Tm.id)) := Lib.hid (by rw [HA0.out, List.drop_of_length_le (by rw [H2.out]; exact Nat.le_refl _)]; rfl)
          obtain ⟨As, cs, hv, hTs, -⟩ := tms_of_own HO0.out
          have HBf : Hid (Below n w wz) := Lib.hid (HBw.out.trans (HBi.out.mono (Nat.le_succ _)))
          obtain ⟨ms, hms⟩ : ∃ ms, sl0.length = ms := ⟨_, rfl⟩
          have HMs := Lib.hid hms
          rw [hms] at hv
          have hmsl : ms ≤ 1048577 := by have := HI0.out.len; rw [List.length_map, hms] at this; exact this
          clear hms hTs
          subst hv
          by_cases h60 : 60 < ms
          · have q : decide (60 < ms) = true := by simpa using h60
            have HRes : Hid ((2 : Int) = checkW ⟨(N : Int), SL⟩) := Lib.hid (by rw [HCk.out, HE.out, if_neg (by simp), if_pos (by rw [List.length_map, HMs.out]; exact h60)])
            go_wp2
            go_ret
            exact ⟨ret_int HRes.out, by rw [HN.out]; exact HBf.out⟩
          · have q : decide (60 < ms) = false := by simpa using h60
            have HRes : Hid ((0 : Int) = checkW ⟨(N : Int), SL⟩) := Lib.hid (by rw [HCk.out, HE.out, if_neg (by simp), if_neg (by rw [List.length_map, HMs.out]; exact h60)])
            go_wp2
            go_ret
            exact ⟨ret_int HRes.out, by rw [HN.out]; exact HBf.out⟩
    · have p2 : ((W.slots.length : Int) != 48) = true := by simp; omega
      have HE : Hid ((1 : Int) = checkW W) := Lib.hid (by unfold checkW; rw [if_pos h1, if_neg h2])
      clear h1 h2
      go_enter Try.func9, Try.ntmps9
      go_wp2_with fail
      refine (between_any _ _ _ _).mono ?_
      rintro e w' ⟨rfl, rfl⟩
      rw [p1]
      go_wp2
      go_ret
      exact ⟨ret_int HE.out, HB0.out⟩
  · have p1 : decide (0 ≤ W.now ∧ W.now ≤ 262143) = false := by unfold isT at h1; simpa using h1
    have HE : Hid ((3 : Int) = checkW W) := Lib.hid (by unfold checkW; rw [if_neg h1])
    clear h1
    go_enter Try.func9, Try.ntmps9
    go_wp2_with fail
    refine (between_any _ _ _ _).mono ?_
    rintro e w' ⟨rfl, rfl⟩
    rw [p1]
    go_wp2
    go_ret
    exact ⟨ret_int HE.out, HB0.out⟩

end Go.Proofs.Yteldnohdijcbpaa.Whl
