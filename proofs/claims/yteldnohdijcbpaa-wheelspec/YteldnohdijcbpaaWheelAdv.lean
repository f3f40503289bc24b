/-
  What Advance of package wheel returns.
-/
import Derived.Test.YteldnohdijcbpaaWheelCan
import Derived.Test.YteldnohdijcbpaaWheelSlice
namespace Go.Proofs.Yteldnohdijcbpaa.Whl
open Go.RowKit Go.Maps
set_option linter.unusedVariables false

/-- A result: a wheel, timers, an error. -/
def VR (W : Whl) (G : List Tm) (er : Int) (w : World) (e : Ending) (w' : World) : Prop :=
  ∃ A c A2 c2, e = .returned (.tuple #[wv W A c, .slice A2 G.length c2, .int .i64 er]) ∧ Grid w.heap.size w' A c W.slots ∧ Tms w' A2 c2 G ∧ (∀ a, A2 = some a → w.heap.size ≤ a.block) ∧ Below w.heap.size w w'
theorem VR.none_ {w w' : World} {er : Int} (h : Below w.heap.size w w') : VR Whl.no [] er w (.returned (.tuple #[wv Whl.no none 0, .slice none 0 0, .int .i64 er])) w' :=
  ⟨none, 0, none, 0, rfl, Grid.none_ _ _, Tms.none_ _, fun a e => (by cases e), h⟩
/-- All blocks but one stand as they stood. -/
def Kp (m : Nat) (wk w' : World) : Prop := wk.heap.size ≤ w'.heap.size ∧ ∀ k, k < wk.heap.size → k ≠ m → w'.heap[k]? = wk.heap[k]?
theorem Kp.of {m : Nat} {wk w' : World} (h : Below wk.heap.size wk w') : Kp m wk w' := ⟨h.size, fun k hk _ => h.block k hk⟩
theorem Kp.next {m : Nat} {wk w' w'' : World} (h : Kp m wk w') (hb : Below w'.heap.size w' w'') : Kp m wk w'' := ⟨Nat.le_trans h.1 hb.size, fun k hk hm => (hb.block k (Nat.lt_of_lt_of_le hk h.1)).trans (h.2 k hk hm)⟩
theorem Kp.set {m : Nat} {wk w' : World} (h : Kp m wk w') (j : Nat) (u : Value) : Kp m wk (w'.setCell ⟨m, j, none⟩ u) :=
  ⟨by simpa [World.setCell] using h.1, fun k hk hm => (Below.heap_setCell w' ⟨m, j, none⟩ u k hm).trans (h.2 k hk hm)⟩
theorem Tms.kp {m : Nat} {wk w' : World} {A : Option Addr} {c : Nat} {L : List Tm} (h : Tms wk A c L) (hk : Kp m wk w') (hm : ∀ a, A = some a → a.block ≠ m) : Tms w' A c L :=
  ⟨h.1, h.2.1, h.2.2.1, fun hl => by
    obtain ⟨b, o, e, h1, h2⟩ := h.2.2.2 hl
    have hb : ∀ k, w'.cell? ⟨b, k, none⟩ = wk.cell? ⟨b, k, none⟩ := fun k => World.cell?_of_block (w := wk) (a := ⟨b, k, none⟩) (hk.2 b h1 (hm _ e))
    exact ⟨b, o, e, Nat.lt_of_lt_of_le h1 hk.1, fun i hi => ⟨(hb _).trans (h2 i hi).1, (hb _).trans (h2 i hi).2⟩⟩⟩

set_option maxHeartbeats 8000000 in
theorem advance_any (W : Whl) (A : Option Addr) (c : Nat) (tq : Int) (w : World) (hG : Grid 0 w A c W.slots) :
    Calls Try.prog 7 #[wv W A c, .int .i64 tq] w (VR (advM W tq) (advG W tq) (errV W tq) w) := by
  have HS := Lib.hid (CS.new (n := w.heap.size) (W := W) (A := A) (c := c) w rfl)
  have HB0 : Hid (Below w.heap.size w (w.alloc (wo W A c))) := Lib.hid ((Below.refl _ w).alloc (Nat.le_refl _) (wo W A c))
  have HG := Lib.hid hG
  clear hG
  by_cases h0 : checkW W = 0
  · have H0 := Lib.hid h0
    have HGd := Lib.hid (good_of h0)
    have H48 := Lib.hid (slots_of h0)
    have HF : Hid (W.slots.flatten.length ≤ 60) := Lib.hid HGd.out.few
    by_cases h1 : isT tq
    · have p1 : decide (isT tq) = true := by simpa using h1
      by_cases h2 : tq < W.now
      · have HE : Hid (advM W tq = Whl.no ∧ advG W tq = [] ∧ errV W tq = 4) := Lib.hid (by
          have e : errV W tq = 4 := by unfold errV; rw [if_pos h0, if_pos h1, if_pos h2]
          exact ⟨by unfold advM; rw [e]; rfl, by unfold advG; rw [e]; rfl, e⟩)
        have q : decide (tq < W.now) = true := by simpa using h2
        clear h0 h1 h2 HGd
        go_enter Try.func7, Try.ntmps7
        go_wp2_with fail
        refine (check_any W A c _ (HG.out.below (HB0.out.trans ((CS.below HS.out).mono (by omega))))).mono ?_
        rintro e w1 ⟨rfl, hb1⟩
        have HS1 := Lib.hid (CS.next HS.out (CS.size HS.out) hb1)
        clear hb1
        generalize (w.alloc (wo W A c)) = w0 at *
        generalize hn : w.heap.size = n at *
        have HN := Lib.hid hn
        clear hn
        rw [H0.out]
        go_wp2_with fail
        refine (isTime_any _ _).mono ?_
        rintro e w' ⟨rfl, rfl⟩
        rw [p1]
        obtain ⟨x0, x1, r0, r1, f0, f1, -, -⟩ := HS1.out
        go_wp2
        refine bodyPost_ret (v := .tuple #[wv Whl.no none 0, .slice none 0 0, .int .i64 4]) (by simp [results, Try.results7, go_sem, r0, r1]; try exact ⟨rfl, rfl⟩) rfl ?_
        rw [HE.out.1, HE.out.2.1, HE.out.2.2]
        exact VR.none_ (by rw [HN.out]; exact HB0.out.trans (below_set2 (CS.below HS1.out) _ _ |>.mono (by omega)))
      · have HE : Hid (advM W tq = wheelOf tq (lateT W.slots.flatten tq) ∧ advG W tq = goneT W.slots.flatten tq ∧ errV W tq = 0) := Lib.hid (by
          have e : errV W tq = 0 := by unfold errV; rw [if_pos h0, if_pos h1, if_neg h2]
          exact ⟨by unfold advM; rw [if_pos e]; rfl, by unfold advG; rw [if_pos e]; rfl, e⟩)
        have q : decide (tq < W.now) = false := by simpa using h2
        have HM : Hid (Good tq (lateT W.slots.flatten tq)) := Lib.hid (good_late HGd.out h1)
        have HSo : Hid (Sorted W.slots.flatten) := Lib.hid HGd.out.sorted
        clear h0 h1 h2 HGd
        go_enter Try.func7, Try.ntmps7
        go_wp2_with fail
        refine (check_any W A c _ (HG.out.below (HB0.out.trans ((CS.below HS.out).mono (by omega))))).mono ?_
        rintro e w1 ⟨rfl, hb1⟩
        have HS1 := Lib.hid (CS.next HS.out (CS.size HS.out) hb1)
        clear hb1
        generalize (w.alloc (wo W A c)) = w0 at *
        generalize hn : w.heap.size = n at *
        have HN := Lib.hid hn
        clear hn
        rw [H0.out]
        go_wp2_with fail
        refine (isTime_any _ _).mono ?_
        rintro e w' ⟨rfl, rfl⟩
        rw [p1]
        obtain ⟨x0, x1, -⟩ := HS1.out
        go_wp2_with fail
        refine (timers_any W A c _ (HG.out.below (w' := w1) (by rw [HN.out]; exact HB0.out.trans ((CS.below HS1.out).mono (by omega)))) (by have := H48.out; omega) (by have := H48.out; omega) (by have := HF.out; omega)).mono ?_
        rintro e w3 ⟨v, rfl, ho3, hb3⟩
        have HS3 := Lib.hid (CS.next HS1.out (CS.size HS1.out) hb3)
        obtain ⟨A3, c3, rfl, hT3, hA3⟩ := tms_of_own ho3
        have HO3 := Lib.hid ho3
        have HT3 := Lib.hid hT3
        have HA3 := Lib.hid hA3
        have HB3 := Lib.hid hb3
        clear x0 x1 hb3 ho3 hT3 hA3
        generalize W.slots.flatten = L at *
        clear q p1 H0 H48
        have HSp : Hid (∀ a, A3 = some a → a.spot = none) := Lib.hid (fun a ha => by
          subst ha
          rcases HO3.out.2 with ⟨h, -⟩ | ⟨g, cap, cur, h, -⟩
          · cases h
          · cases h; rfl)
        have HFL := Lib.hid (fun a (h : a < L.length) => gt_get h)
        obtain ⟨ln, hln⟩ : ∃ ln, L.length = ln := ⟨_, rfl⟩
        have HLN := Lib.hid hln
        have hl60 : ln ≤ 60 := hln ▸ HF.out
        rw [hln]
        clear hln
        go_wp2
        go_loopw [9] (fun x wr => ∃ k : Nat, k ≤ ln ∧ x = .int .i64 (k : Int) ∧ (∀ a, a < k → (gt L a).tm ≤ tq) ∧ w3 = wr) (fun x _ => ln - (intOf x).toNat)
        case atStart => exact ⟨0, by omega, rfl, fun a h => absurd h (by omega), rfl⟩
        case round =>
          obtain ⟨k, hk, rfl, hall, rfl⟩ := hrel
          have HAl := Lib.hid hall
          clear hall
          by_cases hin : k < ln ∧ (gt L k).tm ≤ tq
          · obtain ⟨hlt, hle⟩ := hin
            have hkn : (k : Int) < (ln : Int) := by omega
            obtain ⟨b, o, rfl, ht⟩ := HT3.out.2.2.2 (by rw [HLN.out]; omega)
            have e1 := (ht.2 k (by rw [HLN.out]; exact hlt)).2
            have HAl2 : Hid (∀ a, a < k + 1 → (gt L a).tm ≤ tq) := Lib.hid (fun a ha => by
              rcases Nat.lt_or_eq_of_le (Nat.le_of_lt_succ ha) with h | h
              · exact HAl.out a h
              · rw [h]; exact hle)
            clear ht
            generalize (gt L k).tm = ta at *
            go_wp2
            go_roundw
            case rel => exact ⟨k + 1, by omega, by go_num, HAl2.out, trivial⟩
            case measure => simp [intOf]; omega
          · have HPa := Lib.hid (parts_at (k := k) HSo.out (by rw [HLN.out]; exact hk) HAl.out (fun h => by rw [HLN.out] at h; have : ¬ (gt L k).tm ≤ tq := fun h2 => hin ⟨h, h2⟩; omega))
            obtain ⟨AL, cL, hsl1, hTL, hAL⟩ := slice_from HT3.out (k := k) (by rw [HLN.out]; exact hk)
            obtain ⟨hsl2, hTG⟩ := slice_upto HT3.out (k := k) (by rw [HLN.out]; exact hk) HSp.out
            rw [HLN.out, ← HPa.out.2] at hsl1
            rw [HLN.out, ← HPa.out.1] at hsl2
            rw [← HPa.out.2] at hTL
            rw [← HPa.out.1] at hTG
            have HTL := Lib.hid hTL
            have HTG := Lib.hid hTG
            have HML : Hid (∀ a, AL = some a → a.block ≠ n + 1) := Lib.hid (fun a ha => by
              obtain ⟨a0, h1, h2⟩ := hAL a ha
              have h3 := HA3.out a0 h1
              have h4 := CS.size HS1.out
              omega)
            have HMG : Hid (∀ a, A3 = some a → a.block ≠ n + 1) := Lib.hid (fun a ha => by
              have h3 := HA3.out a ha
              have h4 := CS.size HS1.out
              omega)
            have HLg : Hid ((goneT L tq).length ≤ 1048576) := Lib.hid (by rw [HPa.out.1, List.length_take, HLN.out]; omega)
            clear hTL hTG hAL HPa
            by_cases hlt : k < ln
            · have hle : ¬ (gt L k).tm ≤ tq := fun h => hin ⟨hlt, h⟩
              have hkn : (k : Int) < (ln : Int) := by omega
              obtain ⟨b, o, hbo, ht⟩ := HT3.out.2.2.2 (by rw [HLN.out]; omega)
              have e1 := (ht.2 k (by rw [HLN.out]; exact hlt)).2
              clear ht hin
              generalize (gt L k).tm = ta at *
              have hd : decide (ta ≤ tq) = false := by simpa using hle
              clear hle
              subst hbo
              obtain ⟨x0, x1, -⟩ := HS3.out
              have HBd := Lib.hid (build_good HM.out)
              generalize lateT L tq = M at *
              generalize goneT L tq = G at *
              have HC : Hid (∀ Wd, CS n W A c w0 Wd ∧ Kp (n + 1) w3 Wd → Calls Try.prog 28 #[.slice (some ⟨b, o, none⟩) G.length c3] Wd fun e w' => ∃ A' c', e = .returned (.slice A' G.length c') ∧ Tms w' A' c' G ∧ (∀ a, A' = some a → Wd.heap.size ≤ a.block) ∧ Below Wd.heap.size Wd w') :=
                Lib.hid (fun Wd h => clone_any (some ⟨b, o, none⟩) c3 G Wd (HTG.out.kp h.2 HMG.out) HSp.out HLg.out)
              have HD : Hid (∀ Wd, CS n W A c w0 Wd ∧ Kp (n + 1) w3 Wd → Calls Try.prog 20 #[.int .i64 tq, .slice AL M.length cL] Wd fun e w' => ∃ A' c', e = .returned (wv (wheelOf tq M) A' c') ∧ Grid Wd.heap.size w' A' c' (spread tq M) ∧ Below Wd.heap.size Wd w') :=
                Lib.hid (fun Wd h => HBd.out Wd AL cL (HTL.out.kp h.2 HML.out))
              have HS9 : Hid (CS n W A c w0 w3.drew ∧ Kp (n + 1) w3 w3.drew) := Lib.hid ⟨CS.drew HS3.out, Kp.of (Below.refl _ _).drew⟩
              have HZ9 := Lib.hid (CS.size HS9.out.1)
              clear HTL HTG HBd
              go_wp2
              clear x0 x1
              go_region_held3 (fun w' => w'.cell? ⟨n, 0, none⟩ = some (.int .i64 W.now) ∧ w'.cell? ⟨n, 1, none⟩ = some (.slice A W.slots.length c) ∧
            w'.cell? ⟨n + 1, 0, none⟩ = some (rd w' (n + 1) 0) ∧ w'.cell? ⟨n + 1, 1, none⟩ = some (rd w' (n + 1) 1) ∧ w'.frozen? ⟨n + 1, 0, none⟩ = false ∧ w'.frozen? ⟨n + 1, 1, none⟩ = false ∧ n + 1 + 1 ≤ w'.heap.size ∧ Below (n + 1) w0 w')
                (first | exact CS.set1 (CS.set1 (CS.next (CS.next HS9.out.1 HZ9.out hb7) (CS.size (CS.next HS9.out.1 HZ9.out hb7)) hb8) _ _) _ _ | exact CS.next (CS.next HS9.out.1 HZ9.out hb7) (CS.size (CS.next HS9.out.1 HZ9.out hb7)) hb8 | exact CS.next HS9.out.1 HZ9.out hb7 | exact HS9.out.1)
                (first
                  | (go_at_call 20; refine (HD.out w3.drew HS9.out).mono ?_; rintro e w7 ⟨A7, c7, rfl, hg7, hb7⟩)
                  | (go_at_call 28; refine (HC.out w7 ⟨CS.next HS9.out.1 HZ9.out hb7, Kp.next HS9.out.2 hb7⟩).mono ?_; rintro e w8 ⟨A8, c8, rfl, hT8, hA8, hb8⟩))
              have h7 := CS.next HS9.out.1 HZ9.out hb7
              have HS8 := Lib.hid (CS.next h7 (CS.size h7) hb8)
              have HZ7 := Lib.hid (CS.size h7)
              have HG8 := Lib.hid (hg7.below hb8)
              have HT8 := Lib.hid hT8
              have HA8 := Lib.hid hA8
              rename_i hHH
              clear hHH h7 hb7 hb8 hg7 hT8 hA8
              obtain ⟨-, -, r0, r1, f0, f1, -, -⟩ := HS8.out
              go_wp2
              refine bodyPost_ret (v := .tuple #[wv (wheelOf tq M) A7 c7, .slice A8 G.length c8, .int .i64 0]) (by simp [results, Try.results7, go_sem, r0, r1]) rfl ?_
              rw [HE.out.1, HE.out.2.1, HE.out.2.2]
              refine ⟨A7, c7, A8, c8, rfl, ?_, ?_, fun a ha => by have := HA8.out a ha; have := HZ7.out; rw [HN.out]; omega, by rw [HN.out]; exact HB0.out.trans (below_set2 (CS.below HS8.out) _ _ |>.mono (by omega))⟩
              · exact Grid.mono ((HG8.out.setCell (p := ⟨n + 1, 0, none⟩) HZ9.out _).setCell (p := ⟨n + 1, 1, none⟩) HZ9.out _) (by rw [HN.out]; have := HZ9.out; omega)
              · exact (HT8.out.setCell (p := ⟨n + 1, 0, none⟩) (fun a ha => by have := HA8.out a ha; have := HZ7.out; show n + 1 ≠ a.block; omega) _).setCell (p := ⟨n + 1, 1, none⟩) (fun a ha => by have := HA8.out a ha; have := HZ7.out; show n + 1 ≠ a.block; omega) _
            · obtain rfl : k = ln := by omega
              clear hin hlt
              obtain ⟨x0, x1, -⟩ := HS3.out
              have HBd := Lib.hid (build_good HM.out)
              generalize lateT L tq = M at *
              generalize goneT L tq = G at *
              have HC : Hid (∀ Wd, CS n W A c w0 Wd ∧ Kp (n + 1) w3 Wd → Calls Try.prog 28 #[.slice A3 G.length c3] Wd fun e w' => ∃ A' c', e = .returned (.slice A' G.length c') ∧ Tms w' A' c' G ∧ (∀ a, A' = some a → Wd.heap.size ≤ a.block) ∧ Below Wd.heap.size Wd w') :=
                Lib.hid (fun Wd h => clone_any A3 c3 G Wd (HTG.out.kp h.2 HMG.out) HSp.out HLg.out)
              have HD : Hid (∀ Wd, CS n W A c w0 Wd ∧ Kp (n + 1) w3 Wd → Calls Try.prog 20 #[.int .i64 tq, .slice AL M.length cL] Wd fun e w' => ∃ A' c', e = .returned (wv (wheelOf tq M) A' c') ∧ Grid Wd.heap.size w' A' c' (spread tq M) ∧ Below Wd.heap.size Wd w') :=
                Lib.hid (fun Wd h => HBd.out Wd AL cL (HTL.out.kp h.2 HML.out))
              have HS9 : Hid (CS n W A c w0 w3.drew ∧ Kp (n + 1) w3 w3.drew) := Lib.hid ⟨CS.drew HS3.out, Kp.of (Below.refl _ _).drew⟩
              have HZ9 := Lib.hid (CS.size HS9.out.1)
              clear HTL HTG HBd
              go_wp2
              clear x0 x1
              go_region_held3 (fun w' => w'.cell? ⟨n, 0, none⟩ = some (.int .i64 W.now) ∧ w'.cell? ⟨n, 1, none⟩ = some (.slice A W.slots.length c) ∧
            w'.cell? ⟨n + 1, 0, none⟩ = some (rd w' (n + 1) 0) ∧ w'.cell? ⟨n + 1, 1, none⟩ = some (rd w' (n + 1) 1) ∧ w'.frozen? ⟨n + 1, 0, none⟩ = false ∧ w'.frozen? ⟨n + 1, 1, none⟩ = false ∧ n + 1 + 1 ≤ w'.heap.size ∧ Below (n + 1) w0 w')
                (first | exact CS.set1 (CS.set1 (CS.next (CS.next HS9.out.1 HZ9.out hb7) (CS.size (CS.next HS9.out.1 HZ9.out hb7)) hb8) _ _) _ _ | exact CS.next (CS.next HS9.out.1 HZ9.out hb7) (CS.size (CS.next HS9.out.1 HZ9.out hb7)) hb8 | exact CS.next HS9.out.1 HZ9.out hb7 | exact HS9.out.1)
                (first
                  | (go_at_call 20; refine (HD.out w3.drew HS9.out).mono ?_; rintro e w7 ⟨A7, c7, rfl, hg7, hb7⟩)
                  | (go_at_call 28; refine (HC.out w7 ⟨CS.next HS9.out.1 HZ9.out hb7, Kp.next HS9.out.2 hb7⟩).mono ?_; rintro e w8 ⟨A8, c8, rfl, hT8, hA8, hb8⟩))
              have h7 := CS.next HS9.out.1 HZ9.out hb7
              have HS8 := Lib.hid (CS.next h7 (CS.size h7) hb8)
              have HZ7 := Lib.hid (CS.size h7)
              have HG8 := Lib.hid (hg7.below hb8)
              have HT8 := Lib.hid hT8
              have HA8 := Lib.hid hA8
              rename_i hHH
              clear hHH h7 hb7 hb8 hg7 hT8 hA8
              obtain ⟨-, -, r0, r1, f0, f1, -, -⟩ := HS8.out
              go_wp2
              refine bodyPost_ret (v := .tuple #[wv (wheelOf tq M) A7 c7, .slice A8 G.length c8, .int .i64 0]) (by simp [results, Try.results7, go_sem, r0, r1]) rfl ?_
              rw [HE.out.1, HE.out.2.1, HE.out.2.2]
              refine ⟨A7, c7, A8, c8, rfl, ?_, ?_, fun a ha => by have := HA8.out a ha; have := HZ7.out; rw [HN.out]; omega, by rw [HN.out]; exact HB0.out.trans (below_set2 (CS.below HS8.out) _ _ |>.mono (by omega))⟩
              · exact Grid.mono ((HG8.out.setCell (p := ⟨n + 1, 0, none⟩) HZ9.out _).setCell (p := ⟨n + 1, 1, none⟩) HZ9.out _) (by rw [HN.out]; have := HZ9.out; omega)
              · exact (HT8.out.setCell (p := ⟨n + 1, 0, none⟩) (fun a ha => by have := HA8.out a ha; have := HZ7.out; show n + 1 ≠ a.block; omega) _).setCell (p := ⟨n + 1, 1, none⟩) (fun a ha => by have := HA8.out a ha; have := HZ7.out; show n + 1 ≠ a.block; omega) _
    · have p1 : decide (isT tq) = false := by simpa using h1
      have HE : Hid (advM W tq = Whl.no ∧ advG W tq = [] ∧ errV W tq = 3) := Lib.hid (by
        have e : errV W tq = 3 := by unfold errV; rw [if_pos h0, if_neg h1]
        exact ⟨by unfold advM; rw [e]; rfl, by unfold advG; rw [e]; rfl, e⟩)
      clear h0 h1 HGd
      go_enter Try.func7, Try.ntmps7
      go_wp2_with fail
      refine (check_any W A c _ (HG.out.below (HB0.out.trans ((CS.below HS.out).mono (by omega))))).mono ?_
      rintro e w1 ⟨rfl, hb1⟩
      have HS1 := Lib.hid (CS.next HS.out (CS.size HS.out) hb1)
      clear hb1
      generalize (w.alloc (wo W A c)) = w0 at *
      generalize hn : w.heap.size = n at *
      have HN := Lib.hid hn
      clear hn
      rw [H0.out]
      go_wp2_with fail
      refine (isTime_any _ _).mono ?_
      rintro e w' ⟨rfl, rfl⟩
      rw [p1]
      obtain ⟨x0, x1, r0, r1, f0, f1, -, -⟩ := HS1.out
      go_wp2
      refine bodyPost_ret (v := .tuple #[wv Whl.no none 0, .slice none 0 0, .int .i64 3]) (by simp [results, Try.results7, go_sem, r0, r1]; try exact ⟨rfl, rfl⟩) rfl ?_
      rw [HE.out.1, HE.out.2.1, HE.out.2.2]
      exact VR.none_ (by rw [HN.out]; exact HB0.out.trans (below_set2 (CS.below HS1.out) _ _ |>.mono (by omega)))
  · have HE : Hid (advM W tq = Whl.no ∧ advG W tq = [] ∧ errV W tq = checkW W) := Lib.hid (by
      have e : errV W tq = checkW W := by unfold errV; rw [if_neg h0]
      exact ⟨by unfold advM; rw [e, if_neg h0], by unfold advG; rw [e, if_neg h0], e⟩)
    have q : (checkW W != 0) = true := by simpa using h0
    clear h0
    go_enter Try.func7, Try.ntmps7
    go_wp2_with fail
    refine (check_any W A c _ (HG.out.below (HB0.out.trans ((CS.below HS.out).mono (by omega))))).mono ?_
    rintro e w1 ⟨rfl, hb1⟩
    have HS1 := Lib.hid (CS.next HS.out (CS.size HS.out) hb1)
    clear hb1
    generalize (w.alloc (wo W A c)) = w0 at *
    generalize hn : w.heap.size = n at *
    have HN := Lib.hid hn
    clear hn
    obtain ⟨x0, x1, r0, r1, f0, f1, -, -⟩ := HS1.out
    go_wp2
    refine bodyPost_ret (v := .tuple #[wv Whl.no none 0, .slice none 0 0, .int .i64 (checkW W)]) (by simp [results, Try.results7, go_sem, r0, r1]; try exact ⟨rfl, rfl⟩) rfl ?_
    rw [HE.out.1, HE.out.2.1, HE.out.2.2]
    exact VR.none_ (by rw [HN.out]; exact HB0.out.trans (below_set2 (CS.below HS1.out) _ _ |>.mono (by omega)))

end Go.Proofs.Yteldnohdijcbpaa.Whl
