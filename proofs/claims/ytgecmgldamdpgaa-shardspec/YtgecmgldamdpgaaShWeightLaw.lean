/-
  ShardWeight.
-/
import Derived.Test.YtgecmgldamdpgaaShAppend
namespace Go.Proofs.Ytgecmgldamdpgaa.Shd
open Go.RowKit
set_option linter.unusedVariables false
set_option maxRecDepth 100000

/-- Owner's first result. -/
noncomputable def ow (L : List Sh) (s : ByteArray) : Nat := if err L s = 0 then own L s else 0
theorem owner_any (A : Option Addr) (c : Nat) (L : List Sh) (s : ByteArray) (w : World) (h : ShA w A c L) (hs : s.size ≤ maxLen) :
    Calls Try.prog 7 #[.slice A L.length c, .string s] w fun e w' => e = .returned (.tuple #[.int .i64 ((ow L s : Nat) : Int), .int .i64 (err L s)]) ∧ Below w.heap.size w w' := by
  unfold ow
  by_cases he : err L s = 0
  · rw [if_pos he, he]; exact owner_own A c L s w h hs he
  · rw [if_neg he]; exact owner_bad A c L s w ⟨h.sh, h.nm, hs⟩ he
/-- Shard a weighs more. -/
def more (L : List Sh) (a : Nat) (z : Int) : List Sh := L.set a ⟨(gs L a).name, z⟩
theorem gs_set {L : List Sh} {i j : Nat} {f : Sh} (h : i < L.length) : gs (L.set i f) j = if i = j then f else gs L j := by
  unfold gs
  rw [List.getD_eq_getElem?_getD, List.getElem?_set, List.getD_eq_getElem?_getD]
  by_cases e : i = j
  · subst e; simp [h]
  · simp [e]
theorem more_nms {L : List Sh} {a : Nat} {z : Int} (ha : a < L.length) (h : Nms L) : Nms (more L a z) := by
  intro i hi
  unfold more at hi ⊢
  rw [List.length_set] at hi
  rw [gs_set ha]
  split
  · exact h a ha
  · exact h i hi
theorem more_owner {L : List Sh} {a : Nat} {z : Int} {s : ByteArray} (ha : a < L.length) (hz : 1 ≤ (gs L a).wt → (gs L a).wt ≤ 8 → (gs L a).wt ≤ z) (h1 : err L s = 0) (h2 : err (more L a z) s = 0) :
    (ow L s = a → ow (more L a z) s = a) ∧ (ow (more L a z) s ≠ a → ow L s = ow (more L a z) s) := by
  unfold ow
  rw [if_pos h1, if_pos h2]
  obtain ⟨hO, _, h0⟩ := err_zero.1 h1
  obtain ⟨hO2, _, h02⟩ := err_zero.1 h2
  have b1 := own_best (s := s) h0
  have b2 := own_best (s := s) h02
  have hl : (more L a z).length = L.length := by unfold more; rw [List.length_set]
  rw [hl] at b2
  refine best_more b1 b2 (fun x hx => ?_) ?_
  · unfold sc more; rw [gs_set ha, if_neg (fun e => hx e.symm)]
  · unfold sc more scH
    rw [gs_set ha, if_pos rfl]
    have hw := hO.wt a ha
    have := hz hw.1 hw.2
    exact top_le _ (by show (gs L a).wt.toNat ≤ z.toNat; omega)

set_option maxHeartbeats 8000000 in
theorem shardWeight_walk (A : Option Addr) (c : Nat) (L : List Sh) (at_ : Int) (B : Option Addr) (d : Nat) (K : List ByteArray) (w : World) (hL : Shs w A c L) (hN : Nms L) (hK : Strs w B d K) (hS : ∀ i, i < K.length → (ky K i).size ≤ maxLen) (hz : L.length ≤ 5864062014634) :
    Calls Try.prog 6 #[.slice A L.length c, .int .i64 at_, .slice B K.length d] w fun e w' => e = .returned (.bool true) ∧ Below w.heap.size w w' := by
  obtain ⟨m, hm⟩ : ∃ m, m = min K.length 40 := ⟨_, rfl⟩
  have hmk : m ≤ K.length := by omega
  have hm40 : m ≤ 40 := by omega
  have hmin : min (K.length : Int) (40 : Int) = (m : Int) := by omega
  obtain ⟨B', hsl, hK'⟩ := strs_upto hK hmk
  have hKL : (K.take m).length = m := by rw [List.length_take]; omega
  have HS : Hid (∀ i, i < m → (ky (K.take m) i).size ≤ maxLen) := Lib.hid (fun i hi => by
    have e : ky (K.take m) i = ky K i := ky_take hi
    rw [e]; exact hS i (by omega))
  have HK := Lib.hid hK'
  have HKL := Lib.hid hKL
  have HBG := Lib.hid begun_any
  generalize K.take m = X at *
  have hlen := hL.len
  have HL := Lib.hid hL
  have HN := Lib.hid hN
  have HZ := Lib.hid hz
  have hkl : K.length ≤ 9223372036854775807 := by have h1 := hK.1; have h2 := hK.2.1; unfold maxLen at h2; omega
  generalize K.length = kn at *
  clear hK hK' hKL hS hm hL hN hz
  by_cases q1 : at_ < 0
  · have p1 : decide (at_ < 0) = true := by simpa using q1
    clear q1
    generalize L.length = n at *
    go_enter Try.func6, Try.ntmps6
    go_wp2_with (go_at_call 14; with_reducible refine (HBG.out _).mono ?_; rintro e w2 ⟨rfl, hb⟩; have HB := Lib.hid hb; clear hb)
    go_ret
    exact ⟨rfl, HB.out⟩
  · have p1 : decide (at_ < 0) = false := by simpa using q1
    by_cases q2 : (L.length : Int) ≤ at_
    · have p2 : decide ((L.length : Int) ≤ at_) = true := by simpa using q2
      clear q1 q2
      generalize L.length = n at *
      go_enter Try.func6, Try.ntmps6
      go_wp2_with (go_at_call 14; with_reducible refine (HBG.out _).mono ?_; rintro e w2 ⟨rfl, hb⟩; have HB := Lib.hid hb; clear hb)
      go_ret
      exact ⟨rfl, HB.out⟩
    · obtain ⟨a, rfl⟩ : ∃ a : Nat, at_ = (a : Int) := ⟨at_.toNat, by omega⟩
      have ha : a < L.length := by omega
      have p2 : decide ((L.length : Int) ≤ (a : Int)) = false := by simp; omega
      have p2' : decide (L.length ≤ a) = false := by simp; omega
      have ha1 : (a : Int) < (L.length : Int) := by omega
      have ha0 : (0 : Int) ≤ (a : Int) := by omega
      obtain ⟨z, hz⟩ : ∃ z, IntKind.i64.wrap ((gs L a).wt + 1) = z := ⟨_, rfl⟩
      have HW := Lib.hid (fun s (h1 : err L s = 0) (h2 : err (more L a z) s = 0) => more_owner ha (fun h3 h4 => by rw [← hz, IntKind.wrap_i64]; omega) h1 h2)
      have HMN := Lib.hid (more_nms (z := z) ha HN.out)
      have HML : Hid ((more L a z).length = L.length) := Lib.hid (by unfold more; rw [List.length_set])
      have HPUT : Hid (∀ (W : World) (base g cc : Nat), OwnS W base (.slice (some ⟨g, 0, none⟩) L.length cc) L → OwnS (W.setCell ⟨g, a * 2 + 1, none⟩ (.int .i64 z)) base (.slice (some ⟨g, 0, none⟩) L.length cc) (more L a z)) := Lib.hid (fun W base g cc h => h.putU rfl ha z)
      have HCELL : Hid (∀ (W : World) (base g cc : Nat), OwnS W base (.slice (some ⟨g, 0, none⟩) L.length cc) L → W.cell? ⟨g, a * 2 + 1, none⟩ = some (.int .i64 (gs L a).wt) ∧ W.frozen? ⟨g, a * 2 + 1, none⟩ = false) := Lib.hid (fun W base g cc h => ⟨(h.cells rfl ha).2.1, (h.cells rfl ha).2.2.2⟩)
      have HO1 := Lib.hid (fun (W : World) (s : ByteArray) (h : ShA W A c L) (hs : s.size ≤ maxLen) => owner_any A c L s W h hs)
      have HO2 := Lib.hid (fun (W : World) (C : Option Addr) (cc : Nat) (s : ByteArray) (h : ShA W C cc (more L a z)) (hs : s.size ≤ maxLen) => owner_any C cc (more L a z) s W h hs)
      rw [HML.out] at HO2
      have HL0 : Hid (0 < L.length) := Lib.hid (by omega)
      have HF : Hid (∀ (W : World) (base : Nat) (v : Value), OwnS W base v L → ∃ g cc, v = .slice (some ⟨g, 0, none⟩) L.length cc ∧ base ≤ g) := Lib.hid (fun W base v h => h.form HL0.out)
      have HSH : Hid (∀ (W : World) (base g cc : Nat), OwnS W base (.slice (some ⟨g, 0, none⟩) L.length cc) (more L a z) → Shs W (some ⟨g, 0, none⟩) cc (more L a z)) := Lib.hid (fun W base g cc h => by
        obtain ⟨A', c', e, h1, _⟩ := shs_of_own h
        simp only [Value.slice.injEq] at e
        obtain ⟨rfl, -, rfl⟩ := e
        exact h1)
      generalize (gs L a).wt = wt at *
      generalize more L a z = M at *
      clear q1 q2 ha
      obtain ⟨n, hn⟩ : ∃ n, L.length = n := ⟨_, rfl⟩
      have HLN := Lib.hid hn
      rw [hn] at p2 p2' ha1 HPUT HCELL HO1 HO2 HF HSH hlen HML HZ
      rw [hn]
      clear hn HL0
      go_enter Try.func6, Try.ntmps6
      go_wp2_with (first | (go_at_call 14; with_reducible refine (HBG.out _).mono ?_; rintro e w2 ⟨rfl, hb⟩; have HB := Lib.hid hb; have HOe := Lib.hid (own_lit w2 w2.heap.size (Nat.le_refl _)); have HLa := Lib.hid ((HL.out.below hb).alloc (.cells #[] 35)); have HBa := Lib.hid (bel_al hb hb.size (.cells #[] 35)); clear hb) | (at_builtin; refine wpList_append_shs (by rfl) _ _ (by rfl) w2.heap.size _ [] (by rfl) HOe.out A c n L HLN.out.symm (by rfl) HLa.out (by simp only [List.length_nil]; have := HZ.out; omega) (by simp) ?_; intro v3 w3 ho3 hg3; rw [List.nil_append] at ho3; obtain ⟨g, c3, rfl, hbg⟩ := HF.out _ _ _ ho3; obtain ⟨x1, x2⟩ := HCELL.out _ _ _ _ ho3; have HO4 := Lib.hid (HPUT.out _ _ _ _ ho3); have HB3 : Hid (Below w.heap.size w w3) := Lib.hid (HBa.out.grown hg3 HBa.out.size (fun k hk => Nat.le_trans HB.out.size (HOe.out.lt k hk).1)); have HG : Hid (w.heap.size ≤ g) := Lib.hid (Nat.le_trans HB.out.size hbg); clear ho3 hg3 hbg))
      have HB4 := Lib.hid (bel_set HB3.out (a := ⟨g, a * 2 + 1, none⟩) HG.out (.int .i64 z))
      have HM4 : Hid (ShA (w3.setCell ⟨g, a * 2 + 1, none⟩ (.int .i64 z)) (some ⟨g, 0, none⟩) c3 M) := Lib.hid ⟨HSH.out _ _ _ _ HO4.out, HMN.out⟩
      have HL4 : Hid (ShA (w3.setCell ⟨g, a * 2 + 1, none⟩ (.int .i64 z)) A c L) := Lib.hid ⟨HL.out.below HB4.out, HN.out⟩
      have HK4 := Lib.hid (HK.out.below HB4.out)
      generalize w3.setCell ⟨g, a * 2 + 1, none⟩ (.int .i64 z) = w4 at *
      clear x1 x2 p2 p2' ha1 p1 hmin hsl
      go_loopw [8] (fun i wr => ∃ k : Nat, k ≤ m ∧ i = .int .i64 (k : Int) ∧ Hid (Below w4.heap.size w4 wr)) (fun i _ => m - (intOf i).toNat)
      case atStart => exact ⟨0, by omega, rfl, Lib.hid (Below.refl _ _)⟩
      case round =>
        obtain ⟨k, hk, rfl, HBr⟩ := hrel
        have HBw : Hid (Below w.heap.size w wr) := Lib.hid (HB4.out.trans (HBr.out.mono HB4.out.size))
        by_cases hlt : k < m
        · have hin : (k : Int) < (m : Int) := by omega
          have hiB : (0 : Int) ≤ (k : Int) := by omega
          have HKr := Lib.hid (HK4.out.below HBr.out)
          obtain ⟨bk, ok, rfl, e1⟩ := HKr.out.str (k := k) (by rw [HKL.out]; exact hlt)
          have HSZ := Lib.hid (HS.out k hlt)
          replace e1 : wr.cell? ⟨bk, ok + k, none⟩ = some (.string (ky X k)) := e1
          generalize ky X k = s at *
          have HC1 := Lib.hid (HO1.out wr s (HL4.out.below HBr.out) HSZ.out)
          have HC2 := Lib.hid (fun (W : World) (hW : Below wr.heap.size wr W) => HO2.out W _ _ s ((HM4.out.below HBr.out).below hW) HSZ.out)
          have HWs := Lib.hid (HW.out s)
          have HE1 : Hid (∀ W, Below wr.heap.size wr W → W.cell? ⟨bk, ok + k, none⟩ = some (.string s)) := Lib.hid (fun W hW => by
            obtain ⟨b', o', e, _, hc⟩ := HKr.out.2.2 (by rw [HKL.out]; omega)
            cases e
            exact (hW.cell (p := ⟨bk, ok + k, none⟩) (by assumption)).trans e1)
          generalize ow L s = i1 at *
          generalize ow M s = i2 at *
          generalize err L s = r1 at *
          generalize err M s = r2 at *
          go_wp2_with fail
          refine HC1.out.mono ?_
          rintro e w5 ⟨rfl, h5⟩
          have HB5 := Lib.hid h5
          have e5 := HE1.out _ h5
          clear h5 e1
          go_wp2_with fail
          refine (HC2.out _ HB5.out).mono ?_
          rintro e w6 ⟨rfl, h6⟩
          have HB6 : Hid (Below w.heap.size w w6) := Lib.hid (HBw.out.trans ((HB5.out.trans (h6.mono HB5.out.size)).mono HBw.out.size))
          have HB7 : Hid (Below w4.heap.size w4 w6) := Lib.hid (HBr.out.trans ((HB5.out.trans (h6.mono HB5.out.size)).mono HBr.out.size))
          clear h6 e5
          by_cases z1 : r1 = 0
          · have t1 : (r1 != 0) = false := by simp [z1]
            by_cases z2 : r2 = 0
            · have t2 : (r2 != 0) = false := by simp [z2]
              obtain ⟨g1, g2⟩ := HWs.out z1 z2
              clear z1 z2
              by_cases y : i2 = a
              · have u1 : ((i2 : Int) != (a : Int)) = false := by simp [y]
                have u2 : (i2 != a) = false := by simp [y]
                obtain ⟨b1, hb1⟩ : ∃ b, ((i1 : Int) == (a : Int)) = b := ⟨_, rfl⟩
                clear g1 g2 y
                cases b1 with
                | true =>
                  go_wp2
                  go_roundw
                  case rel => exact ⟨k + 1, by omega, by go_num, HB7⟩
                  case measure => simp [intOf]; omega
                | false =>
                  go_wp2
                  go_roundw
                  case rel => exact ⟨k + 1, by omega, by go_num, HB7⟩
                  case measure => simp [intOf]; omega
              · have hi := g2 y
                have u0 : ((i1 : Int) == (a : Int)) = false := by rw [beq_eq_false_iff_ne]; omega
                have u1 : ((i2 : Int) != (a : Int)) = true := by simp; omega
                have u3 : ((i1 : Int) != (i2 : Int)) = false := by simp; omega
                clear g1 g2 y hi
                go_wp2
                go_roundw
                case rel => exact ⟨k + 1, by omega, by go_num, HB7⟩
                case measure => simp [intOf]; omega
            · have t2 : (r2 != 0) = true := by simp [z2]
              clear z1 z2
              go_wp2
              go_ret
              exact ⟨rfl, HB6.out⟩
          · have t1 : (r1 != 0) = true := by simp [z1]
            clear z1
            go_wp2
            go_ret
            exact ⟨rfl, HB6.out⟩
        · obtain rfl : k = m := by omega
          go_wp2
          go_ret
          exact ⟨rfl, HBw.out⟩

end Go.Proofs.Ytgecmgldamdpgaa.Shd
