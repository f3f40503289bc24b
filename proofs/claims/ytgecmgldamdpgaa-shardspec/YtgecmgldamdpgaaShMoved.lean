/-
  Package shard: Moved.
-/
import Derived.Test.YtgecmgldamdpgaaShOwners
namespace Go.Proofs.Ytgecmgldamdpgaa.Shd
open Go.RowKit
open Two (REO own_none own_bel)
set_option linter.unusedVariables false
set_option maxRecDepth 100000

/-- The owner of a key. -/
def own (L : List Sh) (s : ByteArray) : Nat := (ord (sc L s) (L.length - 1)).getD 0 0
theorem own_best {L : List Sh} {s : ByteArray} (h : 0 < L.length) : Best (sc L s) L.length (own L s) := by
  have k := ord_chain (m := L.length - 1) (sc L s) 0 (by rw [ord_len]; omega)
  rw [show L.length - 1 + 1 = L.length by omega] at k
  exact ⟨k.1, trivial, fun j hj _ => k.2.2 j hj (by simp)⟩
theorem own_lt {L : List Sh} {s : ByteArray} (h : 0 < L.length) : own L s < L.length := (own_best h).1

/-- What the functions need to know of a list of shards. -/
structure ShA (w : World) (A : Option Addr) (c : Nat) (L : List Sh) : Prop where
  sh : Shs w A c L
  nm : Nms L
theorem ShA.below {w w' : World} {A : Option Addr} {c : Nat} {L : List Sh} (h : ShA w A c L) (hb : Below w.heap.size w w') : ShA w' A c L := ⟨h.sh.below hb, h.nm⟩
theorem owner_own (A : Option Addr) (c : Nat) (L : List Sh) (s : ByteArray) (w : World) (h : ShA w A c L) (hs : s.size ≤ maxLen) (he : err L s = 0) :
    Calls Try.prog 7 #[.slice A L.length c, .string s] w fun e w' => e = .returned (.tuple #[.int .i64 ((own L s : Nat) : Int), .int .i64 0]) ∧ Below w.heap.size w w' :=
  (owner_ok A c L s w ⟨h.sh, h.nm, hs⟩ he).mono (fun e w' ⟨⟨i, e1, hb⟩, h2⟩ => ⟨by rw [e1, best_uniq hb (own_best (err_zero.1 he).2.2)], h2⟩)

abbrev ky (K : List ByteArray) (i : Nat) : ByteArray := K.getD i ByteArray.empty
/-- The error for one key. -/
noncomputable def keyE (L M : List Sh) (s : ByteArray) : Int := if err L s ≠ 0 then err L s else err M s
noncomputable def movE (L M : List Sh) (K : List ByteArray) : Int := if 200 < K.length then 2 else scan (fun i => keyE L M (ky K i)) 0 K.length
/-- A key's owners have different names. -/
def mv (L M : List Sh) (s : ByteArray) : Bool := !((gs L (own L s)).name.toList == (gs M (own M s)).name.toList)
def movN (L M : List Sh) (K : List ByteArray) (n : Nat) : List Nat := (List.range n).filter (fun i => mv L M (ky K i))
theorem movN_succ (L M : List Sh) (K : List ByteArray) (n : Nat) : zs (movN L M K (n + 1)) = if mv L M (ky K n) = true then zs (movN L M K n) ++ [(n : Int)] else zs (movN L M K n) := by
  unfold movN zs
  rw [List.range_succ, List.filter_append, List.map_append]
  have e : [n].filter (fun i => mv L M (ky K i)) = if mv L M (ky K n) = true then [n] else [] := by rw [List.filter_cons]; rfl
  rw [e]
  split
  · rfl
  · simp
theorem movN_len (L M : List Sh) (K : List ByteArray) (n : Nat) : (zs (movN L M K n)).length ≤ n := by
  unfold movN zs
  rw [List.length_map]
  exact Nat.le_trans (List.length_filter_le _ _) (by simp)
/-- What Moved gives. -/
noncomputable def movL (L M : List Sh) (K : List ByteArray) : List Int := if movE L M K = 0 then zs (movN L M K K.length) else []

theorem ints_one1 (w : World) (n : Int) (t : TypeId) : Ints (w.alloc (.cells #[.int .i64 n] t)) (some ⟨w.heap.size, 0, none⟩) 1 [n] := by
  refine ⟨Nat.le_refl _, by unfold maxLen; decide, fun e => (by cases e), fun _ => ⟨w.heap.size, 0, rfl, by simp, fun i hi => ?_⟩⟩
  obtain rfl : i = 0 := by simp at hi; omega
  simp [go_sem, gi]
theorem append_one {w : World} {ops : Array Oper} {rest : List Oper} {o : Oper} {a : Act} {Q : Exit → Act → World → Prop} (hgd : o.guard = none) (s x : Operand)
    (ho : o.op = .call { callee := .builtin .append, args := #[s, x], argTypes := #[26, 26] })
    (base : Nat) (v : Value) (L : List Int) (hs : a.eval s = v) (hown : OwnI w base v L) (n : Int) (t : TypeId)
    (hx : a.eval x = .slice (some ⟨w.heap.size, 0, none⟩) 1 1)
    (hn : L.length ≤ 1048576) (hbase : base ≤ w.heap.size)
    (h : ∀ v' w', OwnI w' base v' (L ++ [n]) → (w.alloc (.cells #[.int .i64 n] t)).grownBy w' v.ownBlock → wpList Try.prog ops Q rest (a.put o.dst v') w') : wpList Try.prog ops Q (o :: rest) a (w.alloc (.cells #[.int .i64 n] t)) :=
  wpList_append_ints hgd s x ho base v L hs (hown.alloc _) (some ⟨w.heap.size, 0, none⟩) 1 [n] hx (ints_one1 w n t) (by simp; omega) (by simp; omega) h
theorem own_grow {w w' : World} {base : Nat} {v : Value} {L : List Int} {o : Obj} {B : Nat} {w0 : World} (hown : OwnI w base v L) (h0 : Below B w0 w) (hB : B ≤ w.heap.size) (hb : B ≤ base) (hg : (w.alloc o).grownBy w' v.ownBlock) : Below B w0 w' :=
  (bel_al h0 hB o).grown hg (by simp; omega) (fun k hk => Nat.le_trans hb (hown.lt k hk).1)

set_option maxHeartbeats 4000000 in
theorem moved_any (A B C : Option Addr) (a b c : Nat) (L M : List Sh) (K : List ByteArray) (w : World) (hL : ShA w A a L) (hM : ShA w B b M) (hK : Strs w C c K) (hs : ∀ i, i < K.length → (ky K i).size ≤ maxLen) :
    Calls Try.prog 18 #[.slice A L.length a, .slice B M.length b, .slice C K.length c] w (REO (movL L M K) (movE L M K) w) := by
  by_cases h1 : 200 < K.length
  · have p1 : decide ((200 : Int) < (K.length : Int)) = true := by simp; omega
    have hE : movE L M K = 2 := by unfold movE; rw [if_pos h1]
    have hR : movL L M K = [] := by unfold movL; rw [hE]; rfl
    rw [hE, hR]
    clear hE hR h1 hL hM hK hs
    generalize K.length = n at *
    go_enter Try.func18, Try.ntmps18
    go_wp2
    go_ret2
    exact ⟨_, rfl, own_none _ _, Below.refl _ _⟩
  · have p1 : decide ((200 : Int) < (K.length : Int)) = false := by simp; omega
    have HE : Hid (movE L M K = scan (fun i => keyE L M (ky K i)) 0 K.length) := Lib.hid (by unfold movE; rw [if_neg h1])
    have HR0 : Hid (movE L M K ≠ 0 → movL L M K = []) := Lib.hid (fun h => by unfold movL; rw [if_neg h])
    have HR1 : Hid (movE L M K = 0 → movL L M K = zs (movN L M K K.length)) := Lib.hid (fun h => by unfold movL; rw [if_pos h])
    have HL := Lib.hid hL
    have HM := Lib.hid hM
    have HK := Lib.hid hK
    have HS := Lib.hid hs
    have hlen : K.length ≤ 200 := by omega
    obtain ⟨lL, hlL⟩ : ∃ n, L.length = n := ⟨_, rfl⟩
    obtain ⟨lM, hlM⟩ : ∃ n, M.length = n := ⟨_, rfl⟩
    obtain ⟨ln, hln⟩ : ∃ n, K.length = n := ⟨_, rfl⟩
    have HLL := Lib.hid hlL
    have HLM := Lib.hid hlM
    have HLN := Lib.hid hln
    rw [hln] at p1 HE HR1 hlen
    rw [hlL, hlM, hln]
    clear hlL hlM hln hL hM hK hs h1
    have HOB := Lib.hid (fun (W : World) (s : ByteArray) (h : ShA W A a L) (hs : s.size ≤ maxLen) (he : err L s ≠ 0) => owner_bad A a L s W ⟨h.sh, h.nm, hs⟩ he)
    have HOO := Lib.hid (fun (W : World) (s : ByteArray) (h : ShA W A a L) (hs : s.size ≤ maxLen) (he : err L s = 0) => owner_own A a L s W h hs he)
    have HPB := Lib.hid (fun (W : World) (s : ByteArray) (h : ShA W B b M) (hs : s.size ≤ maxLen) (he : err M s ≠ 0) => owner_bad B b M s W ⟨h.sh, h.nm, hs⟩ he)
    have HPO := Lib.hid (fun (W : World) (s : ByteArray) (h : ShA W B b M) (hs : s.size ≤ maxLen) (he : err M s = 0) => owner_own B b M s W h hs he)
    rw [HLL.out] at HOB HOO
    rw [HLM.out] at HPB HPO
    go_enter Try.func18, Try.ntmps18
    go_wp2
    go_loopw [8, 19] (fun v i wr => ∃ k : Nat, k ≤ ln ∧ i = .int .i64 (k : Int) ∧ Hid (OwnI wr w.heap.size v (zs (movN L M K k))) ∧ Hid (scan (fun i => keyE L M (ky K i)) 0 ln = scan (fun i => keyE L M (ky K i)) k (ln - k)) ∧ Hid (Below w.heap.size w wr)) (fun _ i _ => ln - (intOf i).toNat)
    case atStart => exact ⟨0, by omega, rfl, Lib.hid (own_none _ _), Lib.hid rfl, Lib.hid (Below.refl _ _)⟩
    case round =>
      obtain ⟨k, hk, rfl, HO, HA, HBr⟩ := hrel
      clear p1
      by_cases hlt : k < ln
      · have hin : (k : Int) < (ln : Int) := by omega
        have hiB : (0 : Int) ≤ (k : Int) := by omega
        have HKr := Lib.hid (HK.out.below HBr.out)
        obtain ⟨bk, ok, rfl, e1⟩ := HKr.out.str (k := k) (by rw [HLN.out]; exact hlt)
        have hsz := HS.out k (by rw [HLN.out]; exact hlt)
        have HSU := Lib.hid (movN_succ L M K k)
        have HGO := Lib.hid (fun (e : keyE L M (ky K k) = 0) => HA.out.trans (scan_go (f := fun i => keyE L M (ky K i)) hlt e))
        have HHIT := Lib.hid (fun (e : keyE L M (ky K k) ≠ 0) => HE.out.trans (HA.out.trans (scan_hit (f := fun i => keyE L M (ky K i)) hlt e)))
        have HOL := Lib.hid (movN_len L M K k)
        replace e1 : wr.cell? ⟨bk, ok + k, none⟩ = some (.string (ky K k)) := e1
        have HGO' : Hid (keyE L M (ky K k) = 0 → scan (fun i => keyE L M (ky K i)) 0 ln = scan (fun i => keyE L M (ky K i)) (k + 1) (ln - (k + 1))) := HGO
        have HLr := Lib.hid (HL.out.below HBr.out)
        have HMr := Lib.hid (HM.out.below HBr.out)
        generalize ky K k = s at *
        by_cases q1 : err L s = 0
        · have HC1 := Lib.hid (HOO.out wr s HLr.out hsz q1)
          obtain ⟨hOk1, hk1, h0⟩ := err_zero.1 q1
          have hb1 := own_lt (s := s) h0
          by_cases q2 : err M s = 0
          · have HC2 := Lib.hid (fun (W : World) (hW : Below wr.heap.size wr W) => HPO.out W s (HMr.out.below hW) hsz q2)
            obtain ⟨hOk2, hk2, h02⟩ := err_zero.1 q2
            have hb2 := own_lt (s := s) h02
            have HKE : Hid (keyE L M s = 0) := Lib.hid (by unfold keyE; rw [if_neg (fun h => h q1)]; exact q2)
            have HMV : Hid (mv L M s = !((gs L (own L s)).name.toList == (gs M (own M s)).name.toList)) := Lib.hid rfl
            have HN1 : Hid (∀ W, Below wr.heap.size wr W → ∃ b o, A = some ⟨b, o, none⟩ ∧ W.cell? ⟨b, o + own L s * 2, none⟩ = some (.string (gs L (own L s)).name)) := Lib.hid (fun W hW => by
              obtain ⟨b, o, e, c1, c2⟩ := (HLr.out.sh.below hW).sh hb1
              exact ⟨b, o, e, c1⟩)
            have HN2 : Hid (∀ W, Below wr.heap.size wr W → ∃ b o, B = some ⟨b, o, none⟩ ∧ W.cell? ⟨b, o + own M s * 2, none⟩ = some (.string (gs M (own M s)).name)) := Lib.hid (fun W hW => by
              obtain ⟨b, o, e, c1, c2⟩ := (HMr.out.sh.below hW).sh hb2
              exact ⟨b, o, e, c1⟩)
            rw [HLL.out] at hb1
            rw [HLM.out] at hb2
            clear q1 q2 hOk1 hk1 h0 hOk2 hk2 h02
            generalize (gs L (own L s)).name = x at *
            generalize (gs M (own M s)).name = y at *
            generalize own L s = i1 at *
            generalize own M s = i2 at *
            have hb1' : (i1 : Int) < (lL : Int) := by omega
            have hb2' : (i2 : Int) < (lM : Int) := by omega
            have hb1'' : (0 : Int) ≤ (i1 : Int) := by omega
            have hb2'' : (0 : Int) ≤ (i2 : Int) := by omega
            go_wp2_with fail
            refine HC1.out.mono ?_
            rintro e w2 ⟨rfl, h2⟩
            have HB2 := Lib.hid h2
            clear h2
            go_wp2_with fail
            refine (HC2.out _ HB2.out).mono ?_
            rintro e w3 ⟨rfl, h3⟩
            have HB3 := Lib.hid (HB2.out.trans (h3.mono HB2.out.size))
            obtain ⟨bA, oA, rfl, cA⟩ := HN1.out _ HB3.out
            obtain ⟨bB, oB, rfl, cB⟩ := HN2.out _ HB3.out
            have HO3 := Lib.hid (own_bel HO.out HB3.out)
            have HB4 := Lib.hid (HBr.out.trans (HB3.out.mono HBr.out.size))
            clear h3
            obtain ⟨bd, hbd⟩ : ∃ bd, (x.toList == y.toList) = bd := ⟨_, rfl⟩
            rw [hbd] at HMV
            cases bd with
            | true =>
              go_wp2_with fail
              go_quiet (fail)
              have HO5 : Hid (OwnI (w3.drewN nq) w.heap.size u8 (zs (movN L M K k))) := HO3
              have HB5 := Lib.hid (bel_drewN HB4.out nq)
              generalize w3.drewN nq = w5 at *
              go_wp2
              go_roundw
              case rel => exact ⟨k + 1, by omega, by go_num, Lib.hid (by rw [HSU.out, if_neg (by rw [HMV.out]; decide)]; exact HO5.out), Lib.hid (HGO'.out HKE.out), HB5⟩
              case measure => simp [intOf]; omega
            | false =>
              go_wp2_with fail
              go_quiet (fail)
              have HO5 : Hid (OwnI (w3.drewN nq) w.heap.size u8 (zs (movN L M K k))) := HO3
              have HB5 := Lib.hid (bel_drewN HB4.out nq)
              generalize w3.drewN nq = w5 at *
              have HOL' : Hid ((zs (movN L M K k)).length ≤ 1048576) := Lib.hid (by have := HOL.out; omega)
              go_wp2_with (first | (at_builtin; refine append_one rfl _ _ rfl w.heap.size _ _ rfl HO5.out (k : Int) _ rfl HOL'.out HB5.out.size ?_; intro v6 w6 ho6 hg6; have HO6 := Lib.hid ho6; have HB6 := Lib.hid (own_grow HO5.out HB5.out HB5.out.size (Nat.le_refl _) hg6); clear ho6 hg6))
              go_roundw
              case rel => exact ⟨k + 1, by omega, by go_num, Lib.hid (by rw [HSU.out, if_pos (by rw [HMV.out]; decide)]; exact HO6.out), Lib.hid (HGO'.out HKE.out), HB6⟩
              case measure => simp [intOf]; omega
          · have HC2 := Lib.hid (fun (W : World) (hW : Below wr.heap.size wr W) => HPB.out W s (HMr.out.below hW) hsz q2)
            have hq := bd_ne q2
            have HKE : Hid (movE L M K = err M s) := Lib.hid (by
              have e : keyE L M s = err M s := by unfold keyE; rw [if_neg (fun h => h q1)]
              rw [HHIT.out (by rw [e]; exact q2), e])
            have HRR : Hid (movL L M K = []) := Lib.hid (HR0.out (by rw [HKE.out]; exact q2))
            rw [HKE.out, HRR.out]
            clear q1 q2 hOk1 hk1 h0 hb1
            generalize err M s = qe at *
            generalize own L s = i1 at *
            go_wp2_with fail
            refine HC1.out.mono ?_
            rintro e w2 ⟨rfl, h2⟩
            have HB2 := Lib.hid h2
            clear h2
            go_wp2_with fail
            refine (HC2.out _ HB2.out).mono ?_
            rintro e w3 ⟨rfl, h3⟩
            have HB3 := Lib.hid (HBr.out.trans ((HB2.out.trans (h3.mono HB2.out.size)).mono HBr.out.size))
            clear h3
            go_wp2
            go_ret2
            exact ⟨_, rfl, own_none _ _, HB3.out⟩
        · have HC1 := Lib.hid (HOB.out wr s HLr.out hsz q1)
          have hq := bd_ne q1
          have HKE : Hid (movE L M K = err L s) := Lib.hid (by
            have e : keyE L M s = err L s := by unfold keyE; rw [if_pos q1]
            rw [HHIT.out (by rw [e]; exact q1), e])
          have HRR : Hid (movL L M K = []) := Lib.hid (HR0.out (by rw [HKE.out]; exact q1))
          rw [HKE.out, HRR.out]
          clear q1
          generalize err L s = qe at *
          go_wp2_with fail
          refine HC1.out.mono ?_
          rintro e w2 ⟨rfl, h2⟩
          have HB2 := Lib.hid (HBr.out.trans (h2.mono HBr.out.size))
          clear h2
          go_wp2
          go_ret2
          exact ⟨_, rfl, own_none _ _, HB2.out⟩
      · obtain rfl : k = ln := by omega
        have hE0 : movE L M K = 0 := HE.out.trans (HA.out.trans (scan_nil _ (Nat.le_refl _)))
        have HE0 := Lib.hid hE0
        have HRR := Lib.hid (HR1.out hE0)
        clear hE0
        go_wp2
        go_ret2
        rw [HE0.out, HRR.out]
        exact ⟨u8, rfl, HO.out, HBr.out⟩

end Go.Proofs.Ytgecmgldamdpgaa.Shd
