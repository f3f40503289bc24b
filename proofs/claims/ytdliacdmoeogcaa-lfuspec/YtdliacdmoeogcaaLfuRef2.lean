/-
  The reference of package lfu: LfuTouch.
-/
import Derived.Test.YtdliacdmoeogcaaLfuRef
import Derived.Test.YtdliacdmoeogcaaLfuVictimLaw
import Derived.Deep.RegionLaw
import Derived.Deep.DeepCutAuto
namespace Go.Proofs.Ytdliacdmoeogcaa.Lfu
open Go.RowKit Go.Maps
open Lru (isRm isK keysE keysE_zero traceE trace_zero)
set_option linter.unusedVariables false
set_option maxRecDepth 100000

theorem step_append_uss {W : World} {ops : Array Oper} {o : Oper} {a : Act} {K : Act → World → Prop} {Q : Exit → Act → World → Prop} {E : Prop} (hgd : o.guard = none) (s x : Operand)
    (ho : o.op = .call { callee := .builtin .append, args := #[s, x], argTypes := #[22, 22] })
    (base : Nat) (v : Value) (L : List Us) (hs : a.eval s = v) (hown : OwnU W base v L) (B : Option Addr) (d m : Nat) (M : List Us) (hm : m = M.length) (hx : a.eval x = .slice B m d) (hM : Uss W B d M)
    (hn : L.length + m ≤ 16777216) (hbase : base ≤ W.heap.size)
    (h : ∀ v' w', OwnU w' base v' (L ++ M) → W.grownBy w' v.ownBlock → K (a.put o.dst v') w') :
    if Region.wanted o (yielded ops a.tmps) = true then Oper.wp Try.prog o a W K Q else E := by
  subst hm
  rw [if_pos (by simp [Region.wanted, hgd])]
  obtain ⟨i0, hi0, hz0, hz1, hz2⟩ := info_parts use_info
  cases B with
  | none =>
    have hd := hM.2.2.1 rfl
    subst hd
    have e : M = [] := List.length_eq_zero_iff.1 (by have := hM.1; omega)
    subst e
    have hrun := run_append_owned_none (P := Try.prog) (w := W) base 22 o.type 42 i0 2 Try.underlying22 hi0 v L.length (encUs L) hown
    unfold Oper.wp
    simp only [List.length_nil] at hx
    simp [execOp, ho, resolve, invoke, builtin, hs, hx, hrun, Result.andThen]
    exact h v W (by simpa using hown) ⟨rfl, rfl, rfl, Nat.le_refl _, fun _ _ _ => rfl⟩
  | some ad =>
    refine wp_append_own W s x _ ho base 42 i0 _ 2 16 Try.underlying22 hi0 hz0 hz1 hz2 rfl (by decide) v L.length (encUs L) hs hown ad M.length d (encUs M) hx (encUs_len M) ?_ (encUs_one M) (by unfold maxLen; omega) (by omega) hbase ?_
    · intro j u hj
      have hl : j < M.length * 2 := by rw [← encUs_len]; exact (List.getElem?_eq_some_iff.1 hj).1
      obtain ⟨b, o, e, ht⟩ := hM.2.2.2 (by omega)
      cases e
      rw [Addr.add_lit]
      exact uss_cells ht j u hj
    · intro v' w' h1 h2 _
      refine h v' w' ?_ h2
      unfold OwnU
      rw [encUs_app, List.length_append]
      exact h1

theorem own_one (w : World) (f : Us) : OwnU (w.alloc (fo f)) w.heap.size (.slice (some ⟨w.heap.size, 0, none⟩) 1 1) [f] :=
  own_of_uss (cur := #[.int .i64 f.key, .int .i64 f.cnt]) Array.getElem?_push_size rfl (Nat.le_refl _) (uss_one w f)

/-! ### The list so far -/
def keep (x g : Int) (u : Us) : Bool := u.key != x && u.key != g
/-- The count behind the access. -/
def ctn (F : List Us) (x : Int) : Int := if x ∈ keys F then inc (gu F ((keys F).idxOf x)).cnt else 1
theorem touch_eq {r : Int} {F : List Us} {x : Int} (g : Good r F) (hx : isK x) : tch r F x = ⟨x, ctn F x⟩ :: F.filter (keep x (gone r F x)) := by
  have hk : ∀ u ∈ F, (u.key != -1) = true := fun u hu => by
    have h1 := (g.keys _ (mem_keys.2 ⟨u, hu, rfl⟩)).1
    simp; omega
  by_cases h1 : x ∈ keys F
  · obtain ⟨k1, k2⟩ := idx_key h1
    have hgo : gone r F x = -1 := by unfold gone; rw [if_pos h1]
    rw [tch_hit h1, hgo, rem_filter k1 g.once, k2]
    unfold ctn
    rw [if_pos h1]
    congr 1
    apply List.filter_congr
    intro u hu
    unfold keep
    rw [hk u hu, Bool.and_true]
  · have hkx : ∀ u ∈ F, (u.key != x) = true := fun u hu => by
      have : u.key ≠ x := fun e => h1 (mem_keys.2 ⟨u, hu, e⟩)
      simpa using this
    unfold ctn
    rw [if_neg h1]
    by_cases h2 : (F.length : Int) = r
    · have hr1 := g.room.1
      have hv := vicN_lt (L := F) (by omega)
      have hgo : gone r F x = (gu F (vicN F)).key := by unfold gone; rw [if_neg h1, if_pos h2]
      rw [tch_full h1 h2, hgo, rem_filter hv g.once]
      congr 1
      apply List.filter_congr
      intro u hu
      unfold keep
      rw [hkx u hu, Bool.true_and]
    · have hgo : gone r F x = -1 := by unfold gone; rw [if_neg h1, if_neg h2]
      rw [tch_room h1 h2, hgo]
      congr 1
      symm
      apply List.filter_eq_self.2
      intro u hu
      unfold keep
      rw [hkx u hu, hk u hu]; rfl
/-- The list behind the first i keys. -/
def sofar (F : List Us) (x c g : Int) (i : Nat) : List Us := ⟨x, c⟩ :: (F.take i).filter (keep x g)
theorem sofar_next {F : List Us} {x c g : Int} {i : Nat} (hi : i < F.length) : sofar F x c g (i + 1) = if keep x g (gu F i) = true then sofar F x c g i ++ [gu F i] else sofar F x c g i := by
  unfold sofar
  rw [List.take_add_one, List.getElem?_eq_getElem hi, ← gu_get hi]
  show (⟨x, c⟩ : Us) :: (F.take i ++ [gu F i]).filter (keep x g) = _
  rw [List.filter_append]
  generalize gu F i = u
  cases h : keep x g u
  · rw [if_neg (by simp)]; simp [h]
  · rw [if_pos rfl]; simp [h]
theorem sofar_len (F : List Us) (x c g : Int) (i : Nat) : (sofar F x c g i).length ≤ i + 1 := by
  unfold sofar
  have := List.length_filter_le (keep x g) (F.take i)
  rw [List.length_take] at this
  simp only [List.length_cons]
  omega
theorem sofar_end {r : Int} {F : List Us} {x : Int} (g : Good r F) (hx : isK x) : sofar F x (ctn F x) (gone r F x) F.length = tch r F x := by
  unfold sofar; rw [List.take_length, touch_eq g hx]

/-- What is known behind the first loop: a case, its count, its key that goes. -/
theorem touch_cases {r : Int} {F : List Us} {x : Int} (g : Good r F) : lst F x F.length = (if x ∈ keys F then (gu F ((keys F).idxOf x)).cnt else 0, decide (x ∈ keys F)) := by
  cases h : (lst F x F.length).2 with
  | true =>
    obtain ⟨i, hi, e1, e2⟩ := lst_true h
    have hm : x ∈ keys F := e1 ▸ keys_mem hi
    obtain ⟨k1, k2⟩ := idx_key hm
    have := key_inj g.once hi k1 (by rw [e1, k2])
    rw [if_pos hm, ← this]
    exact Prod.ext e2.symm (by rw [h]; exact (decide_eq_true hm).symm)
  | false =>
    have hm : x ∉ keys F := fun m => by
      obtain ⟨k1, k2⟩ := idx_key m
      exact lst_false h _ k1 k2
    rw [if_neg hm]
    refine Prod.ext ?_ (by rw [h]; exact (decide_eq_false hm).symm)
    have hz : ∀ n, n ≤ F.length → lst F x n = (0, false) := fun n => by
      induction n with
      | zero => intro _; rfl
      | succ n ih =>
        intro hn
        unfold lst
        rw [if_neg (fun (e : (gu F n).key = x) => hm (by rw [← e]; exact keys_mem (by omega))), ih (by omega)]
    rw [hz _ (Nat.le_refl _)]

theorem touch_sit {r : Int} {F : List Us} {x : Int} (g : Good r F) : ∃ cv : Int, lst F x F.length = (cv, decide (x ∈ keys F)) ∧ 0 ≤ cv ∧ cv ≤ 1099511627776 ∧ (cv < 1099511627776 → cv + 1 = ctn F x) ∧ (¬ cv < 1099511627776 → cv = ctn F x) ∧
    ((!decide (x ∈ keys F) && ((F.length : Int) == r)) = true → 0 < F.length ∧ gone r F x = (gu F (vicN F)).key) ∧ ((!decide (x ∈ keys F) && ((F.length : Int) == r)) = false → gone r F x = -1) := by
  have hc := touch_cases (x := x) g
  have hr := g.room.1
  by_cases h1 : x ∈ keys F
  · have hk := g.cnts _ (gu_mem (idx_key h1).1)
    unfold okC at hk
    have hd : decide (x ∈ keys F) = true := by simpa using h1
    rw [if_pos h1, hd] at hc
    rw [hd]
    have hct : ctn F x = inc (gu F ((keys F).idxOf x)).cnt := by unfold ctn; rw [if_pos h1]
    have hgo : gone r F x = -1 := by unfold gone; rw [if_pos h1]
    rw [hct, hgo]
    generalize (gu F ((keys F).idxOf x)).cnt = cn at *
    exact ⟨cn, hc, by omega, by omega, fun h => by unfold inc; omega, fun h => by unfold inc; omega, fun h => by simp at h, fun _ => rfl⟩
  · have hd : decide (x ∈ keys F) = false := by simpa using h1
    rw [if_neg h1, hd] at hc
    rw [hd]
    have hct : ctn F x = 1 := by unfold ctn; rw [if_neg h1]
    rw [hct]
    refine ⟨0, hc, by omega, by omega, fun _ => rfl, fun h => absurd (by omega) h, fun h => ?_, fun h => ?_⟩
    · have h2 : (F.length : Int) = r := by simpa using h
      exact ⟨by omega, by unfold gone; rw [if_neg h1, if_pos h2]⟩
    · have h2 : ¬ (F.length : Int) = r := by simpa using h
      unfold gone; rw [if_neg h1, if_neg h2]

/-- What LfuTouch gives. -/
def TR (r : Int) (F : List Us) (x : Int) (w : World) (e : Ending) (w' : World) : Prop :=
  ∃ A c, e = .returned (.tuple #[kv r (.slice A (tch r F x).length c), .bool (decide (x ∈ keys F)), .int .i64 (gone r F x)]) ∧ Uss w' A c (tch r F x) ∧ FA w A ∧ Below w.heap.size w w'
theorem TR.mk {r : Int} {F : List Us} {x : Int} {w w' : World} {A : Option Addr} {c n : Nat} {g : Int} {b : Bool} (hb : decide (x ∈ keys F) = b) (hg : gone r F x = g) (hn : (tch r F x).length = n) (hF : Uss w' A c (tch r F x)) (hA : FA w A) (hB : Below w.heap.size w w') :
    TR r F x w (.returned (.tuple #[kv r (.slice A n c), .bool b, .int .i64 g])) w' := by
  subst hb hg hn
  exact ⟨A, c, rfl, hF, hA, hB⟩

set_option maxHeartbeats 8000000 in
theorem touchRef_any (r : Int) (A : Option Addr) (c : Nat) (F : List Us) (x : Int) (w : World) (hF : Uss w A c F) (hG : Good r F) (hx : isK x) :
    Calls Try.prog 12 #[kv r (.slice A F.length c), .int .i64 x] w (TR r F x w) := by
  obtain ⟨hk0, hz0, hb0⟩ := box2 w r (.slice A F.length c)
  have HK0 := Lib.hid hk0
  have HZ0 := Lib.hid hz0
  have HB0 := Lib.hid hb0
  have HF0 := Lib.hid (hF.below hb0)
  have HFw := Lib.hid hF
  have hl40 := hG.len40
  obtain ⟨cv, s1, s2, s3, s4, s5, s6, s7⟩ := touch_sit (x := x) hG
  have HLs := Lib.hid s1
  have HC4 := Lib.hid s4
  have HC5 := Lib.hid s5
  have HG6 := Lib.hid s6
  have HG7 := Lib.hid s7
  have HEnd := Lib.hid (sofar_end hG hx)
  have HSl := Lib.hid (fun i => sofar_len F x (ctn F x) (gone r F x) i)
  have HSn := Lib.hid (fun (i : Nat) (hi : i < F.length) => sofar_next (x := x) (c := ctn F x) (g := gone r F x) hi)
  have HS0 : Hid (sofar F x (ctn F x) (gone r F x) 0 = [⟨x, ctn F x⟩]) := Lib.hid (by unfold sofar; simp)
  have HLe := Lib.hid (fun (h0 : 0 < F.length) (W : World) (hW : Uss W A c F) => least_any A c F W hW h0 (by omega))
  have HSz : Hid (((w.alloc (ko r (.slice A F.length c))).alloc zk).heap.size = w.heap.size + 2) := Lib.hid (by simp)
  have HTR := Lib.hid (fun (W : World) (B : Option Addr) (d m : Nat) (h1 : (tch r F x).length = m) (h2 : Uss W B d (tch r F x)) (h3 : FA w B) (h4 : Below w.heap.size w W) => TR.mk (w' := W) (b := decide (x ∈ keys F)) (g := gone r F x) rfl rfl h1 h2 h3 h4)
  clear hk0 hz0 hb0 hF hG hx s1 s4 s5 s6 s7
  generalize TR r F x w = POST at *
  generalize ctn F x = ct at *
  generalize gone r F x = g at *
  generalize decide (x ∈ keys F) = hit at *
  generalize tch r F x = T at *
  obtain ⟨ln, hln⟩ : ∃ ln, F.length = ln := ⟨_, rfl⟩
  have HLN := Lib.hid hln
  rw [hln] at HK0 HZ0 HB0 HF0 HSz hl40 HLs HG6 HG7 HEnd ⊢
  simp only [hln] at HLe
  clear hln
  go_enter Try.func12, Try.ntmps12
  go_wp2
  generalize ((w.alloc (ko r (.slice A ln c))).alloc zk) = w1 at *
  generalize hn : w.heap.size = n at *
  have HN := Lib.hid hn
  clear hn
  go_loopw [7, 9, 10] (fun s7 s9 s10 wr => ∃ k : Nat, k ≤ ln ∧ s10 = .int .i64 (k : Int) ∧ s7 = .int .i64 (lst F x k).1 ∧ s9 = .bool (lst F x k).2 ∧ Hid (Below w1.heap.size w1 wr)) (fun _ _ s10 _ => ln - (intOf s10).toNat)
  case atStart => exact ⟨0, by omega, rfl, rfl, rfl, Lib.hid (Below.refl _ _)⟩
  case round =>
    obtain ⟨k, hk, rfl, rfl, rfl, HBr⟩ := hrel
    have HKr := Lib.hid (HK0.out.below HBr.out)
    obtain ⟨x1, x2, -, -⟩ := HKr.out.cells
    by_cases hlt : k < ln
    · have hin : (k : Int) < (ln : Int) := by omega
      have hiB : (0 : Int) ≤ (k : Int) := by omega
      have hkF : k < F.length := by rw [HLN.out]; exact hlt
      obtain ⟨b, o, rfl, z1, z2⟩ := (HF0.out.below HBr.out).us hkF
      have HL : Hid (lst F x (k + 1) = if (gu F k).key = x then ((gu F k).cnt, true) else lst F x k) := Lib.hid rfl
      generalize lst F x k = cc at *
      generalize gu F k = f at *
      obtain ⟨fx, fu⟩ := f
      dsimp only at z1 z2 HL
      by_cases hq : fx = x
      · rw [if_pos hq] at HL
        have q2 : (fx == x) = true := by simpa using hq
        clear hq
        go_wp2
        go_roundw
        case rel => exact ⟨k + 1, by omega, by go_num, by rw [HL.out], by rw [HL.out], HBr⟩
        case measure => simp [intOf]; omega
      · rw [if_neg hq] at HL
        have q2 : (fx == x) = false := by simpa using hq
        clear hq
        go_wp2
        go_roundw
        case rel => exact ⟨k + 1, by omega, by go_num, by rw [HL.out], by rw [HL.out], HBr⟩
        case measure => simp [intOf]; omega
    · obtain rfl : k = ln := by omega
      rw [HLs.out]
      have HFr := Lib.hid (HF0.out.below HBr.out)
      have HZr := Lib.hid (HZ0.out.below HBr.out)
      have HBn : Hid (Below n w wr) := Lib.hid (HB0.out.trans (HBr.out.mono (by rw [HSz.out]; omega)))
      have HS2 : Hid (n + 2 ≤ wr.heap.size) := Lib.hid (by rw [← HSz.out]; exact HBr.out.size)
      clear hlt HBr HLs HK0 HZ0 HB0 HF0 HSz
      generalize wr = w5 at *
      go_upto_region 7 with fail
      clear x1 x2
      obtain ⟨bm, hbm⟩ : ∃ bm : Bool, (!hit && ((k : Int) == r)) = bm := ⟨_, rfl⟩
      rw [hbm] at HG6 HG7
      have HBm := Lib.hid hbm
      clear hbm
      go_cut [43] (fun s43 wx => s43 = .bool bm ∧ w5 = wx)
      case first =>
        as_aux_lemma =>
          obtain ⟨x1, x2, -, -⟩ := HKr.out.cells
          have hb := HBm.out
          cases hit
          · generalize hq : ((k : Int) == r) = q at *
            have HE : Hid (q = bm) := Lib.hid (by rw [← hb]; simp)
            clear hb
            go_wp2
            go_meet
            exact ⟨by rw [HE.out], rfl⟩
          · have HE : Hid (false = bm) := Lib.hid (by rw [← hb]; simp)
            clear hb
            go_wp2
            go_meet
            exact ⟨by rw [HE.out], rfl⟩
      case rest =>
        as_aux_lemma =>
          obtain ⟨rfl, rfl⟩ := hcut
          go_upto_if 43 with fail
          go_cut [8] (fun s8 wx => s8 = .int .i64 g ∧ Kb wx n r (.slice A k c) ∧ Kb wx (n + 1) 0 (.slice none 0 0) ∧ Uss wx A c F ∧ Below n w wx ∧ n + 2 ≤ wx.heap.size)
          case first =>
            as_aux_lemma =>
              obtain ⟨x1, x2, -, -⟩ := HKr.out.cells
              cases bm
              · have hg := HG7.out rfl
                have HE := Lib.hid hg
                clear hg
                go_wp2
                go_meet
                exact ⟨by rw [HE.out], HKr.out, HZr.out, HFr.out, HBn.out, HS2.out⟩
              · obtain ⟨h0, hg⟩ := HG6.out rfl
                have HE := Lib.hid hg
                have HL := Lib.hid (HLe.out h0 w5 HFr.out)
                clear hg h0 HG6
                generalize (gu F (vicN F)).key = kv9 at *
                go_wp2_with fail
                refine HL.out.mono ?_
                rintro e w6 ⟨rfl, hb6⟩
                have HR : Hid (Kb w6 n r (.slice A k c) ∧ Kb w6 (n + 1) 0 (.slice none 0 0) ∧ Uss w6 A c F ∧ Below n w w6 ∧ n + 2 ≤ w6.heap.size) := Lib.hid ⟨HKr.out.below hb6, HZr.out.below hb6, HFr.out.below hb6, HBn.out.trans (hb6.mono (by have := HS2.out; omega)), Nat.le_trans HS2.out hb6.size⟩
                clear hb6 x1 x2
                go_wp2
                go_meet
                exact ⟨by rw [HE.out], HR.out⟩
          case rest =>
            as_aux_lemma =>
              obtain ⟨rfl, hK6, hZ6, hF6, hB6, hS6⟩ := hcut
              have HK6 := Lib.hid hK6
              have HZ6 := Lib.hid hZ6
              have HF6 := Lib.hid hF6
              have HB6 := Lib.hid hB6
              have HS6 := Lib.hid hS6
              clear hK6 hZ6 hF6 hB6 hS6 HKr HZr HFr HBn HS2 HG6 HG7 HBm HLe
              generalize wc = w6 at *
              obtain ⟨b9, hb9⟩ : ∃ b9, decide (cv < 1099511627776) = b9 := ⟨_, rfl⟩
              have HC : Hid ((b9 = true ∧ cv + 1 = ct) ∨ (b9 = false ∧ cv = ct)) := Lib.hid (by
                rw [← hb9]
                by_cases h : cv < 1099511627776
                · exact .inl ⟨by simpa using h, HC4.out h⟩
                · exact .inr ⟨by simpa using h, HC5.out (by omega)⟩)
              have hwc : IntKind.i64.wrap (cv + 1) = cv + 1 := by rw [IntKind.wrap_i64]; omega
              clear HC4 HC5
              go_upto_if 48 with fail
              go_cut [7] (fun s7 wx => s7 = .int .i64 ct ∧ w6 = wx)
              case first =>
                as_aux_lemma =>
                  rcases HC.out with ⟨rfl, e⟩ | ⟨rfl, e⟩
                  · have HE := Lib.hid e
                    clear e
                    go_wp2
                    go_meet
                    exact ⟨by rw [HE.out], rfl⟩
                  · have HE := Lib.hid e
                    clear e
                    go_wp2
                    go_meet
                    exact ⟨by rw [HE.out], rfl⟩
              case rest =>
                as_aux_lemma =>
                  obtain ⟨rfl, rfl⟩ := hcut
                  clear hwc HC hb9
                  obtain ⟨x1, x2, -, -⟩ := HK6.out.cells
                  have HO7 : Hid (OwnU ((w6.alloc (fo ⟨x, ct⟩)).alloc (ko r (.slice (some ⟨w6.heap.size, 0, none⟩) 1 1))) (n + 2) (.slice (some ⟨w6.heap.size, 0, none⟩) 1 1) [⟨x, ct⟩]) := Lib.hid (((own_one w6 ⟨x, ct⟩).base_le HS6.out).alloc _)
                  have HV7 : Hid (Kb ((w6.alloc (fo ⟨x, ct⟩)).alloc (ko r (.slice (some ⟨w6.heap.size, 0, none⟩) 1 1))) (w6.heap.size + 1) r (.slice (some ⟨w6.heap.size, 0, none⟩) 1 1)) := Lib.hid (by
                    have h := Kb.new (w6.alloc (fo ⟨x, ct⟩)) r (.slice (some ⟨w6.heap.size, 0, none⟩) 1 1)
                    rwa [show (w6.alloc (fo ⟨x, ct⟩)).heap.size = w6.heap.size + 1 by simp] at h)
                  have HB7 : Hid (Below w6.heap.size w6 ((w6.alloc (fo ⟨x, ct⟩)).alloc (ko r (.slice (some ⟨w6.heap.size, 0, none⟩) 1 1)))) := Lib.hid (bel_al (bel_al (Below.refl _ _) (Nat.le_refl _) _) (by simp) _)
                  go_wp2
                  clear x1 x2
                  generalize ((w6.alloc (fo ⟨x, ct⟩)).alloc (ko r (.slice (some ⟨w6.heap.size, 0, none⟩) 1 1))) = w7 at *
                  obtain ⟨p, hp⟩ : ∃ p, w6.heap.size + 1 = p := ⟨_, rfl⟩
                  have HP : Hid (n + 3 ≤ p) := Lib.hid (by have := HS6.out; omega)
                  rw [hp] at HV7 ⊢
                  clear hp
                  have HK7 := Lib.hid (HK6.out.below HB7.out)
                  have HZ7 := Lib.hid (HZ6.out.below HB7.out)
                  have HF7 := Lib.hid (HF6.out.below HB7.out)
                  have HBn7 : Hid (Below n w w7) := Lib.hid (HB6.out.trans (HB7.out.mono (by have := HS6.out; omega)))
                  have HS7 : Hid (n + 2 ≤ w7.heap.size) := Lib.hid (Nat.le_trans HS6.out HB7.out.size)
                  generalize w6.heap.size = q6 at *
                  clear HK6 HZ6 HF6 HB6 HS6 HB7
                  go_loopw [12] (fun s12 wr => ∃ (i : Nat) (v : Value), i ≤ k ∧ s12 = .int .i64 (i : Int) ∧ Kb wr p r v ∧ OwnU wr (n + 2) v (sofar F x ct g i) ∧ Hid (Below (n + 2) w7 wr)) (fun s12 _ => k - (intOf s12).toNat)
                  case atStart => exact ⟨0, _, by omega, rfl, HV7.out, by rw [HS0.out]; exact HO7.out, Lib.hid (Below.refl _ _)⟩
                  case round =>
                    obtain ⟨i, v, hi, rfl, hV, hO, HBr⟩ := hrel
                    have HV := Lib.hid hV
                    have HO := Lib.hid hO
                    clear hV hO
                    have HKr := Lib.hid (HK7.out.belowB HBr.out (by omega))
                    have HZr := Lib.hid (HZ7.out.belowB HBr.out (by omega))
                    have HSr : Hid (n + 2 ≤ wr.heap.size) := Lib.hid (Nat.le_trans HS7.out HBr.out.size)
                    have HBn : Hid (Below n w wr) := Lib.hid (HBn7.out.trans (HBr.out.mono (by omega)))
                    obtain ⟨x1, x2, -, -⟩ := HKr.out.cells
                    by_cases hlt : i < k
                    · have hin : (i : Int) < (k : Int) := by omega
                      have hiB : (0 : Int) ≤ (i : Int) := by omega
                      have hiF : i < F.length := by rw [HLN.out]; exact hlt
                      have HFr := Lib.hid (HFw.out.below (by rw [HN.out]; exact HBn.out))
                      obtain ⟨b, o, rfl, z1, z2⟩ := HFr.out.us hiF
                      have HN1 := Lib.hid (HSn.out i hiF)
                      have HSli : Hid ((sofar F x ct g i).length ≤ 41) := Lib.hid (by have := HSl.out i; omega)
                      generalize gu F i = f at *
                      obtain ⟨fx, fu⟩ := f
                      dsimp only at z1 z2
                      have HKe : Hid (((fx != x) = false ∧ sofar F x ct g (i + 1) = sofar F x ct g i) ∨ ((fx != x) = true ∧ (fx != g) = false ∧ sofar F x ct g (i + 1) = sofar F x ct g i) ∨ ((fx != x) = true ∧ (fx != g) = true ∧ sofar F x ct g (i + 1) = sofar F x ct g i ++ [⟨fx, fu⟩])) := Lib.hid (by
                        have h := HN1.out
                        unfold keep at h
                        dsimp only at h
                        cases h1 : (fx != x)
                        · rw [h1] at h
                          exact .inl ⟨rfl, by rw [h, if_neg (by simp)]⟩
                        · cases h2 : (fx != g)
                          · rw [h1, h2] at h
                            exact .inr (.inl ⟨rfl, rfl, by rw [h, if_neg (by simp)]⟩)
                          · rw [h1, h2] at h
                            exact .inr (.inr ⟨rfl, rfl, by rw [h, if_pos (by simp)]⟩))
                      generalize sofar F x ct g i = M at *
                      clear HN1
                      rcases HKe.out with ⟨d1, e⟩ | ⟨d1, d2, e⟩ | ⟨d1, d2, e⟩
                      · have HE := Lib.hid e
                        clear e HKe
                        go_wp2
                        go_roundw
                        case rel => exact ⟨i + 1, v, by omega, by go_num, HV.out, by rw [HE.out]; exact HO.out, HBr⟩
                        case measure => simp [intOf]; omega
                      · have HE := Lib.hid e
                        clear e HKe
                        go_wp2
                        go_roundw
                        case rel => exact ⟨i + 1, v, by omega, by go_num, HV.out, by rw [HE.out]; exact HO.out, HBr⟩
                        case measure => simp [intOf]; omega
                      · have HE := Lib.hid e
                        clear e HKe
                        obtain ⟨Av, cv', rfl, hIv, -⟩ := uss_of_own HO.out
                        clear hIv
                        have HOa : Hid (OwnU (wr.alloc (fo ⟨fx, fu⟩)).drew (n + 2) (.slice Av M.length cv') M) := Lib.hid (OwnU.drew (HO.out.alloc _))
                        have HTa : Hid (Uss (wr.alloc (fo ⟨fx, fu⟩)).drew (some ⟨wr.heap.size, 0, none⟩) 1 [⟨fx, fu⟩]) := Lib.hid (uss_one wr ⟨fx, fu⟩).drew
                        have HVa : Hid (Kb (wr.alloc (fo ⟨fx, fu⟩)).drew p r (.slice Av M.length cv')) := Lib.hid (HV.out.alloc _).drew
                        have HBa : Hid (Below (n + 2) w7 (wr.alloc (fo ⟨fx, fu⟩)).drew) := Lib.hid (bel_al HBr.out HSr.out _).drew
                        have HZa : Hid (n + 2 ≤ (wr.alloc (fo ⟨fx, fu⟩)).drew.heap.size) := Lib.hid (Nat.le_trans HSr.out (by show wr.heap.size ≤ (wr.alloc _).heap.size; simp))
                        generalize hlm : M.length = lm at *
                        have HLM := Lib.hid hlm
                        clear hlm
                        obtain ⟨v1, v2, v3, v4⟩ := HV.out.cells
                        obtain ⟨a1, a2, a3, a4⟩ := HVa.out.cells
                        obtain ⟨m6, hm6⟩ : ∃ m6, (M ++ [(⟨fx, fu⟩ : Us)]).length = m6 := ⟨_, rfl⟩
                        have HM6 := Lib.hid hm6
                        clear hm6
                        go_wp2
                        go_region_law ((refine step_append_uss (by rfl) _ _ (by rfl) (n + 2) _ M (by rfl) HOa.out (some ⟨wr.heap.size, 0, none⟩) 1 1 [⟨fx, fu⟩] rfl (by rfl) HTa.out (by rw [HLM.out]; have := HSli.out; omega) HZa.out ?_; intro v5 w5 hown5 hg5; have hV5 := HVa.out.grown HOa.out hg5; obtain ⟨y1, y2, y3, y4⟩ := hV5.cells; obtain ⟨A5, c5, rfl, hI5, -⟩ := uss_of_own hown5; rw [HM6.out] at hown5 ⊢))
                        all_goals
                          have HV6 := Lib.hid (hV5.setV (.slice A5 m6 c5))
                          have HO6 := Lib.hid (hown5.set (hV5.own hown5) 1 (.slice A5 m6 c5))
                          have HB6 := Lib.hid (bel_set (HBa.out.grown hg5 HZa.out (fun q hq => (HOa.out.lt q hq).1)) (a := ⟨p, 1, none⟩) (by show n + 2 ≤ p; have := HP.out; omega) (.slice A5 m6 c5))
                          clear hI5 hV5 hown5 hg5 y1 y2 y3 y4 x1 x2 v1 v2 v3 v4 z1 z2 a1 a2 a3 a4
                          generalize w5.setCell ⟨p, 1, none⟩ (.slice A5 m6 c5) = w8 at *
                          go_wp2
                          go_roundw
                        all_goals first
                          | exact ⟨i + 1, .slice A5 m6 c5, by omega, by go_num, HV6.out, by rw [HE.out]; exact HO6.out, HB6⟩
                          | (simp [intOf]; omega)
                    · obtain rfl : i = k := by omega
                      rw [HEnd.out] at HO
                      obtain ⟨A8, c8, rfl, hI8, hA8⟩ := uss_of_own HO.out
                      obtain ⟨m8, hm8⟩ : ∃ m8, T.length = m8 := ⟨_, rfl⟩
                      rw [hm8] at HV HO
                      have HM8 := Lib.hid hm8
                      clear hm8
                      have HNe : Hid (∀ a, A8 = some a → n + 1 ≠ a.block) := Lib.hid (fun a ha => by have := hA8 a ha; omega)
                      have HFa : Hid (FA w A8) := Lib.hid (fun a ha => by have := hA8 a ha; rw [HN.out]; omega)
                      have HI8 := Lib.hid hI8
                      clear hI8 hA8 hlt
                      obtain ⟨v1, v2, v3, v4⟩ := HV.out.cells
                      obtain ⟨z1, z2, z3, z4⟩ := HZr.out.cells
                      have HRes := Lib.hid (HTR.out _ A8 c8 m8 HM8.out (HI8.out.set2 (p := n + 1) HNe.out (.int .i64 r) (.slice A8 m8 c8)) HFa.out (bel_set2 HBn.out (p := n + 1) (by omega) (.int .i64 r) (.slice A8 m8 c8)))
                      go_wp2
                      refine bodyPost_ret (v := .tuple #[kv r (.slice A8 m8 c8), .bool hit, .int .i64 g]) (by simp [results, Try.results12, go_sem, z1, z2]) rfl ?_
                      exact HRes.out

end Go.Proofs.Ytdliacdmoeogcaa.Lfu
