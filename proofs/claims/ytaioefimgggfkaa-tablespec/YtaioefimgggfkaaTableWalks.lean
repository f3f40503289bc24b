/-
  What the functions of package table return.
-/
import Derived.Test.YtaioefimgggfkaaTableMath
import Derived.Test.YtaioefimgggfkaaHashWalks
import Derived.Below
import Derived.Deep.QuietTactic
import Derived.BigQuiet
import Derived.StillTailTactics
namespace Go.Proofs.Ytaioefimgggfkaa
open Go.RowKit
set_option linter.unusedVariables false

/-! ### Slots in memory -/
def SlotAt (w : World) (b o i : Nat) (s : Sl) : Prop :=
  w.cell? ⟨b, o + i * 3, none⟩ = some (.bool s.used) ∧ w.cell? ⟨b, o + i * 3 + 1, none⟩ = some (.string s.key) ∧ w.cell? ⟨b, o + i * 3 + 2, none⟩ = some (.int .i64 s.val)
/-- The slice at ⟨b, o⟩ reads as L. -/
def TabAt (w : World) (b o : Nat) (L : List Sl) : Prop := b < w.heap.size ∧ ∀ i, i < L.length → SlotAt w b o i (sl L i)

theorem SlotAt.below {B b o i : Nat} {s : Sl} {w w' : World} (h : SlotAt w b o i s) (hB : b < B) (hb : Below B w w') : SlotAt w' b o i s :=
  ⟨(hb.cell (p := ⟨b, _, none⟩) hB).trans h.1, (hb.cell (p := ⟨b, _, none⟩) hB).trans h.2.1, (hb.cell (p := ⟨b, _, none⟩) hB).trans h.2.2⟩
theorem TabAt.below {b o : Nat} {L : List Sl} {w w' : World} (h : TabAt w b o L) (hb : Below w.heap.size w w') : TabAt w' b o L :=
  ⟨Nat.lt_of_lt_of_le h.1 hb.size, fun i hi => (h.2 i hi).below h.1 hb⟩

theorem ret_bool {a b : Bool} (h : a = b) : Ending.returned (.bool a) = .returned (.bool b) := by rw [h]

/-! ### The small functions -/
theorem vk_any (k : ByteArray) (w : World) :
    Calls Try.prog 22 #[.string k] w fun e w' => e = .returned (.bool (vkB k)) ∧ w = w' := by
  go_enter Try.func22, Try.ntmps22
  go_wp2
  go_ret
  exact ⟨ret_bool (by simp [vkB]; omega), rfl⟩

theorem vv_any (v : Int) (w : World) :
    Calls Try.prog 23 #[.int .i64 v] w fun e w' => e = .returned (.bool (vvB v)) ∧ w = w' := by
  by_cases h : -1099511627776 ≤ v
  · have hd : decide (-1099511627776 ≤ v) = true := by simpa using h
    go_enter Try.func23, Try.ntmps23
    go_wp2
    go_ret
    exact ⟨ret_bool (by simp [vvB, h]), rfl⟩
  · have hd : decide (-1099511627776 ≤ v) = false := by simpa using h
    go_enter Try.func23, Try.ntmps23
    go_wp2
    go_ret
    exact ⟨ret_bool (by rw [vvB, hd]; rfl), rfl⟩

theorem next_any (i n : Nat) (w : World) (hi : i < n) (hn : n ≤ 1048576) :
    Calls Try.prog 27 #[.int .i64 (i : Int), .int .i64 (n : Int)] w fun e w' => e = .returned (.int .i64 (nx n i : Nat)) ∧ w = w' := by
  go_enter Try.func27, Try.ntmps27
  go_wp2
  go_ret
  exact ⟨ret_int (by rw [← nx_mod hi]; push_cast; rfl), rfl⟩

theorem home_any (k : ByteArray) (n : Nat) (w : World) (hk : k.size ≤ 40) (h1 : 1 ≤ n) (hn : n ≤ 1048576) :
    Calls Try.prog 21 #[.string k, .int .i64 (n : Int)] w fun e w' => e = .returned (.int .i64 (homeN k n)) ∧ w = w' := by
  go_enter Try.func21, Try.ntmps21
  go_wp2_with fail
  refine (sum_any k _ hk).mono ?_
  rintro e w' ⟨rfl, rfl⟩
  go_wp2_with fail
  refine (mix_any _ _).mono ?_
  rintro e w' ⟨rfl, rfl⟩
  go_wp2_with fail
  refine (reduce_any _ _ _ (by omega) (by omega)).mono ?_
  rintro e w' ⟨rfl, rfl⟩
  go_wp2
  go_ret
  exact ⟨ret_int (homeN_cast k n h1).symm, rfl⟩

theorem steps_any (i j n : Nat) (w : World) (hi : i < n) (hj : j < n) (hn : n ≤ 1048576) :
    Calls Try.prog 20 #[.int .i64 (i : Int), .int .i64 (j : Int), .int .i64 (n : Int)] w fun e w' => e = .returned (.int .i64 (ds n i j : Nat)) ∧ w = w' := by
  go_enter Try.func20, Try.ntmps20
  go_wp2
  go_ret
  exact ⟨ret_int (by rw [← ds_mod hi hj, show (j : Int) - i + n = ((j + n - i : Nat) : Int) by omega]; omega), rfl⟩

theorem passes_any (k : ByteArray) (s e n : Nat) (w : World) (hk : k.size ≤ 40) (hs : s < n) (he : e < n) (hn : n ≤ 1048576) :
    Calls Try.prog 28 #[.string k, .int .i64 (s : Int), .int .i64 (e : Int), .int .i64 (n : Int)] w fun r w' => r = .returned (.bool (decide (ds n (homeN k n) s ≤ ds n (homeN k n) e))) ∧ w = w' := by
  have hl := homeN_lt k n (by omega)
  go_enter Try.func28, Try.ntmps28
  go_wp2_with fail
  refine (home_any k n _ hk (by omega) (by omega)).mono ?_
  rintro e w' ⟨rfl, rfl⟩
  go_wp2_with fail
  refine (steps_any _ _ n _ hl hs (by omega)).mono ?_
  rintro e w' ⟨rfl, rfl⟩
  go_wp2_with fail
  refine (steps_any _ _ n _ hl he (by omega)).mono ?_
  rintro e w' ⟨rfl, rfl⟩
  go_wp2
  go_ret
  exact ⟨rfl, rfl⟩

/-! ### reachable -/
set_option maxHeartbeats 400000 in
theorem reach_any (L : List Sl) (b o c : Nat) (i : Nat) (w : World) (hi : i < L.length) (hn : L.length ≤ 64) (hk : (sl L i).key.size ≤ 40) (ht : TabAt w b o L) :
    Calls Try.prog 34 #[.slice (some ⟨b, o, none⟩) L.length c, .int .i64 (i : Int)] w fun e w' => e = .returned (.bool (reachB L i)) ∧ w = w' := by
  obtain ⟨_, hc, _⟩ := ht.2 i hi
  have HL := homeN_lt (sl L i).key L.length (by omega)
  have HD := ds_lt HL hi
  have HP := Lib.hid (ps_ds HL hi)
  go_enter Try.func34, Try.ntmps34
  go_wp2_with fail
  refine (home_any _ _ _ hk (by omega) (by omega)).mono ?_
  rintro e w' ⟨rfl, rfl⟩
  go_wp2
  clear hc
  go_loop [5] (fun a => ∃ d : Nat, d ≤ ds L.length (homeN (sl L i).key L.length) i ∧ Hid (∀ e, e < d → (sl L (ps L.length (homeN (sl L i).key L.length) e)).used = true) ∧ a = .int .i64 (ps L.length (homeN (sl L i).key L.length) d : Nat))
    (fun a => ds L.length (intOf a).toNat i)
  case atStart => exact ⟨0, by omega, Lib.hid (fun e he => by omega), by rw [ps_zero HL]⟩
  case round =>
    obtain ⟨d, hd, HA, rfl⟩ := hrel
    have hlt := ps_lt HL (d := d) (by omega)
    by_cases hD : d = ds L.length (homeN (sl L i).key L.length) i
    · have hE : ps L.length (homeN (sl L i).key L.length) d = i := by rw [hD, HP.out]
      have hT := reachB_yes (L := L) (i := i) (by rw [← hD]; exact HA.out)
      have HT := Lib.hid hT
      have HE := Lib.hid hE
      clear hT hD
      rw [hE] at hlt ⊢
      clear hE
      go_wp2
      go_ret
      exact ⟨ret_bool HT.out.symm, rfl⟩
    · have hne : ps L.length (homeN (sl L i).key L.length) d ≠ i := fun hx => hD (ps_inj HL (by omega) HD (hx.trans HP.out.symm))
      have hb : ((ps L.length (homeN (sl L i).key L.length) d : Int) == (i : Int)) = false := by simp; omega
      have hb2 : ((ps L.length (homeN (sl L i).key L.length) d : Int) != (i : Int)) = true := by simp; omega
      obtain ⟨h0, _, _⟩ := ht.2 _ hlt
      have HN := Lib.hid (nx_ps HL (d := d) (by omega))
      by_cases hu : (sl L (ps L.length (homeN (sl L i).key L.length) d)).used = true
      · rw [hu] at h0
        have HU := Lib.hid hu
        clear hu
        go_wp2_with fail
        refine (next_any _ _ _ hlt (by omega)).mono ?_
        rintro e w' ⟨rfl, rfl⟩
        go_wp2
        go_round
        case rel => exact ⟨d + 1, by omega, Lib.hid (fun e he => by
          by_cases x : e = d
          · subst x; exact HU.out
          · exact HA.out e (by omega)), by rw [HN.out]⟩
        case measure => simp only [intOf, Int.toNat_natCast]; exact ds_nx hlt hi hne
      · have hu : (sl L (ps L.length (homeN (sl L i).key L.length) d)).used = false := by simpa using hu
        rw [hu] at h0
        have HT := Lib.hid (reachB_no (L := L) (i := i) HA.out (by omega) hu)
        clear hu
        go_wp2
        go_ret
        exact ⟨ret_bool HT.out.symm, rfl⟩

/-! ### probe -/
theorem ret_probe {a b : Int} {c : Bool} (h : a = b) : Ending.returned (.tuple #[.int .i64 a, .bool c]) = .returned (.tuple #[.int .i64 b, .bool c]) := by rw [h]
theorem beq_yes {a b : ByteArray} (h : a = b) : (a.toList == b.toList) = true := by subst h; simp
theorem beq_no {a b : ByteArray} (h : a ≠ b) : (a.toList == b.toList) = false := by
  rw [Bool.eq_false_iff]; intro hx; rw [beq_iff_eq, ByteArray.toList_eq, ByteArray.toList_eq] at hx; exact h (ByteArray.ext (Array.toList_inj.mp hx))

def ProbeR (L : List Sl) (key : ByteArray) (e : Ending) : Prop :=
  match probeM L key with
  | some a => e = .returned (.tuple #[.int .i64 (a : Nat), .bool true])
  | none => e = .returned (.tuple #[.int .i64 0, .bool false])
theorem probeR_some {L : List Sl} {key : ByteArray} {d : Nat} (h : ∀ e, e < d → stopB L key (ps L.length (homeN key L.length) e) = false) (hd : d < L.length) (hs : stopB L key (ps L.length (homeN key L.length) d) = true) :
    ProbeR L key (.returned (.tuple #[.int .i64 (ps L.length (homeN key L.length) d : Nat), .bool true])) := by
  unfold ProbeR probeM; rw [fd_some (p := fun d => stopB L key (ps L.length (homeN key L.length) d)) h hd hs]; rfl
theorem probeR_none {L : List Sl} {key : ByteArray} (h : ∀ e, e < L.length → stopB L key (ps L.length (homeN key L.length) e) = false) :
    ProbeR L key (.returned (.tuple #[.int .i64 0, .bool false])) := by
  unfold ProbeR probeM; rw [fd_none (p := fun d => stopB L key (ps L.length (homeN key L.length) d)) h]; rfl

set_option maxHeartbeats 1000000 in
theorem probe_any (L : List Sl) (key : ByteArray) (b o c : Nat) (w : World) (h0 : 0 < L.length) (hn : L.length ≤ 64) (hk : key.size ≤ 40) (ht : TabAt w b o L) :
    Calls Try.prog 24 #[.slice (some ⟨b, o, none⟩) L.length c, .string key] w fun e w' => ProbeR L key e ∧ w = w' := by
  have HL := homeN_lt key L.length (by omega)
  go_enter Try.func24, Try.ntmps24
  go_wp2_with fail
  refine (home_any _ _ _ hk (by omega) (by omega)).mono ?_
  rintro e w' ⟨rfl, rfl⟩
  go_wp2
  go_loop [6, 13] (fun a i => ∃ d : Nat, d ≤ L.length ∧ Hid (∀ e, e < d → stopB L key (ps L.length (homeN key L.length) e) = false) ∧ a = .int .i64 (ps L.length (homeN key L.length) d : Nat) ∧ i = .int .i64 d)
    (fun _ i => L.length - (intOf i).toNat)
  case atStart => exact ⟨0, by omega, Lib.hid (fun e he => by omega), by rw [ps_zero HL], rfl⟩
  case round =>
    obtain ⟨d, hd, HA, rfl, rfl⟩ := hrel
    have hlt := ps_lt HL (d := d) (by omega)
    by_cases hD : d < L.length
    · obtain ⟨h0, h1, _⟩ := ht.2 _ hlt
      have HN := Lib.hid (nx_ps HL (d := d) (by omega))
      have HS : Hid (stopB L key (ps L.length (homeN key L.length) d) = (!(sl L (ps L.length (homeN key L.length) d)).used || decide ((sl L (ps L.length (homeN key L.length) d)).key = key))) := Lib.hid rfl
      by_cases hu : (sl L (ps L.length (homeN key L.length) d)).used = true
      · rw [hu] at h0
        have HU := Lib.hid hu
        clear hu
        by_cases he : (sl L (ps L.length (homeN key L.length) d)).key = key
        · have hq := beq_yes he
          have HR := Lib.hid (probeR_some HA.out hD (by rw [HS.out]; simp [he]))
          clear he
          go_wp2
          go_ret2
          exact ⟨HR.out, rfl⟩
        · have hq := beq_no he
          have HR : Hid (stopB L key (ps L.length (homeN key L.length) d) = false) := Lib.hid (by rw [HS.out, HU.out]; simp [he])
          clear he
          go_wp2_with fail
          refine (next_any _ _ _ hlt (by omega)).mono ?_
          rintro e w' ⟨rfl, rfl⟩
          go_wp2
          go_round
          case rel => exact ⟨d + 1, by omega, Lib.hid (fun e he => by
            by_cases x : e = d
            · subst x; exact HR.out
            · exact HA.out e (by omega)), by rw [HN.out], by go_num⟩
          case measure => simp [intOf]; omega
      · have hu : (sl L (ps L.length (homeN key L.length) d)).used = false := by simpa using hu
        rw [hu] at h0
        have HR := Lib.hid (probeR_some HA.out hD (by rw [HS.out]; simp [hu]))
        clear hu
        go_wp2
        go_ret2
        exact ⟨HR.out, rfl⟩
    · obtain rfl : d = L.length := by omega
      have HR := Lib.hid (probeR_none HA.out)
      go_wp2
      go_ret2
      exact ⟨HR.out, rfl⟩

end Go.Proofs.Ytaioefimgggfkaa
