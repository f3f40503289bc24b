/-
  What the reference's TablePut and TableDrop return, of a table that passes Check.
-/
import Derived.Test.YtaioefimgggfkaaTableRef
namespace Go.Proofs.Ytaioefimgggfkaa
open Go.RowKit
set_option linter.unusedVariables false

theorem slotI_in {L : List Sl} (g : Good L) {i : Nat} (hi : i < L.length) (hu : (sl L i).used = true) : slotI L (sl L i).key = i := by
  refine slotI_some (fun j hj => ?_) hi (by simp [hasB, hu])
  cases hx : hasB (sl L i).key L j with
  | false => rfl
  | true =>
    simp only [hasB, Bool.and_eq_true, decide_eq_true_eq] at hx
    have := g.uniq j i (by omega) hi hx.1 hu hx.2
    omega
theorem slotI_not {L : List Sl} {key : ByteArray} (h : ¬ In L key) : slotI L key = -1 := by
  refine slotI_none fun i hi => ?_
  cases hx : hasB key L i with
  | false => rfl
  | true =>
    simp only [hasB, Bool.and_eq_true, decide_eq_true_eq] at hx
    exact absurd ⟨i, hi, hx.1, hx.2⟩ h

/-- A table and whether there was room come back. -/
def PutRef (R : Option (List Sl)) (w : World) (e : Ending) (w' : World) : Prop := match R with
  | some L => ∃ A c, e = .returned (.tuple #[.slice A L.length c, .bool true]) ∧ Tab w' A c L ∧ Below w.heap.size w w'
  | none => e = .returned (.tuple #[.slice none 0 0, .bool false]) ∧ Below w.heap.size w w'

theorem own_zero (w : World) : (w.alloc (.cells #[] 33)).ownsRow w.heap.size 33 3 (.slice (some ⟨w.heap.size, 0, none⟩) 0 0) 0 [] :=
  ⟨rfl, .inr ⟨w.heap.size, 0, #[], rfl, Nat.le_refl _, heap_alloc_new w _, Nat.le_refl _, Nat.zero_le _, rfl, rfl⟩⟩
theorem below_grown {w w1 : World} {o : Obj} {g : Nat} (h : (w.alloc o).grownBy w1 (some g)) (hg : w.heap.size ≤ g) : Below w.heap.size w w1 :=
  ((Below.refl w.heap.size w).alloc (Nat.le_refl _) o).grown h (by simp) (fun k hk => by injection hk with hk; omega)

set_option maxHeartbeats 4000000 in
theorem refPut_in (L : List Sl) (i : Nat) (v : Int) (b o c : Nat) (w : World) (g : Good L) (hi : i < L.length) (hu : (sl L i).used = true) (ht : TabAt w b o L) (hc : L.length ≤ c) :
    Calls Try.prog 15 #[.slice (some ⟨b, o, none⟩) L.length c, .string (sl L i).key, .int .i64 v] w (PutRef (some (L.set i ⟨true, (sl L i).key, v⟩)) w) := by
  have p1 := g.pos
  have p2 := g.le
  have hk := vkB_le.1 (g.ok i hi hu).1
  have HS := Lib.hid (slotI_in g hi hu)
  clear hu g
  have HOW := own_zero w
  have HCE := Lib.hid (tab_cells (ht.below ((Below.refl _ _).alloc (Nat.le_refl _) (.cells #[] 33))))
  obtain ⟨i0, hi0, hz0, hz1, hz2⟩ := info_parts slot_info
  have HI0 := Lib.hid hi0
  have HZ0 := Lib.hid hz0
  have HZ1 := Lib.hid hz1
  have HZ2 := Lib.hid hz2
  clear hi0 hz0 hz1 hz2
  generalize HKY : (sl L i).key = key at *
  clear HKY
  have hn1 : decide ((i : Int) < 0) = false := by simp
  go_enter Try.func15, Try.ntmps15
  go_wp2_with (at_builtin; refine wpList_append_own _ rfl (.tmp 12) (.tmp 13) _ rfl w.heap.size 33 i0 _ 3 32 Try.underlying22 HI0.out HZ0.out HZ1.out HZ2.out rfl (by omega) (.slice (some ⟨w.heap.size, 0, none⟩) 0 0) 0 [] rfl HOW ⟨b, o, none⟩ L.length c (encL L) rfl (encL_len L) HCE.out (one_cells L) (by simp only [maxLen]; omega) (by omega) (by simp) ?_; intro v1 w1 hown1 hg1 hat1)
  simp only [Nat.zero_add, List.nil_append] at hown1
  obtain ⟨g1, c1, rfl, hg1b, hc1, HO⟩ := own_of hown1 p1
  have HB1 : Below w.heap.size w w1 := below_grown hg1 (Nat.le_refl _)
  clear hown1 hg1 hat1 HOW HCE
  have hT1 : Tab w1 (some ⟨b, o, none⟩) c L := ⟨hc, fun _ => ⟨_, _, rfl, ht.below HB1⟩⟩
  go_wp2_with fail
  refine (slotOf_any _ c L key _ hT1 p2).mono ?_
  rintro e w2 ⟨rfl, rfl⟩
  rw [HS.out]
  go_wp2_with fail
  refine (refHome_any key _ _ hk (by omega) (by omega)).mono ?_
  rintro e w2 ⟨rfl, rfl⟩
  go_wp2
  go_loop [9, 11] (fun a k => a = .int .i64 i ∧ k = .int .i64 ((L.length : Int) - 1)) (fun _ _ => 0)
  case atStart => exact ⟨rfl, rfl⟩
  case round =>
    obtain ⟨rfl, rfl⟩ := hrel
    have q1 : decide (0 ≤ (L.length : Int) - 1) = true := by simp; omega
    have q2 : (1 : Int) ≤ (L.length : Int) := by omega
    obtain ⟨e0, e1, e2⟩ := HO.at_ (i := i) hi
    have f0 := HO.frozen (i * 3)
    have f1 := HO.frozen (i * 3 + 1)
    have f2 := HO.frozen (i * 3 + 2)
    go_wp2_with fail
    refine (slotOf_any _ c L key _ hT1 p2).mono ?_
    rintro e w2 ⟨rfl, rfl⟩
    rw [HS.out]
    go_wp2
    go_ret2
    refine ⟨some ⟨g1, 0, none⟩, c1, ?_, ⟨by simpa using hc1, fun _ => ⟨_, _, rfl, (HO.set_ hi ⟨true, key, v⟩).tab⟩⟩, ((HB1.setCell hg1b _).setCell hg1b _).setCell hg1b _⟩
    rw [List.length_set]; rfl

/-- What the reference has found when it has looked at the places from m steps on. -/
def FF (L : List Sl) (h m : Nat) (a : Int) : Prop :=
  (a = -1 ∧ ∀ d, m ≤ d → d < L.length → (sl L (ps L.length h d)).used = true) ∨
  ∃ d, m ≤ d ∧ d < L.length ∧ a = (ps L.length h d : Nat) ∧ (sl L (ps L.length h d)).used = false ∧ ∀ e, m ≤ e → e < d → (sl L (ps L.length h e)).used = true
theorem FF.keep {L : List Sl} {h m : Nat} {a : Int} (hf : FF L h (m + 1) a) (hu : (sl L (ps L.length h m)).used = true) : FF L h m a := by
  rcases hf with ⟨h1, h2⟩ | ⟨d, h1, h2, h3, h4, h5⟩
  · refine .inl ⟨h1, fun d hd hl => ?_⟩
    by_cases e : d = m
    · subst e; exact hu
    · exact h2 d (by omega) hl
  · refine .inr ⟨d, by omega, h2, h3, h4, fun e he hl => ?_⟩
    by_cases x : e = m
    · subst x; exact hu
    · exact h5 e (by omega) hl
theorem FF.here {L : List Sl} {h m : Nat} (hm : m < L.length) (hu : (sl L (ps L.length h m)).used = false) : FF L h m (ps L.length h m : Nat) :=
  .inr ⟨m, Nat.le_refl _, hm, rfl, hu, fun e he hl => by omega⟩
theorem FF.done {L : List Sl} {key : ByteArray} {a : Int} (g : Good L) (hI : ¬ In L key) (hf : FF L (homeN key L.length) 0 a) :
    (a = -1 ∧ probeM L key = none) ∨ ∃ i : Nat, i < L.length ∧ a = i ∧ probeM L key = some i := by
  have HL := homeN_lt key L.length g.pos
  rcases hf with ⟨h1, h2⟩ | ⟨d, h1, h2, h3, h4, h5⟩
  · left
    refine ⟨h1, ?_⟩
    rcases probe_cases (L := L) (key := key) g.pos with ⟨z, _⟩ | ⟨i, _, hi, hs, _⟩
    · exact z
    · have hu := h2 (ds L.length (homeN key L.length) i) (Nat.zero_le _) (ds_lt HL hi)
      rw [ps_ds HL hi] at hu
      rcases hs with hs | hs
      · rw [hu] at hs; cases hs
      · exact absurd ⟨i, hi, hu, hs⟩ hI
  · right
    refine ⟨_, ps_lt HL (by omega), h3, probe_some g.pos (ps_lt HL (by omega)) (.inl h4) fun e he => ?_⟩
    rw [ds_ps HL h2] at he
    have hu := h5 e (Nat.zero_le _) he
    exact ⟨hu, fun hk => hI ⟨_, ps_lt HL (by omega), hu, hk⟩⟩
theorem ps_int {i d n : Nat} (h : i < n) (hd : d ≤ n) : ((i : Int) + (d : Int)) % (n : Int) = (ps n i d : Nat) := by rw [← ps_mod h hd]; push_cast; rfl

set_option maxHeartbeats 4000000 in
theorem refPut_not (L : List Sl) (key : ByteArray) (v : Int) (b o c : Nat) (w : World) (g : Good L) (hk : vkB key = true) (hI : ¬ In L key) (ht : TabAt w b o L) (hc : L.length ≤ c) :
    Calls Try.prog 15 #[.slice (some ⟨b, o, none⟩) L.length c, .string key, .int .i64 v] w (PutRef ((probeM L key).map fun a => L.set a ⟨true, key, v⟩) w) := by
  have p1 := g.pos
  have p2 := g.le
  have hk := vkB_le.1 hk
  have HS := Lib.hid (slotI_not hI)
  have HD := Lib.hid (fun a => FF.done (a := a) g hI)
  clear g hI
  have HOW := own_zero w
  have HCE := Lib.hid (tab_cells (ht.below ((Below.refl _ _).alloc (Nat.le_refl _) (.cells #[] 33))))
  obtain ⟨i0, hi0, hz0, hz1, hz2⟩ := info_parts slot_info
  have HI0 := Lib.hid hi0
  have HZ0 := Lib.hid hz0
  have HZ1 := Lib.hid hz1
  have HZ2 := Lib.hid hz2
  clear hi0 hz0 hz1 hz2
  have HL := homeN_lt key L.length (by omega)
  go_enter Try.func15, Try.ntmps15
  go_wp2_with (at_builtin; refine wpList_append_own _ rfl (.tmp 12) (.tmp 13) _ rfl w.heap.size 33 i0 _ 3 32 Try.underlying22 HI0.out HZ0.out HZ1.out HZ2.out rfl (by omega) (.slice (some ⟨w.heap.size, 0, none⟩) 0 0) 0 [] rfl HOW ⟨b, o, none⟩ L.length c (encL L) rfl (encL_len L) HCE.out (one_cells L) (by simp only [maxLen]; omega) (by omega) (by simp) ?_; intro v1 w1 hown1 hg1 hat1)
  simp only [Nat.zero_add, List.nil_append] at hown1
  obtain ⟨g1, c1, rfl, hg1b, hc1, HO⟩ := own_of hown1 p1
  have HB1 : Below w.heap.size w w1 := below_grown hg1 (Nat.le_refl _)
  clear hown1 hg1 hat1 HOW HCE
  have hTT := ht.below HB1
  have hT1 : Tab w1 (some ⟨b, o, none⟩) c L := ⟨hc, fun _ => ⟨_, _, rfl, hTT⟩⟩
  go_wp2_with fail
  refine (slotOf_any _ c L key _ hT1 p2).mono ?_
  rintro e w2 ⟨rfl, rfl⟩
  rw [HS.out]
  go_wp2_with fail
  refine (refHome_any key _ _ hk (by omega) (by omega)).mono ?_
  rintro e w2 ⟨rfl, rfl⟩
  go_wp2
  go_loop [9, 11] (fun av kv => ∃ (m : Nat) (a : Int), m ≤ L.length ∧ kv = .int .i64 ((m : Int) - 1) ∧ av = .int .i64 a ∧ Hid (FF L (homeN key L.length) m a)) (fun _ kv => (intOf kv + 1).toNat)
  case atStart => exact ⟨L.length, -1, Nat.le_refl _, rfl, rfl, Lib.hid (.inl ⟨rfl, fun d h1 h2 => by omega⟩)⟩
  case round =>
    obtain ⟨m, a, hm, rfl, rfl, HF⟩ := hrel
    cases m with
    | zero =>
      rcases HD.out a HF.out with ⟨rfl, hp⟩ | ⟨i, hi, rfl, hp⟩
      · have HP := Lib.hid hp
        clear hp
        go_wp2
        go_ret2
        unfold PutRef
        rw [HP.out]
        exact ⟨rfl, HB1⟩
      · have HP := Lib.hid hp
        have hn1 : decide ((i : Int) < 0) = false := by simp
        clear hp
        obtain ⟨e0, e1, e2⟩ := HO.at_ (i := i) hi
        have f0 := HO.frozen (i * 3)
        have f1 := HO.frozen (i * 3 + 1)
        have f2 := HO.frozen (i * 3 + 2)
        go_wp2
        go_ret2
        unfold PutRef
        rw [HP.out]
        refine ⟨some ⟨g1, 0, none⟩, c1, ?_, ⟨by simpa using hc1, fun _ => ⟨_, _, rfl, (HO.set_ hi ⟨true, key, v⟩).tab⟩⟩, ((HB1.setCell hg1b _).setCell hg1b _).setCell hg1b _⟩
        rw [List.length_set]; rfl
    | succ k =>
      rw [show ((k + 1 : Nat) : Int) - 1 = (k : Int) by omega]
      have hpl := ps_lt HL (d := k) (by omega)
      obtain ⟨c0, _, _⟩ := hTT.2 _ hpl
      have hmod := ps_int HL (d := k) (by omega)
      have q1 : decide (0 ≤ (k : Int)) = true := by simp
      by_cases hu : (sl L (ps L.length (homeN key L.length) k)).used = true
      · rw [hu] at c0
        have HF2 := Lib.hid (HF.out.keep hu)
        clear hu
        go_wp2_with fail
        refine (slotOf_any _ c L key _ hT1 p2).mono ?_
        rintro e w2 ⟨rfl, rfl⟩
        rw [HS.out]
        go_wp2
        go_round
        case rel => exact ⟨k, a, by omega, rfl, rfl, HF2⟩
        case measure => simp [intOf]; try omega
      · have hu : (sl L (ps L.length (homeN key L.length) k)).used = false := by simpa using hu
        rw [hu] at c0
        have HF2 := Lib.hid (FF.here (by omega) hu)
        clear hu
        go_wp2_with fail
        refine (slotOf_any _ c L key _ hT1 p2).mono ?_
        rintro e w2 ⟨rfl, rfl⟩
        rw [HS.out]
        go_wp2
        go_round
        case rel => exact ⟨k, _, by omega, rfl, rfl, by rw [hmod]; exact HF2⟩
        case measure => simp [intOf]; try omega

/-- Of a table that passes Check, the reference stores where the program does. -/
theorem refPut_any (L : List Sl) (key : ByteArray) (v : Int) (A : Option Addr) (c : Nat) (w : World) (g : Good L) (hk : vkB key = true) (ht : Tab w A c L) :
    Calls Try.prog 15 #[.slice A L.length c, .string key, .int .i64 v] w (PutRef ((probeM L key).map fun a => L.set a ⟨true, key, v⟩) w) := by
  obtain ⟨b, o, rfl, hT⟩ := ht.2 g.pos
  by_cases hI : In L key
  · obtain ⟨i, hi, hu, rfl⟩ := hI
    rw [g.at_ hi hu]
    exact refPut_in L i v b o c w g hi hu hT ht.1
  · exact refPut_not L key v b o c w g hk hI hT ht.1

end Go.Proofs.Ytaioefimgggfkaa
