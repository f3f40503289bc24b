/-
  What find, Get and Put of package table return.
-/
import Derived.Test.YtaioefimgggfkaaTableWalks4
namespace Go.Proofs.Ytaioefimgggfkaa
open Go.RowKit
set_option linter.unusedVariables false

theorem ret2 {a b : Int} {c d : Int} (h : a = b) (k : c = d) : Ending.returned (.tuple #[.int .i64 a, .int .i64 c]) = .returned (.tuple #[.int .i64 b, .int .i64 d]) := by rw [h, k]
theorem tab_len {w : World} {A : Option Addr} {c : Nat} {L : List Sl} (h : Tab w A c L) (h0 : 0 < L.length) : ∃ b o, A = some ⟨b, o, none⟩ ∧ TabAt w b o L := h.2 h0

set_option maxHeartbeats 1000000 in
theorem find_any (A : Option Addr) (c : Nat) (L : List Sl) (key : ByteArray) (w : World) (ht : Tab w A c L) :
    Calls Try.prog 19 #[.slice A L.length c, .string key] w fun e w' => e = .returned (.tuple #[.int .i64 ((findM L key).1 : Nat), .int .i64 (findM L key).2]) ∧ Below w.heap.size w w' := by
  by_cases hc : checkM L = 0
  · obtain ⟨h0, h1, _, _⟩ := checkM_inv hc
    obtain ⟨b, o, rfl, hT⟩ := ht.2 h0
    have HC := Lib.hid hc
    clear hc
    by_cases hk : vkB key = true
    · have HK := Lib.hid hk
      have hk' := vkB_le.1 hk
      clear hk
      go_enter Try.func19, Try.ntmps19
      go_wp2_with fail
      refine (check_any _ c L _ ht).mono ?_
      rintro e w' ⟨rfl, hb⟩
      rw [HC.out]
      have hT' := hT.below hb
      go_wp2_with fail
      refine (vk_any _ _).mono ?_
      rintro e w' ⟨rfl, rfl⟩
      rw [HK.out]
      go_wp2_with fail
      refine (probe_any L key b o c _ h0 h1 hk' hT').mono ?_
      rintro e w'' ⟨hp, rfl⟩
      cases hq : probeM L key with
      | none =>
        have HR : Hid (findM L key = (0, 5)) := Lib.hid (by unfold findM; rw [if_pos HC.out, if_pos HK.out, hq])
        unfold ProbeR at hp
        rw [hq] at hp
        subst hp
        clear hq
        go_wp2
        go_ret2
        exact ⟨by rw [HR.out]; rfl, hb⟩
      | some a =>
        have ha := probeM_lt hq h0
        have HR : Hid (findM L key = if (sl L a).used = true then (a, 0) else (0, 5)) := Lib.hid (by unfold findM; rw [if_pos HC.out, if_pos HK.out, hq])
        unfold ProbeR at hp
        rw [hq] at hp
        subst hp
        clear hq
        obtain ⟨c0, _, _⟩ := hT'.2 a ha
        by_cases hu : (sl L a).used = true
        · have HU := Lib.hid hu
          rw [hu] at c0
          clear hu
          go_wp2
          go_ret2
          exact ⟨by rw [HR.out, if_pos HU.out]; rfl, hb⟩
        · have HU := Lib.hid hu
          have hu : (sl L a).used = false := by simpa using hu
          rw [hu] at c0
          clear hu
          go_wp2
          go_ret2
          exact ⟨by rw [HR.out, if_neg HU.out]; rfl, hb⟩
    · have HR : Hid (findM L key = (0, 3)) := Lib.hid (by unfold findM; rw [if_pos HC.out, if_neg hk])
      have hk : vkB key = false := by simpa using hk
      have HK := Lib.hid hk
      clear hk
      go_enter Try.func19, Try.ntmps19
      go_wp2_with fail
      refine (check_any _ c L _ ht).mono ?_
      rintro e w' ⟨rfl, hb⟩
      rw [HC.out]
      go_wp2_with fail
      refine (vk_any _ _).mono ?_
      rintro e w' ⟨rfl, rfl⟩
      rw [HK.out]
      go_wp2
      go_ret2
      exact ⟨by rw [HR.out]; rfl, hb⟩
  · have HR : Hid (findM L key = (0, checkM L)) := Lib.hid (by unfold findM; rw [if_neg hc])
    have hq := bd_ne hc
    clear hc
    go_enter Try.func19, Try.ntmps19
    go_wp2_with fail
    refine (check_any _ c L _ ht).mono ?_
    rintro e w' ⟨rfl, hb⟩
    go_wp2
    go_ret2
    exact ⟨by rw [HR.out]; rfl, hb⟩

/-- A table and an error come back. -/
def TabR (R : List Sl × Int) (w : World) (e : Ending) (w' : World) : Prop :=
  ∃ A c, e = .returned (.tuple #[.slice A R.1.length c, .int .i64 R.2]) ∧ Tab w' A c R.1 ∧ Below w.heap.size w w'
theorem tabR_none {w w' : World} {n : Int} {R : List Sl × Int} (h : R = ([], n)) (hb : Below w.heap.size w w') : TabR R w (.returned (.tuple #[.slice none 0 0, .int .i64 n])) w' := by
  subst h; exact ⟨none, 0, rfl, Tab.none_ _ _ _, hb⟩
theorem tabR_own {w w' : World} {g : Nat} {R : List Sl × Int} {L : List Sl} {n : Nat} (h : R = (L, 0)) (hn : L.length = n) (ho : Own w' g L) (hb : Below w.heap.size w w') : TabR R w (.returned (.tuple #[.slice (some ⟨g, 0, none⟩) n n, .int .i64 0])) w' := by
  subst h; subst hn; exact ⟨_, _, rfl, ⟨Nat.le_refl _, fun _ => ⟨_, _, rfl, ho.tab⟩⟩, hb⟩

theorem neat_of {L : List Sl} (h : checkM L = 0) : Neat L := by
  obtain ⟨_, _, h2, _⟩ := checkM_inv h
  intro i hi hu
  have := h2 i hi
  unfold slotE at this
  rw [if_neg (by rw [hu]; simp)] at this
  by_cases hs : (sl L i).key.size = 0 ∧ (sl L i).val = 0
  · generalize sl L i = s at *
    obtain ⟨u, k, v⟩ := s
    simp only at hu hs
    rw [hu, hs.2, size_zero hs.1]; rfl
  · rw [if_neg hs] at this; omega
theorem keys_of {L : List Sl} (h : checkM L = 0) : ∀ i, i < L.length → (sl L i).key.size ≤ 40 := by
  intro i hi
  cases hu : (sl L i).used with
  | true => exact slot_key ((checkM_inv h).2.2.1 i hi) hu
  | false => rw [neat_of h i hi hu]; exact Nat.zero_le _

set_option maxHeartbeats 1000000 in
theorem put_any (A : Option Addr) (c : Nat) (L : List Sl) (key : ByteArray) (v : Int) (w : World) (ht : Tab w A c L) :
    Calls Try.prog 8 #[.slice A L.length c, .string key, .int .i64 v] w (TabR (putM L key v) w) := by
  by_cases hc : checkM L = 0
  · obtain ⟨h0, h1, _, _⟩ := checkM_inv hc
    obtain ⟨b, o, rfl, hT⟩ := ht.2 h0
    have HC := Lib.hid hc
    have HN := Lib.hid (neat_of hc)
    have HS := Lib.hid (keys_of hc)
    clear hc
    by_cases hk : vkB key = true
    · have HK := Lib.hid hk
      have hk' := vkB_le.1 hk
      clear hk
      by_cases hv : vvB v = true
      · have HV := Lib.hid hv
        clear hv
        go_enter Try.func8, Try.ntmps8
        go_wp2_with fail
        refine (check_any _ c L _ ht).mono ?_
        rintro e w' ⟨rfl, hb⟩
        rw [HC.out]
        have hT' := hT.below hb
        go_wp2_with fail
        refine (vk_any _ _).mono ?_
        rintro e w' ⟨rfl, rfl⟩
        rw [HK.out]
        go_wp2_with fail
        refine (vv_any _ _).mono ?_
        rintro e w' ⟨rfl, rfl⟩
        rw [HV.out]
        go_wp2_with fail
        refine (probe_any L key b o c _ h0 h1 hk' hT').mono ?_
        rintro e w'' ⟨hp, rfl⟩
        cases hq : probeM L key with
        | none =>
          have HR : Hid (putM L key v = ([], 8)) := Lib.hid (by unfold putM; rw [if_pos HC.out, if_pos (by rw [HK.out, HV.out]; rfl), hq])
          unfold ProbeR at hp
          rw [hq] at hp
          subst hp
          clear hq
          go_wp2
          go_ret2
          exact tabR_none HR.out hb
        | some a =>
          have ha := probeM_lt hq h0
          have HR : Hid (putM L key v = (L.set a ⟨true, key, v⟩, 0)) := Lib.hid (by unfold putM; rw [if_pos HC.out, if_pos (by rw [HK.out, HV.out]; rfl), hq])
          unfold ProbeR at hp
          rw [hq] at hp
          subst hp
          clear hq
          go_wp2_with fail
          refine (copy_any L b o c _ h0 h1 hT' HN.out HS.out).mono ?_
          rintro e w2 ⟨rfl, HO, hb2⟩
          have hg := HO.lt
          go_wp2_with fail
          refine (newSlot_any key v _ hk').mono ?_
          rintro e w3 ⟨rfl, hb3⟩
          have hz2 := hb2.size
          have hz := hb.size
          have HO2 := HO.below hb3 hg
          obtain ⟨e0, e1, e2⟩ := HO2.at_ (i := a) ha
          have f0 := HO2.frozen (a * 3)
          have f1 := HO2.frozen (a * 3 + 1)
          have f2 := HO2.frozen (a * 3 + 2)
          have HB2 : Below w.heap.size w w3 := (hb.trans (hb2.mono hz)).trans (hb3.mono (by omega))
          clear hb3 hb2
          go_wp2
          go_ret2
          exact tabR_own HR.out (by simp) (HO2.set_ ha ⟨true, key, v⟩) (((HB2.setCell hz _).setCell hz _).setCell hz _)
      · have HR : Hid (putM L key v = ([], 3)) := Lib.hid (by unfold putM; rw [if_pos HC.out, if_neg (by simp [hv])])
        have hv : vvB v = false := by simpa using hv
        have HV := Lib.hid hv
        clear hv
        go_enter Try.func8, Try.ntmps8
        go_wp2_with fail
        refine (check_any _ c L _ ht).mono ?_
        rintro e w' ⟨rfl, hb⟩
        rw [HC.out]
        go_wp2_with fail
        refine (vk_any _ _).mono ?_
        rintro e w' ⟨rfl, rfl⟩
        rw [HK.out]
        go_wp2_with fail
        refine (vv_any _ _).mono ?_
        rintro e w' ⟨rfl, rfl⟩
        rw [HV.out]
        go_wp2
        go_ret2
        exact tabR_none HR.out hb
    · have HR : Hid (putM L key v = ([], 3)) := Lib.hid (by unfold putM; rw [if_pos HC.out, if_neg (by simp [hk])])
      have hk : vkB key = false := by simpa using hk
      have HK := Lib.hid hk
      clear hk
      go_enter Try.func8, Try.ntmps8
      go_wp2_with fail
      refine (check_any _ c L _ ht).mono ?_
      rintro e w' ⟨rfl, hb⟩
      rw [HC.out]
      go_wp2_with fail
      refine (vk_any _ _).mono ?_
      rintro e w' ⟨rfl, rfl⟩
      rw [HK.out]
      go_wp2
      go_ret2
      exact tabR_none HR.out hb
  · have HR : Hid (putM L key v = ([], checkM L)) := Lib.hid (by unfold putM; rw [if_neg hc])
    have hq := bd_ne hc
    clear hc
    go_enter Try.func8, Try.ntmps8
    go_wp2_with fail
    refine (check_any _ c L _ ht).mono ?_
    rintro e w' ⟨rfl, hb⟩
    go_wp2
    go_ret2
    exact tabR_none HR.out hb

end Go.Proofs.Ytaioefimgggfkaa
