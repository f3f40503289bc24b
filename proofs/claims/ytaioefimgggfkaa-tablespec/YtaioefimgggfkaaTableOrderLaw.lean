/-
  Storing two keys in either order, and deleting the one stored last: the mathematics and the walk of the law.
-/
import Derived.Test.YtaioefimgggfkaaTableBegun
import Derived.Test.YtaioefimgggfkaaTableGood
namespace Go.Proofs.Ytaioefimgggfkaa
open Go.RowKit
set_option linter.unusedVariables false

theorem put_ok {L : List Sl} {k : ByteArray} {v : Int} (h : (putM L k v).2 = 0) : Good L ∧ vkB k = true ∧ vvB v = true ∧ ∃ a, probeM L k = some a ∧ a < L.length ∧ putM L k v = (L.set a ⟨true, k, v⟩, 0) := by
  unfold putM at h ⊢
  by_cases hc : checkM L = 0
  · rw [if_pos hc] at h ⊢
    by_cases hn : (vkB k && vvB v) = true
    · rw [if_pos hn] at h ⊢
      have hn' : vkB k = true ∧ vvB v = true := by simpa using hn
      cases hr : probeM L k with
      | none => rw [hr] at h; simp at h
      | some a => exact ⟨good_of hc, hn'.1, hn'.2, a, rfl, probeM_lt hr (checkM_inv hc).1, rfl⟩
    · rw [if_neg hn] at h; simp at h
  · rw [if_neg hc] at h; exact absurd h hc
theorem put_go {L : List Sl} {k : ByteArray} {v : Int} (g : Good L) (hk : vkB k = true) (hv : vvB v = true) : putM L k v = match probeM L k with
    | some a => (L.set a ⟨true, k, v⟩, 0)
    | none => ([], 8) := by
  unfold putM; rw [if_pos g.check, if_pos (by rw [hk, hv]; rfl)]
  rfl

theorem ds_cases (n i j : Nat) : (i ≤ j ∧ ds n i j = j - i) ∨ (j < i ∧ ds n i j = j + n - i) := by
  unfold ds; split
  · exact .inl ⟨by assumption, rfl⟩
  · exact .inr ⟨by omega, rfl⟩
theorem ds_mid {n h a c d : Nat} (h1 : h < n) (h2 : a < n) (h3 : c < n) (h4 : d < n) (x : ds n h a ≤ ds n h d) (y : ds n a c < ds n a d) : ds n h c < ds n h d := by
  have e1 := ds_cases n h a
  have e2 := ds_cases n h d
  have e3 := ds_cases n a c
  have e4 := ds_cases n a d
  have e5 := ds_cases n h c
  omega

/-- Probes for two keys that end at different places do not disturb one another. -/
theorem probe_other {L : List Sl} {a b : ByteArray} {α β : Nat} {x : Int} (g : Good L) (hne : a ≠ b) (ha : α < L.length) (hpb : probeM L b = some β) (hab : α ≠ β) : probeM (L.set α ⟨true, a, x⟩) b = some β := by
  rcases probe_cases (L := L) (key := b) g.pos with ⟨h1, _⟩ | ⟨β', h1, hb, hs, hd⟩
  · rw [h1] at hpb; cases hpb
  obtain rfl : β' = β := by rw [h1] at hpb; exact Option.some.inj hpb
  refine probe_some (by rw [len_set]; exact g.pos) (by rw [len_set]; exact hb) (by rw [set_ne ha hab]; exact hs) fun d hdd => ?_
  rw [len_set] at hdd ⊢
  by_cases e : α = ps L.length (homeN b L.length) d
  · rw [← e, set_self ha]; exact ⟨rfl, hne⟩
  · rw [set_ne ha e]; exact hd d hdd

theorem in_probe {L : List Sl} (g : Good L) {k : ByteArray} {a : Nat} (hp : probeM L k = some a) (hu : (sl L a).used = false) : ¬ In L k := by
  rintro ⟨i, hi, ui, rfl⟩
  rw [g.at_ hi ui] at hp
  obtain rfl := Option.some.inj hp
  rw [ui] at hu; cases hu

/-- Behind the same new slot, where each of two new keys would go. -/
theorem probe_le {L : List Sl} {a b : ByteArray} {α δ : Nat} {y : Int} (g : Good L) (hne : a ≠ b) (hpa : probeM L a = some α) (hu : (sl L α).used = false) (hq : probeM (L.set α ⟨true, b, y⟩) a = some δ) :
    δ < L.length ∧ (sl L δ).used = false ∧ δ ≠ α ∧ ds L.length (homeN a L.length) α ≤ ds L.length (homeN a L.length) δ ∧ ∀ i, i < L.length → ds L.length (homeN a L.length) i < ds L.length (homeN a L.length) δ → (sl (L.set α ⟨true, b, y⟩) i).used = true := by
  have HL := homeN_lt a L.length g.pos
  rcases probe_cases (L := L) (key := a) g.pos with ⟨h1, _⟩ | ⟨α', h1, ha, hs, hd⟩
  · rw [h1] at hpa; cases hpa
  obtain rfl : α' = α := by rw [h1] at hpa; exact Option.some.inj hpa
  have hnin := in_probe g hpa hu
  rcases probe_cases (L := L.set α' ⟨true, b, y⟩) (key := a) (by rw [len_set]; exact g.pos) with ⟨h2, _⟩ | ⟨δ', h2, hδ, hs2, hd2⟩
  · rw [h2] at hq; cases hq
  obtain rfl : δ' = δ := by rw [h2] at hq; exact Option.some.inj hq
  rw [len_set] at hδ hd2
  have hda : δ' ≠ α' := by
    rintro rfl
    rw [set_self ha] at hs2
    rcases hs2 with z | z
    · cases z
    · exact hne z.symm
  have hud : (sl L δ').used = false := by
    rw [set_ne ha (fun z => hda z.symm)] at hs2
    rcases hs2 with z | z
    · exact z
    · cases hx : (sl L δ').used with
      | false => rfl
      | true => exact absurd ⟨δ', hδ, hx, z⟩ hnin
  refine ⟨hδ, hud, hda, ?_, fun i hi hlt => ?_⟩
  · apply Nat.le_of_not_lt
    intro hlt
    have := (hd _ hlt).1
    rw [ps_ds HL hδ, hud] at this
    cases this
  · have := (hd2 _ hlt).1
    rw [ps_ds HL hi] at this
    exact this

theorem order_used {L : List Sl} {a b : ByteArray} {x y : Int} (e : (putM L a x).2 = 0) (f : (putM L b y).2 = 0) (hne : a ≠ b) :
    ((putM (putM L a x).1 b y).2 = 8 ∧ (putM (putM L b y).1 a x).2 = 8) ∨
    ((putM (putM L a x).1 b y).2 = 0 ∧ (putM (putM L b y).1 a x).2 = 0 ∧ (putM (putM L a x).1 b y).1.length = L.length ∧ (putM (putM L b y).1 a x).1.length = L.length ∧
      ∀ i, (sl (putM (putM L a x).1 b y).1 i).used = (sl (putM (putM L b y).1 a x).1 i).used) := by
  obtain ⟨g, ka, va, α, pa, la, ea⟩ := put_ok e
  obtain ⟨_, kb, vb, β, pb, lb, eb⟩ := put_ok f
  rw [ea, eb]
  simp only
  have gp := g.put ka va pa
  have gq := g.put kb vb pb
  rw [put_go gp kb vb, put_go gq ka va]
  by_cases hab : α = β
  · subst hab
    have hu : (sl L α).used = false := by
      rcases probe_cases (L := L) (key := a) g.pos with ⟨h1, _⟩ | ⟨α', h1, _, hs, _⟩
      · rw [h1] at pa; cases pa
      obtain rfl : α' = α := by rw [h1] at pa; exact Option.some.inj pa
      rcases probe_cases (L := L) (key := b) g.pos with ⟨h2, _⟩ | ⟨β', h2, _, hs2, _⟩
      · rw [h2] at pb; cases pb
      obtain rfl : β' = α' := by rw [h2] at pb; exact Option.some.inj pb
      rcases hs with z | z
      · exact z
      · rcases hs2 with z2 | z2
        · exact z2
        · exact absurd (z.symm.trans z2) hne
    have full : ∀ {k k' : ByteArray} {u v : Int}, k ≠ k' → probeM L k' = some α → probeM (L.set α ⟨true, k, u⟩) k' = none → ∀ i, i < L.length → (sl (L.set α ⟨true, k, u⟩) i).used = true := by
      intro k k' u v hk hp hn i hi
      rcases probe_cases (L := L.set α ⟨true, k, u⟩) (key := k') (by rw [len_set]; exact g.pos) with ⟨_, h2⟩ | ⟨_, h2, _⟩
      · exact (h2 i (by rw [len_set]; exact hi)).1
      · rw [h2] at hn; cases hn
    have same : ∀ i, (sl (L.set α ⟨true, a, x⟩) i).used = (sl (L.set α ⟨true, b, y⟩) i).used := by
      intro i
      by_cases ei : α = i
      · subst ei; rw [set_self la, set_self la]
      · rw [set_ne la ei, set_ne la ei]
    cases hγ : probeM (L.set α ⟨true, a, x⟩) b with
    | none =>
      cases hδ : probeM (L.set α ⟨true, b, y⟩) a with
      | none => exact .inl ⟨rfl, rfl⟩
      | some δ =>
        obtain ⟨d1, d2, d3, _⟩ := probe_le g hne pa hu hδ
        have := full (v := 0) hne pb hγ δ d1
        rw [set_ne la (fun z => d3 z.symm), d2] at this
        cases this
    | some γ =>
      obtain ⟨c1, c2, c3, c4, c5⟩ := probe_le g (fun z => hne z.symm) pb hu hγ
      cases hδ : probeM (L.set α ⟨true, b, y⟩) a with
      | none =>
        have := full (v := 0) (fun z => hne z.symm) pa hδ γ c1
        rw [set_ne la (fun z => c3 z.symm), c2] at this
        cases this
      | some δ =>
        obtain ⟨d1, d2, d3, d4, d5⟩ := probe_le g hne pa hu hδ
        have hgd : γ = δ := by
          have H1 := homeN_lt a L.length g.pos
          have H2 := homeN_lt b L.length g.pos
          rcases Nat.lt_trichotomy (ds L.length α γ) (ds L.length α δ) with z | z | z
          · have := d5 γ c1 (ds_mid H1 la c1 d1 d4 z)
            rw [set_ne la (fun z => c3 z.symm), c2] at this
            cases this
          · rw [← ps_ds la c1, z, ps_ds la d1]
          · have := c5 δ d1 (ds_mid H2 la d1 c1 c4 z)
            rw [set_ne la (fun z => d3 z.symm), d2] at this
            cases this
        subst hgd
        refine .inr ⟨rfl, rfl, by simp, by simp, fun i => ?_⟩
        simp only
        by_cases ei : γ = i
        · subst ei; rw [set_self (by rw [len_set]; exact c1), set_self (by rw [len_set]; exact c1)]
        · rw [set_ne (by rw [len_set]; exact c1) ei, set_ne (by rw [len_set]; exact c1) ei, same i]
  · rw [probe_other g hne la pb hab, probe_other g (fun z => hne z.symm) lb pa (fun z => hab z.symm)]
    refine .inr ⟨rfl, rfl, by simp, by simp, fun i => ?_⟩
    simp only
    by_cases e1 : α = i
    · subst e1
      rw [set_self (by rw [len_set]; exact la), set_ne (by rw [len_set]; exact lb) (fun z => hab z.symm), set_self la]
    · rw [set_ne (i := α) (by rw [len_set]; exact la) e1]
      by_cases e2 : β = i
      · subst e2; rw [set_self (by rw [len_set]; exact lb), set_self lb]
      · rw [set_ne (by rw [len_set]; exact lb) e2, set_ne la e1, set_ne lb e2]

/-- Deleting the key stored last restores the table. -/
theorem order_del {L : List Sl} {a : ByteArray} {x : Int} (e : (putM L a x).2 = 0) (hg : (getM L a).2.2 = 5) : delM (putM L a x).1 a = (L, 0) := by
  obtain ⟨g, ka, va, α, pa, la, ea⟩ := put_ok e
  rw [ea]
  simp only
  have gp := g.put ka va pa
  have hnin : ¬ In L a := by
    intro hI
    obtain ⟨v, hv⟩ := in_has hI
    rw [(get_has g hv).2] at hg
    omega
  have hu : (sl L α).used = false := by
    rcases probe_cases (L := L) (key := a) g.pos with ⟨h1, _⟩ | ⟨α', h1, _, hs, _⟩
    · rw [h1] at pa; cases pa
    obtain rfl : α' = α := by rw [h1] at pa; exact Option.some.inj pa
    cases hx : (sl L α').used with
    | false => rfl
    | true =>
      rcases hs with z | z
      · rw [hx] at z; cases z
      · exact absurd ⟨α', la, hx, z⟩ hnin
  have hf : findM (L.set α ⟨true, a, x⟩) a = (α, 0) := by
    have := find_in gp (i := α) (by rw [len_set]; exact la) (by rw [set_self la])
    rwa [set_self la] at this
  unfold delM
  rw [hf]
  simp only [if_true, Prod.mk.injEq, and_true]
  unfold dropL
  rw [len_set, List.set_set]
  have hno : sl L α = Sl.no := by
    obtain ⟨z1, z2⟩ := g.neat α la hu
    generalize sl L α = s at *
    obtain ⟨u, k, v⟩ := s
    simp only at hu z1 z2
    rw [hu, z2, size_zero z1]; rfl
  have hs : L.set α Sl.no = L := by
    rw [← hno]
    have : sl L α = L[α] := by simp [sl, la]
    rw [this, List.set_getElem_self]
  rw [hs]
  have key : ∀ f d, 1 ≤ d → d + f ≤ L.length → delL L.length α f d L α = L := by
    intro f
    induction f with
    | zero => intro d _ _; rfl
    | succ f ih =>
      intro d hd1 hd2
      have hlt := ps_lt la (d := d) (by omega)
      cases hx : (sl L (ps L.length α d)).used with
      | false => exact delL_stop hx
      | true =>
        rw [delL_stay hx, ih (d + 1) (by omega) (by omega)]
        cases hp : passB (sl L (ps L.length α d)).key L.length α (ps L.length α d) with
        | false => rfl
        | true =>
          unfold passB at hp
          have hp := of_decide_eq_true hp
          have HL := homeN_lt (sl L (ps L.length α d)).key L.length g.pos
          have hne : ds L.length (homeN (sl L (ps L.length α d)).key L.length) α ≠ ds L.length (homeN (sl L (ps L.length α d)).key L.length) (ps L.length α d) := by
            intro z
            have := ps_ds HL la
            rw [z, ps_ds HL hlt] at this
            exact ps_off la hd1 (by omega) this.symm
          have := g.reach _ hlt hx (ds L.length (homeN (sl L (ps L.length α d)).key L.length) α) (by omega)
          rw [ps_ds HL la, hu] at this
          cases this
  exact key (L.length - 1) 1 (by omega) (by omega)

/-! ### SameSlots -/
set_option maxHeartbeats 1000000 in
theorem same_any (L : List Sl) (A A' : Option Addr) (c c' : Nat) (w : World) (h : L.length ≤ 64) (ht : Tab w A c L) (ht' : Tab w A' c' L) :
    Calls Try.prog 18 #[.slice A L.length c, .slice A' L.length c'] w fun e w' => e = .returned (.bool true) ∧ Below w.heap.size w w' := by
  go_enter Try.func18, Try.ntmps18
  go_wp2
  go_loopw [5] (fun i wr => ∃ k : Nat, k ≤ L.length ∧ i = .int .i64 k ∧ Below w.heap.size w wr) (fun i _ => L.length - (intOf i).toNat)
  case atStart => exact ⟨0, by omega, rfl, Below.refl _ _⟩
  case round =>
    obtain ⟨k, hk, rfl, HB⟩ := hrel
    by_cases hlt : k < L.length
    · obtain ⟨b, o, rfl, hT⟩ := (ht.below HB).2 (by omega)
      obtain ⟨b', o', rfl, hT'⟩ := (ht'.below HB).2 (by omega)
      obtain ⟨c0, c1, c2⟩ := hT.2 k hlt
      obtain ⟨d0, d1, d2⟩ := hT'.2 k hlt
      have hl2 : (k : Int) < (L.length : Int) := by omega
      go_wp2
      go_quiet (fail)
      go_wp2
      go_roundw
      case rel => exact ⟨k + 1, by omega, by go_num, below_drewN HB _⟩
      case measure => simp [intOf]; omega
    · obtain rfl : k = L.length := by omega
      go_wp2
      go_ret
      exact ⟨rfl, HB⟩

/-! ### The law -/
theorem tabR_get {R : List Sl × Int} {w w' : World} {e : Ending} (h : TabR R w e w') : ∃ A c, e = .returned (.tuple #[.slice A R.1.length c, .int .i64 R.2]) ∧ Tab w' A c R.1 ∧ Below w.heap.size w w' := h

set_option maxHeartbeats 4000000 in
set_option maxRecDepth 100000 in
theorem tableOrder_walk (A : Option Addr) (c : Nat) (L : List Sl) (a b : ByteArray) (x y : Int) (w : World) (ht : Tab w A c L) :
    Calls Try.prog 6 #[.slice A L.length c, .string a, .string b, .int .i64 x, .int .i64 y] w fun e w' => e = .returned (.bool true) ∧ Below w.heap.size w w' := by
  by_cases he : (putM L a x).2 = 0
  · by_cases hf : (putM L b y).2 = 0
    · by_cases hab : a = b
      · have HE := Lib.hid he
        have HF := Lib.hid hf
        have hq := beq_yes hab
        clear he hf hab
        go_enter Try.func6, Try.ntmps6
        go_wp2_with fail
        refine (put_any _ c L a x _ ht).mono ?_
        rintro e w1 ⟨A1, c1, rfl, HT1, hb1⟩
        rw [HE.out]
        go_wp2_with fail
        refine (put_any _ c L b y _ (ht.below hb1)).mono ?_
        rintro e w2 ⟨A2, c2, rfl, HT2, hb2⟩
        rw [HF.out]
        have HB2 := hb1.trans (hb2.mono hb1.size)
        clear hb2 hb1 HT1 HT2
        go_wp2_with fail
        refine (begun_any _).mono ?_
        rintro e w3 ⟨rfl, hb3⟩
        go_wp2
        go_ret
        exact ⟨rfl, HB2.trans (hb3.mono HB2.size)⟩
      · have HO := Lib.hid (order_used he hf hab)
        have HDEL := Lib.hid (fun h => order_del he h)
        have HE := Lib.hid he
        have HF := Lib.hid hf
        have p1 := (put_ok he).1.pos
        have p2 := (put_ok he).1.le
        have hq := beq_no hab
        clear he hf hab
        go_enter Try.func6, Try.ntmps6
        go_wp2_with fail
        refine (put_any _ c L a x _ ht).mono ?_
        rintro e w1 ⟨A1, c1, rfl, HT1, hb1⟩
        rw [HE.out]
        go_wp2_with fail
        refine (put_any _ c L b y _ (ht.below hb1)).mono ?_
        rintro e w2 ⟨A2, c2, rfl, HT2, hb2⟩
        rw [HF.out]
        replace HT1 := HT1.below hb2
        have HB2 := hb1.trans (hb2.mono hb1.size)
        clear hb2 hb1
        go_wp2_with fail
        refine (begun_any _).mono ?_
        rintro e w3 ⟨rfl, hb3⟩
        replace HT1 := HT1.below hb3
        replace HT2 := HT2.below hb3
        have HB3 := HB2.trans (hb3.mono HB2.size)
        clear hb3 HB2
        go_wp2_with fail
        refine (put_any _ c1 _ b y _ HT1).mono ?_
        rintro e w4 ⟨A4, c4, rfl, HT4, hb4⟩
        replace HT1 := HT1.below hb4
        replace HT2 := HT2.below hb4
        have HB4 := HB3.trans (hb4.mono HB3.size)
        clear hb4 HB3
        go_wp2_with fail
        refine (put_any _ c2 _ a x _ HT2).mono ?_
        rintro e w5 ⟨A5, c5, rfl, HT5, hb5⟩
        replace HT1 := HT1.below hb5
        replace HT4 := HT4.below hb5
        have HB5 := HB4.trans (hb5.mono HB4.size)
        clear hb5 HB4 HT2
        rcases HO.out with ⟨h8, h8'⟩ | ⟨hz, hz', hl1, hl2, huse⟩
        · rw [h8, h8']
          clear h8 h8' HO HDEL HE HF
          go_wp2
          go_ret
          exact ⟨rfl, HB5⟩
        · rw [hz, hz']
          have HL1 := Lib.hid hl1
          have HL2 := Lib.hid hl2
          have HUS := Lib.hid huse
          clear hz hz' hl1 hl2 huse HO
          generalize (putM (putM L a x).1 b y).1 = V at *
          generalize (putM (putM L b y).1 a x).1 = U at *
          rw [HL1.out, HL2.out]
          have v1 : V.length ≤ L.length := by rw [HL1.out]; exact Nat.le_refl _
          have v2 : L.length ≤ V.length := by rw [HL1.out]; exact Nat.le_refl _
          have v3 : U.length ≤ L.length := by rw [HL2.out]; exact Nat.le_refl _
          have v4 : L.length ≤ U.length := by rw [HL2.out]; exact Nat.le_refl _
          obtain ⟨b4, o4, rfl, hV⟩ := HT4.2 (by omega)
          obtain ⟨b5, o5, rfl, hU⟩ := HT5.2 (by omega)
          clear HT4 HT5
          go_wp2
          go_loopw [19] (fun i wr => ∃ k : Nat, k ≤ L.length ∧ i = .int .i64 k ∧ Below w5.heap.size w5 wr) (fun i _ => L.length - (intOf i).toNat)
          case atStart => exact ⟨0, by omega, rfl, Below.refl _ _⟩
          case round =>
            obtain ⟨k, hk, rfl, HB⟩ := hrel
            by_cases hlt : k < L.length
            · obtain ⟨c0, _, _⟩ := (hV.below HB).2 k (by omega)
              obtain ⟨d0, _, _⟩ := (hU.below HB).2 k (by omega)
              rw [HUS.out k] at c0
              have hl2 : (k : Int) < (L.length : Int) := by omega
              have q1 : ((L.length : Int) != (L.length : Int)) = false := by simp
              go_wp2
              go_quiet (fail)
              go_wp2
              go_roundw
              case rel => exact ⟨k + 1, by omega, by go_num, below_drewN HB _⟩
              case measure => simp [intOf]; omega
            · obtain rfl : k = L.length := by omega
              replace HT1 := HT1.below HB
              have HB6 := HB5.trans (HB.mono HB5.size)
              clear HB HB5
              go_wp2_with fail
              refine (get_any _ c L a _ (ht.below HB6)).mono ?_
              rintro e w6 ⟨rfl, hb6⟩
              replace HT1 := HT1.below hb6
              have HB7 := HB6.trans (hb6.mono HB6.size)
              clear hb6 HB6
              by_cases h5 : (getM L a).2.2 = 5
              · have HD := Lib.hid (HDEL.out h5)
                rw [h5]
                clear h5 HDEL
                go_wp2_with fail
                refine (delete_any _ c1 _ a _ HT1).mono ?_
                rintro e w7 hr
                rw [HD.out] at hr
                obtain ⟨A7, c7, rfl, HT7, hb7⟩ := hr
                have HB8 := HB7.trans (hb7.mono HB7.size)
                clear hb7 HB7
                go_wp2_with fail
                refine (same_any L _ _ c7 c _ p2 HT7 (ht.below HB8)).mono ?_
                rintro e w8 ⟨rfl, hb8⟩
                go_wp2
                go_ret
                exact ⟨rfl, HB8.trans (hb8.mono HB8.size)⟩
              · have hq5 := bd_ne h5
                clear h5 HDEL
                go_wp2
                go_ret
                exact ⟨rfl, HB7⟩
    · have HE := Lib.hid he
      have hq := bd_ne hf
      clear he hf
      go_enter Try.func6, Try.ntmps6
      go_wp2_with fail
      refine (put_any _ c L a x _ ht).mono ?_
      rintro e w1 ⟨A1, c1, rfl, HT1, hb1⟩
      rw [HE.out]
      go_wp2_with fail
      refine (put_any _ c L b y _ (ht.below hb1)).mono ?_
      rintro e w2 ⟨A2, c2, rfl, HT2, hb2⟩
      have HB2 := hb1.trans (hb2.mono hb1.size)
      clear hb2 hb1 HT1 HT2
      go_wp2_with fail
      refine (begun_any _).mono ?_
      rintro e w3 ⟨rfl, hb3⟩
      go_wp2
      go_ret
      exact ⟨rfl, HB2.trans (hb3.mono HB2.size)⟩
  · have hq := bd_ne he
    clear he
    go_enter Try.func6, Try.ntmps6
    go_wp2_with fail
    refine (put_any _ c L a x _ ht).mono ?_
    rintro e w1 ⟨A1, c1, rfl, HT1, hb1⟩
    go_wp2_with fail
    refine (put_any _ c L b y _ (ht.below hb1)).mono ?_
    rintro e w2 ⟨A2, c2, rfl, HT2, hb2⟩
    have HB2 := hb1.trans (hb2.mono hb1.size)
    clear hb2 hb1 HT1 HT2
    go_wp2_with fail
    refine (begun_any _).mono ?_
    rintro e w3 ⟨rfl, hb3⟩
    go_wp2
    go_ret
    exact ⟨rfl, HB2.trans (hb3.mono HB2.size)⟩

end Go.Proofs.Ytaioefimgggfkaa
