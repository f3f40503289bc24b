/-
  Tables that pass Check: where a key lies, what storing and resizing leave.
-/
import Derived.Test.YtaioefimgggfkaaTableMath
namespace Go.Proofs.Ytaioefimgggfkaa
set_option linter.unusedVariables false

structure Good (L : List Sl) : Prop where
  pos : 0 < L.length
  le : L.length ≤ 64
  neat : ∀ i, i < L.length → (sl L i).used = false → (sl L i).key.size = 0 ∧ (sl L i).val = 0
  ok : ∀ i, i < L.length → (sl L i).used = true → vkB (sl L i).key = true ∧ vvB (sl L i).val = true
  uniq : ∀ i j, i < L.length → j < L.length → (sl L i).used = true → (sl L j).used = true → (sl L i).key = (sl L j).key → i = j
  reach : ∀ i, i < L.length → (sl L i).used = true → ∀ d, d < ds L.length (homeN (sl L i).key L.length) i → (sl L (ps L.length (homeN (sl L i).key L.length) d)).used = true

theorem good_of {L : List Sl} (h : checkM L = 0) : Good L := by
  obtain ⟨h0, h1, h2, h3⟩ := checkM_inv h
  have hdup : ∀ i j, i < j → j < L.length → (sl L i).used = true → (sl L j).used = true → (sl L i).key ≠ (sl L j).key := by
    intro i j hij hj ui uj hk
    have := h2 j hj
    unfold slotE at this
    rw [if_pos uj] at this
    by_cases hv : (vkB (sl L j).key && vvB (sl L j).val) = true
    · rw [if_pos hv] at this
      by_cases hd : dupB (sl L j).key L j = true
      · rw [if_pos hd] at this; omega
      · have := dupB_inv (by simpa using hd) i hij
        simp [hasB, ui, hk] at this
    · rw [if_neg hv] at this; omega
  refine ⟨h0, h1, fun i hi hu => ?_, fun i hi hu => ?_, fun i j hi hj ui uj hk => ?_, fun i hi hu => ?_⟩
  · have := h2 i hi
    unfold slotE at this
    rw [if_neg (by simp [hu])] at this
    by_cases hs : (sl L i).key.size = 0 ∧ (sl L i).val = 0
    · exact hs
    · rw [if_neg hs] at this; omega
  · have := h2 i hi
    unfold slotE at this
    rw [if_pos hu] at this
    by_cases hv : (vkB (sl L i).key && vvB (sl L i).val) = true
    · simpa using hv
    · rw [if_neg hv] at this; omega
  · rcases Nat.lt_trichotomy i j with x | x | x
    · exact absurd hk (hdup i j x hj ui uj)
    · exact x
    · exact absurd hk.symm (hdup j i x hi uj ui)
  · have := h3 i hi
    unfold strayB at this
    rw [hu] at this
    exact reachB_inv (by simpa using this)

theorem Good.check {L : List Sl} (g : Good L) : checkM L = 0 := by
  refine checkM_ok g.pos g.le (fun i hi => ?_) (fun i hi => ?_)
  · unfold slotE
    cases hu : (sl L i).used with
    | false => rw [if_neg (by simp), if_pos (g.neat i hi hu)]
    | true =>
      obtain ⟨a, b⟩ := g.ok i hi hu
      rw [if_pos rfl, if_pos (by rw [a, b]; rfl), if_neg]
      rw [dupB_no]
      · simp
      · intro j hj
        cases hx : hasB (sl L i).key L j with
        | false => rfl
        | true =>
          simp only [hasB, Bool.and_eq_true, decide_eq_true_eq] at hx
          have := g.uniq j i (by omega) hi hx.1 hu hx.2
          omega
  · unfold strayB
    cases hu : (sl L i).used with
    | false => rfl
    | true => rw [reachB_yes (g.reach i hi hu)]; rfl

/-- What a probe finds. -/
theorem probe_cases {L : List Sl} {key : ByteArray} (h0 : 0 < L.length) :
    (probeM L key = none ∧ ∀ i, i < L.length → (sl L i).used = true ∧ (sl L i).key ≠ key) ∨
    ∃ a, probeM L key = some a ∧ a < L.length ∧ ((sl L a).used = false ∨ (sl L a).key = key) ∧
      ∀ d, d < ds L.length (homeN key L.length) a → (sl L (ps L.length (homeN key L.length) d)).used = true ∧ (sl L (ps L.length (homeN key L.length) d)).key ≠ key := by
  have HL := homeN_lt key L.length h0
  have st : ∀ i, stopB L key i = false → (sl L i).used = true ∧ (sl L i).key ≠ key := fun i h => by simpa [stopB] using h
  unfold probeM
  rcases fd_cases (fun d => stopB L key (ps L.length (homeN key L.length) d)) L.length with ⟨h1, h2⟩ | ⟨d, h1, h2, h3, h4⟩
  · left
    rw [h1]
    refine ⟨rfl, fun i hi => ?_⟩
    have := h2 (ds L.length (homeN key L.length) i) (ds_lt HL hi)
    simp only [ps_ds HL hi] at this
    exact st i this
  · right
    rw [h1]
    refine ⟨_, rfl, ps_lt HL (by omega), ?_, fun e he => ?_⟩
    · simp only [stopB] at h3
      cases hu : (sl L (ps L.length (homeN key L.length) d)).used with
      | false => exact .inl rfl
      | true => rw [hu] at h3; exact .inr (by simpa using h3)
    · rw [ds_ps HL h2] at he
      exact st _ (h4 e he)

theorem probe_some {L : List Sl} {key : ByteArray} {a : Nat} (h0 : 0 < L.length) (ha : a < L.length) (hs : (sl L a).used = false ∨ (sl L a).key = key)
    (hd : ∀ d, d < ds L.length (homeN key L.length) a → (sl L (ps L.length (homeN key L.length) d)).used = true ∧ (sl L (ps L.length (homeN key L.length) d)).key ≠ key) : probeM L key = some a := by
  have HL := homeN_lt key L.length h0
  unfold probeM
  rw [fd_some (p := fun d => stopB L key (ps L.length (homeN key L.length) d)) (d := ds L.length (homeN key L.length) a) (fun e he => by
    obtain ⟨x, y⟩ := hd e he
    simp [stopB, x, y]) (ds_lt HL ha) (by
    simp only [ps_ds HL ha, stopB]
    rcases hs with h | h
    · simp [h]
    · simp [h])]
  simp [ps_ds HL ha]

/-- A key that is there is found at its place. -/
theorem Good.at_ {L : List Sl} (g : Good L) {i : Nat} (hi : i < L.length) (hu : (sl L i).used = true) : probeM L (sl L i).key = some i := by
  refine probe_some g.pos hi (.inr rfl) fun d hd => ⟨g.reach i hi hu d hd, fun hk => ?_⟩
  have HL := homeN_lt (sl L i).key L.length g.pos
  have hdl := ds_lt HL hi
  have := g.uniq _ i (ps_lt HL (by omega)) hi (g.reach i hi hu d hd) hu hk
  have := ds_ps HL (d := d) (by omega)
  rw [‹ps L.length _ d = i›] at this
  omega

def Has (L : List Sl) (key : ByteArray) (v : Int) : Prop := ∃ i, i < L.length ∧ sl L i = ⟨true, key, v⟩
/-- Whether a key is there. -/
def In (L : List Sl) (key : ByteArray) : Prop := ∃ i, i < L.length ∧ (sl L i).used = true ∧ (sl L i).key = key

theorem Has.in_ {L : List Sl} {key : ByteArray} {v : Int} (h : Has L key v) : In L key := by
  obtain ⟨i, hi, e⟩ := h; exact ⟨i, hi, by rw [e], by rw [e]⟩
theorem in_has {L : List Sl} {key : ByteArray} (h : In L key) : ∃ v, Has L key v := by
  obtain ⟨i, hi, hu, hk⟩ := h
  refine ⟨(sl L i).val, i, hi, ?_⟩
  rw [← hu, ← hk]

theorem find_in {L : List Sl} (g : Good L) {i : Nat} (hi : i < L.length) (hu : (sl L i).used = true) : findM L (sl L i).key = (i, 0) := by
  unfold findM
  rw [if_pos g.check, if_pos (g.ok i hi hu).1, g.at_ hi hu]
  simp [hu]
theorem find_not {L : List Sl} (g : Good L) {key : ByteArray} (hk : vkB key = true) (h : ¬ In L key) : findM L key = (0, 5) := by
  unfold findM
  rw [if_pos g.check, if_pos hk]
  rcases probe_cases (L := L) (key := key) g.pos with ⟨h1, _⟩ | ⟨a, h1, h2, h3, _⟩
  · rw [h1]
  · rw [h1]
    simp only
    rw [if_neg]
    intro hu
    rcases h3 with h3 | h3
    · rw [hu] at h3; cases h3
    · exact h ⟨a, h2, hu, h3⟩
theorem get_has {L : List Sl} (g : Good L) {key : ByteArray} {v : Int} (h : Has L key v) : (getM L key).1 = v ∧ (getM L key).2.2 = 0 := by
  obtain ⟨i, hi, e⟩ := h
  have hf := find_in g hi (by rw [e])
  rw [e] at hf
  unfold getM
  rw [hf]
  simp [e]
theorem get_not {L : List Sl} (g : Good L) {key : ByteArray} (hk : vkB key = true) (h : ¬ In L key) : getM L key = (0, 0, 5) := by
  unfold getM; rw [find_not g hk h]; simp
theorem get_long {L : List Sl} (g : Good L) {key : ByteArray} (hk : ¬ vkB key = true) : getM L key = (0, 0, 3) := by
  unfold getM findM; rw [if_pos g.check, if_neg hk]; simp

theorem len_set (L : List Sl) (i : Nat) (s : Sl) : (L.set i s).length = L.length := by simp
theorem set_self {L : List Sl} {i : Nat} {s : Sl} (h : i < L.length) : sl (L.set i s) i = s := by rw [sl_set h, if_pos rfl]
theorem set_ne {L : List Sl} {i j : Nat} {s : Sl} (h : i < L.length) (hne : i ≠ j) : sl (L.set i s) j = sl L j := by rw [sl_set h, if_neg hne]

/-- Storing where the probe ends keeps a table good. -/
theorem Good.put {L : List Sl} (g : Good L) {key : ByteArray} {v : Int} {a : Nat} (hk : vkB key = true) (hv : vvB v = true) (hp : probeM L key = some a) : Good (L.set a ⟨true, key, v⟩) := by
  have HL := homeN_lt key L.length g.pos
  rcases probe_cases (L := L) (key := key) g.pos with ⟨h1, _⟩ | ⟨a', h1, ha, hs, hd⟩
  · rw [h1] at hp; cases hp
  obtain rfl : a' = a := by rw [h1] at hp; exact Option.some.inj hp
  -- no other place holds the key
  have hno : ∀ i, i < L.length → i ≠ a' → (sl L i).used = true → (sl L i).key ≠ key := by
    intro i hi hne hu hki
    have hr := g.reach i hi hu
    rw [hki] at hr
    have x1 := ds_lt HL hi
    have x2 := ds_lt HL ha
    rcases Nat.lt_trichotomy (ds L.length (homeN key L.length) i) (ds L.length (homeN key L.length) a') with x | x | x
    · have := (hd _ x).2
      rw [ps_ds HL hi] at this
      exact this hki
    · have := ps_ds HL hi
      rw [x, ps_ds HL ha] at this
      exact hne this.symm
    · have hu' := hr _ x
      rw [ps_ds HL ha] at hu'
      rcases hs with hs | hs
      · rw [hs] at hu'; cases hu'
      · exact hne (g.uniq i a' hi ha hu hu' (hki.trans hs.symm))
  have mono : ∀ i, (sl L i).used = true → (sl (L.set a' ⟨true, key, v⟩) i).used = true := by
    intro i hu
    by_cases e : a' = i
    · subst e; rw [set_self ha]
    · rw [set_ne ha e]; exact hu
  refine ⟨by simpa using g.pos, by simpa using g.le, ?_, ?_, ?_, ?_⟩
  · intro i hi hu
    rw [len_set] at hi
    by_cases e : a' = i
    · subst e; rw [set_self ha] at hu; cases hu
    · rw [set_ne ha e] at hu ⊢; exact g.neat i hi hu
  · intro i hi hu
    rw [len_set] at hi
    by_cases e : a' = i
    · subst e; rw [set_self ha]; exact ⟨hk, hv⟩
    · rw [set_ne ha e] at hu ⊢; exact g.ok i hi hu
  · intro i j hi hj ui uj he
    rw [len_set] at hi hj
    by_cases e1 : a' = i
    · by_cases e2 : a' = j
      · omega
      · subst e1
        rw [set_self ha, set_ne ha e2] at he
        rw [set_ne ha e2] at uj
        exact absurd he.symm (hno j hj (fun x => e2 x.symm) uj)
    · by_cases e2 : a' = j
      · subst e2
        rw [set_self ha, set_ne ha e1] at he
        rw [set_ne ha e1] at ui
        exact absurd he (hno i hi (fun x => e1 x.symm) ui)
      · rw [set_ne ha e1] at ui he
        rw [set_ne ha e2] at uj he
        exact g.uniq i j hi hj ui uj he
  · intro i hi hu d hdd
    rw [len_set] at hi hdd ⊢
    by_cases e : a' = i
    · subst e
      rw [set_self ha] at hdd ⊢
      exact mono _ (hd d hdd).1
    · rw [set_ne ha e] at hu hdd ⊢
      exact mono _ (g.reach i hi hu d hdd)

/-- What is there behind a store. -/
theorem put_has {L : List Sl} (g : Good L) {key : ByteArray} {v : Int} {a : Nat} (hp : probeM L key = some a) (k : ByteArray) (x : Int) :
    Has (L.set a ⟨true, key, v⟩) k x ↔ (k = key ∧ x = v) ∨ (k ≠ key ∧ Has L k x) := by
  have HL := homeN_lt key L.length g.pos
  rcases probe_cases (L := L) (key := key) g.pos with ⟨h1, _⟩ | ⟨a', h1, ha, hs, hd⟩
  · rw [h1] at hp; cases hp
  obtain rfl : a' = a := by rw [h1] at hp; exact Option.some.inj hp
  constructor
  · rintro ⟨i, hi, e⟩
    rw [len_set] at hi
    by_cases ei : a' = i
    · subst ei
      rw [set_self ha] at e
      injection e with _ e1 e2
      exact .inl ⟨e1.symm, e2.symm⟩
    · rw [set_ne ha ei] at e
      refine .inr ⟨fun hk => ?_, i, hi, e⟩
      subst hk
      have hu : (sl L i).used = true := by rw [e]
      have hat := g.at_ hi hu
      rw [e] at hat
      rw [h1] at hat
      exact ei (Option.some.inj hat)
  · rintro (⟨rfl, rfl⟩ | ⟨hne, i, hi, e⟩)
    · exact ⟨a', by rw [len_set]; exact ha, set_self ha⟩
    · refine ⟨i, by rw [len_set]; exact hi, ?_⟩
      rw [set_ne ha, e]
      rintro rfl
      rcases hs with h | h
      · rw [e] at h; cases h
      · rw [e] at h; exact hne h

def cnt (L : List Sl) : Nat := L.countP (·.used)

/-- What resizing leaves, from slot to slot. -/
theorem resL_spec : ∀ (S R R' : List Sl), Good R → (∀ s ∈ S, s.used = true → vkB s.key = true ∧ vvB s.val = true) → (∀ s ∈ S, s.used = true → ¬ In R s.key) →
    (S.filter (·.used)).Pairwise (fun s t => s.key ≠ t.key) → resL S R = some R' →
    Good R' ∧ R'.length = R.length ∧ cnt R' = cnt R + cnt S ∧ ∀ k x, Has R' k x ↔ Has R k x ∨ (⟨true, k, x⟩ : Sl) ∈ S := by
  intro S
  induction S with
  | nil =>
    intro R R' g _ _ _ h
    rw [resL] at h
    obtain rfl := Option.some.inj h
    exact ⟨g, rfl, by simp [cnt], by simp⟩
  | cons s ss ih =>
    intro R R' g hok hin hpw h
    cases hu : s.used with
    | false =>
      rw [resL, if_neg (by simp [hu])] at h
      obtain ⟨a, b, c, d⟩ := ih R R' g (fun t ht => hok t (List.mem_cons_of_mem _ ht)) (fun t ht => hin t (List.mem_cons_of_mem _ ht)) (by simpa [hu] using hpw) h
      refine ⟨a, b, by rw [c]; simp [cnt, hu], fun k x => ?_⟩
      rw [d k x, List.mem_cons]
      constructor
      · rintro (y | y)
        · exact .inl y
        · exact .inr (.inr y)
      · rintro (y | y | y)
        · exact .inl y
        · rw [← y] at hu; cases hu
        · exact .inr y
    | true =>
      rw [resL, if_pos hu] at h
      rcases probe_cases (L := R) (key := s.key) g.pos with ⟨h1, _⟩ | ⟨a, h1, ha, hs, hd⟩
      · rw [h1] at h; cases h
      rw [h1] at h
      simp only at h
      have hne : (sl R a).used = false := by
        rcases hs with hs | hs
        · exact hs
        · cases hx : (sl R a).used with
          | false => rfl
          | true => exact absurd ⟨a, ha, hx, hs⟩ (hin s List.mem_cons_self hu)
      have g2 := g.put (hok s List.mem_cons_self hu).1 (hok s List.mem_cons_self hu).2 h1
      have hpw' : (∀ t ∈ ss, t.used = true → s.key ≠ t.key) ∧ (ss.filter (·.used)).Pairwise (fun s t => s.key ≠ t.key) := by
        rw [List.filter_cons, if_pos (by exact hu)] at hpw
        rw [List.pairwise_cons] at hpw
        exact ⟨fun t ht hut => hpw.1 t (List.mem_filter.2 ⟨ht, hut⟩), hpw.2⟩
      obtain ⟨b, c, d, e⟩ := ih _ R' g2 (fun t ht => hok t (List.mem_cons_of_mem _ ht)) (fun t ht htu hI => by
        obtain ⟨x, hx⟩ := in_has hI
        rcases (put_has g h1 _ _).1 hx with ⟨y, _⟩ | ⟨_, y⟩
        · exact hpw'.1 t ht htu y.symm
        · exact hin t (List.mem_cons_of_mem _ ht) htu y.in_) hpw'.2 h
      refine ⟨b, by rw [c, len_set], ?_, fun k x => ?_⟩
      · rw [d]
        have : cnt (R.set a ⟨true, s.key, s.val⟩) = cnt R + 1 := by
          unfold cnt
          rw [List.countP_set (by exact ha)]
          have hx : R[a].used = false := by rw [← hne]; simp [sl, ha]
          simp [hx]
        rw [this]
        have h2 : cnt (s :: ss) = cnt ss + 1 := by simp [cnt, hu]
        omega
      · rw [e k x, put_has g h1, List.mem_cons]
        have hse : (⟨true, k, x⟩ : Sl) = s ↔ k = s.key ∧ x = s.val := by
          obtain ⟨u, k', v'⟩ := s
          simp only at hu
          subst hu
          simp
        rw [hse]
        constructor
        · rintro ((y | y) | y)
          · exact .inr (.inl y)
          · exact .inl y.2
          · exact .inr (.inr y)
        · rintro (y | y | y)
          · by_cases z : k = s.key
            · exact absurd (z ▸ y.in_) (hin s List.mem_cons_self hu)
            · exact .inl (.inr ⟨z, y⟩)
          · exact .inl (.inl y)
          · exact .inr y

theorem sl_repl (n i : Nat) : sl (List.replicate n Sl.no) i = Sl.no := by
  unfold sl
  rw [List.getD_eq_getElem?_getD, List.getElem?_replicate]
  split <;> rfl
theorem good_new {n : Nat} (h1 : 1 ≤ n) (h2 : n ≤ 64) : Good (List.replicate n Sl.no) := by
  refine ⟨by simp; omega, by simpa using h2, fun i _ _ => ?_, fun i _ hu => ?_, fun i j _ _ hu => ?_, fun i _ hu => ?_⟩
  · rw [sl_repl]; exact ⟨rfl, rfl⟩
  · rw [sl_repl] at hu; cases hu
  · rw [sl_repl] at hu; cases hu
  · rw [sl_repl] at hu; cases hu
theorem has_mem {L : List Sl} {k : ByteArray} {x : Int} : Has L k x ↔ (⟨true, k, x⟩ : Sl) ∈ L := by
  unfold Has
  rw [List.mem_iff_getElem]
  constructor
  · rintro ⟨i, hi, e⟩; exact ⟨i, hi, by rw [← e]; simp [sl, hi]⟩
  · rintro ⟨i, hi, e⟩; exact ⟨i, hi, by rw [← e]; simp [sl, hi]⟩
theorem mem_sl {L : List Sl} {s : Sl} (h : s ∈ L) : ∃ i, i < L.length ∧ sl L i = s := by
  obtain ⟨i, hi, e⟩ := List.mem_iff_getElem.1 h
  exact ⟨i, hi, by rw [← e]; simp [sl, hi]⟩

theorem resize_err {L : List Sl} {n : Int} (h : (resizeM L n).2 ≠ 0) : (resizeM L n).1 = [] := by
  unfold resizeM at h ⊢
  by_cases hc : checkM L = 0
  · rw [if_pos hc] at h ⊢
    by_cases hn : 1 ≤ n ∧ n ≤ 64
    · rw [if_pos hn] at h ⊢
      cases hr : resL L (List.replicate n.toNat Sl.no) with
      | none => rfl
      | some R => rw [hr] at h; exact absurd rfl h
    · rw [if_neg hn]
  · rw [if_neg hc]
theorem put_err {L : List Sl} {k : ByteArray} {v : Int} (h : (putM L k v).2 ≠ 0) : (putM L k v).1 = [] := by
  unfold putM at h ⊢
  by_cases hc : checkM L = 0
  · rw [if_pos hc] at h ⊢
    by_cases hn : (vkB k && vvB v) = true
    · rw [if_pos hn] at h ⊢
      cases hr : probeM L k with
      | none => rfl
      | some R => rw [hr] at h; exact absurd rfl h
    · rw [if_neg hn]
  · rw [if_neg hc]

theorem resize_spec {L : List Sl} {n : Int} (h : (resizeM L n).2 = 0) : Good L ∧ Good (resizeM L n).1 ∧ ((resizeM L n).1.length : Int) = n ∧ cnt (resizeM L n).1 = cnt L ∧ ∀ k x, Has (resizeM L n).1 k x ↔ Has L k x := by
  unfold resizeM at h ⊢
  by_cases hc : checkM L = 0
  · rw [if_pos hc] at h ⊢
    have g := good_of hc
    by_cases hn : 1 ≤ n ∧ n ≤ 64
    · rw [if_pos hn] at h ⊢
      cases hr : resL L (List.replicate n.toNat Sl.no) with
      | none => rw [hr] at h; simp at h
      | some R =>
        simp only
        obtain ⟨a, b, c, d⟩ := resL_spec L _ R (good_new (n := n.toNat) (by omega) (by omega)) (fun s hs hu => by
          obtain ⟨i, hi, rfl⟩ := mem_sl hs
          exact g.ok i hi hu) (fun s hs hu hI => by
          obtain ⟨i, hi, hx, _⟩ := hI
          rw [sl_repl] at hx; cases hx) (by
          rw [List.pairwise_filter, List.pairwise_iff_getElem]
          intro i j hi hj hij ui uj he
          have e1 : L[i] = sl L i := by simp [sl, hi]
          have e2 : L[j] = sl L j := by simp [sl, hj]
          rw [e1] at ui he
          rw [e2] at uj he
          have := g.uniq i j hi hj ui uj he
          omega) hr
        refine ⟨g, a, by rw [b]; simp; omega, by rw [c]; simp [cnt, Sl.no], fun k x => ?_⟩
        rw [d k x, has_mem (L := L)]
        constructor
        · rintro (y | y)
          · obtain ⟨i, hi, e⟩ := y
            rw [sl_repl] at e
            exact absurd (congrArg Sl.used e) (by simp [Sl.no])
          · exact y
        · exact .inr
    · rw [if_neg hn] at h; simp at h
  · rw [if_neg hc] at h; exact absurd h hc

/-- Tables that hold the same answer a Get alike. -/
theorem get_same {L R : List Sl} (g : Good L) (g' : Good R) {key : ByteArray} (h : ∀ x, Has R key x ↔ Has L key x) : (getM L key).1 = (getM R key).1 ∧ (getM L key).2.2 = (getM R key).2.2 := by
  by_cases hk : vkB key = true
  · by_cases hI : In L key
    · obtain ⟨x, hx⟩ := in_has hI
      obtain ⟨a, b⟩ := get_has g hx
      obtain ⟨c, d⟩ := get_has g' ((h x).2 hx)
      rw [a, b, c, d]; exact ⟨rfl, rfl⟩
    · rw [get_not g hk hI, get_not g' hk (fun hJ => by
        obtain ⟨x, hx⟩ := in_has hJ
        exact hI ((h x).1 hx).in_)]
      exact ⟨rfl, rfl⟩
  · rw [get_long g hk, get_long g' hk]; exact ⟨rfl, rfl⟩

end Go.Proofs.Ytaioefimgggfkaa
