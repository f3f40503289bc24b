/-
  Consistent hashing: owners, shares, points added and removed.
-/
import Derived.Test.YtjmhemkbfephpaaDistMath
namespace Go.Proofs.Ytjmhemkbfephpaa.Rng
set_option linter.unusedVariables false

structure Pt where
  at_ : Int
  sh : Int
instance : DecidableEq Pt := fun a b =>
  if h : a.at_ = b.at_ ∧ a.sh = b.sh then isTrue (by cases a; cases b; simp_all) else isFalse (fun e => h (by rw [e]; exact ⟨rfl, rfl⟩))
instance : Inhabited Pt := ⟨⟨0, 0⟩⟩
abbrev gp (L : List Pt) (i : Nat) : Pt := L.getD i ⟨0, 0⟩
theorem gp_get {L : List Pt} {i : Nat} (h : i < L.length) : gp L i = L[i] := by unfold gp; rw [List.getD_eq_getElem?_getD, List.getElem?_eq_getElem h]; rfl
theorem gp_mem {L : List Pt} {i : Nat} (h : i < L.length) : gp L i ∈ L := by rw [gp_get h]; exact List.getElem_mem h
def okP (p : Pt) : Prop := (0 ≤ p.sh ∧ p.sh ≤ 19) ∧ (0 ≤ p.at_ ∧ p.at_ ≤ 65535)
instance (p : Pt) : Decidable (okP p) := by unfold okP; infer_instance
def Asc (L : List Pt) : Prop := L.Pairwise (fun a b => a.at_ < b.at_)
/-- What is wrong with the points behind a place (-1: none). -/
def ptE : Int → List Pt → Int
  | _, [] => 0
  | q, p :: L => if okP p then (if p.at_ ≤ q then 4 else ptE p.at_ L) else 3
def checkR (L : List Pt) : Int := if 60 < L.length then 2 else ptE (-1) L
structure Good (L : List Pt) : Prop where
  few : L.length ≤ 60
  ok : ∀ p ∈ L, okP p
  asc : Asc L
theorem ptE_zero : ∀ {L : List Pt} {q : Int}, ptE q L = 0 ↔ (∀ e ∈ L, okP e) ∧ Asc L ∧ ∀ e ∈ L, q < e.at_
  | [], q => by simp [ptE, Asc]
  | e :: L, p => by
    unfold ptE
    by_cases h1 : okP e
    · rw [if_pos h1]
      by_cases h2 : e.at_ ≤ p
      · rw [if_pos h2]
        exact ⟨fun h => (by cases h), fun h => absurd (h.2.2 e (by simp)) (by omega)⟩
      · rw [if_neg h2, ptE_zero]
        unfold Asc
        rw [List.pairwise_cons]
        constructor
        · rintro ⟨a, b, c⟩
          refine ⟨fun y hy => ?_, ⟨c, b⟩, fun y hy => ?_⟩
          · rcases List.mem_cons.1 hy with rfl | m
            · exact h1
            · exact a y m
          · rcases List.mem_cons.1 hy with rfl | m
            · omega
            · have := c y m; omega
        · rintro ⟨a, ⟨b1, b2⟩, c⟩
          exact ⟨fun y hy => a y (by simp [hy]), b2, b1⟩
    · rw [if_neg h1]
      exact ⟨fun h => (by cases h), fun h => absurd (h.1 e (by simp)) h1⟩
theorem check_zero {L : List Pt} : checkR L = 0 ↔ Good L := by
  unfold checkR
  by_cases h2 : 60 < L.length
  · rw [if_pos h2]; exact ⟨fun h => (by cases h), fun h => absurd h.few (by omega)⟩
  · rw [if_neg h2, ptE_zero]
    exact ⟨fun h => ⟨by omega, h.1, h.2.1⟩, fun h => ⟨h.ok, h.asc, fun e he => by have := (h.ok e he).2.1; omega⟩⟩

/-! ### Two ascending lists with the same points are one -/
theorem asc_head {a : Pt} {L : List Pt} (h : Asc (a :: L)) : ∀ y ∈ L, a.at_ < y.at_ := (List.pairwise_cons.1 h).1
theorem asc_tail {a : Pt} {L : List Pt} (h : Asc (a :: L)) : Asc L := (List.pairwise_cons.1 h).2
theorem asc_uniq : ∀ {L M : List Pt}, Asc L → Asc M → (∀ p, p ∈ L ↔ p ∈ M) → L = M
  | [], [], _, _, _ => rfl
  | [], b :: M, _, _, h => absurd ((h b).2 (List.mem_cons_self ..)) (by simp)
  | a :: L, [], _, _, h => absurd ((h a).1 (List.mem_cons_self ..)) (by simp)
  | a :: L, b :: M, hL, hM, h => by
    have hab : a = b := by
      rcases List.mem_cons.1 ((h a).1 (List.mem_cons_self ..)) with e | m
      · exact e
      · rcases List.mem_cons.1 ((h b).2 (List.mem_cons_self ..)) with e | m2
        · exact e.symm
        · have h1 := asc_head hM a m
          have h2 := asc_head hL b m2
          omega
    subst hab
    have : L = M := asc_uniq (asc_tail hL) (asc_tail hM) (fun p => by
      have := h p
      rw [List.mem_cons, List.mem_cons] at this
      constructor
      · intro hp
        rcases this.1 (.inr hp) with e | m
        · subst e; have := asc_head hL p hp; omega
        · exact m
      · intro hp
        rcases this.2 (.inr hp) with e | m
        · subst e; have := asc_head hM p hp; omega
        · exact m)
    rw [this]

/-! ### Owners -/
def own (L : List Pt) (x : Int) : Int := match L.find? (fun p => decide (x ≤ p.at_)) with
  | some p => p.sh
  | none => (gp L 0).sh
theorem own_some {L : List Pt} {x : Int} {p : Pt} (h : L.find? (fun p => decide (x ≤ p.at_)) = some p) : own L x = p.sh := by unfold own; rw [h]
theorem own_none {L : List Pt} {x : Int} (h : L.find? (fun p => decide (x ≤ p.at_)) = none) : own L x = (gp L 0).sh := by unfold own; rw [h]
/-- Fewer points: the same owner, or one of those that went. -/
theorem own_fewer {M : List Pt} {f : Pt → Bool} {s : Int} (hs : ∀ p ∈ M, f p = false → p.sh = s) (hne : M.filter f ≠ []) (x : Int) : own M x = own (M.filter f) x ∨ own M x = s := by
  cases hm : M.find? (fun p => decide (x ≤ p.at_)) with
  | some p =>
    rw [own_some hm]
    by_cases hf : f p = true
    · left
      have : (M.filter f).find? (fun p => decide (x ≤ p.at_)) = some p := by
        rw [List.find?_filter]
        rw [List.find?_eq_some_iff_append] at hm ⊢
        obtain ⟨h1, as, bs, h2, h3⟩ := hm
        exact ⟨by simp [hf]; simpa using h1, as, bs, h2, fun a ha => by have := h3 a ha; simp at this ⊢; exact .inr this⟩
      rw [own_some this]
    · exact .inr (hs p (List.mem_of_find?_eq_some hm) (by simpa using hf))
  | none =>
    rw [own_none hm]
    have hn : (M.filter f).find? (fun p => decide (x ≤ p.at_)) = none := by
      rw [List.find?_eq_none] at hm ⊢
      exact fun p hp => hm p (List.mem_filter.1 hp).1
    rw [own_none hn]
    cases M with
    | nil => simp at hne
    | cons a M =>
      by_cases hf : f a = true
      · left; rw [List.filter_cons, if_pos hf]; rfl
      · right; exact hs a (List.mem_cons_self ..) (by simpa using hf)
theorem own_mem {L : List Pt} (h : L ≠ []) (x : Int) : ∃ p ∈ L, own L x = p.sh := by
  cases hm : L.find? (fun p => decide (x ≤ p.at_)) with
  | some p => exact ⟨p, List.mem_of_find?_eq_some hm, own_some hm⟩
  | none =>
    refine ⟨gp L 0, gp_mem ?_, own_none hm⟩
    cases L with
    | nil => exact absurd rfl h
    | cons a L => simp
theorem own_self {L : List Pt} (hA : Asc L) {p : Pt} (hp : p ∈ L) : own L p.at_ = p.sh := by
  refine own_some ?_
  induction L with
  | nil => cases hp
  | cons a L ih =>
    rw [List.find?_cons]
    rcases List.mem_cons.1 hp with rfl | m
    · simp
    · have := asc_head hA p m
      have e : decide (p.at_ ≤ a.at_) = false := by simp; omega
      rw [e]
      exact ih (asc_tail hA) m

/-! ### How many of the places from a on -/
def cnt (f : Int → Int) (i : Int) (a : Int) : Nat → Nat
  | 0 => 0
  | n + 1 => (if f a = i then 1 else 0) + cnt f i (a + 1) n
theorem cnt_congr {f g : Int → Int} {i : Int} : ∀ {n : Nat} {a : Int}, (∀ x, a ≤ x → x < a + n → f x = g x) → cnt f i a n = cnt g i a n
  | 0, _, _ => rfl
  | n + 1, a, h => by
    unfold cnt
    rw [h a (Int.le_refl _) (by omega), cnt_congr (fun x h1 h2 => h x (by omega) (by omega))]
theorem cnt_add {f : Int → Int} {i : Int} : ∀ {n m : Nat} {a : Int}, cnt f i a (n + m) = cnt f i a n + cnt f i (a + n) m
  | 0, m, a => by simp [cnt]
  | n + 1, m, a => by
    rw [show n + 1 + m = (n + m) + 1 by omega]
    show (if f a = i then 1 else 0) + cnt f i (a + 1) (n + m) = (if f a = i then 1 else 0) + cnt f i (a + 1) n + cnt f i (a + ((n + 1 : Nat) : Int)) m
    rw [cnt_add, show a + 1 + (n : Int) = a + ((n + 1 : Nat) : Int) by omega]
    omega
theorem cnt_const {s i : Int} : ∀ {n : Nat} {a : Int}, cnt (fun _ => s) i a n = if s = i then n else 0
  | 0, _ => by simp [cnt]
  | n + 1, a => by
    unfold cnt
    rw [cnt_const]
    split <;> omega
theorem cnt_le {f g : Int → Int} {i : Int} : ∀ {n : Nat} {a : Int}, (∀ x, f x = i → g x = i) → cnt f i a n ≤ cnt g i a n
  | 0, _, _ => Nat.le_refl _
  | n + 1, a, h => by
    unfold cnt
    have := cnt_le (n := n) (a := a + 1) h
    by_cases h1 : f a = i
    · rw [if_pos h1, if_pos (h a h1)]; omega
    · rw [if_neg h1]; split <;> omega
/-- The counts of k shards together. -/
def sumS (f : Int → Nat) : Nat → Nat
  | 0 => 0
  | k + 1 => sumS f k + f (k : Int)
theorem sumS_add {f g : Int → Nat} : ∀ k, sumS (fun i => f i + g i) k = sumS f k + sumS g k
  | 0 => rfl
  | k + 1 => by unfold sumS; rw [sumS_add k]; omega
theorem sumS_one {s : Int} : ∀ k, 0 ≤ s → sumS (fun i => if s = i then 1 else 0) k = if s < (k : Int) then 1 else 0
  | 0, h => by unfold sumS; rw [if_neg (by omega)]
  | k + 1, h => by
    unfold sumS
    rw [sumS_one k h]
    by_cases h1 : s < (k : Int)
    · rw [if_pos h1, if_neg (by omega), if_pos (by omega)]
    · rw [if_neg h1]
      by_cases h2 : s = (k : Int)
      · rw [if_pos h2, if_pos (by omega)]
      · rw [if_neg h2, if_neg (by omega)]
theorem cnt_sum {f : Int → Int} {k : Nat} (hf : ∀ x, 0 ≤ f x ∧ f x < (k : Int)) : ∀ (n : Nat) (a : Int), sumS (fun i => cnt f i a n) k = n
  | 0, a => by
    have : ∀ k, sumS (fun i => cnt f i a 0) k = 0 := fun k => by
      induction k with
      | zero => rfl
      | succ k ih => unfold sumS; rw [ih]; rfl
    exact this k
  | n + 1, a => by
    show sumS (fun i => (if f a = i then 1 else 0) + cnt f i (a + 1) n) k = n + 1
    rw [sumS_add, cnt_sum hf n (a + 1), sumS_one k (hf a).1, if_pos (hf a).2]
    omega
/-- The share of a shard: its places. -/
def share (L : List Pt) (i : Int) : Nat := cnt (own L) i 0 65536
theorem share_sum {L : List Pt} (h : Good L) (hne : L ≠ []) : sumS (share L) 20 = 65536 := by
  refine cnt_sum (fun x => ?_) 65536 0
  obtain ⟨p, hp, e⟩ := own_mem hne x
  rw [e]
  have := (h.ok p hp).1
  exact ⟨this.1, by omega⟩
theorem share_gain {L M : List Pt} {s : Int} (h : ∀ x, own M x = own L x ∨ own M x = s) : share L s ≤ share M s ∧ ∀ i, i ≠ s → share M i ≤ share L i := by
  refine ⟨cnt_le (fun x hx => ?_), fun i hi => cnt_le (fun x hx => ?_)⟩
  · rcases h x with e | e
    · rw [e, hx]
    · exact e
  · rcases h x with e | e
    · rw [← e, hx]
    · exact absurd (hx.symm.trans e) hi

/-! ### The shares by stretches -/
/-- What shard i owns behind place q: the stretches up to each point; those behind the last belong to s. -/
def strK (i : Int) : Int → List Pt → Int
  | _, [] => 0
  | q, p :: L => (if p.sh = i then p.at_ - q else 0) + strK i p.at_ L
def lastAt : Int → List Pt → Int
  | q, [] => q
  | _, p :: L => lastAt p.at_ L
theorem lastAt_ge : ∀ {L : List Pt} {q : Int}, Asc L → (∀ p ∈ L, q < p.at_) → q ≤ lastAt q L
  | [], q, _, _ => Int.le_refl _
  | p :: L, q, h, hq => by
    have := lastAt_ge (asc_tail h) (q := p.at_) (asc_head h)
    have h2 := hq p (List.mem_cons_self ..)
    show q ≤ lastAt p.at_ L
    omega
def ownD (s : Int) (L : List Pt) (x : Int) : Int := match L.find? (fun p => decide (x ≤ p.at_)) with
  | some p => p.sh
  | none => s
theorem own_ownD (L : List Pt) (x : Int) : own L x = ownD (gp L 0).sh L x := rfl
theorem stretch {i s e : Int} : ∀ {L : List Pt} {q : Int}, Asc L → (∀ p ∈ L, q < p.at_ ∧ p.at_ ≤ e) → q ≤ e → (cnt (ownD s L) i (q + 1) (e - q).toNat : Int) = strK i q L + (if s = i then e - lastAt q L else 0)
  | [], q, _, _, hqe => by
    have : cnt (ownD s []) i (q + 1) (e - q).toNat = cnt (fun _ => s) i (q + 1) (e - q).toNat := cnt_congr (fun x _ _ => rfl)
    rw [this, cnt_const]
    show _ = 0 + (if s = i then e - q else 0)
    split <;> omega
  | p :: L, q, hA, hr, hqe => by
    obtain ⟨hp1, hp2⟩ := hr p (List.mem_cons_self ..)
    have ih := stretch (i := i) (s := s) (e := e) (L := L) (q := p.at_) (asc_tail hA) (fun y hy => ⟨asc_head hA y hy, (hr y (List.mem_cons_of_mem _ hy)).2⟩) hp2
    have hsplit : (e - q).toNat = (p.at_ - q).toNat + (e - p.at_).toNat := by omega
    rw [hsplit, cnt_add]
    have e1 : cnt (ownD s (p :: L)) i (q + 1) (p.at_ - q).toNat = cnt (fun _ => p.sh) i (q + 1) (p.at_ - q).toNat := cnt_congr (fun x h1 h2 => by
      unfold ownD
      rw [List.find?_cons]
      have : decide (x ≤ p.at_) = true := by simp; omega
      rw [this])
    have e2 : cnt (ownD s (p :: L)) i (q + 1 + ((p.at_ - q).toNat : Int)) (e - p.at_).toNat = cnt (ownD s L) i (p.at_ + 1) (e - p.at_).toNat := by
      rw [show q + 1 + ((p.at_ - q).toNat : Int) = p.at_ + 1 by omega]
      refine cnt_congr (fun x h1 h2 => ?_)
      unfold ownD
      rw [List.find?_cons]
      have : decide (x ≤ p.at_) = false := by simp; omega
      rw [this]
    rw [e1, e2, cnt_const]
    show _ = (if p.sh = i then p.at_ - q else 0) + strK i p.at_ L + (if s = i then e - lastAt p.at_ L else 0)
    rw [Int.natCast_add, ih]
    split <;> omega
/-- The share as the stretches between points. -/
theorem share_str {L : List Pt} {p : Pt} {M : List Pt} (hL : L = p :: M) (h : Good L) (i : Int) :
    (share L i : Int) = (if p.sh = i then p.at_ + 1 + 65535 - lastAt p.at_ M else 0) + strK i p.at_ M := by
  have hs := stretch (i := i) (s := p.sh) (e := 65535) (L := L) (q := -1) h.asc (fun y hy => by have := (h.ok y hy).2; omega) (by omega)
  have e1 : share L i = cnt (ownD p.sh L) i (-1 + 1) ((65535 : Int) - -1).toNat := by
    subst hL; rfl
  rw [e1, hs]
  subst hL
  show (if p.sh = i then p.at_ - -1 else 0) + strK i p.at_ M + (if p.sh = i then 65535 - lastAt p.at_ M else 0) = _
  split <;> omega

/-! ### Points added -/
/-- All points in their order: a point put in its place. -/
def ins (p : Pt) : List Pt → List Pt
  | [] => [p]
  | q :: L => if p.at_ < q.at_ then p :: q :: L else q :: ins p L
theorem ins_mem {p y : Pt} : ∀ {L : List Pt}, y ∈ ins p L ↔ y = p ∨ y ∈ L
  | [] => by simp [ins]
  | q :: L => by
    unfold ins
    split
    · rw [List.mem_cons]
    · rw [List.mem_cons, ins_mem, List.mem_cons]
      constructor
      · rintro (h | h | h)
        · exact .inr (.inl h)
        · exact .inl h
        · exact .inr (.inr h)
      · rintro (h | h | h)
        · exact .inr (.inl h)
        · exact .inl h
        · exact .inr (.inr h)
theorem ins_asc {p : Pt} : ∀ {L : List Pt}, Asc L → (∀ q ∈ L, q.at_ ≠ p.at_) → Asc (ins p L)
  | [], _, _ => by unfold ins Asc; simp
  | q :: L, hA, hn => by
    have hA' := hA
    unfold Asc at hA'
    rw [List.pairwise_cons] at hA'
    unfold ins
    by_cases h : p.at_ < q.at_
    · rw [if_pos h]
      unfold Asc
      rw [List.pairwise_cons]
      refine ⟨fun y hy => ?_, hA⟩
      rcases List.mem_cons.1 hy with rfl | m
      · exact h
      · have := hA'.1 y m; omega
    · rw [if_neg h]
      unfold Asc
      rw [List.pairwise_cons]
      refine ⟨fun y hy => ?_, ins_asc hA'.2 (fun z hz => hn z (List.mem_cons_of_mem _ hz))⟩
      have hne := hn q (List.mem_cons_self ..)
      rcases ins_mem.1 hy with rfl | m
      · omega
      · exact hA'.1 y m
/-- The points of a shard at places, put in. -/
def addP (L : List Pt) (s : Int) (places : List Int) : List Pt := places.foldl (fun L x => ins ⟨x, s⟩ L) L
theorem addP_mem {s : Int} {y : Pt} : ∀ {places : List Int} {L : List Pt}, y ∈ addP L s places ↔ y ∈ L ∨ (y.sh = s ∧ y.at_ ∈ places)
  | [], L => by simp [addP]
  | x :: places, L => by
    show y ∈ addP (ins ⟨x, s⟩ L) s places ↔ _
    rw [addP_mem, ins_mem, List.mem_cons]
    constructor
    · rintro ((rfl | h) | ⟨h1, h2⟩)
      · exact .inr ⟨rfl, .inl rfl⟩
      · exact .inl h
      · exact .inr ⟨h1, .inr h2⟩
    · rintro (h | ⟨h1, h2 | h2⟩)
      · exact .inl (.inr h)
      · exact .inl (.inl (by cases y; simp_all))
      · exact .inr ⟨h1, h2⟩
theorem addP_asc {s : Int} : ∀ {places : List Int} {L : List Pt}, Asc L → places.Nodup → (∀ q ∈ L, q.at_ ∉ places) → Asc (addP L s places)
  | [], L, h, _, _ => h
  | x :: places, L, h, hn, hd => by
    obtain ⟨h1, h2⟩ := List.nodup_cons.1 hn
    refine addP_asc (places := places) (L := ins ⟨x, s⟩ L) (ins_asc h (fun q hq e => hd q hq (by rw [e]; exact List.mem_cons_self ..))) h2 (fun q hq m => ?_)
    rcases ins_mem.1 hq with rfl | hq
    · exact h1 m
    · exact hd q hq (List.mem_cons_of_mem _ m)
theorem ins_len (p : Pt) : ∀ L : List Pt, (ins p L).length = L.length + 1
  | [] => rfl
  | q :: L => by unfold ins; split <;> simp [ins_len p L]
theorem addP_len {s : Int} : ∀ (places : List Int) (L : List Pt), (addP L s places).length = L.length + places.length
  | [], L => rfl
  | x :: places, L => by
    show (addP (ins ⟨x, s⟩ L) s places).length = _
    rw [addP_len places, ins_len]; simp only [List.length_cons]; omega
/-- The old points are those that lie at none of the places. -/
theorem addP_old {L : List Pt} {s : Int} {places : List Int} (hA : Asc L) (hn : places.Nodup) (hd : ∀ q ∈ L, q.at_ ∉ places) :
    (addP L s places).filter (fun p => decide (p.at_ ∉ places)) = L := by
  refine asc_uniq ((addP_asc hA hn hd).sublist List.filter_sublist) hA (fun p => ?_)
  rw [List.mem_filter, addP_mem, decide_eq_true_eq]
  constructor
  · rintro ⟨h | ⟨-, h⟩, h2⟩
    · exact h
    · exact absurd h h2
  · intro h; exact ⟨.inl h, hd p h⟩
theorem own_add {L : List Pt} {s : Int} {places : List Int} (hne : L ≠ []) (hA : Asc L) (hn : places.Nodup) (hd : ∀ q ∈ L, q.at_ ∉ places) (x : Int) :
    own (addP L s places) x = own L x ∨ own (addP L s places) x = s := by
  have ho := addP_old (s := s) hA hn hd
  have := own_fewer (M := addP L s places) (f := fun p => decide (p.at_ ∉ places)) (s := s) (fun p hp hf => by
    simp only [decide_eq_false_iff_not, Decidable.not_not] at hf
    rcases addP_mem.1 hp with h | h
    · exact absurd hf (hd p h)
    · exact h.1) (by rw [ho]; exact hne) x
  rwa [ho] at this
/-- Points removed. -/
def remP (L : List Pt) (s : Int) : List Pt := L.filter (fun p => decide (p.sh ≠ s))
theorem own_rem {L : List Pt} {s : Int} (hne : remP L s ≠ []) (x : Int) : (own L x = own (remP L s) x ∨ own L x = s) ∧ own (remP L s) x ≠ s := by
  refine ⟨own_fewer (fun p _ hf => by simpa using hf) hne x, ?_⟩
  obtain ⟨p, hp, e⟩ := own_mem hne x
  rw [e]
  have := (List.mem_filter.1 hp).2
  simpa using this
theorem rem_add {L : List Pt} {s : Int} {places : List Int} (hA : Asc L) (hn : places.Nodup) (hd : ∀ q ∈ L, q.at_ ∉ places) (hs : ∀ q ∈ L, q.sh ≠ s) : remP (addP L s places) s = L := by
  refine asc_uniq ((addP_asc hA hn hd).sublist List.filter_sublist) hA (fun p => ?_)
  unfold remP
  rw [List.mem_filter, addP_mem, decide_eq_true_eq]
  constructor
  · rintro ⟨h | ⟨h, -⟩, h2⟩
    · exact h
    · exact absurd h h2
  · intro h; exact ⟨.inl h, hs p h⟩

end Go.Proofs.Ytjmhemkbfephpaa.Rng
