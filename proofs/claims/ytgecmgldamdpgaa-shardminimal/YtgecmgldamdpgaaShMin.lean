/-
  One shard less: who owns a key then.
-/
import Derived.Test.YtgecmgldamdpgaaShWeightLaw
namespace Go.Proofs.Ytgecmgldamdpgaa.Shd
open Go.RowKit
set_option linter.unusedVariables false

def less (L : List Sh) (a : Nat) : List Sh := L.take a ++ L.drop (a + 1)
theorem less_len {L : List Sh} {a : Nat} (h : a < L.length) : (less L a).length = L.length - 1 := by
  unfold less; rw [List.length_append, List.length_take, List.length_drop]; omega
theorem less_get {L : List Sh} {a k : Nat} (h : a < L.length) (hk : k < L.length - 1) : gs (less L a) k = gs L (back a k) := by
  unfold less gs back
  by_cases h1 : k < a
  · rw [if_pos h1, List.getD_eq_getElem?_getD, List.getElem?_append_left (by rw [List.length_take]; omega), List.getElem?_take, if_pos h1, ← List.getD_eq_getElem?_getD]
  · rw [if_neg h1, List.getD_eq_getElem?_getD, List.getElem?_append_right (by rw [List.length_take]; omega), List.getElem?_drop, List.length_take, ← List.getD_eq_getElem?_getD]
    congr 1
    omega
theorem less_nms {L : List Sh} {a : Nat} (h : a < L.length) (hN : Nms L) : Nms (less L a) := by
  intro i hi
  rw [less_len h] at hi
  rw [less_get h hi]
  exact hN _ (by unfold back; split <;> omega)
/-- The second owner. -/
def sec (L : List Sh) (s : ByteArray) : Nat := (ord (sc L s) (L.length - 1)).getD 1 0
theorem sec_best {L : List Sh} {s : ByteArray} (h : 2 ≤ L.length) : IsBest (sc L s) (fun x => x ≠ own L s) L.length (sec L s) := by
  have k := ord_chain (m := L.length - 1) (sc L s) 1 (by rw [ord_len]; omega)
  rw [show L.length - 1 + 1 = L.length by omega] at k
  have e : ∀ x, x ∉ (ord (sc L s) (L.length - 1)).take 1 ↔ x ≠ own L s := by
    intro x
    have hl : 0 < (ord (sc L s) (L.length - 1)).length := by rw [ord_len]; omega
    unfold own
    cases hO : ord (sc L s) (L.length - 1) with
    | nil => rw [hO] at hl; simp at hl
    | cons y ys => simp
  exact ⟨k.1, (e _).1 k.2.1, fun j hj hk => k.2.2 j hj ((e j).2 hk)⟩
theorem ord_two {L : List Sh} {s : ByteArray} (h : 2 ≤ L.length) : zs ((ord (sc L s) (L.length - 1)).take 2) = [((own L s : Nat) : Int), ((sec L s : Nat) : Int)] := by
  have hl : 2 ≤ (ord (sc L s) (L.length - 1)).length := by rw [ord_len]; omega
  unfold own sec
  cases hO : ord (sc L s) (L.length - 1) with
  | nil => rw [hO] at hl; simp at hl
  | cons y ys =>
    cases ys with
    | nil => rw [hO] at hl; simp at hl
    | cons z zz => simp [zs]
/-- Who owns the key when shard a is not there. -/
def nxt (L : List Sh) (s : ByteArray) (a : Nat) : Nat := if own L s = a then sec L s else own L s
theorem less_owner {L : List Sh} {s : ByteArray} {a : Nat} (ha : a < L.length) (h2 : 2 ≤ L.length) :
    own (less L a) s < L.length - 1 ∧ gs (less L a) (own (less L a) s) = gs L (nxt L s a) ∧ nxt L s a < L.length ∧ nxt L s a ≠ a := by
  obtain ⟨n, hn⟩ : ∃ n, L.length = n + 1 := ⟨L.length - 1, by omega⟩
  have b1 := own_best (L := L) (s := s) (by omega)
  have b2 := sec_best (s := s) h2
  have b3 : IsBest (sc L s) (fun x => x ≠ a) L.length (nxt L s a) := best_but (a := a) b1 b2
  rw [hn] at b3
  have b4 := best_less (by omega) b3
  have hl : (less L a).length = n := by rw [less_len ha, hn]; omega
  have b5 := own_best (L := less L a) (s := s) (by omega)
  rw [hl] at b5
  have b6 : IsBest (sc (less L a) s) (fun _ => True) n (shift a (nxt L s a)) := by
    refine ⟨b4.1, trivial, fun j hj _ => ?_⟩
    have e : ∀ k, k < n → sc (less L a) s k = sc L s (back a k) := fun k hk => by unfold sc; rw [less_get ha (by omega)]
    rw [e j hj, e _ b4.1]
    exact b4.2.2 j hj trivial
  have e := best_uniq b5 b6
  refine ⟨by have := b5.1; omega, ?_, by rw [hn]; exact b3.1, b3.2.1⟩
  rw [e, less_get ha (by have := b4.1; omega), back_shift b3.2.1]
theorem mv_less {L : List Sh} {s : ByteArray} {a : Nat} (hO : Ok L) (ha : a < L.length) (h2 : 2 ≤ L.length) : mv L (less L a) s = decide (own L s = a) ∧ mv (less L a) L s = decide (own L s = a) := by
  obtain ⟨_, h1, h3, h4⟩ := less_owner (s := s) ha h2
  have hi := own_lt (L := L) (s := s) (by omega)
  unfold mv
  rw [h1]
  by_cases e : own L s = a
  · have hne : (gs L (own L s)).name ≠ (gs L (nxt L s a)).name := fun h => by
      have := hO.once _ _ hi h3 h
      omega
    rw [str_ne hne, str_ne (fun h => hne h.symm), decide_eq_true e]
    exact ⟨rfl, rfl⟩
  · have e2 : nxt L s a = own L s := by unfold nxt; rw [if_neg e]
    rw [e2, str_eq rfl, decide_eq_false e]
    exact ⟨rfl, rfl⟩
theorem mem_movL {L M : List Sh} {K : List ByteArray} {i : Nat} (h : movE L M K = 0) (hi : i < K.length) : decide ((i : Int) ∈ movL L M K) = mv L M (ky K i) := by
  unfold movL
  rw [if_pos h]
  have : (i : Int) ∈ zs (movN L M K K.length) ↔ mv L M (ky K i) = true := by
    unfold zs movN
    rw [List.mem_map]
    constructor
    · rintro ⟨j, hj, e⟩
      obtain rfl : j = i := by omega
      exact (List.mem_filter.1 hj).2
    · intro hm
      exact ⟨i, List.mem_filter.2 ⟨List.mem_range.2 hi, hm⟩, rfl⟩
  cases hm : mv L M (ky K i) with
  | true => rw [decide_eq_true_iff, this, hm]
  | false => rw [decide_eq_false_iff_not, this, hm]; decide
theorem movE_key {L M : List Sh} {K : List ByteArray} {i : Nat} (h : movE L M K = 0) (hi : i < K.length) : err L (ky K i) = 0 ∧ err M (ky K i) = 0 := by
  unfold movE at h
  split at h
  · omega
  · have := scan_zero.1 h i (by omega) (by omega)
    unfold keyE at this
    by_cases h1 : err L (ky K i) = 0
    · rw [if_neg (fun e => e h1)] at this; exact ⟨h1, this⟩
    · rw [if_pos h1] at this; exact absurd this h1
theorem movL_len (L M : List Sh) (K : List ByteArray) : (movL L M K).length ≤ K.length := by
  unfold movL
  split
  · exact movN_len _ _ _ _
  · simp
theorem movL_bad {L M : List Sh} {K : List ByteArray} (h : movE L M K ≠ 0) : movL L M K = [] := by unfold movL; rw [if_neg h]

theorem owners_two (A : Option Addr) (c : Nat) (L : List Sh) (s : ByteArray) (w : World) (h : ShA w A c L) (hs : s.size ≤ maxLen) (he : err L s = 0) (h2 : 2 ≤ L.length) :
    Calls Try.prog 8 #[.slice A L.length c, .string s, .int .i64 2] w fun e w' => ∃ b o cc, e = .returned (.tuple #[.slice (some ⟨b, o, none⟩) 2 cc, .int .i64 0]) ∧ w'.cell? ⟨b, o, none⟩ = some (.int .i64 ((own L s : Nat) : Int)) ∧ w'.cell? ⟨b, o + 1, none⟩ = some (.int .i64 ((sec L s : Nat) : Int)) ∧ b < w'.heap.size ∧ Below w.heap.size w w' := by
  have k := owners_ok A c L s 2 w ⟨h.sh, h.nm, hs⟩ he (by omega) h2
  rw [ord_two h2] at k
  refine k.mono ?_
  rintro e w' ⟨A', c', rfl, hI, hb⟩
  obtain ⟨b, o, rfl, hlt, hc⟩ := hI.2.2.2 (by simp)
  exact ⟨b, o, c', rfl, hc 0 (by simp), hc 1 (by simp), hlt, hb⟩

end Go.Proofs.Ytgecmgldamdpgaa.Shd
