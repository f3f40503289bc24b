/-
  Package ring: its errors and results, as its loops reckon them.
-/
import Derived.Test.YtjmhemkbfephpaaRingMore
namespace Go.Proofs.Ytjmhemkbfephpaa.Rng
set_option linter.unusedVariables false

def isS (n : Int) : Prop := 0 ≤ n ∧ n ≤ 19
def isP (n : Int) : Prop := 0 ≤ n ∧ n ≤ 65535
instance (n : Int) : Decidable (isS n) := by unfold isS; infer_instance
instance (n : Int) : Decidable (isP n) := by unfold isP; infer_instance
theorem okP_iff {p : Pt} : okP p ↔ isS p.sh ∧ isP p.at_ := Iff.rfl
theorem befAt_zero (L : List Pt) : befAt L 0 = -1 := rfl
theorem befAt_succ (L : List Pt) (k : Nat) : befAt L (k + 1) = (gp L k).at_ := rfl
theorem gp_drop {L : List Pt} {k : Nat} (h : k < L.length) : L.drop k = gp L k :: L.drop (k + 1) := by
  rw [gp_get h]; exact List.drop_eq_getElem_cons h
theorem pte_step {q : Int} {L : List Pt} {k : Nat} (h : k < L.length) :
    ptE q (L.drop k) = if okP (gp L k) then (if (gp L k).at_ ≤ q then 4 else ptE (befAt L (k + 1)) (L.drop (k + 1))) else 3 := by
  rw [gp_drop h]; rfl
theorem pte_sh {q : Int} {L : List Pt} {k : Nat} (h : k < L.length) (hs : ¬ isS (gp L k).sh) : ptE q (L.drop k) = 3 := by
  rw [pte_step h, if_neg (fun hh => hs hh.1)]
theorem pte_at {q : Int} {L : List Pt} {k : Nat} (h : k < L.length) (hs : ¬ isP (gp L k).at_) : ptE q (L.drop k) = 3 := by
  rw [pte_step h, if_neg (fun hh => hs hh.2)]
theorem pte_le {q : Int} {L : List Pt} {k : Nat} (h : k < L.length) (hs : isS (gp L k).sh) (hp : isP (gp L k).at_) (hq : (gp L k).at_ ≤ q) : ptE q (L.drop k) = 4 := by
  rw [pte_step h, if_pos ⟨hs, hp⟩, if_pos hq]
theorem pte_go {q : Int} {L : List Pt} {k : Nat} (h : k < L.length) (hs : isS (gp L k).sh) (hp : isP (gp L k).at_) (hq : ¬ (gp L k).at_ ≤ q) : ptE q (L.drop k) = ptE (befAt L (k + 1)) (L.drop (k + 1)) := by
  rw [pte_step h, if_pos ⟨hs, hp⟩, if_neg hq]
theorem pte_end (q : Int) (L : List Pt) : ptE q (L.drop L.length) = 0 := by rw [List.drop_length]; rfl

/-! ### Errors are small -/
def Bd (e : Int) : Prop := 0 ≤ e ∧ e ≤ 8
theorem pte_bd : ∀ (L : List Pt) (q : Int), Bd (ptE q L)
  | [], q => by unfold ptE Bd; omega
  | p :: L, q => by
    unfold ptE
    split
    · split
      · unfold Bd; omega
      · exact pte_bd L _
    · unfold Bd; omega
theorem check_bd (L : List Pt) : Bd (checkR L) := by
  unfold checkR
  split
  · unfold Bd; omega
  · exact pte_bd _ _

/-! ### Owner -/
def owE (L : List Pt) (x : Int) : Int := if checkR L ≠ 0 then checkR L else if ¬ isP x then 3 else if L.length = 0 then 5 else 0
def owR (L : List Pt) (x : Int) : Int := if owE L x = 0 then own L x else 0
theorem owE_check {L : List Pt} {x : Int} (h : checkR L ≠ 0) : owE L x = checkR L := if_pos h
theorem owE_range {L : List Pt} {x : Int} (h : checkR L = 0) (h2 : ¬ isP x) : owE L x = 3 := by unfold owE; rw [if_neg (fun hh => hh h), if_pos h2]
theorem owE_none {L : List Pt} {x : Int} (h : checkR L = 0) (h2 : isP x) (h3 : L.length = 0) : owE L x = 5 := by unfold owE; rw [if_neg (fun hh => hh h), if_neg (fun hh => hh h2), if_pos h3]
theorem owE_ok {L : List Pt} {x : Int} (h : checkR L = 0) (h2 : isP x) (h3 : ¬ L.length = 0) : owE L x = 0 := by unfold owE; rw [if_neg (fun hh => hh h), if_neg (fun hh => hh h2), if_neg h3]
theorem owR_bad {L : List Pt} {x : Int} (h : owE L x ≠ 0) : owR L x = 0 := if_neg h
theorem owR_ok {L : List Pt} {x : Int} (h : owE L x = 0) : owR L x = own L x := if_pos h
/-- The owner, sought from point k on. -/
def ownF (L : List Pt) (x : Int) (k : Nat) : Int := ownD (gp L 0).sh (L.drop k) x
theorem ownF_zero (L : List Pt) (x : Int) : own L x = ownF L x 0 := by rw [own_ownD]; rfl
theorem ownF_hit {L : List Pt} {x : Int} {k : Nat} (h : k < L.length) (hx : x ≤ (gp L k).at_) : ownF L x k = (gp L k).sh := by
  unfold ownF ownD; rw [gp_drop h, List.find?_cons_of_pos (by simpa using hx)]
theorem ownF_go {L : List Pt} {x : Int} {k : Nat} (h : k < L.length) (hx : ¬ x ≤ (gp L k).at_) : ownF L x k = ownF L x (k + 1) := by
  unfold ownF ownD; rw [gp_drop h, List.find?_cons_of_neg (by simpa using hx)]
theorem ownF_end (L : List Pt) (x : Int) : ownF L x L.length = (gp L 0).sh := by
  unfold ownF ownD; rw [List.drop_length]; rfl

/-! ### Shares -/
def shE (L : List Pt) (n : Int) : Int := if checkR L ≠ 0 then checkR L else if n < 1 ∨ 20 < n then 3 else if L.length = 0 then 5 else 0
def shL (L : List Pt) (n : Int) : List Int := if shE L n = 0 then (List.range n.toNat).map (fun (i : Nat) => (share L (i : Int) : Int)) else []
theorem shE_check {L : List Pt} {n : Int} (h : checkR L ≠ 0) : shE L n = checkR L := if_pos h
theorem shE_range {L : List Pt} {n : Int} (h : checkR L = 0) (h2 : n < 1 ∨ 20 < n) : shE L n = 3 := by unfold shE; rw [if_neg (fun hh => hh h), if_pos h2]
theorem shE_none {L : List Pt} {n : Int} (h : checkR L = 0) (h2 : ¬ (n < 1 ∨ 20 < n)) (h3 : L.length = 0) : shE L n = 5 := by unfold shE; rw [if_neg (fun hh => hh h), if_neg h2, if_pos h3]
theorem shE_ok {L : List Pt} {n : Int} (h : checkR L = 0) (h2 : ¬ (n < 1 ∨ 20 < n)) (h3 : ¬ L.length = 0) : shE L n = 0 := by unfold shE; rw [if_neg (fun hh => hh h), if_neg h2, if_neg h3]
theorem shL_bad {L : List Pt} {n : Int} (h : shE L n ≠ 0) : shL L n = [] := if_neg h
/-- The place that lies before point k, the last point standing a round earlier. -/
def preAt (L : List Pt) (k : Nat) : Int := if k = 0 then (gp L (L.length - 1)).at_ - 65536 else (gp L (k - 1)).at_
theorem preAt_zero (L : List Pt) : preAt L 0 = (gp L (L.length - 1)).at_ - 65536 := rfl
theorem preAt_succ (L : List Pt) (k : Nat) : preAt L (k + 1) = (gp L k).at_ := rfl
/-- What shard i owns up to the first k points. -/
def strS (L : List Pt) (i : Int) : Nat → Int
  | 0 => 0
  | k + 1 => strS L i k + (if (gp L k).sh = i then (gp L k).at_ - preAt L k else 0)
theorem strS_strK {L : List Pt} {i : Int} : ∀ k, k ≤ L.length → strK i (preAt L 0) L = strS L i k + strK i (preAt L k) (L.drop k)
  | 0, _ => by simp [strS]
  | k + 1, h => by
    rw [strS_strK k (by omega), gp_drop (L := L) (k := k) (by omega)]
    show _ + ((if (gp L k).sh = i then (gp L k).at_ - preAt L k else 0) + strK i (gp L k).at_ (L.drop (k + 1))) = strS L i k + (if (gp L k).sh = i then (gp L k).at_ - preAt L k else 0) + strK i (preAt L (k + 1)) (L.drop (k + 1))
    rw [preAt_succ]
    omega
theorem lastAt_gp : ∀ {M : List Pt} {p : Pt}, lastAt p.at_ M = (gp (p :: M) M.length).at_
  | [], p => rfl
  | q :: M, p => by
    show lastAt q.at_ M = (gp (p :: q :: M) (M.length + 1)).at_
    rw [lastAt_gp]; rfl
theorem share_strS {L : List Pt} (h : Good L) (hne : L.length ≠ 0) (i : Int) : (share L i : Int) = strS L i L.length := by
  cases L with
  | nil => exact absurd rfl hne
  | cons p M =>
    have h1 := share_str rfl h i
    have h2 := strS_strK (L := p :: M) (i := i) (p :: M).length (Nat.le_refl _)
    rw [List.drop_length] at h2
    have h3 : strK i (preAt (p :: M) 0) (p :: M) = (if p.sh = i then p.at_ - preAt (p :: M) 0 else 0) + strK i p.at_ M := rfl
    have h4 : strK i (preAt (p :: M) (p :: M).length) [] = 0 := rfl
    rw [h4] at h2
    rw [h3, preAt_zero] at h2
    have h5 : (gp (p :: M) ((p :: M).length - 1)).at_ = lastAt p.at_ M := lastAt_gp.symm
    rw [h5] at h2
    rw [h1]
    split at h2 <;> rename_i hc
    · rw [if_pos hc]; omega
    · rw [if_neg hc]; omega
/-- The shares as they stand after k points. -/
def stR (L : List Pt) (n k : Nat) : List Int := (List.range n).map (fun (i : Nat) => strS L (i : Int) k)
theorem stR_len (L : List Pt) (n k : Nat) : (stR L n k).length = n := by simp [stR]
theorem stR_zero (L : List Pt) (n : Nat) : stR L n 0 = List.replicate n 0 := by
  refine List.ext_getElem (by simp [stR]) (fun i h1 h2 => ?_)
  simp [stR, strS]
theorem stR_out {L : List Pt} {n k : Nat} (h : ¬ (gp L k).sh < (n : Int)) : stR L n (k + 1) = stR L n k := by
  unfold stR
  refine List.map_congr_left (fun i hi => ?_)
  have := List.mem_range.1 hi
  show strS L i k + _ = _
  rw [if_neg (by omega), Int.add_zero]
theorem stR_in {L : List Pt} {n k j : Nat} (hj : (gp L k).sh = (j : Int)) (h : j < n) : stR L n (k + 1) = (stR L n k).set j (strS L (j : Int) k + ((gp L k).at_ - preAt L k)) := by
  refine List.ext_getElem (by simp [stR]) (fun i h1 h2 => ?_)
  rw [List.getElem_set]
  have hi : i < n := by simpa [stR] using h1
  simp only [stR, List.getElem_map, List.getElem_range]
  show strS L i k + _ = _
  rw [hj]
  by_cases e : j = i
  · subst e; rw [if_pos rfl, if_pos rfl]
  · rw [if_neg (by omega), if_neg e, Int.add_zero]
theorem stR_get {L : List Pt} {n k j : Nat} (h : j < n) : (stR L n k).getD j 0 = strS L (j : Int) k := by
  rw [List.getD_eq_getElem?_getD, List.getElem?_eq_getElem (by simpa [stR] using h)]; simp [stR]
theorem shL_ok {L : List Pt} {n : Int} (hG : Good L) (hne : L.length ≠ 0) (h : shE L n = 0) : shL L n = stR L n.toNat L.length := by
  unfold shL stR
  rw [if_pos h]
  exact List.map_congr_left (fun i _ => share_strS hG hne i)
theorem preAt_bd {L : List Pt} (hG : Good L) {k : Nat} (hk : k ≤ L.length) (h0 : 0 < L.length) : -65536 ≤ preAt L k ∧ preAt L k ≤ 65535 := by
  unfold preAt
  split
  · have := (hG.ok _ (gp_mem (L := L) (i := L.length - 1) (by omega))).2; omega
  · have := (hG.ok _ (gp_mem (L := L) (i := k - 1) (by omega))).2; omega
theorem strS_bd {L : List Pt} (hG : Good L) (i : Int) : ∀ k, k ≤ L.length → -(131072 * (k : Int)) ≤ strS L i k ∧ strS L i k ≤ 131072 * (k : Int)
  | 0, _ => by simp [strS]
  | k + 1, h => by
    have h1 := strS_bd hG i k (by omega)
    have h2 := preAt_bd hG (k := k) (by omega) (by omega)
    have h3 := (hG.ok _ (gp_mem (L := L) (i := k) (by omega))).2
    unfold strS
    split <;> omega

/-! ### Add -/
/-- A place has a point or occurs twice. -/
def Free (L : List Pt) (P : List Int) : Prop := P.Nodup ∧ ∀ q ∈ L, q.at_ ∉ P
instance (L : List Pt) (P : List Int) : Decidable (Free L P) := by unfold Free; infer_instance
def allP (P : List Int) : Bool := P.all (fun x => decide (isP x))
def adE (L : List Pt) (s : Int) (P : List Int) : Int := if checkR L ≠ 0 then checkR L else if ¬ isS s then 3 else if allP P = false then 3 else if ¬ Free L P then 6 else if 60 < L.length + P.length then 2 else 0
def adL (L : List Pt) (s : Int) (P : List Int) : List Pt := if adE L s P = 0 then addP L s P else []
section
variable {L : List Pt} {s : Int} {P : List Int}
theorem adE_check (h : checkR L ≠ 0) : adE L s P = checkR L := if_pos h
theorem adE_sh (h : checkR L = 0) (h2 : ¬ isS s) : adE L s P = 3 := by unfold adE; rw [if_neg (fun hh => hh h), if_pos h2]
theorem adE_pl (h : checkR L = 0) (h2 : isS s) (h3 : allP P = false) : adE L s P = 3 := by unfold adE; rw [if_neg (fun hh => hh h), if_neg (fun hh => hh h2), if_pos h3]
theorem adE_twice (h : checkR L = 0) (h2 : isS s) (h3 : allP P = true) (h4 : ¬ Free L P) : adE L s P = 6 := by unfold adE; rw [if_neg (fun hh => hh h), if_neg (fun hh => hh h2), if_neg (by rw [h3]; decide), if_pos h4]
theorem adE_many (h : checkR L = 0) (h2 : isS s) (h3 : allP P = true) (h4 : Free L P) (h5 : 60 < L.length + P.length) : adE L s P = 2 := by unfold adE; rw [if_neg (fun hh => hh h), if_neg (fun hh => hh h2), if_neg (by rw [h3]; decide), if_neg (fun hh => hh h4), if_pos h5]
theorem adE_ok (h : checkR L = 0) (h2 : isS s) (h3 : allP P = true) (h4 : Free L P) (h5 : ¬ 60 < L.length + P.length) : adE L s P = 0 := by unfold adE; rw [if_neg (fun hh => hh h), if_neg (fun hh => hh h2), if_neg (by rw [h3]; decide), if_neg (fun hh => hh h4), if_neg h5]
theorem adE_zero (h : adE L s P = 0) : Good L ∧ isS s ∧ allP P = true ∧ Free L P ∧ L.length + P.length ≤ 60 := by
  by_cases h1 : checkR L = 0
  · by_cases h2 : isS s
    · cases h3 : allP P with
      | false => rw [adE_pl h1 h2 h3] at h; cases h
      | true =>
        by_cases h4 : Free L P
        · by_cases h5 : 60 < L.length + P.length
          · rw [adE_many h1 h2 h3 h4 h5] at h; cases h
          · exact ⟨check_zero.1 h1, h2, rfl, h4, by omega⟩
        · rw [adE_twice h1 h2 h3 h4] at h; cases h
    · rw [adE_sh h1 h2] at h; cases h
  · rw [adE_check h1] at h; exact absurd h h1
theorem adL_bad (h : adE L s P ≠ 0) : adL L s P = [] := if_neg h
theorem adL_ok (h : adE L s P = 0) : adL L s P = addP L s P := if_pos h
theorem allP_mem (h : allP P = true) {x : Int} (hx : x ∈ P) : isP x := by
  unfold allP at h; rw [List.all_eq_true] at h; simpa using h x hx
/-- What Add gives is again right. -/
theorem add_good (h : adE L s P = 0) : Good (addP L s P) := by
  obtain ⟨h1, h2, h3, h4, h5⟩ := adE_zero h
  refine ⟨by rw [addP_len]; omega, fun p hp => ?_, addP_asc h1.asc h4.1 h4.2⟩
  rcases addP_mem.1 hp with hh | ⟨e1, e2⟩
  · exact h1.ok p hh
  · exact ⟨by rw [e1]; exact h2, allP_mem h3 e2⟩
/-- The points before they are sorted. -/
def rawA (L : List Pt) (s : Int) (P : List Int) : List Pt := L ++ P.map (fun x => ⟨x, s⟩)
theorem rawA_len : (rawA L s P).length = L.length + P.length := by simp [rawA]
theorem rawA_succ {k : Nat} (h : k < P.length) : rawA L s (P.take (k + 1)) = rawA L s (P.take k) ++ [⟨P.getD k 0, s⟩] := by
  unfold rawA
  rw [List.take_add_one, List.getElem?_eq_getElem h, List.getD_eq_getElem?_getD, List.getElem?_eq_getElem h, List.map_append, ← List.append_assoc]
  rfl
theorem rawA_mem {y : Pt} : y ∈ rawA L s P ↔ y ∈ L ∨ (y.sh = s ∧ y.at_ ∈ P) := by
  unfold rawA
  rw [List.mem_append, List.mem_map]
  constructor
  · rintro (h | ⟨x, hx, rfl⟩)
    · exact .inl h
    · exact .inr ⟨rfl, hx⟩
  · rintro (h | ⟨rfl, h⟩)
    · exact .inl h
    · exact .inr ⟨_, h, rfl⟩
theorem rawA_nodup (hA : Asc L) (hF : Free L P) : ((rawA L s P).map (·.at_)).Nodup := by
  unfold rawA
  rw [List.map_append, List.map_map, List.nodup_append]
  have e : (P.map ((·.at_) ∘ fun x => (⟨x, s⟩ : Pt))) = P := by
    rw [show ((·.at_) ∘ fun x => (⟨x, s⟩ : Pt)) = id from rfl, List.map_id]
  rw [e]
  refine ⟨?_, hF.1, fun a ha b hb e => ?_⟩
  · unfold Asc at hA
    unfold List.Nodup
    rw [List.pairwise_map]
    exact hA.imp (fun h => by omega)
  · obtain ⟨q, hq, rfl⟩ := List.mem_map.1 ha
    subst e
    exact hF.2 q hq hb
/-- Points with different places, sorted by them, are in their order. -/
theorem sorted_add {M : List Pt} (hp : M.Perm (rawA L s P)) (hs : M.Pairwise (fun a b => ¬ b.at_ < a.at_)) (hA : Asc L) (hF : Free L P) : M = addP L s P := by
  have hn : (M.map (·.at_)).Nodup := (hp.map _).nodup_iff.2 (rawA_nodup hA hF)
  refine asc_uniq ?_ (addP_asc hA hF.1 hF.2) (fun y => by rw [hp.mem_iff, rawA_mem, addP_mem])
  unfold Asc
  unfold List.Nodup at hn
  rw [List.pairwise_map] at hn
  exact (hs.and hn).imp (fun ⟨h1, h2⟩ => by omega)
end

/-! ### Remove -/
def reE (L : List Pt) (s : Int) : Int := if checkR L ≠ 0 then checkR L else if (remP L s).length = L.length then 5 else 0
def reL (L : List Pt) (s : Int) : List Pt := if reE L s = 0 then remP L s else []
section
variable {L : List Pt} {s : Int}
theorem reE_check (h : checkR L ≠ 0) : reE L s = checkR L := if_pos h
theorem reE_none (h : checkR L = 0) (h2 : (remP L s).length = L.length) : reE L s = 5 := by unfold reE; rw [if_neg (fun hh => hh h), if_pos h2]
theorem reE_ok (h : checkR L = 0) (h2 : ¬ (remP L s).length = L.length) : reE L s = 0 := by unfold reE; rw [if_neg (fun hh => hh h), if_neg h2]
theorem reL_bad (h : reE L s ≠ 0) : reL L s = [] := if_neg h
theorem reL_ok (h : reE L s = 0) : reL L s = remP L s := if_pos h
theorem reE_zero (h : reE L s = 0) : Good L ∧ ¬ (remP L s).length = L.length := by
  by_cases h1 : checkR L = 0
  · by_cases h2 : (remP L s).length = L.length
    · rw [reE_none h1 h2] at h; cases h
    · exact ⟨check_zero.1 h1, h2⟩
  · rw [reE_check h1] at h; exact absurd h h1
theorem reE_five (h : reE L s = 5) : (Good L ∧ remP L s = L) ∨ checkR L = 5 := by
  by_cases h1 : checkR L = 0
  · by_cases h2 : (remP L s).length = L.length
    · exact .inl ⟨check_zero.1 h1, List.filter_sublist.eq_of_length h2⟩
    · rw [reE_ok h1 h2] at h; cases h
  · rw [reE_check h1] at h; exact .inr h
theorem rem_good (h : Good L) : Good (remP L s) := ⟨Nat.le_trans (List.length_filter_le _ _) h.few, fun p hp => h.ok p (List.mem_filter.1 hp).1, h.asc.sublist List.filter_sublist⟩
theorem rem_succ {k : Nat} (h : k < L.length) : remP (L.take (k + 1)) s = if (gp L k).sh = s then remP (L.take k) s else remP (L.take k) s ++ [gp L k] := by
  unfold remP
  rw [List.take_add_one, List.getElem?_eq_getElem h, List.filter_append, gp_get h]
  by_cases e : L[k].sh = s
  · rw [if_pos e]; simp [e]
  · rw [if_neg e]; simp [e]
theorem rem_len (k : Nat) : (remP (L.take k) s).length ≤ L.length := Nat.le_trans (List.length_filter_le _ _) (List.length_take_le' _ _)
end

end Go.Proofs.Ytjmhemkbfephpaa.Rng
