/-
  Package ring: slices.SortFunc of points by their places, on a row of the call's own.
-/
import Derived.Test.YtjmhemkbfephpaaRgAppend
import Derived.Test.YtjmhemkbfephpaaShelfS
import Derived.Shelf.SlSortCmp.WholeK
import Derived.Shelf.SlSortCmp.NoneTotal
import Derived.Shelf.SlicesG.Cmp
namespace Go.Proofs.Ytjmhemkbfephpaa.Rng
open Go.Shelf Go.RowKit Go.Lib Go.Sort
set_option linter.unusedVariables false
set_option maxRecDepth 100000

def cfP (x y : Pt) : Int := Lib.compareInt x.at_ y.at_
theorem ltP_eq (x y : Pt) : ltOf cfP x y = decide (x.at_ < y.at_) := by
  unfold ltOf cfP Lib.compareInt
  by_cases h1 : x.at_ < y.at_
  · simp [h1]
  · by_cases h2 : y.at_ < x.at_ <;> simp [h1, h2]
theorem swoP : SWO (ltOf cfP) where
  irrefl x := by rw [ltP_eq]; simp
  trans x y z h1 h2 := by rw [ltP_eq] at *; simp at *; omega
  ntrans x y z h1 h2 := by rw [ltP_eq] at *; simp at *; omega

set_option maxHeartbeats 1000000 in
theorem byAt_any (x y : Pt) (W : World) : Calls Try.prog 31 #[.agg #[.int .i64 x.at_, .int .i64 x.sh], .agg #[.int .i64 y.at_, .int .i64 y.sh]] W fun e w' => e = .returned (.int .i64 (cfP x y)) ∧ ∃ q os', w' = Sort.grow (W.drewN q) os' := by
  have hcon := fun W' => AnyG.cmp_Compare_int Try.cmpInt x.at_ y.at_ W'
  change ∀ W', Calls Try.prog 32 _ _ _ at hcon
  unfold cfP
  generalize Lib.compareInt x.at_ y.at_ = r at hcon ⊢
  obtain ⟨xa, xs⟩ := x
  obtain ⟨ya, ys⟩ := y
  dsimp only at hcon ⊢
  go_enter Try.func31, Try.ntmps31
  go_wp2_with (go_at_call 32; refine (hcon _).mono ?_; rintro e w' ⟨rfl, rfl⟩)
  go_ret
  exact ⟨rfl, 0, _, by rw [alloc_eq_grow, alloc_eq_grow, Sort.grow_grow]; rfl⟩

/-! ### The row's cells, flat -/
theorem flat_eq (F : List Pt) : flatK encP 2 F.toArray = (encPs F).toArray := by
  refine Sort.ext_get! (by simp [encPs_len]) (fun t ht => ?_)
  have ht' : t < F.length * 2 := by simpa using ht
  rw [get_flatK _ _ _ t (by simpa using ht')]
  have hi : t / 2 < F.length := by omega
  have e0 : F.toArray[t / 2]! = gp F (t / 2) := by rw [gp_get hi, getElem!_pos _ _ (by simpa using hi)]; simp
  obtain ⟨g1, g2⟩ := encPs_get F (t / 2) hi
  rw [e0]
  rcases (by omega : t % 2 = 0 ∨ t % 2 = 1) with e | e
  · rw [e, show t = t / 2 * 2 by omega]
    rw [show (t / 2 * 2) / 2 = t / 2 by omega]
    simp [encP, g1]
  · rw [e, show t = t / 2 * 2 + 1 by omega]
    rw [show (t / 2 * 2 + 1) / 2 = t / 2 by omega]
    simp [encP, g2]
theorem holds_of_block {w : World} {g : Nat} {cur : Array Value} {e : TypeId} {vs : List Value} (hb : w.heap[g]? = some (.cells cur e (0, 0))) (ht : cur.toList.take vs.length = vs) : Holds id w g 0 vs.toArray := by
  intro j hj
  have hj' : j < vs.length := by simpa using hj
  refine ⟨?_, by simp [World.frozen?, hb]⟩
  have h1 : (cur.toList.take vs.length)[j]? = vs[j]? := by rw [ht]
  rw [List.getElem?_take_of_lt hj'] at h1
  simp only [World.cell?, hb, Nat.zero_add]
  simp only [Option.isSome_none, Bool.false_eq_true, if_false]
  rw [← Array.getElem?_toList, h1]
  simp [hj']
theorem heap_put {w : World} {g n : Nat} {os : Array Obj} {cur : Array Value} {e : TypeId} {fr : Nat × Nat} (d : Array Value) (hb : w.heap[g]? = some (.cells cur e fr)) :
    (Sort.grow (putRow id (Sort.ahead w n) g 0 d) os).heap[g]? = some (.cells (putCells id 0 d cur) e fr) := by
  have hg : g < w.heap.size := (Array.getElem?_eq_some_iff.1 hb).1
  rw [heap_grow_old _ _ (by simpa [putRow, mapBlock, Sort.ahead] using hg)]
  simp [putRow, mapBlock, Sort.ahead, Array.getElem?_modify, hb, onCells]
theorem grown_put {w : World} {g n : Nat} {os : Array Obj} (d : Array Value) : w.grownBy (Sort.grow (putRow id (Sort.ahead w n) g 0 d) os) (some g) := by
  refine ⟨rfl, rfl, rfl, by simp [Sort.grow, putRow, mapBlock, Sort.ahead], fun k hk hne => ?_⟩
  rw [heap_grow_old _ _ (by simpa [putRow, mapBlock, Sort.ahead] using hk)]
  have : g ≠ k := fun e => hne (by rw [e])
  simp [putRow, mapBlock, Sort.ahead, Array.getElem?_modify, this]
theorem take_put (cur : Array Value) (vs : List Value) (h : vs.length ≤ cur.size) : (putCells id 0 vs.toArray cur).toList.take vs.length = vs := by
  apply List.ext_getElem?
  intro j
  by_cases hj : j < vs.length
  · rw [List.getElem?_take_of_lt hj, Array.getElem?_toList]
    simp [putCells, hj, show j < cur.size by omega]
  · rw [List.getElem?_take_eq_none (by omega), List.getElem?_eq_none (by omega)]

theorem sort_any (base : Nat) (v : Value) (F : List Pt) (w : World) (hown : OwnP w base v F) (hB : base ≤ w.heap.size) (hl : F.length ≤ 1048576) :
    Calls Try.prog 30 #[v, .func (.func 31) #[] #[]] w fun e w' =>
      e = .returned (.tuple #[]) ∧ ∃ M : List Pt, OwnP w' base v M ∧ M.length = F.length ∧ M.Perm F ∧ M.Pairwise (fun a b => ¬ b.at_ < a.at_) ∧ Below base w w' := by
  rcases hown.2 with ⟨rfl, h0⟩ | ⟨g, cap, cur, rfl, hbase, hg, hn, hm, hs, ht⟩
  · have e0 : F = [] := List.length_eq_zero_iff.1 h0
    subst e0
    have k := AnyF.slices_SortFunc_none Try.sortP none 0 (.func (.func 31) #[] #[]) w
    exact Calls.mono k (fun e w' ⟨h1, h2⟩ => ⟨h1, [], by rw [h2]; exact hown, rfl, List.Perm.nil, List.Pairwise.nil, by rw [h2]; exact Below.refl _ _⟩)
  · have hgl : g < w.heap.size := (Array.getElem?_eq_some_iff.1 hg).1
    have hH : HoldsK encP 2 w g 0 F.toArray := by
      unfold HoldsK
      rw [flat_eq]
      exact holds_of_block hg (by rw [encPs_len]; exact ht)
    have eg : ∀ args w, (callFunc 31 args).run Try.prog w = .ok (.enter 31 args) w := enters_of Try.func31 (by kernel_rfl) rfl
    have hc : CmpLays Try.prog 31 #[] encP 2 cfP g 0 F.toArray.size w := fun _ _ _ _ x y => byAt_any x y _
    have hcon := AnyQ.slices_SortFunc Try.sortP 2 Try.isAgg35 Try.sizeOf35 encP (fun _ => rfl) (fun x v hv => by simp [encP] at hv; rcases hv with rfl | rfl <;> rfl) cfP swoP 31 #[] g 0 cap F.toArray w eg hc hH hgl (by simp; omega)
    change Calls Try.prog 30 _ _ _ at hcon
    refine hcon.mono ?_
    rintro e w' ⟨rfl, d', n, os, hp, hsd, rfl⟩
    obtain ⟨hsz, -, hpm⟩ := hp
    have hsz' : d'.size = F.length := by simpa using hsz
    have e1 : d'.extract 0 F.toArray.size = d' := by
      have h := Array.extract_size (xs := d')
      rwa [hsz] at h
    have e2 : F.toArray.extract 0 F.toArray.size = F.toArray := Array.extract_size
    rw [e1, e2] at hpm
    have hlen : d'.toList.length = F.length := by rw [Array.length_toList, hsz']
    have hflat : flatK encP 2 d' = (encPs d'.toList).toArray := by
      have := flat_eq d'.toList
      rwa [Array.toArray_toList] at this
    refine ⟨rfl, d'.toList, ?_, hlen, by simpa using hpm, ?_, ?_⟩
    · refine ⟨by rw [encPs_len], .inr ⟨g, cap, putCells id 0 (encPs d'.toList).toArray cur, by rw [hlen], hbase, ?_, by rw [hlen]; exact hn, hm, by simp [putCells, hs], ?_⟩⟩
      · show (Sort.grow (putRow id (Sort.ahead w n) g 0 (flatK encP 2 d')) os).heap[g]? = _
        rw [hflat]
        exact heap_put _ hg
      · have := take_put cur (encPs d'.toList) (by rw [encPs_len, hlen, hs]; exact Nat.mul_le_mul_right 2 hn)
        rwa [encPs_len] at this
    · rw [List.pairwise_iff_getElem]
      intro i j hi hj hij
      have hj' : j < d'.size := by rwa [Array.length_toList] at hj
      have hi' : i < d'.size := by omega
      have := hsd i j (Nat.zero_le _) hij (by rw [← hsz]; exact hj')
      rw [ltP_eq, getElem!_pos d' j hj', getElem!_pos d' i hi'] at this
      simpa using this
    · exact (Below.refl base w).grown (grown_put (g := g) (n := n) (os := os) (flatK encP 2 d')) hB (fun k hk => by cases hk; exact hbase)

end Go.Proofs.Ytjmhemkbfephpaa.Rng
