/-
  Package shard: Owners.
-/
import Derived.Test.YtgecmgldamdpgaaShStable
import Derived.Test.YtgecmgldamdpgaaRowInts
namespace Go.Proofs.Ytgecmgldamdpgaa.Shd
open Go.RowKit
open Two (RowI RE run_make_ints)
set_option linter.unusedVariables false
set_option maxRecDepth 100000

abbrev zs (L : List Nat) : List Int := L.map (fun (x : Nat) => (x : Int))
/-- The first k places, then nothing. -/
def rowZ (n k : Nat) : List Int := (List.range n).map (fun i => if i < k then (i : Int) else 0)
theorem rowZ_len (n k : Nat) : (rowZ n k).length = n := by simp [rowZ]
theorem rowZ_zero (n : Nat) : rowZ n 0 = List.replicate n 0 := by
  unfold rowZ
  apply List.ext_getElem
  · simp
  · intro i h1 h2; simp
theorem rowZ_set {n k : Nat} (hk : k < n) : (rowZ n k).set k (k : Int) = rowZ n (k + 1) := by
  unfold rowZ
  apply List.ext_getElem
  · simp
  · intro i h1 h2
    rw [List.getElem_set]
    by_cases e : k = i
    · subst e; simp
    · rw [if_neg e]
      simp only [List.getElem_map, List.getElem_range]
      by_cases h : i < k
      · rw [if_pos h, if_pos (by omega)]
      · rw [if_neg h, if_neg (by omega)]
theorem rowZ_get {n i : Nat} (hi : i < n) : gi (rowZ n n) i = (i : Int) := by
  rw [gi_get (by rw [rowZ_len]; exact hi)]
  simp [rowZ, hi]
/-- The row of the places is where the sort begins. -/
theorem st_begin {w : World} {m g : Nat} (h : RowI w g (rowZ (m + 1) (m + 1))) : St w m g (ids m) w := by
  refine ⟨ids_size, fun j hj => ?_, World.grownBy.refl _ _⟩
  rw [ids_size] at hj
  refine ⟨?_, h.frozen _⟩
  rw [Nat.zero_add, h.cell (by rw [rowZ_len]; exact hj), rowZ_get hj]
  show _ = some (Value.int .i64 ((((ids m)[j]!).val : Nat) : Int))
  rw [ids_get hj]
theorem st_end {w W : World} {m g : Nat} {f : Nat → Nat} (hg : g < w.heap.size) (hm : m < 20) (h : St w m g (srtd f m) W) : Ints W (some ⟨g, 0, none⟩) (m + 1) (zs (ord f m)) := by
  refine ⟨by simp [ord_len], by unfold maxLen; omega, fun e => (by cases e), fun _ => ⟨g, 0, rfl, Nat.lt_of_lt_of_le hg h.grown.size, fun i hi => ?_⟩⟩
  rw [List.length_map, ord_len] at hi
  rw [(h.holds i (by rw [srtd_size]; exact hi)).1, gi_get (by simp [ord_len]; exact hi)]
  show some (Value.int .i64 ((((srtd f m)[i]!).val : Nat) : Int)) = _
  rw [getElem!_pos _ i (by rw [srtd_size]; exact hi)]
  simp [ord]
theorem bel_grown {w u v : World} {B g : Nat} (h : Below B w u) (k : u.grownBy v (some g)) (hg : B ≤ g) (hB : B ≤ u.heap.size) : Below B w v :=
  h.grown k hB (fun i hi => by cases hi; exact hg)

theorem owners_bad (A : Option Addr) (c : Nat) (L : List Sh) (s : ByteArray) (many : Int) (w : World) (h : Arg w A c L s) (he : err L s ≠ 0) :
    Calls Try.prog 8 #[.slice A L.length c, .string s, .int .i64 many] w (RE [] (err L s) w) := by
  have HS := Lib.hid (scores_bad A c L s w h he)
  have hb1 := bd_ne he
  generalize err L s = q at *
  clear he h
  go_enter Try.func8, Try.ntmps8
  go_wp2_with (go_at_call 20; with_reducible refine HS.out.mono ?_; rintro e w5 ⟨rfl, hb5⟩; have HB5 := Lib.hid hb5; clear hb5)
  go_ret2
  exact ⟨none, 0, rfl, Ints.none_ _, bel_al HB5.out HB5.out.size _⟩

theorem owners_off (A : Option Addr) (c : Nat) (L : List Sh) (s : ByteArray) (many : Int) (w : World) (h : Arg w A c L s) (he : err L s = 0) (hm : ¬ (1 ≤ many ∧ many ≤ (L.length : Int))) :
    Calls Try.prog 8 #[.slice A L.length c, .string s, .int .i64 many] w (RE [] 3 w) := by
  have HS := Lib.hid (scores_ok A c L s w h he)
  generalize L.length = n at *
  clear he h
  by_cases h1 : many < 1
  · have p1 : decide (many < 1) = true := by simpa using h1
    clear h1 hm
    go_enter Try.func8, Try.ntmps8
    go_wp2_with (go_at_call 20; with_reducible refine HS.out.mono ?_; rintro e w5 ⟨⟨g, rfl, -⟩, hb5⟩; have HB5 := Lib.hid hb5; clear hb5)
    go_ret2
    exact ⟨none, 0, rfl, Ints.none_ _, bel_al HB5.out HB5.out.size _⟩
  · have p1 : decide (many < 1) = false := by simpa using h1
    have p2 : decide ((n : Int) < many) = true := by simp; omega
    clear h1 hm
    go_enter Try.func8, Try.ntmps8
    go_wp2_with (go_at_call 20; with_reducible refine HS.out.mono ?_; rintro e w5 ⟨⟨g, rfl, -⟩, hb5⟩; have HB5 := Lib.hid hb5; clear hb5)
    go_ret2
    exact ⟨none, 0, rfl, Ints.none_ _, bel_al HB5.out HB5.out.size _⟩

set_option maxHeartbeats 4000000 in
theorem owners_ok (A : Option Addr) (c : Nat) (L : List Sh) (s : ByteArray) (k : Nat) (w : World) (h : Arg w A c L s) (he : err L s = 0) (h1 : 1 ≤ k) (h2 : k ≤ L.length) :
    Calls Try.prog 8 #[.slice A L.length c, .string s, .int .i64 (k : Int)] w (RE (zs ((ord (sc L s) (L.length - 1)).take k)) 0 w) := by
  have HS := Lib.hid (scores_ok A c L s w h he)
  have hlen := (err_zero.1 he).1.few
  generalize sc L s = f at *
  obtain ⟨m, hm⟩ : ∃ m, L.length = m + 1 := ⟨L.length - 1, by omega⟩
  rw [hm] at HS h2 hlen ⊢
  rw [Nat.add_sub_cancel]
  have hm20 : m < 20 := by omega
  have HM := Lib.hid hm20
  clear he h hlen hm
  -- the sort, wherever the row lies
  have HO : Hid (∀ (g p gs : Nat) (W : World), Cm W m g p gs f → RowI W g (rowZ (m + 1) (m + 1)) → Calls Try.prog 23 #[.slice (some ⟨g, 0, none⟩) (m + 1) (m + 1), .func (.func 24) #[] #[.pointer (some ⟨p, 0, none⟩)]] W fun e w' => e = .returned (.tuple #[]) ∧ W.grownBy w' (some g) ∧ Ints w' (some ⟨g, 0, none⟩) (m + 1) (zs (ord f m))) := Lib.hid (fun g p gs W hc hr => by
    refine (sortStable_any hc (st_begin hr) hm20).mono ?_
    rintro e w' ⟨rfl, hS⟩
    exact ⟨rfl, hS.grown, st_end hr.lt hm20 hS⟩)
  have HCm : Hid (∀ (g p gs : Nat) (W : World), W.cell? ⟨p, 0, none⟩ = some (.slice (some ⟨gs, 0, none⟩) (m + 1) (m + 1)) → Scs W gs (m + 1) f → p ≠ g → gs ≠ g → Cm W m g p gs f) := Lib.hid (fun g p gs W a b d e => ⟨a, b, d, e⟩)
  have HL : Hid ((zs (ord f m)).length = m + 1) := Lib.hid (by simp [ord_len])
  have HT : Hid (zs ((ord f m).take k) = (zs (ord f m)).take k) := Lib.hid (by simp [zs, List.map_take])
  rw [HT.out]
  generalize zs (ord f m) = OL at *
  obtain ⟨n, hn⟩ : ∃ n, m + 1 = n := ⟨_, rfl⟩
  rw [hn] at HS HO HCm HL h2 ⊢
  have hn20 : n ≤ 20 := by omega
  have hn1 : 1 ≤ n := by omega
  have p1 : decide ((k : Int) < 1) = false := by simp; omega
  have p1' : decide (k < 1) = false := by simp; omega
  have p2 : decide ((n : Int) < (k : Int)) = false := by simp; omega
  have p2' : decide (n < k) = false := by simp; omega
  have HMK := fun (W : World) => run_make_ints n (by omega) W
  have H1 := Lib.hid h1
  have H2 := Lib.hid h2
  clear hn h1 h2
  go_enter Try.func8, Try.ntmps8
  go_wp2_with (go_at_call 20; with_reducible refine HS.out.mono ?_; rintro e w5 ⟨⟨gs, rfl, hsc⟩, hb5⟩; have HB5 := Lib.hid hb5; have HSC := Lib.hid hsc; clear hb5 hsc)
  -- the box of the scores, the row of the places
  have hBx : Below w5.heap.size w5 (w5.alloc (.cells #[.slice (some ⟨gs, 0, none⟩) n n] 47)) := bel_al (Below.refl _ _) (Nat.le_refl _) _
  have HX : Hid ((w5.alloc (.cells #[.slice (some ⟨gs, 0, none⟩) n n] 47)).cell? ⟨w5.heap.size, 0, none⟩ = some (.slice (some ⟨gs, 0, none⟩) n n)) := Lib.hid (by simp [go_sem])
  have HSC1 := Lib.hid (HSC.out.below hBx)
  have HB6 := Lib.hid (HB5.out.trans (hBx.mono HB5.out.size))
  have HP : Hid (w5.heap.size < (w5.alloc (.cells #[.slice (some ⟨gs, 0, none⟩) n n] 47)).heap.size) := Lib.hid (by simp)
  have HSZ : Hid ((w5.alloc (.cells #[.slice (some ⟨gs, 0, none⟩) n n] 47)).heap.size = w5.heap.size + 1) := Lib.hid (by simp)
  clear hBx
  rw [← HSZ.out]
  generalize w5.alloc (.cells #[.slice (some ⟨gs, 0, none⟩) n n] 47) = w6 at *
  obtain ⟨p, hp⟩ : ∃ p, p = w5.heap.size := ⟨_, rfl⟩
  rw [← hp] at HX HP ⊢
  clear hp HSZ
  have HR0 : Hid (RowI (w6.alloc (.cells (Array.replicate n (Value.int .i64 0)) 3)) w6.heap.size (rowZ n 0)) := Lib.hid (by rw [rowZ_zero]; exact RowI.new w6 n)
  have HBn : Hid (Below w6.heap.size w6 (w6.alloc (.cells (Array.replicate n (Value.int .i64 0)) 3))) := Lib.hid (bel_al (Below.refl _ _) (Nat.le_refl _) _)
  obtain ⟨g, hg⟩ : ∃ g, g = w6.heap.size := ⟨_, rfl⟩
  rw [← hg] at HR0 HBn HP ⊢
  have HG : Hid (g = w6.heap.size) := Lib.hid hg
  clear hg HMK
  generalize w6.alloc (.cells (Array.replicate n (Value.int .i64 0)) 3) = w7 at *
  go_loopw [34] (fun i wr => ∃ q : Nat, q ≤ n ∧ i = .int .i64 (q : Int) ∧ Hid (RowI wr g (rowZ n q)) ∧ Hid (Below g w6 wr)) (fun i _ => n - (intOf i).toNat)
  case atStart => exact ⟨0, by omega, rfl, HR0, HBn⟩
  case round =>
    obtain ⟨q, hq, rfl, HR, HB⟩ := hrel
    by_cases hlt : q < n
    · have hin : (q : Int) < (n : Int) := by omega
      have hiB : (0 : Int) ≤ (q : Int) := by omega
      have c0 := HR.out.cell (j := q) (by rw [rowZ_len]; exact hlt)
      have f0 := HR.out.frozen q
      have hr2 := HR.out.set q (q : Int)
      rw [rowZ_set hlt] at hr2
      have HR2 := Lib.hid hr2
      have HB2 := Lib.hid (bel_set HB.out (a := ⟨g, q, none⟩) (Nat.le_refl _) (.int .i64 (q : Int)))
      clear hr2
      go_wp2
      go_roundw
      case rel => exact ⟨q + 1, by omega, by go_num, HR2, HB2⟩
      case measure => simp [intOf]; omega
    · obtain rfl : q = n := by omega
      have hB6 : Below w6.heap.size w6 wr := by have := HB.out; rwa [HG.out] at this
      have hgs : gs ≠ g := by have := HSC1.out.1; have := HG.out; omega
      have hpg : p ≠ g := by have := HP.out; omega
      have hcm := HCm.out g p gs wr ((hB6.cell (p := ⟨p, 0, none⟩) (by rw [← HG.out]; exact HP.out)).trans HX.out) (HSC1.out.below hB6) hpg hgs
      have HI := Lib.hid (HO.out g p gs wr hcm HR.out)
      have HBr : Hid (Below w.heap.size w wr) := Lib.hid (HB6.out.trans (hB6.mono HB6.out.size))
      have HGw : Hid (w.heap.size ≤ g) := Lib.hid (by rw [HG.out]; exact HB6.out.size)
      clear hB6 hgs hpg hcm HO HCm
      go_wp2_with fail
      refine HI.out.mono ?_
      rintro e w8 ⟨rfl, hg8, hI8⟩
      obtain ⟨A', hsl, hI9, _⟩ := Lru.slice_upto (k := k) hI8 (by rw [HL.out]; exact H2.out)
      have HTL : Hid ((OL.take k).length = k) := Lib.hid (by rw [List.length_take, HL.out]; have := H2.out; omega)
      rw [HL.out, HTL.out] at hsl
      have HI9 := Lib.hid hI9
      have HB8 := Lib.hid (bel_grown HBr.out hg8 HGw.out HBr.out.size)
      clear hg8 hI8 hI9
      go_wp2
      go_ret2
      exact ⟨A', q, by rw [HTL.out]; rfl, HI9.out, HB8.out⟩

end Go.Proofs.Ytgecmgldamdpgaa.Shd
