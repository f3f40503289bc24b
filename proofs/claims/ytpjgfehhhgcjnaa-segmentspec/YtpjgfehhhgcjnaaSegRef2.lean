/-
  The reference of package segment: HallsCheck, HallsTouch.
-/
import Derived.Test.YtpjgfehhhgcjnaaSegRef
namespace Go.Proofs.Ytpjgfehhhgcjnaa.Seg
open Go.RowKit Go.Maps
open Lru (isRm isK keysE keysE_zero traceE trace_zero touch take_one)
set_option linter.unusedVariables false
set_option maxRecDepth 100000

theorem own_empty (w : World) : OwnI (w.alloc (.cells #[] 3)).drew w.heap.size (.slice (some ⟨w.heap.size, 0, none⟩) 0 0) [] := own_bel (own_made w _ (Nat.le_refl _)) (Below.refl _ _).drew
theorem bel_empty (w : World) : Below w.heap.size w (w.alloc (.cells #[] 3)).drew := (bel_al (Below.refl _ _) (Nat.le_refl _) _).drew

set_option maxHeartbeats 8000000 in
theorem hallsCheck_any (f s : Int) (A B : Option Addr) (c d : Nat) (N O : List Int) (w : World) (hN : Ints w A c N) (hO : Ints w B d O) :
    Calls Try.prog 10 #[kv f s (.slice A N.length c) (.slice B O.length d)] w fun e w' => e = .returned (.int .i64 (checkS f s N O)) ∧ Below w.heap.size w w' := by
  have HK := Lib.hid (Kb.new w f s (.slice A N.length c) (.slice B O.length d))
  have HB : Hid (Below w.heap.size w (w.alloc (ko f s (.slice A N.length c) (.slice B O.length d)))) := Lib.hid (bel_al (Below.refl _ _) (Nat.le_refl _) _)
  have HN := Lib.hid (hN.alloc (ko f s (.slice A N.length c) (.slice B O.length d)))
  have HO := Lib.hid (hO.alloc (ko f s (.slice A N.length c) (.slice B O.length d)))
  have hlenN := hN.len
  have hlenO := hO.len
  clear hN hO
  obtain ⟨x1, x2, x3, x4⟩ := HK.out.cells
  by_cases h1 : isRm f
  · have HB1 := Lib.hid (fun (W : World) => Kr.betweenR f true W (by simpa using h1))
    by_cases h2 : isRm s
    · have HB2 := Lib.hid (fun (W : World) => Kr.betweenR s true W (by simpa using h2))
      by_cases h3 : f < (N.length : Int)
      · have HE : Hid (checkS f s N O = 2) := Lib.hid (by unfold checkS; rw [if_pos ⟨h1, h2⟩, if_pos (.inl h3)])
        have p3 : decide (f < (N.length : Int)) = true := by simpa using h3
        clear h1 h2 h3
        go_enter Try.func10, Try.ntmps10
        go_wp2_with fail
        refine (HB1.out _).mono ?_
        rintro e w' ⟨rfl, rfl⟩
        go_wp2_with fail
        refine (HB2.out _).mono ?_
        rintro e w' ⟨rfl, rfl⟩
        go_wp2
        go_ret
        exact ⟨ret_int HE.out.symm, HB.out⟩
      · have p3 : decide (f < (N.length : Int)) = false := by simpa using h3
        by_cases h4 : s < (O.length : Int)
        · have HE : Hid (checkS f s N O = 2) := Lib.hid (by unfold checkS; rw [if_pos ⟨h1, h2⟩, if_pos (.inr h4)])
          have p4 : decide (s < (O.length : Int)) = true := by simpa using h4
          clear h1 h2 h3 h4
          go_enter Try.func10, Try.ntmps10
          go_wp2_with fail
          refine (HB1.out _).mono ?_
          rintro e w' ⟨rfl, rfl⟩
          go_wp2_with fail
          refine (HB2.out _).mono ?_
          rintro e w' ⟨rfl, rfl⟩
          go_wp2
          go_ret
          exact ⟨ret_int HE.out.symm, HB.out⟩
        · have p4 : decide (s < (O.length : Int)) = false := by simpa using h4
          have HE : Hid (checkS f s N O = keysE [] (([] ++ N) ++ O)) := Lib.hid (by unfold checkS; rw [if_pos ⟨h1, h2⟩, if_neg (by omega)]; rfl)
          have HLn : Hid (N.length ≤ 40) := Lib.hid (by have := h1.2; omega)
          have HLo : Hid (O.length ≤ 40) := Lib.hid (by have := h2.2; omega)
          obtain ⟨n, hn⟩ : ∃ n, N.length = n := ⟨_, rfl⟩
          obtain ⟨m, hm⟩ : ∃ m, O.length = m := ⟨_, rfl⟩
          obtain ⟨q, hq⟩ : ∃ q, (([] ++ N) ++ O).length = q := ⟨_, rfl⟩
          have HME := Lib.hid hq
          have Hn := Lib.hid hn
          have Hm := Lib.hid hm
          have HKO := Lib.hid (fun (D : Option Addr) (dd : Nat) (W : World) (h : Ints W D dd (([] ++ N) ++ O)) => Kr.keysOnce_any D dd (([] ++ N) ++ O) W h)
          rw [hq] at HKO
          simp only [hn, hm] at HK HB HN HO HLn HLo p3 p4 hlenN hlenO x1 x2 x3 x4 ⊢
          have HL1 : Hid (([] : List Int).length + n ≤ 17592186044416) := Lib.hid (by have := HLn.out; simp; omega)
          have HL2 : Hid (([] ++ N : List Int).length + m ≤ 17592186044416) := Lib.hid (by have := HLn.out; have := HLo.out; simp; omega)
          clear h1 h2 h3 h4 hn hm hq
          go_enter Try.func10, Try.ntmps10
          go_wp2_with fail
          refine (HB1.out _).mono ?_
          rintro e w' ⟨rfl, rfl⟩
          go_wp2_with fail
          refine (HB2.out _).mono ?_
          rintro e w' ⟨rfl, rfl⟩
          generalize w.alloc (ko f s (.slice A n c) (.slice B m d)) = w1 at *
          have HK5 : Hid (∀ w' : World, Below w1.heap.size w1 w' → w'.cell? ⟨w.heap.size, 2, none⟩ = some (.slice A n c) ∧ w'.cell? ⟨w.heap.size, 3, none⟩ = some (.slice B m d)) := Lib.hid (fun w' hb => by
            obtain ⟨-, -, a, b⟩ := (HK.out.below hb).cells
            exact ⟨a, b⟩)
          have HJ5 : Hid (∀ w' : World, Below w1.heap.size w1 w' → Ints w' A c N ∧ Ints w' B d O) := Lib.hid (fun w' hb => ⟨HN.out.below hb, HO.out.below hb⟩)
          have HOA := Lib.hid (own_empty w1)
          have HBA := Lib.hid (bel_empty w1)
          go_wp2
          go_region_held3 (fun w' => w'.cell? ⟨w.heap.size, 2, none⟩ = some (.slice A n c) ∧ w'.cell? ⟨w.heap.size, 3, none⟩ = some (.slice B m d))
            (first | exact HK5.out _ hBd | exact HK5.out _ hBb | exact HK5.out _ hBa | exact HK5.out _ HBA.out | exact HK5.out _ (Below.refl _ _).drew)
            (first
              | ((with_reducible refine at_world (w1.alloc (.cells #[] 3)).drew ?_); refine step_append_ints (by rfl) _ _ (by rfl) w1.heap.size _ [] (by rfl) HOA.out A c n N Hn.out.symm (by rfl) (HJ5.out _ HBA.out).1 HL1.out HBA.out.size ?_; intro va wa hown6 hg6; have hBa := HBA.out.grown hg6 HBA.out.size (fun q hq => (HOA.out.lt q hq).1))
              | ((with_reducible refine at_world wa ?_); refine step_append_ints (by rfl) _ _ (by rfl) w1.heap.size _ ([] ++ N) (by rfl) hown6 B d m O Hm.out.symm (by rfl) (HJ5.out _ hBa).2 HL2.out hBa.size ?_; intro vb wb hown7 hg7; have hBb := hBa.grown hg7 hBa.size (fun q hq => (hown6.lt q hq).1); obtain ⟨Bb, kb, rfl, hIb⟩ := ints_of_own hown7; rw [HME.out])
              | (go_at_call 25; (with_reducible refine (HKO.out Bb kb wb hIb).mono ?_); rintro e wd ⟨rfl, hbd⟩; have hBd := hBb.trans (hbd.mono hBb.size)))
          rename_i hHH
          have HBz : Hid (Below w.heap.size w wd) := Lib.hid (HB.out.trans (hBd.mono HB.out.size))
          clear hHH hBa hBb hBd hbd
          go_wp2
          go_ret
          exact ⟨ret_int HE.out.symm, HBz.out⟩
    · have HE : Hid (checkS f s N O = 3) := Lib.hid (by unfold checkS; rw [if_neg (fun h => h2 h.2)])
      have HB2 := Lib.hid (fun (W : World) => Kr.betweenR s false W (by simpa using h2))
      clear h1 h2
      go_enter Try.func10, Try.ntmps10
      go_wp2_with fail
      refine (HB1.out _).mono ?_
      rintro e w' ⟨rfl, rfl⟩
      go_wp2_with fail
      refine (HB2.out _).mono ?_
      rintro e w' ⟨rfl, rfl⟩
      go_wp2
      go_ret
      exact ⟨ret_int HE.out.symm, HB.out⟩
  · have HB1 := Lib.hid (fun (W : World) => Kr.betweenR f false W (by simpa using h1))
    have HE : Hid (checkS f s N O = 3) := Lib.hid (by unfold checkS; rw [if_neg (fun h => h1 h.1)])
    clear h1
    go_enter Try.func10, Try.ntmps10
    go_wp2_with fail
    refine (HB1.out _).mono ?_
    rintro e w' ⟨rfl, rfl⟩
    go_wp2
    go_ret
    exact ⟨ret_int HE.out.symm, HB.out⟩

/-! ### HallsTouch -/
theorem hasI2 (A : Option Addr) (c n : Nat) (L : List Int) (x : Int) (b : Bool) (w : World) (hn : L.length = n) (ha : Ints w A c L) (hb : decide (x ∈ L) = b) :
    Calls Try.prog 18 #[.slice A n c, .int .i64 x] w fun e w' => e = .returned (.bool b) ∧ w' = w := by
  subst hb hn
  exact (hasInt_any A c L x w ha).mono (fun e w' ⟨h1, h2⟩ => ⟨h1, h2.symm⟩)
/-- butKey without a key in front. -/
theorem butNo (A : Option Addr) (c n : Nat) (L : List Int) (x r : Int) (w : World) (hn : L.length = n) (hI : Ints w A c L) (g : Lru.Good r L) :
    Calls Try.prog 26 #[.slice A n c, .int .i64 x, .int .i64 (-1), .int .i64 r] w fun e w' => ∃ A' c' n' B' d' m', e = .returned (.tuple #[.slice A' n' c', .slice B' m' d']) ∧ OwnI w' w.heap.size (.slice A' n' c') (L.erase x) ∧ Below w.heap.size w w' := by
  have hl : n ≤ 40 := by rw [← hn]; have := g.few; have := g.room.2; omega
  have := butKey_any A c n L x (-1) r [] w hn hI g.room.1 g.room.2 hl (by simp)
  rw [List.nil_append, ← List.Nodup.erase_eq_filter g.once, List.take_of_length_le (by have := List.length_erase_le (a := x) (l := L); have := g.few; omega)] at this
  exact this.mono (by rintro e w' ⟨A', c', n', B', d', m', he, h1, -, h2⟩; exact ⟨A', c', n', B', d', m', he, h1, h2⟩)
/-- butKey with the key in front. -/
theorem butYes (A : Option Addr) (c n : Nat) (L : List Int) (x r : Int) (w : World) (hn : L.length = n) (hI : Ints w A c L) (g : Lru.Good r L) (hx : isK x) :
    Calls Try.prog 26 #[.slice A n c, .int .i64 x, .int .i64 x, .int .i64 r] w fun e w' => ∃ A' c' n' B' d' m', e = .returned (.tuple #[.slice A' n' c', .slice B' m' d']) ∧ OwnI w' w.heap.size (.slice A' n' c') (touch r L x) ∧ OwnI w' w.heap.size (.slice B' m' d') (gl r L x) ∧ Below w.heap.size w w' := by
  have hl : n ≤ 40 := by rw [← hn]; have := g.few; have := g.room.2; omega
  have := butKey_any A c n L x x r [x] w hn hI g.room.1 g.room.2 hl (by rw [if_pos hx.1])
  rw [← List.Nodup.erase_eq_filter g.once, show [x] ++ L.erase x = x :: L.erase x from rfl, ← touch_cut g.room.1, ← gl_cut g] at this
  exact this

/-- What HallsTouch gives. -/
def TR (f s : Int) (t : St) (x : Int) (w : World) (e : Ending) (w' : World) : Prop :=
  ∃ A c n B d m E k j, e = .returned (.tuple #[kv f s (.slice A n c) (.slice B m d), .bool (decide (isHit t x)), .slice E j k]) ∧ OwnI w' w.heap.size (.slice A n c) (tch f s t x).1 ∧ OwnI w' w.heap.size (.slice B m d) (tch f s t x).2 ∧ OwnI w' w.heap.size (.slice E j k) (lost f s t x) ∧ Below w.heap.size w w'
/-- The three boxes of HallsTouch. -/
theorem box3 (w : World) (f s : Int) (v u : Value) : Kb (((w.alloc (ko f s v u)).alloc zk).alloc (ko f s (.slice none 0 0) (.slice none 0 0))) w.heap.size f s v u ∧ Kb (((w.alloc (ko f s v u)).alloc zk).alloc (ko f s (.slice none 0 0) (.slice none 0 0))) (w.heap.size + 1) 0 0 (.slice none 0 0) (.slice none 0 0) ∧
    Kb (((w.alloc (ko f s v u)).alloc zk).alloc (ko f s (.slice none 0 0) (.slice none 0 0))) (w.heap.size + 1 + 1) f s (.slice none 0 0) (.slice none 0 0) ∧ Below w.heap.size w (((w.alloc (ko f s v u)).alloc zk).alloc (ko f s (.slice none 0 0) (.slice none 0 0))) := by
  obtain ⟨h1, h2, h3⟩ := box2 w f s v u
  refine ⟨h1.alloc _, h2.alloc _, ?_, bel_al h3 h3.size _⟩
  have := Kb.new ((w.alloc (ko f s v u)).alloc zk) f s (.slice none 0 0) (.slice none 0 0)
  rwa [show ((w.alloc (ko f s v u)).alloc zk).heap.size = w.heap.size + 1 + 1 by simp] at this

set_option maxHeartbeats 8000000 in
theorem touchRef_any (f s : Int) (A B : Option Addr) (c d n m : Nat) (N O : List Int) (x : Int) (w : World) (hn : N.length = n) (hm : O.length = m) (hN : Ints w A c N) (hO : Ints w B d O) (hG : Good f s N O) (hx : isK x) :
    Calls Try.prog 11 #[kv f s (.slice A n c) (.slice B m d), .int .i64 x] w (TR f s (N, O) x w) := by
  obtain ⟨hk0, hz0, hv0, hb0⟩ := box3 w f s (.slice A n c) (.slice B m d)
  have HK0 := Lib.hid hk0
  have HZ0 := Lib.hid hz0
  have HV0 := Lib.hid hv0
  have HB0 := Lib.hid hb0
  have HN := Lib.hid hN
  have HO := Lib.hid hO
  have HG := Lib.hid hG
  have HX := Lib.hid hx
  have Hn := Lib.hid hn
  have Hm := Lib.hid hm
  clear hk0 hz0 hv0 hb0 hN hO hG hx hn hm
  obtain ⟨x1, x2, x3, x4⟩ := HK0.out.cells
  by_cases hh : isHit (N, O) x
  · have HE : Hid ((tch f s (N, O) x).1 = N.erase x ∧ (tch f s (N, O) x).2 = touch s O x ∧ lost f s (N, O) x = gl s O x ∧ decide (isHit (N, O) x) = true) := Lib.hid (by
      refine ⟨?_, ?_, by unfold lost; rw [if_pos hh], decide_eq_true hh⟩
      · unfold tch
        by_cases h1 : x ∈ N
        · rw [if_pos h1]
        · rw [if_neg h1, if_pos (hh.resolve_left h1), List.erase_of_not_mem h1]
      · unfold tch
        by_cases h1 : x ∈ N
        · rw [if_pos h1]
        · rw [if_neg h1, if_pos (hh.resolve_left h1)])
    by_cases h1 : x ∈ N
    case' pos =>
      have HH := Lib.hid (hasI2 A c n N x true _ Hn.out (HN.out.below HB0.out) (decide_eq_true h1))
      clear h1 hh
      go_enter Try.func11, Try.ntmps11
      go_wp2_with fail
      refine HH.out.mono ?_
      rintro e w' ⟨rfl, rfl⟩
    case' neg =>
      have HH := Lib.hid (hasI2 A c n N x false _ Hn.out (HN.out.below HB0.out) (decide_eq_false h1))
      have HH2 := Lib.hid (hasI2 B d m O x true _ Hm.out (HO.out.below HB0.out) (decide_eq_true (hh.resolve_left h1)))
      clear h1 hh
      go_enter Try.func11, Try.ntmps11
      go_wp2_with fail
      refine HH.out.mono ?_
      rintro e w' ⟨rfl, rfl⟩
      go_wp2_with fail
      refine HH2.out.mono ?_
      rintro e w' ⟨rfl, rfl⟩
      clear HH2
    all_goals
      clear HH
      have HBN := Lib.hid (butNo A c n N x f _ Hn.out (HN.out.below HB0.out) HG.out.nw)
      generalize ((w.alloc (ko f s (.slice A n c) (.slice B m d))).alloc zk).alloc (ko f s (.slice none 0 0) (.slice none 0 0)) = w1 at *
      go_wp2_with fail
      refine HBN.out.mono ?_
      rintro e w2 ⟨A2, c2, n2, B2, d2, m2, rfl, ho2, hb2⟩
      have HK2 := Lib.hid (HK0.out.below hb2)
      have HZ2 := Lib.hid (HZ0.out.below hb2)
      have HV2 := Lib.hid (HV0.out.below hb2)
      have HO2 := Lib.hid (own_le ho2 HB0.out.size)
      have HB2 : Hid (Below w.heap.size w w2) := Lib.hid (HB0.out.trans (hb2.mono HB0.out.size))
      clear ho2 hb2 HBN x1 x2 x3 x4
      have HK3 := Lib.hid (HK2.out.other (a := ⟨w.heap.size + 1 + 1, 2, none⟩) (by show w.heap.size ≠ w.heap.size + 1 + 1; omega) (.slice A2 n2 c2))
      have HZ3 := Lib.hid (HZ2.out.other (a := ⟨w.heap.size + 1 + 1, 2, none⟩) (by show w.heap.size + 1 ≠ w.heap.size + 1 + 1; omega) (.slice A2 n2 c2))
      have HV3 := Lib.hid (HV2.out.setN (.slice A2 n2 c2))
      have HO3 := Lib.hid (own_set HO2.out (HV2.out.own HO2.out) 2 (.slice A2 n2 c2))
      have HB3 := Lib.hid (bel_set HB2.out (a := ⟨w.heap.size + 1 + 1, 2, none⟩) (by show w.heap.size ≤ w.heap.size + 1 + 1; omega) (.slice A2 n2 c2))
      have HBY := Lib.hid (butYes B d m O x s _ Hm.out (HO.out.below HB3.out) HG.out.od HX.out)
      obtain ⟨x1, x2, x3, x4⟩ := HK2.out.cells
      obtain ⟨y1, y2, y3, y4⟩ := HV2.out.cells
      obtain ⟨g1, g2, g3, g4⟩ := HV2.out.free
      go_wp2_with fail
      refine HBY.out.mono ?_
      rintro e w4 ⟨A4, c4, n4, E4, k4, j4, rfl, ho4, he4, hb4⟩
      have HZ4 := Lib.hid (HZ3.out.below hb4)
      have HV4 := Lib.hid (HV3.out.below hb4)
      have HO4 := Lib.hid (own_bel HO3.out hb4)
      have HP4 := Lib.hid (own_le ho4 HB3.out.size)
      have HE4 := Lib.hid (own_le he4 HB3.out.size)
      have HB4 : Hid (Below w.heap.size w w4) := Lib.hid (HB3.out.trans (hb4.mono HB3.out.size))
      clear ho4 he4 hb4 HBY x1 x2 x3 x4 y1 y2 y3 y4 g1 g2 g3 g4
      have HZ5 := Lib.hid (HZ4.out.other (a := ⟨w.heap.size + 1 + 1, 3, none⟩) (by show w.heap.size + 1 ≠ w.heap.size + 1 + 1; omega) (.slice A4 n4 c4))
      have HT : Hid (TR f s (N, O) x w (.returned (.tuple #[kv f s (.slice A2 n2 c2) (.slice A4 n4 c4), .bool true, .slice E4 j4 k4])) (set4 (w4.setCell ⟨w.heap.size + 1 + 1, 3, none⟩ (.slice A4 n4 c4)) (w.heap.size + 1) (.int .i64 f) (.int .i64 s) (.slice A2 n2 c2) (.slice A4 n4 c4))) := Lib.hid (by
        have a := own_set HO4.out (HV4.out.own HO4.out) 3 (.slice A4 n4 c4)
        have b := own_set HP4.out (HV4.out.own HP4.out) 3 (.slice A4 n4 c4)
        have g := own_set HE4.out (HV4.out.own HE4.out) 3 (.slice A4 n4 c4)
        refine ⟨A2, c2, n2, A4, c4, n4, E4, k4, j4, by rw [HE.out.2.2.2], by rw [HE.out.1]; exact own_set4 a (HZ5.out.own a) _ _ _ _, by rw [HE.out.2.1]; exact own_set4 b (HZ5.out.own b) _ _ _ _, by rw [HE.out.2.2.1]; exact own_set4 g (HZ5.out.own g) _ _ _ _, ?_⟩
        exact bel_set4 (bel_set HB4.out (a := ⟨w.heap.size + 1 + 1, 3, none⟩) (by show w.heap.size ≤ w.heap.size + 1 + 1; omega) _) (by omega) _ _ _ _)
      obtain ⟨y1, y2, y3, y4⟩ := HV4.out.cells
      obtain ⟨g1, g2, g3, g4⟩ := HV4.out.free
      obtain ⟨z1, z2, z3, z4⟩ := HZ4.out.cells
      obtain ⟨u1, u2, u3, u4⟩ := HZ4.out.free
      go_wp2
      refine bodyPost_ret (v := .tuple #[kv f s (.slice A2 n2 c2) (.slice A4 n4 c4), .bool true, .slice E4 j4 k4]) (by simp [results, Try.results11, go_sem, z1, z2, z3, z4]) rfl ?_
      exact HT.out
  · have h1 : x ∉ N := fun h => hh (.inl h)
    have h2 : x ∉ O := fun h => hh (.inr h)
    have HE : Hid ((tch f s (N, O) x).1 = touch f N x ∧ (tch f s (N, O) x).2 = O ∧ lost f s (N, O) x = gl f N x ∧ decide (isHit (N, O) x) = false) := Lib.hid (by
      refine ⟨?_, ?_, by unfold lost; rw [if_neg hh], decide_eq_false hh⟩
      · unfold tch; rw [if_neg h1, if_neg h2]
      · unfold tch; rw [if_neg h1, if_neg h2])
    have HH := Lib.hid (hasI2 A c n N x false _ Hn.out (HN.out.below HB0.out) (decide_eq_false h1))
    have HH2 := Lib.hid (hasI2 B d m O x false _ Hm.out (HO.out.below HB0.out) (decide_eq_false h2))
    have HL : Hid (([] : List Int).length + O.length ≤ 17592186044416) := Lib.hid (by have := HG.out.lenO; simp; omega)
    obtain rfl := Hm.out
    clear h1 h2 hh
    go_enter Try.func11, Try.ntmps11
    go_wp2_with fail
    refine HH.out.mono ?_
    rintro e w' ⟨rfl, rfl⟩
    go_wp2_with fail
    refine HH2.out.mono ?_
    rintro e w' ⟨rfl, rfl⟩
    clear HH HH2
    generalize ((w.alloc (ko f s (.slice A n c) (.slice B O.length d))).alloc zk).alloc (ko f s (.slice none 0 0) (.slice none 0 0)) = w1 at *
    have HO1 := Lib.hid ((HO.out.below HB0.out).alloc (.cells #[] 3))
    have HOw := Lib.hid (own_made w1 w1.heap.size (Nat.le_refl _))
    have HSz : Hid (w1.heap.size ≤ (w1.alloc (.cells #[] 3)).heap.size) := Lib.hid (by simp)
    clear x1 x2 x3 x4
    obtain ⟨x1, x2, x3, x4⟩ := (HK0.out.alloc (.cells #[] 3)).cells
    go_wp2_with (first
      | (at_builtin; refine wpList_append_intsL rfl _ _ rfl w1.heap.size _ [] rfl HOw.out B d O rfl HO1.out HL.out HSz.out ?_)
      | go_in)
    intro v2 w2 h3 h4
    have hb2 : Below w1.heap.size w1 w2 := (bel_al (Below.refl _ _) (Nat.le_refl _) _).grown h4 HSz.out (fun k hk => (HOw.out.lt k hk).1)
    obtain ⟨A2, c2, rfl, -⟩ := ints_of_own h3
    obtain ⟨n2, hn2⟩ : ∃ n, O.length = n := ⟨_, rfl⟩
    rw [hn2] at h3 ⊢
    clear hn2
    have HK2 := Lib.hid (HK0.out.below hb2)
    have HZ2 := Lib.hid (HZ0.out.below hb2)
    have HV2 := Lib.hid (HV0.out.below hb2)
    have HO2 := Lib.hid (own_le h3 HB0.out.size)
    have HB2 : Hid (Below w.heap.size w w2) := Lib.hid (HB0.out.trans (hb2.mono HB0.out.size))
    clear h3 h4 hb2 HO1 HOw x1 x2 x3 x4
    have HK3 := Lib.hid (HK2.out.other (a := ⟨w.heap.size + 1 + 1, 3, none⟩) (by show w.heap.size ≠ w.heap.size + 1 + 1; omega) (.slice A2 n2 c2))
    have HZ3 := Lib.hid (HZ2.out.other (a := ⟨w.heap.size + 1 + 1, 3, none⟩) (by show w.heap.size + 1 ≠ w.heap.size + 1 + 1; omega) (.slice A2 n2 c2))
    have HV3 := Lib.hid (HV2.out.setO (.slice A2 n2 c2))
    have HO3 := Lib.hid (own_set HO2.out (HV2.out.own HO2.out) 3 (.slice A2 n2 c2))
    have HB3 := Lib.hid (bel_set HB2.out (a := ⟨w.heap.size + 1 + 1, 3, none⟩) (by show w.heap.size ≤ w.heap.size + 1 + 1; omega) (.slice A2 n2 c2))
    have HBY := Lib.hid (butYes A c n N x f _ Hn.out (HN.out.below HB3.out) HG.out.nw HX.out)
    obtain ⟨x1, x2, x3, x4⟩ := HK2.out.cells
    obtain ⟨y1, y2, y3, y4⟩ := HV2.out.cells
    obtain ⟨g1, g2, g3, g4⟩ := HV2.out.free
    go_wp2_with fail
    refine HBY.out.mono ?_
    rintro e w4 ⟨A4, c4, n4, E4, k4, j4, rfl, ho4, he4, hb4⟩
    have HZ4 := Lib.hid (HZ3.out.below hb4)
    have HV4 := Lib.hid (HV3.out.below hb4)
    have HO4 := Lib.hid (own_bel HO3.out hb4)
    have HP4 := Lib.hid (own_le ho4 HB3.out.size)
    have HE4 := Lib.hid (own_le he4 HB3.out.size)
    have HB4 : Hid (Below w.heap.size w w4) := Lib.hid (HB3.out.trans (hb4.mono HB3.out.size))
    clear ho4 he4 hb4 HBY x1 x2 x3 x4 y1 y2 y3 y4 g1 g2 g3 g4
    have HZ5 := Lib.hid (HZ4.out.other (a := ⟨w.heap.size + 1 + 1, 2, none⟩) (by show w.heap.size + 1 ≠ w.heap.size + 1 + 1; omega) (.slice A4 n4 c4))
    have HT : Hid (TR f s (N, O) x w (.returned (.tuple #[kv f s (.slice A4 n4 c4) (.slice A2 n2 c2), .bool false, .slice E4 j4 k4])) (set4 (w4.setCell ⟨w.heap.size + 1 + 1, 2, none⟩ (.slice A4 n4 c4)) (w.heap.size + 1) (.int .i64 f) (.int .i64 s) (.slice A4 n4 c4) (.slice A2 n2 c2))) := Lib.hid (by
      have a := own_set HO4.out (HV4.out.own HO4.out) 2 (.slice A4 n4 c4)
      have b := own_set HP4.out (HV4.out.own HP4.out) 2 (.slice A4 n4 c4)
      have g := own_set HE4.out (HV4.out.own HE4.out) 2 (.slice A4 n4 c4)
      refine ⟨A4, c4, n4, A2, c2, n2, E4, k4, j4, by rw [HE.out.2.2.2], by rw [HE.out.1]; exact own_set4 b (HZ5.out.own b) _ _ _ _, by rw [HE.out.2.1]; exact own_set4 a (HZ5.out.own a) _ _ _ _, by rw [HE.out.2.2.1]; exact own_set4 g (HZ5.out.own g) _ _ _ _, ?_⟩
      exact bel_set4 (bel_set HB4.out (a := ⟨w.heap.size + 1 + 1, 2, none⟩) (by show w.heap.size ≤ w.heap.size + 1 + 1; omega) _) (by omega) _ _ _ _)
    obtain ⟨y1, y2, y3, y4⟩ := HV4.out.cells
    obtain ⟨g1, g2, g3, g4⟩ := HV4.out.free
    obtain ⟨z1, z2, z3, z4⟩ := HZ4.out.cells
    obtain ⟨u1, u2, u3, u4⟩ := HZ4.out.free
    go_wp2
    refine bodyPost_ret (v := .tuple #[kv f s (.slice A4 n4 c4) (.slice A2 n2 c2), .bool false, .slice E4 j4 k4]) (by simp [results, Try.results11, go_sem, z1, z2, z3, z4]) rfl ?_
    exact HT.out

end Go.Proofs.Ytpjgfehhhgcjnaa.Seg
