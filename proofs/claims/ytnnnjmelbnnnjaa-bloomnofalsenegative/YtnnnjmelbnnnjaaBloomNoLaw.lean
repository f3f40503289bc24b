/-
  The walk of the law on strings that were added.
-/
import Derived.Test.YtnnnjmelbnnnjaaBloomFoldLaw
import Derived.Test.YtnnnjmelbnnnjaaBloomOpen
import Derived.Deep.CutRange
namespace Go.Proofs.Ytnnnjmelbnnnjaa
open Go.RowKit Go.Shelf
set_option linter.unusedVariables false

def gs (S : List ByteArray) (i : Nat) : ByteArray := S.getD i ByteArray.empty
theorem gs_mem {S : List ByteArray} {i : Nat} (h : i < S.length) : gs S i ∈ S := by
  unfold gs; rw [List.getD_eq_getElem?_getD, List.getElem?_eq_getElem h]; exact List.getElem_mem h

/-- The box can be written. -/
def Wr (w : World) (p : Nat) : Prop := w.frozen? ⟨p, 0, none⟩ = false ∧ w.frozen? ⟨p, 1, none⟩ = false ∧ w.frozen? ⟨p, 2, none⟩ = false
theorem Wr.below {w w' : World} {p : Nat} (h : Wr w p) (hb : Below w.heap.size w w') (hp : p < w.heap.size) : Wr w' p :=
  ⟨(hb.frozen (p := ⟨p, 0, none⟩) hp).trans h.1, (hb.frozen (p := ⟨p, 1, none⟩) hp).trans h.2.1, (hb.frozen (p := ⟨p, 2, none⟩) hp).trans h.2.2⟩

theorem Bx.put {w : World} {p : Nat} {F : Fl} {A : Option Addr} {c : Nat} {v0 v1 v2 : Value} (hp : p < w.heap.size) (r0 : w.cell? ⟨p, 0, none⟩ = some v0) (r1 : w.cell? ⟨p, 1, none⟩ = some v1) (r2 : w.cell? ⟨p, 2, none⟩ = some v2) (hi : Ints w A c F.set) (hne : ∀ a, A = some a → a.block ≠ p) :
    Bx (((w.setCell ⟨p, 0, none⟩ (.int .i64 F.size)).setCell ⟨p, 1, none⟩ (.int .i64 F.hashes)).setCell ⟨p, 2, none⟩ (.slice A F.set.length c)) p F A c := by
  refine ⟨by simpa [World.setCell] using hp, ?_, ?_, ?_, ((hi.setCell hne _).setCell hne _).setCell hne _⟩
  · simp [go_sem, r0]
  · simp [go_sem, r1]
  · simp [go_sem, r2]
theorem new3 {w w' : World} (h : Below (w.alloc z3).heap.size (w.alloc z3) w') : w'.cell? ⟨w.heap.size, 0, none⟩ = some (.int .i64 0) ∧ w'.cell? ⟨w.heap.size, 1, none⟩ = some (.int .i64 0) ∧ w'.cell? ⟨w.heap.size, 2, none⟩ = some (.slice none 0 0) ∧
    w'.frozen? ⟨w.heap.size, 0, none⟩ = false ∧ w'.frozen? ⟨w.heap.size, 1, none⟩ = false ∧ w'.frozen? ⟨w.heap.size, 2, none⟩ = false :=
  ⟨(h.cell (by simp)).trans (by simp [go_sem]), (h.cell (by simp)).trans (by simp [go_sem]), (h.cell (by simp)).trans (by simp [go_sem]), (h.frozen (by simp)).trans (by simp [go_sem]), (h.frozen (by simp)).trans (by simp [go_sem]), (h.frozen (by simp)).trans (by simp [go_sem])⟩

set_option maxHeartbeats 8000000 in
theorem bloomNoFalseNegative_walk (F : Fl) (A : Option Addr) (c : Nat) (B : Option Addr) (d : Nat) (S : List ByteArray) (i : Int) (w : World) (ha : Ints w A c F.set) (hS : Strs w B d S) :
    Calls Try.prog 4 #[fv F A c, .slice B S.length d, .int .i64 i] w fun e w' => e = .returned (.bool true) ∧ Below w.heap.size w w' := by
  have X0 := Bx.new ha
  have W0 : Wr (w.alloc (fo F A c)) w.heap.size := ⟨by simp [go_sem], by simp [go_sem], by simp [go_sem]⟩
  have HB0 : Below w.heap.size w (w.alloc (fo F A c)) := (Below.refl _ _).alloc (Nat.le_refl _) _
  have hlen : S.length ≤ 9223372036854775807 := hS.1
  clear ha
  go_enter Try.func4, Try.ntmps4
  go_wp2_with fail
  refine (begun_any _).mono ?_
  rintro e w1 ⟨rfl, hb1⟩
  have X1 := X0.below hb1
  have W1 := W0.below hb1 X0.1
  have HB1 := HB0.trans (hb1.mono HB0.size)
  clear hb1 X0 W0 HB0
  go_wp2
  go_loopw [7] (fun u wr => ∃ (k : Nat) (G : Fl) (A' : Option Addr) (c' : Nat), k ≤ S.length ∧ u = .int .i64 (k : Int) ∧ Bx wr w.heap.size G A' c' ∧ Wr wr w.heap.size ∧ Hid (∀ j, j < k → errS G (gs S j) = 0 ∧ mayM G (gs S j) = true) ∧ Below w.heap.size w wr) (fun u _ => S.length - (intOf u).toNat)
  case atStart => exact ⟨0, F, A, c, Nat.zero_le _, rfl, X1, W1, Lib.hid (fun j hj => by omega), HB1⟩
  case round =>
    clear X1 W1 HB1
    obtain ⟨k, G, A', c', hk, rfl, X, W, HA, HB⟩ := hrel
    have hSr := hS.below HB
    by_cases hlt : k < S.length
    · obtain ⟨b, o, rfl, hbl, hcs⟩ := hSr.2.2 (by omega)
      have ck : wr.cell? ⟨b, o + k, none⟩ = some (.string (gs S k)) := hcs k hlt
      have hsk : (gs S k).size ≤ maxLen := hS.2.1 _ (gs_mem hlt)
      have l1 : (k : Int) < (S.length : Int) := by omega
      obtain ⟨xp, x1, x2, x3, xi⟩ := id X
      have HX := Lib.hid X
      clear hcs
      have hold : ∀ w', Below wr.heap.size wr w' → w'.cell? ⟨w.heap.size, 0, none⟩ = some (.int .i64 G.size) ∧ w'.cell? ⟨w.heap.size, 1, none⟩ = some (.int .i64 G.hashes) ∧ w'.cell? ⟨w.heap.size, 2, none⟩ = some (.slice A' G.set.length c') ∧
            w'.cell? ⟨b, o + k, none⟩ = some (.string (gs S k)) ∧ Below wr.heap.size wr w' := fun w' h =>
        ⟨(h.cell xp).trans x1, (h.cell xp).trans x2, (h.cell xp).trans x3, (h.cell (p := ⟨b, _, none⟩) hbl).trans ck, h⟩
      go_upto_region 6 with fail
      go_cut [8, 9] from 14 to 34 (fun s8 s9 wx => ∃ p A1 c1, s8 = .pointer (some ⟨p, 0, none⟩) ∧ s9 = .int .i64 (errS G (gs S k)) ∧ Bx wx p (addM G (gs S k)) A1 c1 ∧ (∀ a, A1 = some a → wr.heap.size ≤ a.block) ∧ Below wr.heap.size wr wx)
      case first =>
        go_region_held3 (fun w' => w'.cell? ⟨w.heap.size, 0, none⟩ = some (.int .i64 G.size) ∧ w'.cell? ⟨w.heap.size, 1, none⟩ = some (.int .i64 G.hashes) ∧ w'.cell? ⟨w.heap.size, 2, none⟩ = some (.slice A' G.set.length c') ∧
            w'.cell? ⟨b, o + k, none⟩ = some (.string (gs S k)) ∧ Below wr.heap.size wr w')
          (first | exact hold _ hb9 | exact hold _ (Below.refl _ _).drew | exact hold _ ((Below.refl _ _).alloc (Nat.le_refl _) _).drew | exact hold _ (Below.alloc hb9 hb9.size _) | exact hold _ (((hb9.setCell (Nat.le_refl _) _).setCell (Nat.le_refl _) _).setCell (Nat.le_refl _) _))
          (first
            | (go_at_call 8; refine (add_any G A' c' (gs S k) wr.drew (xi.drew) hsk).mono ?_; rintro e w9 ⟨A9, c9, rfl, hi9, hf9, hb9'⟩; have hb9 := below_undrew hb9')
            | (go_at_call 8; refine (add_any G A' c' (gs S k) (wr.alloc z3).drew ((xi.alloc _).drew) hsk).mono ?_; rintro e w9 ⟨A9, c9, rfl, hi9, hf9, hb9'⟩; have hb8 : Below (wr.alloc z3).heap.size (wr.alloc z3) w9 := below_undrew hb9'; have hb9 : Below wr.heap.size wr w9 := fromAlloc' (hb8.mono (by simp)) (Nat.le_refl _); obtain ⟨r0, r1, r2, f0, f1, f2⟩ := new3 hb8))
        · rename_i hHH
          clear hHH
          have HP := Lib.hid (Bx.new hi9)
          have HQ := Lib.hid (Below.alloc hb9 hb9.size (fo (addM G (gs S k)) A9 c9))
          go_wp2
          go_meet
          exact ⟨_, A9, c9, rfl, rfl, HP.out, fun a h => by have := hf9 a h; simp at this; omega, HQ.out⟩
        · rename_i hHH
          clear hHH
          have hp9 : wr.heap.size < w9.heap.size := by have := hb8.size; simp at this; omega
          have HP := Lib.hid (Bx.put (F := addM G (gs S k)) hp9 r0 r1 r2 hi9 (fun a h => by have := hf9 a h; simp at this; omega))
          have HQ := Lib.hid (((hb9.setCell (p := ⟨wr.heap.size, 0, none⟩) (Nat.le_refl _) (.int .i64 (addM G (gs S k)).size)).setCell (p := ⟨wr.heap.size, 1, none⟩) (Nat.le_refl _) (.int .i64 (addM G (gs S k)).hashes)).setCell (p := ⟨wr.heap.size, 2, none⟩) (Nat.le_refl _) (.slice A9 (addM G (gs S k)).set.length c9))
          go_wp2
          go_meet
          exact ⟨_, A9, c9, rfl, rfl, HP.out, fun a h => by have := hf9 a h; simp at this; omega, HQ.out⟩
      case rest =>
        obtain ⟨p, A1, c1, rfl, rfl, P1, hf1, hb1⟩ := hcut
        have hne : ∀ a, A1 = some a → a.block ≠ w.heap.size := fun a h => by have := hf1 a h; omega
        have HBc := HB.trans (hb1.mono HB.size)
        have Xc := X.below hb1
        have Wc := W.below hb1 xp
        have HN := Lib.hid xp
        clear hold x1 x2 x3 xi HX X W ck hSr hbl HB
        obtain ⟨pp, p1, p2, p3, pi⟩ := id P1
        by_cases he : errS G (gs S k) = 0
        · obtain ⟨gG, hsz⟩ := errS_ok he
          have HM : Hid (addM G (gs S k) = addL G (gs S k)) := Lib.hid (by unfold addM; rw [if_pos he])
          have HA' : Hid (∀ j, j < k + 1 → errS (addL G (gs S k)) (gs S j) = 0 ∧ mayM (addL G (gs S k)) (gs S j) = true) := Lib.hid (fun j hj => by
            have ga := good_add gG (gs S k)
            by_cases hjk : j = k
            · subst hjk
              have e := errS_of ga hsz
              exact ⟨e, by unfold mayM; rw [if_pos e]; exact may_added _ _⟩
            · obtain ⟨e1, e2⟩ := HA.out j (by omega)
              have e := errS_of ga (errS_ok e1).2
              refine ⟨e, ?_⟩
              unfold mayM at e2 ⊢
              rw [if_pos e1] at e2
              rw [if_pos e]
              exact may_later e2)
          rw [HM.out] at P1 p1 p2 p3 pi
          obtain ⟨q0, q1, q2, q3, _⟩ := id Xc
          obtain ⟨f0, f1, f2⟩ := Wc
          have HW : Hid (Wr (((wc.setCell ⟨w.heap.size, 0, none⟩ (.int .i64 (addL G (gs S k)).size)).setCell ⟨w.heap.size, 1, none⟩ (.int .i64 (addL G (gs S k)).hashes)).setCell ⟨w.heap.size, 2, none⟩ (.slice A1 (addL G (gs S k)).set.length c1)) w.heap.size) := Lib.hid ⟨by simpa [go_sem] using f0, by simpa [go_sem] using f1, by simpa [go_sem] using f2⟩
          have HBB : Hid (Below w.heap.size w (((wc.setCell ⟨w.heap.size, 0, none⟩ (.int .i64 (addL G (gs S k)).size)).setCell ⟨w.heap.size, 1, none⟩ (.int .i64 (addL G (gs S k)).hashes)).setCell ⟨w.heap.size, 2, none⟩ (.slice A1 (addL G (gs S k)).set.length c1))) := Lib.hid (((HBc.setCell (p := ⟨w.heap.size, 0, none⟩) (Nat.le_refl _) _).setCell (p := ⟨w.heap.size, 1, none⟩) (Nat.le_refl _) _).setCell (p := ⟨w.heap.size, 2, none⟩) (Nat.le_refl _) _)
          have HP : Hid (Bx (((wc.setCell ⟨w.heap.size, 0, none⟩ (.int .i64 (addL G (gs S k)).size)).setCell ⟨w.heap.size, 1, none⟩ (.int .i64 (addL G (gs S k)).hashes)).setCell ⟨w.heap.size, 2, none⟩ (.slice A1 (addL G (gs S k)).set.length c1)) w.heap.size (addL G (gs S k)) A1 c1) := Lib.hid (Bx.put q0 q1 q2 q3 pi hne)
          rw [he]
          clear he gG
          go_wp2
          go_roundw
          case rel => exact ⟨k + 1, addL G (gs S k), A1, c1, by omega, by go_num, HP.out, HW.out, HA'.out, HBB.out⟩
          case measure => simp [intOf]; omega
        · have HM : Hid (addM G (gs S k) = Fl.no) := Lib.hid (by unfold addM; rw [if_neg he])
          have hq := bd_ne he
          rw [HM.out] at P1 p1 p2 p3 pi
          clear he
          go_wp2_with fail
          refine (sameNo_any A1 c1 _ P1.ints).mono ?_
          rintro e w3 ⟨rfl, hb3⟩
          go_wp2
          go_ret
          exact ⟨rfl, HBc.trans (hb3.mono HBc.size)⟩
    · obtain rfl : k = S.length := by omega
      by_cases hi0 : i < 0
      · have q0 : decide (i < 0) = true := by simpa using hi0
        clear hi0
        go_wp2
        go_ret
        exact ⟨rfl, HB⟩
      · have q0 : decide (i < 0) = false := by simpa using hi0
        by_cases hi1 : (S.length : Int) ≤ i
        · have q1 : decide ((S.length : Int) ≤ i) = true := by simpa using hi1
          clear hi0 hi1
          go_wp2
          go_ret
          exact ⟨rfl, HB⟩
        · have q1 : decide ((S.length : Int) ≤ i) = false := by simpa using hi1
          obtain ⟨m, rfl⟩ : ∃ m : Nat, i = (m : Int) := ⟨i.toNat, by omega⟩
          have hm : m < S.length := by omega
          obtain ⟨e1, e2⟩ := HA.out m hm
          have HE1 := Lib.hid e1
          have HE2 := Lib.hid e2
          obtain ⟨b, o, rfl, hbl, hcs⟩ := hSr.2.2 (by omega)
          have ck : wr.cell? ⟨b, o + m, none⟩ = some (.string (gs S m)) := hcs m hm
          have hsk : (gs S m).size ≤ maxLen := hS.2.1 _ (gs_mem hm)
          have l1 : (m : Int) < (S.length : Int) := by omega
          obtain ⟨xp, x1, x2, x3, xi⟩ := id X
          clear hcs hi0 hi1 e1 e2
          go_upto_region 12 with fail
          go_region_held3 (fun w' => w'.cell? ⟨w.heap.size, 0, none⟩ = some (.int .i64 G.size) ∧ w'.cell? ⟨w.heap.size, 1, none⟩ = some (.int .i64 G.hashes) ∧ w'.cell? ⟨w.heap.size, 2, none⟩ = some (.slice A' G.set.length c') ∧
              w'.cell? ⟨b, o + m, none⟩ = some (.string (gs S m)) ∧ Below wr.heap.size wr w')
            (first | exact ⟨(hb9.cell xp).trans x1, (hb9.cell xp).trans x2, (hb9.cell xp).trans x3, (hb9.cell (p := ⟨b, _, none⟩) hbl).trans ck, hb9⟩ | exact ⟨x1, x2, x3, ck, (Below.refl _ _).drew⟩)
            (first
              | (go_at_call 9; refine (may_any G A' c' (gs S m) wr.drew (xi.drew) hsk).mono ?_; rintro e w9 ⟨rfl, hb9'⟩; have hb9 := below_undrew hb9'; rw [HE1.out, HE2.out]))
          rename_i hHH
          clear hHH
          go_wp2
          go_ret
          exact ⟨rfl, HB.trans (hb9.mono HB.size)⟩

end Go.Proofs.Ytnnnjmelbnnnjaa
