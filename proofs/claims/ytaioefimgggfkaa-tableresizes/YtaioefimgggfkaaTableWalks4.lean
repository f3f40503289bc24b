/-
  What newSlot and copyTable of package table return.
-/
import Derived.Test.YtaioefimgggfkaaTableMem
import Derived.Test.YtaioefimgggfkaaCloneWalk
namespace Go.Proofs.Ytaioefimgggfkaa
open Go.RowKit
set_option linter.unusedVariables false

def aggS (s : Sl) : Value := .agg #[.bool s.used, .string s.key, .int .i64 s.val]

set_option maxHeartbeats 1000000 in
theorem newSlot_any (key : ByteArray) (v : Int) (w : World) (h : key.size ≤ 40) :
    Calls Try.prog 26 #[.string key, .int .i64 v] w fun e w' => e = .returned (.agg #[.bool true, .string key, .int .i64 v]) ∧ Below w.heap.size w w' := by
  go_enter Try.func26, Try.ntmps26
  go_wp2_with fail
  refine (clone_any key _ (by omega)).mono ?_
  rintro e w' ⟨rfl, hb⟩
  have hz : w.heap.size < w'.heap.size := by have := hb.size; simp at this; omega
  have HB := hb
  obtain ⟨hc, hf⟩ := bcell hb
  clear hb
  have c0 := hc w.heap.size 0 (by simp)
  have c1 := hc w.heap.size 1 (by simp)
  have c2 := hc w.heap.size 2 (by simp)
  have f0 := hf w.heap.size 0 (by simp)
  have f1 := hf w.heap.size 1 (by simp)
  have f2 := hf w.heap.size 2 (by simp)
  clear hc hf
  simp [go_sem] at c0 c1 c2 f0 f1 f2
  go_wp2
  refine bodyPost_ret (v := .agg #[.bool true, .string key, .int .i64 v]) (by simp [results, Try.results26, go_sem, c0, c1, c2]) rfl ⟨rfl, ?_⟩
  exact (((fromAlloc (HB.mono (by simp))).setCell (Nat.le_refl _) _).setCell (Nat.le_refl _) _).setCell (Nat.le_refl _) _

/-! ### copyTable -/
theorem fromAlloc' {B : Nat} {w w' : World} {o : Obj} (h : Below B (w.alloc o) w') (hB : B ≤ w.heap.size) : Below B w w' :=
  ((Below.refl _ _).alloc hB o).trans h

theorem slot_info : (Try.prog.info? 33).map (fun i => (i.zero, i.size, i.bytes)) = some (some (.agg #[.bool false, .string ⟨#[]⟩, .int .i64 0]), 3, 32) := by kernel_rfl

theorem run_make_slots (n : Nat) (hn : n ≤ 64) (w : World) :
    (Instr.makeSlice 22 (.int .i64 (n : Int)) (.int .i64 (n : Int))).run Try.prog w = .ok (.slice (some ⟨w.heap.size, 0, none⟩) n n) (w.alloc (.cells (encS (List.replicate n Sl.no)) 33)) := by
  obtain ⟨i0, hi0, hz0, hz1, hz2⟩ := info_parts slot_info
  have hr := run_make (P := Try.prog) w 22 33 i0 _ Try.underlying22 hi0 hz0 .i64 .i64 (n : Int) (n : Int) (by omega) (by omega) (by rw [hz2]; omega) (by omega)
  rw [Int.toNat_natCast, hz1] at hr
  rw [hr, ← made_encS]
  rfl

/-- A table whose unused slots are empty. -/
def Neat (L : List Sl) : Prop := ∀ i, i < L.length → (sl L i).used = false → sl L i = Sl.no
/-- The first k slots of L, the others empty. -/
def upto (L : List Sl) (k : Nat) : List Sl := L.take k ++ List.replicate (L.length - k) Sl.no
theorem upto_len (L : List Sl) {k : Nat} (h : k ≤ L.length) : (upto L k).length = L.length := by simp [upto]; omega
theorem upto_all (L : List Sl) : upto L L.length = L := by simp [upto]
theorem sl_get {L : List Sl} {k : Nat} (h : k < L.length) : L[k] = sl L k := by simp [sl, h]
theorem upto_succ (L : List Sl) {k : Nat} (h : k < L.length) : upto L (k + 1) = L.take k ++ sl L k :: List.replicate (L.length - (k + 1)) Sl.no := by
  unfold upto; rw [List.take_succ_eq_append_getElem h, sl_get h]; simp
theorem upto_here (L : List Sl) {k : Nat} (h : k < L.length) : upto L k = L.take k ++ Sl.no :: List.replicate (L.length - (k + 1)) Sl.no := by
  unfold upto; rw [show L.length - k = (L.length - (k + 1)) + 1 by omega, List.replicate_succ]
theorem upto_set (L : List Sl) {k : Nat} (h : k < L.length) : (upto L k).set k (sl L k) = upto L (k + 1) := by
  rw [upto_succ L h, upto_here L h, List.set_append_right _ _ (by simp; omega)]
  simp [Nat.min_eq_left (Nat.le_of_lt h)]
theorem upto_skip (L : List Sl) {k : Nat} (h : k < L.length) (hs : sl L k = Sl.no) : upto L k = upto L (k + 1) := by
  rw [upto_succ L h, upto_here L h, hs]
theorem sl_eta {s : Sl} (h : s.used = true) : (⟨true, s.key, s.val⟩ : Sl) = s := by cases s; cases h; rfl

set_option maxHeartbeats 1000000 in
theorem copy_any (L : List Sl) (b o c : Nat) (w : World) (h0 : 0 < L.length) (hn : L.length ≤ 64) (ht : TabAt w b o L) (hne : Neat L) (hk : ∀ i, i < L.length → (sl L i).key.size ≤ 40) :
    Calls Try.prog 25 #[.slice (some ⟨b, o, none⟩) L.length c] w fun e w' => e = .returned (.slice (some ⟨w.heap.size, 0, none⟩) L.length L.length) ∧ Own w' w.heap.size L ∧ Below w.heap.size w w' := by
  have hmk := run_make_slots L.length hn
  have hbw := ht.1
  have HNE := Lib.hid hne
  have HK := Lib.hid hk
  clear hne hk
  go_enter Try.func25, Try.ntmps25
  go_wp2
  clear hmk
  go_loopw [11] (fun i wr => ∃ k : Nat, k ≤ L.length ∧ i = .int .i64 k ∧ Own wr w.heap.size (upto L k) ∧ Below w.heap.size w wr) (fun i _ => L.length - (intOf i).toNat)
  case atStart => exact ⟨0, by omega, rfl, by simpa [upto] using Own.new w (List.replicate L.length Sl.no), (Below.refl _ _).alloc (Nat.le_refl _) _⟩
  case round =>
    obtain ⟨k, hk, rfl, HO, HB⟩ := hrel
    have hgw : w.heap.size < wr.heap.size := HO.lt
    have hbw' : b < wr.heap.size := by omega
    by_cases hlt : k < L.length
    · obtain ⟨c0, c1, c2⟩ := (ht.below HB).2 k hlt
      by_cases hu : (sl L k).used = true
      · rw [hu] at c0
        have HU := Lib.hid hu
        clear hu
        go_wp2_with fail
        refine (newSlot_any _ _ _ (HK.out k hlt)).mono ?_
        rintro e w' ⟨rfl, hb⟩
        have hz := hb.size
        simp at hz
        have HO2 : Own w' w.heap.size (upto L k) := (HO.alloc _).below hb (by simp; omega)
        obtain ⟨e0, e1, e2⟩ := HO2.at_ (i := k) (by rw [upto_len L hk]; exact hlt)
        have f0 := HO2.frozen (k * 3)
        have f1 := HO2.frozen (k * 3 + 1)
        have f2 := HO2.frozen (k * 3 + 2)
        have HB2 : Below w.heap.size w w' := HB.trans (fromAlloc' (hb.mono (by simp; omega)) (by omega))
        clear hb
        go_wp2
        go_round
        case rel => exact ⟨k + 1, by omega, by go_num, by
          rw [← upto_set L hlt]
          have := HO2.set_ (i := k) (by rw [upto_len L hk]; exact hlt) (sl L k)
          rw [HU.out] at this
          exact this, ((HB2.setCell (Nat.le_refl _) _).setCell (Nat.le_refl _) _).setCell (Nat.le_refl _) _⟩
        case measure => simp [intOf]; omega
      · have hu : (sl L k).used = false := by simpa using hu
        rw [hu] at c0
        have HU := Lib.hid hu
        clear hu
        go_wp2
        go_round
        case rel => exact ⟨k + 1, by omega, by go_num, by
          rw [← upto_skip L hlt (HNE.out k hlt HU.out)]
          exact HO.alloc _, HB.alloc (by omega) _⟩
        case measure => simp [intOf]; omega
    · obtain rfl : k = L.length := by omega
      rw [upto_all] at HO
      go_wp2
      go_ret
      exact ⟨rfl, HO, HB⟩

end Go.Proofs.Ytaioefimgggfkaa
