/-
  What must be in any case: a table of three slots, stored into, asked, deleted from, resized.
-/
import Derived.Test.YtaioefimgggfkaaTableWalks6
namespace Go.Proofs.Ytaioefimgggfkaa
open Go.RowKit
set_option linter.unusedVariables false

def kA : ByteArray := ⟨#[97]⟩
def kB : ByteArray := ⟨#[98]⟩
def bt0 : List Sl := [Sl.no, Sl.no, Sl.no]
def bt1 : List Sl := [⟨true, kA, 5⟩, Sl.no, Sl.no]
def bt2 : List Sl := [⟨true, kA, 5⟩, ⟨true, kB, 6⟩, Sl.no]
def bt3 : List Sl := [⟨true, kB, 6⟩, Sl.no, Sl.no]
theorem bg1 : putM bt0 kA 5 = (bt1, 0) := by
  delta putM checkM errN strayB probeM reachB; rw [homeN_fun]; kernel_rfl
theorem bg2 : putM bt1 kB 6 = (bt2, 0) := by
  delta putM checkM errN strayB probeM reachB; rw [homeN_fun]; kernel_rfl
theorem bg3 : getM bt2 kB = (6, 2, 0) := by
  delta getM findM checkM errN strayB probeM reachB; rw [homeN_fun]; kernel_rfl
theorem bg4 : delM bt2 kA = (bt3, 0) := by
  delta delM findM dropL delL delL._f passB checkM errN strayB probeM reachB; rw [homeN_fun]; kernel_rfl
theorem bg5 : getM bt3 kA = (0, 0, 5) := by
  delta getM findM checkM errN strayB probeM reachB; rw [homeN_fun]; kernel_rfl
theorem bg6 : resizeM bt3 1 = ([⟨true, kB, 6⟩], 0) := by
  delta resizeM resL resL._f checkM errN strayB probeM reachB; rw [homeN_fun]; kernel_rfl
theorem bg7 : checkM [⟨false, kA, 0⟩] = 1 := by
  delta checkM errN strayB reachB; rw [homeN_fun]; kernel_rfl

set_option maxHeartbeats 2000000 in
set_option maxRecDepth 100000 in
theorem begun_any (w : World) :
    Calls Try.prog 16 #[] w fun e w' => e = .returned (.bool true) ∧ Below w.heap.size w w' := by
  have hmk : ∀ w : World, (Instr.makeSlice 22 (.int .i64 3) (.int .i64 3)).run Try.prog w = .ok (.slice (some ⟨w.heap.size, 0, none⟩) 3 3) (w.alloc (.cells (encS bt0) 33)) := run_make_slots 3 (by omega)
  go_enter Try.func16, Try.ntmps16
  go_wp2_with fail
  clear hmk
  have HB0 : Below w.heap.size w (w.alloc (.cells (encS bt0) 33)) := (Below.refl _ _).alloc (Nat.le_refl _) _
  have HT0 : Tab (w.alloc (.cells (encS bt0) 33)) (some ⟨w.heap.size, 0, none⟩) 3 bt0 := ⟨by decide, fun _ => ⟨_, _, rfl, (Own.new w bt0).tab⟩⟩
  refine (put_any _ 3 bt0 kA 5 _ HT0).mono ?_
  rintro e w1 hr
  rw [bg1] at hr
  obtain ⟨A1, c1, rfl, HT1, hb1⟩ := hr
  have HB1 := HB0.trans (hb1.mono HB0.size)
  clear hb1 HB0 HT0
  go_wp2_with fail
  refine (put_any _ c1 bt1 kB 6 _ HT1).mono ?_
  rintro e w2 hr
  rw [bg2] at hr
  obtain ⟨A2, c2, rfl, HT2, hb2⟩ := hr
  have HB2 := HB1.trans (hb2.mono HB1.size)
  clear hb2 HB1 HT1
  go_wp2_with fail
  refine (get_any _ c2 bt2 kB _ HT2).mono ?_
  rintro e w3 ⟨rfl, hb3⟩
  rw [bg3]
  have HT3 := HT2.below hb3
  have HB3 := HB2.trans (hb3.mono HB2.size)
  clear hb3 HB2 HT2
  go_wp2_with fail
  refine (delete_any _ c2 bt2 kA _ HT3).mono ?_
  rintro e w4 hr
  rw [bg4] at hr
  obtain ⟨A4, c4, rfl, HT4, hb4⟩ := hr
  have HB4 := HB3.trans (hb4.mono HB3.size)
  clear hb4 HB3 HT3
  go_wp2_with fail
  refine (get_any _ c4 bt3 kA _ HT4).mono ?_
  rintro e w5 ⟨rfl, hb5⟩
  rw [bg5]
  have HT5 := HT4.below hb5
  have HB5 := HB4.trans (hb5.mono HB4.size)
  clear hb5 HB4 HT4
  go_wp2_with fail
  refine (resize_any _ c4 bt3 1 _ HT5).mono ?_
  rintro e w6 hr
  rw [bg6] at hr
  obtain ⟨A6, c6, rfl, HT6, hb6⟩ := hr
  have HB6 := HB5.trans (hb6.mono HB5.size)
  clear hb6 HB5 HT5
  obtain ⟨b6, o6, rfl, hbl, hat⟩ := HT6.2 (by decide)
  obtain ⟨d0, d1, d2⟩ := hat 0 (by decide)
  replace d0 : w6.cell? ⟨b6, o6, none⟩ = some (.bool true) := d0
  replace d1 : w6.cell? ⟨b6, o6 + 1, none⟩ = some (.string ⟨#[98]⟩) := d1
  replace d2 : w6.cell? ⟨b6, o6 + 2, none⟩ = some (.int .i64 6) := d2
  clear hat
  have hq1 : (ByteArray.mk #[98]).toList = [98] := by decide +kernel
  go_wp2_with fail
  refine (check_none none 0 0 _ rfl).mono ?_
  rintro e w7 ⟨rfl, hb7⟩
  have HB7 := HB6.trans (hb7.mono HB6.size)
  clear hb7
  have HT7 : Tab (w7.alloc (.cells #[.bool false, .string ⟨#[97]⟩, .int .i64 0] 33)) (some ⟨w7.heap.size, 0, none⟩) 1 [⟨false, kA, 0⟩] := ⟨by decide, fun _ => ⟨_, _, rfl, (Own.new w7 [⟨false, kA, 0⟩]).tab⟩⟩
  go_wp2_with fail
  refine (check_any _ 1 [⟨false, kA, 0⟩] _ HT7).mono ?_
  rintro e w8 ⟨rfl, hb8⟩
  rw [bg7]
  go_wp2
  go_ret
  exact ⟨rfl, (HB7.alloc HB7.size _).trans (hb8.mono (by have := HB7.size; simp; omega))⟩

end Go.Proofs.Ytaioefimgggfkaa
