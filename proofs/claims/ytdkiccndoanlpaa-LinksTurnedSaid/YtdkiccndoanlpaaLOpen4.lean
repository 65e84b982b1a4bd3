/-
  Links, walks: no book of a chain that is not valid.
-/
import Derived.Test.YtdkiccndoanlpaaLOpen2

namespace Go.Proofs.Ytdkiccndoanlpaa
open Go.RowKit Go.Sort

set_option maxHeartbeats 2000000 in
theorem openLink_bad (a a2 : Option Addr) (cap cap2 : Nat) (C : Chain) (link : Int) (w : World) (hx : ChainAt w.heap.size w (.agg #[.slice a C.deeds.length cap, .slice a2 C.sights.length cap2, .int .i64 C.wrong]) C) (hV : validB C = false) :
    Calls Try.prog 84 #[(.agg #[.slice a C.deeds.length cap, .slice a2 C.sights.length cap2, .int .i64 C.wrong]), .int .i64 link] w fun e w' => e = .returned (.tuple #[noBook, .int .i64 20]) ∧ Hid (Below w.heap.size w w') := by
  have HX := Lib.hid (fun W (hb : Below w.heap.size w W) => (hx.below hb).mono hb.size)
  have HV := Lib.hid hV
  clear hx hV
  go_enter Try.func84, Try.ntmps84
  go_wp2_with fail
  refine (open_bad _ C _ (HX.out _ (by go_grown)) HV.out).mono ?_
  rintro e w1 ⟨rfl, hb1⟩
  have hsz := hb1.size
  simp only [World.size_alloc] at hsz
  have e1 : w1.heap[w.heap.size + 1]? = some (.cells #[.slice none 0 0, .slice none 0 0, .int .i64 0, .slice none 0 0] 84) :=
    (hb1.block (w.heap.size + 1) (by simp)).trans (heap_new1 w _ _)
  have hbw : Below w.heap.size w w1 := ((((Below.refl _ w).alloc (Nat.le_refl _) _).alloc (by simp) _)).trans (hb1.mono (by simp; omega))
  obtain ⟨r0, r1, r2, r3, z0, z1, z2, z3⟩ := box4f e1
  have hlt1 : w.heap.size + 1 < w1.heap.size := heap_lt e1
  have HE1 := Lib.hid e1
  have HBW := Lib.hid hbw
  clear hb1 e1 hbw hsz
  go_wp2_with fail
  obtain ⟨X, hX⟩ : ∃ X, X = (((w1.setCell ⟨w.heap.size + 1, 0, none⟩ (.slice none 0 0)).setCell ⟨w.heap.size + 1, 1, none⟩ (.slice none 0 0)).setCell ⟨w.heap.size + 1, 2, none⟩ (.int .i64 0)).setCell ⟨w.heap.size + 1, 3, none⟩ (.slice none 0 0) := ⟨_, rfl⟩
  have hXr := four_set (v0 := .slice none 0 0) (v1 := .slice none 0 0) (v2 := .int .i64 0) (v3 := .slice none 0 0) HE1.out
  rw [← hX] at hXr
  have hXB := four_below (v0 := .slice none 0 0) (v1 := .slice none 0 0) (v2 := .int .i64 0) (v3 := .slice none 0 0) HBW.out (show w.heap.size ≤ w.heap.size + 1 by omega)
  rw [← hX] at hXB
  rw [← hX]
  obtain ⟨Y, hY⟩ : ∃ Y, Y = X.alloc (.cells #[.slice none 0 0, .slice none 0 0, .int .i64 0, .slice none 0 0] 84) := ⟨_, rfl⟩
  have hbY : Below X.heap.size X Y := hY ▸ (Below.refl _ X).alloc (Nat.le_refl _) _
  rw [← hY]
  have hYr := (hbY.block _ (heap_lt hXr)).trans hXr
  obtain ⟨y0, y1, y2, y3, _⟩ := box4f hYr
  have hXs : X.heap.size = w1.heap.size := by rw [hX]; simp only [size_setCell]
  have hYw : Below w.heap.size w Y := hXB.trans (hbY.mono (by omega))
  refine bodyPost_ret (v := .tuple #[noBook, .int .i64 20]) (by simp [results, Try.results84, go_sem, y0, y1, y2, y3]) rfl ⟨rfl, hYw⟩

set_option maxHeartbeats 2000000 in
theorem openAt_bad (a a2 : Option Addr) (cap cap2 : Nat) (C : Chain) (pv : Value) (w : World) (hx : ChainAt w.heap.size w (.agg #[.slice a C.deeds.length cap, .slice a2 C.sights.length cap2, .int .i64 C.wrong]) C) (hV : validB C = false) :
    Calls Try.prog 77 #[(.agg #[.slice a C.deeds.length cap, .slice a2 C.sights.length cap2, .int .i64 C.wrong]), pv] w fun e w' => e = .returned (.tuple #[noBook, .int .i64 20]) ∧ Hid (Below w.heap.size w w') := by
  have HX := Lib.hid (fun W (hb : Below w.heap.size w W) => (hx.below hb).mono hb.size)
  have HV := Lib.hid hV
  clear hx hV
  go_enter Try.func77, Try.ntmps77
  go_wp2_with fail
  refine (open_bad _ C _ (HX.out _ (by go_grown)) HV.out).mono ?_
  rintro e w1 ⟨rfl, hb1⟩
  have hsz := hb1.size
  simp only [World.size_alloc] at hsz
  have e1 : w1.heap[w.heap.size + 1]? = some (.cells #[.slice none 0 0, .slice none 0 0, .int .i64 0, .slice none 0 0] 84) :=
    (hb1.block (w.heap.size + 1) (by simp)).trans (heap_new1 w _ _)
  have hbw : Below w.heap.size w w1 := ((((Below.refl _ w).alloc (Nat.le_refl _) _).alloc (by simp) _)).trans (hb1.mono (by simp; omega))
  obtain ⟨r0, r1, r2, r3, z0, z1, z2, z3⟩ := box4f e1
  have hlt1 : w.heap.size + 1 < w1.heap.size := heap_lt e1
  have HE1 := Lib.hid e1
  have HBW := Lib.hid hbw
  clear hb1 e1 hbw hsz
  go_wp2_with fail
  obtain ⟨X, hX⟩ : ∃ X, X = (((w1.setCell ⟨w.heap.size + 1, 0, none⟩ (.slice none 0 0)).setCell ⟨w.heap.size + 1, 1, none⟩ (.slice none 0 0)).setCell ⟨w.heap.size + 1, 2, none⟩ (.int .i64 0)).setCell ⟨w.heap.size + 1, 3, none⟩ (.slice none 0 0) := ⟨_, rfl⟩
  have hXr := four_set (v0 := .slice none 0 0) (v1 := .slice none 0 0) (v2 := .int .i64 0) (v3 := .slice none 0 0) HE1.out
  rw [← hX] at hXr
  have hXB := four_below (v0 := .slice none 0 0) (v1 := .slice none 0 0) (v2 := .int .i64 0) (v3 := .slice none 0 0) HBW.out (show w.heap.size ≤ w.heap.size + 1 by omega)
  rw [← hX] at hXB
  rw [← hX]
  obtain ⟨Y, hY⟩ : ∃ Y, Y = X.alloc (.cells #[.slice none 0 0, .slice none 0 0, .int .i64 0, .slice none 0 0] 84) := ⟨_, rfl⟩
  have hbY : Below X.heap.size X Y := hY ▸ (Below.refl _ X).alloc (Nat.le_refl _) _
  rw [← hY]
  have hYr := (hbY.block _ (heap_lt hXr)).trans hXr
  obtain ⟨y0, y1, y2, y3, _⟩ := box4f hYr
  have hXs : X.heap.size = w1.heap.size := by rw [hX]; simp only [size_setCell]
  have hYw : Below w.heap.size w Y := hXB.trans (hbY.mono (by omega))
  refine bodyPost_ret (v := .tuple #[noBook, .int .i64 20]) (by simp [results, Try.results77, go_sem, y0, y1, y2, y3]) rfl ⟨rfl, hYw⟩

end Go.Proofs.Ytdkiccndoanlpaa
