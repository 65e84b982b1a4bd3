/-
  What the functions return of a store that is not valid, and of arguments that are not in it.
-/
import Derived.Test.YtjflpmhlodgadaaBad
import Derived.Test.YtjflpmhlodgadaaAlike
namespace Go.Proofs.Ytjflpmhlodgadaa
open Go.RowKit

set_option maxHeartbeats 1000000 in
theorem Alike_bad (v : Value) (S : Store) (p r : Int) (w : World) (hx : StoreAt w.heap.size w v S) (hv : validB S = false) :
    Calls Try.prog 31 #[v, .int .i64 p, .int .i64 r] w fun e w' => e = .returned (.tuple #[.int .i64 0, .int .i64 10]) ∧ Below w.heap.size w w' := by
  have hx' := hx
  obtain ⟨a, cap1, b1, off, a2, cap2, b2, off2, rfl, hm, hm2, HA, HC, HA2, HC2⟩ := hx.opened
  have HX := Lib.hid hx'
  have HV := Lib.hid hv
  clear hx hx' hv HA HC HA2 HC2
  have HXB := fun a b c => Lib.hid ((HX.out.below (below_at3 w a b c)).mono (show w.heap.size ≤ (((w.alloc a).alloc b).alloc c).heap.size by simp; omega))
  go_enter Try.func31, Try.ntmps31
  go_wp2_with fail
  refine (check_bad HV.out (HXB _ _ _).out).mono ?_
  rintro e w1 ⟨rfl, hb1⟩
  have HB := Lib.hid (show Below w.heap.size w w1 from (below_at3 w _ _ _).trans (hb1.mono (by simp; omega)))
  clear hb1
  go_wp2
  go_ret2
  exact ⟨rfl, HB.out⟩

set_option maxHeartbeats 1000000 in
theorem Of_arg (v : Value) (S : Store) (p : Int) (w : World) (hx : StoreAt w.heap.size w v S) (hV : Valid S) (hp : wB p 0 ((S.pieces.length : Int) - 1) = false) :
    Calls Try.prog 29 #[v, .int .i64 p] w fun e w' => e = .returned (.tuple #[.slice none 0 0, .int .i64 1]) ∧ Below w.heap.size w w' := by
  have hx' := hx
  obtain ⟨a, cap1, b1, off, a2, cap2, b2, off2, rfl, hm, hm2, HA, HC, HA2, HC2⟩ := hx.opened
  have HX := Lib.hid hx'
  have HV := Lib.hid hV
  have HP := Lib.hid hp
  clear hx hx' hV hp HA HC HA2 HC2
  have HXB := fun a b => Lib.hid ((HX.out.below (below_at2 w a b)).mono (show w.heap.size ≤ ((w.alloc a).alloc b).heap.size by simp; omega))
  go_enter Try.func29, Try.ntmps29
  go_wp2_with fail
  refine (check_ok (valid_iff.2 HV.out) (HXB _ _).out).mono ?_
  rintro e w0 ⟨rfl, hb0⟩
  have hs0 := hb0.size
  simp only [World.size_alloc] at hb0 hs0
  have hh := heap_at2 w (.cells #[.slice a S.bars.length cap1, .int .i64 S.kerf, .slice a2 S.pieces.length cap2, .int .i64 S.wrong] 25) (.cells #[.int .i64 p] 3)
  have hbx := (hb0.block w.heap.size (by omega)).trans hh.1
  have hbr := (hb0.block (w.heap.size + 1) (by omega)).trans hh.2
  have HW := Lib.hid ((below_at2 w _ _).trans (hb0.mono (by omega)))
  clear hh hb0
  obtain ⟨c0, c1, c2, c3⟩ := box4_of hbx
  obtain ⟨c4, _⟩ := cell1_of hbr
  clear hbx hbr
  go_wp2_with fail
  refine (isPiece_to HP.out (HX.out.below HW.out)).mono ?_
  rintro e w1 ⟨rfl, hb1⟩
  have HB := Lib.hid (HW.out.trans (hb1.mono (by omega)))
  clear hb1
  go_wp2
  go_ret2
  exact ⟨rfl, HB.out⟩
end Go.Proofs.Ytjflpmhlodgadaa
