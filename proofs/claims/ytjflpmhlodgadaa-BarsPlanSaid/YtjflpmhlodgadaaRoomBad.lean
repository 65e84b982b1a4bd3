/-
  Room of a length that no piece has.
-/
import Derived.Test.YtjflpmhlodgadaaRoom
namespace Go.Proofs.Ytjflpmhlodgadaa
open Go.RowKit Go.Shelf

set_option maxHeartbeats 2000000 in
theorem Room_bad (v : Value) (S : Store) (long : Int) (w : World) (hx : StoreAt w.heap.size w v S) (hV : Valid S) (hl : wB long 1 999 = false) :
    Calls Try.prog 26 #[v, .int .i64 long] w fun e w' => e = .returned (.tuple #[.int .i64 0, .int .i64 1]) ∧ Below w.heap.size w w' := by
  have hx' := hx
  obtain ⟨a, cap1, b1, off, a2, cap2, b2, off2, rfl, hm, hm2, HA, HC, HA2, HC2⟩ := hx.opened
  have HX := Lib.hid hx'
  have HV := Lib.hid hV
  have HPW := Lib.hid hl
  clear hx hx' hV HA HC HA2 HC2 hl
  have HXB := fun a b => Lib.hid ((HX.out.below (below_at2 w a b)).mono (show w.heap.size ≤ ((w.alloc a).alloc b).heap.size by simp; omega))
  go_enter Try.func26, Try.ntmps26
  go_wp2_with fail
  refine (check_ok (valid_iff.2 HV.out) (HXB _ _).out).mono ?_
  rintro e w0 ⟨rfl, hb0⟩
  have hs0 := hb0.size
  simp only [World.size_alloc] at hb0 hs0
  have hh := heap_at2 w (.cells #[.slice a S.bars.length cap1, .int .i64 S.kerf, .slice a2 S.pieces.length cap2, .int .i64 S.wrong] 25) (.cells #[.int .i64 long] 3)
  have hbr := (hb0.block (w.heap.size + 1) (by omega)).trans hh.2
  have hw00 := (below_at2 w _ _).trans (hb0.mono (by omega))
  clear hh hb0
  obtain ⟨c4, _⟩ := cell1_of hbr
  have HW := Lib.hid hw00
  clear hbr hw00
  go_wp2_with (go_at_call 66; refine (within_to HPW.out _).mono ?_; rintro e w' ⟨rfl, rfl⟩)
  go_ret2
  exact ⟨rfl, HW.out⟩
end Go.Proofs.Ytjflpmhlodgadaa
