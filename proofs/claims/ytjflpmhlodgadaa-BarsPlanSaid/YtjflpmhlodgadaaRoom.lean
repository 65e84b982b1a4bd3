/-
  Room: whether one more piece of a length could be cut from some bar.
-/
import Derived.Test.YtjflpmhlodgadaaKnown
namespace Go.Proofs.Ytjflpmhlodgadaa
open Go.RowKit Go.Shelf

set_option maxHeartbeats 1000000 in
theorem RoomD1_any (Bk cap c1 c2 : Nat) (v : Value) (S : Store) (x : List Int) (long : Int) (W : World) (hV : Valid S) (hx : StoreAt W.heap.size W v S) (hl0 : 1 ≤ long) (hl9 : long ≤ 999)
    (hc1 : ∀ b0 b1 b2 b3, v = .agg #[b0, b1, b2, b3] → W.heap[c1]? = some (.cells #[b0, b1, b2, b3] 25)) (hc2 : W.heap[c2]? = some (.cells #[.int .i64 long] 3))
    (hO : x.length ≤ S.pieces.length) (hi : IntsAt W.heap.size W (.slice (some ⟨Bk, 0, none⟩) x.length cap) x) :
    Calls Try.prog 68 #[.slice (some ⟨Bk, 0, none⟩) x.length cap, .pointer (some ⟨c1, 0, none⟩), .pointer (some ⟨c2, 0, none⟩)] W fun e W' => e = .returned (.bool (roomB S x long)) ∧ Below W.heap.size W W' := by
  have hx' := hx
  obtain ⟨a, cap1, b1, off, a2, cap2, b2, off2, rfl, hm, hm2, HA, HC, HA2, HC2⟩ := hx.opened
  obtain ⟨q0, q1, q2, q3⟩ := box4_of (hc1 _ _ _ _ rfl)
  obtain ⟨q4, _⟩ := cell1_of hc2
  have HX := Lib.hid hx'
  have HV := Lib.hid hV
  have HI := Lib.hid hi
  clear hx hx' hV hi hc1 hc2 HA HC HA2 HC2
  go_enter Try.func68, Try.ntmps68
  go_wp2_with (go_at_call 69; go_must (refine (hasRoom_any _ _ S x long _ (B := W.heap.size) HV.out HX.out (Nat.le_refl _) HI.out hO hl0 hl9).mono ?_); rintro e w' ⟨rfl, hb⟩)
  go_ret
  exact ⟨rfl, hb⟩

def roomV (S : Store) (long : Int) : Int × Int := knownV (fun x => roomB S x long) (truthsL S)

set_option maxHeartbeats 2000000 in
theorem Room_any (v : Value) (S : Store) (long : Int) (w : World) (hx : StoreAt w.heap.size w v S) (hV : Valid S) (hl0 : 1 ≤ long) (hl9 : long ≤ 999) :
    Calls Try.prog 26 #[v, .int .i64 long] w fun e w' => e = .returned (.tuple #[.int .i64 (roomV S long).1, .int .i64 (roomV S long).2]) ∧ Below w.heap.size w w' := by
  have hx' := hx
  obtain ⟨a, cap1, b1, off, a2, cap2, b2, off2, rfl, hm, hm2, HA, HC, HA2, HC2⟩ := hx.opened
  have HX := Lib.hid hx'
  have HV := Lib.hid hV
  clear hx hx' hV HA HC HA2 HC2
  have HXB := fun a b => Lib.hid ((HX.out.below (below_at2 w a b)).mono (show w.heap.size ≤ ((w.alloc a).alloc b).heap.size by simp; omega))
  have hpw : wB long 1 999 = true := wB_iff.2 ⟨hl0, hl9⟩
  have HPW := Lib.hid hpw
  clear hpw
  go_enter Try.func26, Try.ntmps26
  go_wp2_with fail
  refine (check_ok (valid_iff.2 HV.out) (HXB _ _).out).mono ?_
  rintro e w0 ⟨rfl, hb0⟩
  have hs0 := hb0.size
  simp only [World.size_alloc] at hb0 hs0
  have hh := heap_at2 w (.cells #[.slice a S.bars.length cap1, .int .i64 S.kerf, .slice a2 S.pieces.length cap2, .int .i64 S.wrong] 25) (.cells #[.int .i64 long] 3)
  have hbx := (hb0.block w.heap.size (by omega)).trans hh.1
  have hbr := (hb0.block (w.heap.size + 1) (by omega)).trans hh.2
  have hw00 := (below_at2 w _ _).trans (hb0.mono (by omega))
  clear hh hb0
  obtain ⟨c0, c1, c2, c3⟩ := box4_of hbx
  obtain ⟨c4, _⟩ := cell1_of hbr
  have HBX := Lib.hid hbx
  have HBR := Lib.hid hbr
  have HW := Lib.hid hw00
  clear hbx hbr hw00
  go_wp2_with (go_at_call 66; refine (within_to HPW.out _).mono ?_; rintro e w' ⟨rfl, rfl⟩)
  have hk := wide_calls (known_room Fence.wide rfl rfl rfl (fun _ => trivial) 9 (by omega) _ S (fun x => roomB S x long) w.heap.size (w.heap.size + 1) w0 ((HX.out.below HW.out).mono (by omega)) HV.out (fun x W Bk hbW hO hxl hi => RoomD1_any Bk (capS S) w.heap.size (w.heap.size + 1) _ S x long W HV.out ((HX.out.below (HW.out.trans (hbW.mono (by omega)))).mono (by have := hbW.size; omega)) hl0 hl9
    (fun b0 b1 b2 b3 e => by
      simp only [Value.agg.injEq, Array.mk.injEq, List.cons.injEq, and_true] at e
      obtain ⟨rfl, rfl, rfl, rfl⟩ := e
      exact (hbW.block _ (by omega)).trans HBX.out) ((hbW.block _ (by omega)).trans HBR.out) hO.1 hi))
  have HKN := Lib.hid hk
  clear hk
  go_wp2_with (go_at_call 67; go_must (refine HKN.out.mono ?_); rintro e w' ⟨rfl, hb⟩)
  go_ret2
  exact ⟨rfl, HW.out.trans (hb.mono (by omega))⟩
end Go.Proofs.Ytjflpmhlodgadaa
