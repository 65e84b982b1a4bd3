/-
  What every law asks at its end: the example's answers.
-/
import Derived.Test.YtjflpmhlodgadaaWorks
import Derived.Test.YtjflpmhlodgadaaLaw1
namespace Go.Proofs.Ytjflpmhlodgadaa
open Go.RowKit Go.Shelf

theorem ManyE (v : Value) (w : World) (hx : StoreAt w.heap.size w v exS) :
    Calls Try.prog 33 #[v] w fun e w' => e = .returned (.tuple #[.int .i64 5, .int .i64 0]) ∧ Below w.heap.size w w' :=
  (Many_any v exS w hx (valid_iff.1 ex_valid)).mono fun _ _ h => by rw [ex_many] at h; exact h
theorem OfE (v : Value) (w : World) (hx : StoreAt w.heap.size w v exS) : Calls Try.prog 29 #[v, .int .i64 1] w (GaveIntsE [0, 2] 0 w) :=
  (Of_any v exS 1 w hx (valid_iff.1 ex_valid) (by decide)).mono fun _ _ h => by rw [ex_of] at h; exact h
theorem RestE (v : Value) (w : World) (hx : StoreAt w.heap.size w v exS) :
    Calls Try.prog 24 #[v, .int .i64 0] w fun e w' => e = .returned (.tuple #[.agg #[.int .i64 0, .int .i64 60], .int .i64 0]) ∧ Below w.heap.size w w' :=
  (Rest_any v exS 0 w hx (valid_iff.1 ex_valid) (by decide) (by decide)).mono fun _ _ h => by rw [ex_restV] at h; exact h
theorem RoomE (v : Value) (w : World) (hx : StoreAt w.heap.size w v exS) :
    Calls Try.prog 26 #[v, .int .i64 50] w fun e w' => e = .returned (.tuple #[.int .i64 3, .int .i64 0]) ∧ Below w.heap.size w w' :=
  (Room_any v exS 50 w hx (valid_iff.1 ex_valid) (by decide) (by decide)).mono fun _ _ h => by rw [ex_room] at h; exact h
theorem LeastE (v : Value) (w : World) (hx : StoreAt w.heap.size w v exS) :
    Calls Try.prog 18 #[v] w fun e w' => e = .returned (.tuple #[.int .i64 2, .int .i64 0]) ∧ Below w.heap.size w w' :=
  (Least_any v exS w hx (valid_iff.1 ex_valid)).mono fun _ _ h => by rw [ex_least, ex_many] at h; exact h

set_option maxRecDepth 100000 in
set_option maxHeartbeats 4000000 in
theorem works_any (w : World) : Calls Try.prog 15 #[] w fun e w' => e = .returned (.bool true) ∧ Below w.heap.size w w' := by
  go_enter Try.func15, Try.ntmps15
  go_wp2_with fail
  refine (Example_any _).mono ?_
  rintro e w1 ⟨v, rfl, hx, hw1⟩
  have hx' := hx
  obtain ⟨a, cap1, b1, off, a2, cap2, b2, off2, rfl, hm, hm2, HA, HC, HA2, HC2⟩ := hx.opened
  have HX := Lib.hid hx'
  have HW1 := Lib.hid hw1
  clear hx hx' HA HC HA2 HC2 hm hm2 hw1
  go_wp2_with fail
  have hst : ∀ W : World, Below (w1.heap.size + 1) (w1.alloc (.cells #[.slice a exS.bars.length cap1, .int .i64 exS.kerf, .slice a2 exS.pieces.length cap2, .int .i64 exS.wrong] 25)) W → StoreAt W.heap.size W (.agg #[.slice a exS.bars.length cap1, .int .i64 exS.kerf, .slice a2 exS.pieces.length cap2, .int .i64 exS.wrong]) exS := fun _ h => (HX.out.below (boxed h)).mono (boxed h).size
  have HST := Lib.hid hst
  clear hst
  refine (ManyE _ _ (HST.out _ (Below.refl _ _))).mono ?_
  rintro e w2 ⟨rfl, hb2⟩
  have hb2' : Below (w1.heap.size + 1) (w1.alloc (.cells #[.slice a exS.bars.length cap1, .int .i64 exS.kerf, .slice a2 exS.pieces.length cap2, .int .i64 exS.wrong] 25)) w2 := hb2.mono (by simp)
  obtain ⟨c0, c1, c2, c3⟩ := box4 hb2'
  have HB2 := Lib.hid hb2'
  clear hb2 hb2'
  go_wp2_with fail
  refine (OfE _ _ (HST.out _ HB2.out)).mono ?_
  rintro e w3 ⟨ov, rfl, hov, hb3⟩
  obtain ⟨oa, ocap, ob, ooff, rfl, _, _⟩ := hov.opened
  have hb3' := HB2.out.trans (hb3.mono (boxed_size HB2.out))
  clear c0 c1 c2 c3
  obtain ⟨c0, c1, c2, c3⟩ := box4 hb3'
  have HB3 := Lib.hid hb3'
  have HOV := Lib.hid hov
  clear hb3 hb3' hov
  go_wp2_with fail
  refine (RestE _ _ (HST.out _ HB3.out)).mono ?_
  rintro e w4 ⟨rfl, hb4⟩
  have hb4' := HB3.out.trans (hb4.mono (boxed_size HB3.out))
  clear c0 c1 c2 c3
  obtain ⟨c0, c1, c2, c3⟩ := box4 hb4'
  have hlt4 : w1.heap.size < w4.heap.size := boxed_size hb4'
  have HB4 := Lib.hid hb4'
  have HOV4 := Lib.hid ((HOV.out.below hb4).mono hb4.size)
  clear hb4 hb4'
  go_wp2_with fail
  have hb4a := HB4.out.trans ((Below.refl _ w4).alloc (boxed_size HB4.out) (.cells #[.int .i64 0, .int .i64 60] 43))
  refine (RoomE _ _ (HST.out _ hb4a)).mono ?_
  rintro e w5 ⟨rfl, hb5⟩
  have hb5' := hb4a.trans (hb5.mono (boxed_size hb4a))
  clear c0 c1 c2 c3
  obtain ⟨c0, c1, c2, c3⟩ := box4 hb5'
  have hs5 := hb5.size
  simp only [World.size_alloc] at hs5
  have hsp5 := (hb5.block w4.heap.size (by simp)).trans (heap_new w4 _)
  obtain ⟨s0, s1, _, _⟩ := cell2_of hsp5
  have hlt5 : w1.heap.size < w5.heap.size := boxed_size hb5'
  have HB5 := Lib.hid hb5'
  have HSP5 := Lib.hid hsp5
  have HOV5 := Lib.hid ((HOV4.out.below (((Below.refl _ w4).alloc (Nat.le_refl _) _).trans (hb5.mono (by simp)))).mono (Nat.le_of_lt hs5))
  clear hb5 hb5' hb4a hsp5
  go_wp2_with fail
  refine (LeastE _ _ (HST.out _ HB5.out)).mono ?_
  rintro e w6 ⟨rfl, hb6⟩
  have hb6' := HB5.out.trans (hb6.mono (boxed_size HB5.out))
  have hsp6 := (hb6.block w4.heap.size (by omega)).trans HSP5.out
  clear c0 c1 c2 c3 s0 s1
  obtain ⟨s0, s1, _, _⟩ := cell2_of hsp6
  have hlt6 : w4.heap.size < w6.heap.size := by have := hb6.size; omega
  have HOV6 := Lib.hid ((HOV5.out.below hb6).mono hb6.size)
  have HB6 := Lib.hid hb6'
  have HSP6 := Lib.hid hsp6
  clear hb6 hb6' hsp6
  go_wp2_with fail
  refine (SameInts_to (r := true) (by decide) (HOV6.out.below ((Below.refl _ w6).alloc (Nat.le_refl _) (.cells #[.int .i64 0, .int .i64 2] 3))) (ints_lit (B := w6.heap.size + 1) (xs := [0, 2]) (heap_new w6 _) (by omega) rfl (lit2 _ _) (by intro x hx; simp at hx; rcases hx with rfl | rfl <;> exact ⟨by decide, by decide⟩))).mono ?_
  rintro e w7 ⟨rfl, hb7⟩
  have hs7 := hb7.size
  simp only [World.size_alloc] at hs7
  have hsp7 := (hb7.block w4.heap.size (by simp; omega)).trans ((Below.heap_alloc w6 _ _ hlt6).trans HSP6.out)
  clear s0 s1
  obtain ⟨s0, s1, _, _⟩ := cell2_of hsp7
  have HF := Lib.hid (show Below w.heap.size w w7 from by
    have h1 : Below w1.heap.size w1 w6 := boxed HB6.out
    have h2 : Below w6.heap.size w6 w7 := ((Below.refl _ w6).alloc (Nat.le_refl _) _).trans (hb7.mono (by simp))
    exact (HW1.out.trans (h1.mono HW1.out.size)).trans (h2.mono (Nat.le_trans HW1.out.size h1.size)))
  clear hb7 hsp7
  go_wp2
  go_goals
  go_ret
  exact ⟨rfl, HF.out⟩
end Go.Proofs.Ytjflpmhlodgadaa
