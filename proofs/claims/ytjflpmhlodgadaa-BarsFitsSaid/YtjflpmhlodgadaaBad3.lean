/-
  Heats and Least where there is an error.
-/
import Derived.Test.YtjflpmhlodgadaaBad2
namespace Go.Proofs.Ytjflpmhlodgadaa
open Go.RowKit

set_option maxHeartbeats 1000000 in
theorem Heats_bad (v : Value) (S : Store) (p : Int) (w : World) (hx : StoreAt w.heap.size w v S) (hv : validB S = false) :
    Calls Try.prog 30 #[v, .int .i64 p] w fun e w' => e = .returned (.tuple #[.slice none 0 0, .int .i64 10]) ∧ Below w.heap.size w w' := by
  have hx' := hx
  obtain ⟨a, cap1, b1, off, a2, cap2, b2, off2, rfl, hm, hm2, HA, HC, HA2, HC2⟩ := hx.opened
  have HX := fun o => Lib.hid ((hx'.below ((Below.refl _ w).alloc (Nat.le_refl _) o)).mono (show w.heap.size ≤ (w.alloc o).heap.size by simp))
  have HCALL := fun o => Lib.hid (Of_bad _ S p _ (HX o).out hv)
  clear hx hx' HA HC HA2 HC2
  go_enter Try.func30, Try.ntmps30
  go_wp2_with fail
  refine (HCALL _).out.mono ?_
  rintro e w1 ⟨rfl, hb1⟩
  have HB := Lib.hid (show Below w.heap.size w w1 from ((Below.refl _ _).alloc (Nat.le_refl _) _).trans (hb1.mono (by simp)))
  clear hb1
  go_wp2
  go_ret2
  exact ⟨rfl, HB.out⟩

set_option maxHeartbeats 1000000 in
theorem Heats_arg (v : Value) (S : Store) (p : Int) (w : World) (hx : StoreAt w.heap.size w v S) (hV : Valid S) (hp : wB p 0 ((S.pieces.length : Int) - 1) = false) :
    Calls Try.prog 30 #[v, .int .i64 p] w fun e w' => e = .returned (.tuple #[.slice none 0 0, .int .i64 1]) ∧ Below w.heap.size w w' := by
  have hx' := hx
  obtain ⟨a, cap1, b1, off, a2, cap2, b2, off2, rfl, hm, hm2, HA, HC, HA2, HC2⟩ := hx.opened
  have HX := fun o => Lib.hid ((hx'.below ((Below.refl _ w).alloc (Nat.le_refl _) o)).mono (show w.heap.size ≤ (w.alloc o).heap.size by simp))
  have HCALL := fun o => Lib.hid (Of_arg _ S p _ (HX o).out hV hp)
  clear hx hx' HA HC HA2 HC2
  go_enter Try.func30, Try.ntmps30
  go_wp2_with fail
  refine (HCALL _).out.mono ?_
  rintro e w1 ⟨rfl, hb1⟩
  have HB := Lib.hid (show Below w.heap.size w w1 from ((Below.refl _ _).alloc (Nat.le_refl _) _).trans (hb1.mono (by simp)))
  clear hb1
  go_wp2
  go_ret2
  exact ⟨rfl, HB.out⟩

set_option maxHeartbeats 1000000 in
theorem Least_bad (v : Value) (S : Store) (w : World) (hx : StoreAt w.heap.size w v S) (hv : validB S = false) :
    Calls Try.prog 18 #[v] w fun e w' => e = .returned (.tuple #[.int .i64 0, .int .i64 10]) ∧ Below w.heap.size w w' := by
  have hx' := hx
  obtain ⟨a, cap1, b1, off, a2, cap2, b2, off2, rfl, hm, hm2, HA, HC, HA2, HC2⟩ := hx.opened
  have HX := fun o => Lib.hid ((hx'.below ((Below.refl _ w).alloc (Nat.le_refl _) o)).mono (show w.heap.size ≤ (w.alloc o).heap.size by simp))
  have HCALL := fun o => Lib.hid (Plan_bad _ S _ (HX o).out hv)
  clear hx hx' HA HC HA2 HC2
  go_enter Try.func18, Try.ntmps18
  go_wp2_with fail
  refine (HCALL _).out.mono ?_
  rintro e w1 ⟨rfl, hb1⟩
  have HB := Lib.hid (show Below w.heap.size w w1 from ((Below.refl _ _).alloc (Nat.le_refl _) _).trans (hb1.mono (by simp)))
  clear hb1
  go_wp2
  go_ret2
  exact ⟨rfl, HB.out⟩

theorem isKnown_any (e : Int) (w : World) : Calls Try.prog 34 #[.int .i64 e] w fun r w' => r = .returned (.bool (decide (e = 0) || decide (e = 3))) ∧ w' = w := by
  by_cases h0 : e = 0
  · subst h0
    go_enter Try.func34, Try.ntmps34
    go_wp2
    go_ret
    exact ⟨rfl, rfl⟩
  · have e0 : (e == 0) = false := by simpa using h0
    have HE := Lib.hid (show (e == 3) = (decide (e = 0) || decide (e = 3)) from by simp [h0]; rfl)
    clear h0
    go_enter Try.func34, Try.ntmps34
    go_wp2
    go_ret
    exact ⟨ret_bool HE.out, rfl⟩
end Go.Proofs.Ytjflpmhlodgadaa
