/-
  Levers, the law's reference: Leaks, Shorts and Strange where there is an error.
-/
import Derived.Test.YtomcjopcfdllgaaVShortsR
import Derived.Test.YtomcjopcfdllgaaVStrR
import Derived.Test.YtomcjopcfdllgaaVFewR
import Derived.Test.YtomcjopcfdllgaaVErrM
import Derived.Test.YtomcjopcfdllgaaVShorts
import Derived.Test.YtomcjopcfdllgaaVBothL

namespace Go.Proofs.Ytomcjopcfdllgaa
open Go.RowKit Go.Shelf

set_option maxRecDepth 100000 in
set_option maxHeartbeats 4000000 in
theorem rLeaks_er {M : Mach} {er : Int} (her : er ≠ 0) (v : Value) (w : World) (hx : MachAt w.heap.size w v M)
    (ht : ∀ W, Below w.heap.size w W → Calls Try.prog 70 #[v, .bool true] W (GaveT [] er W)) :
    Calls Try.prog 45 #[v] w fun e w' => e = .returned (.tuple #[.slice none 0 0, .int .i64 er]) ∧ Below w.heap.size w w' := by
  obtain ⟨a, cap, a2, cap2, rfl⟩ := hx.form
  have HT := Lib.hid ht
  have hne : (er != 0) = true := by rw [bne_iff_ne]; exact her
  clear hx ht
  go_enter Try.func45, Try.ntmps45
  go_wp2_with (go_at_call 70; refine (HT.out _ (by go_grown)).mono ?_; rintro e w1 ⟨u, rfl, _, hb⟩; have HB := Lib.hid ((show Below w.heap.size w _ by go_grown).trans (hb.mono (by simp))); clear hb)
  go_ret2
  exact ⟨rfl, HB.out⟩
set_option maxRecDepth 100000 in
set_option maxHeartbeats 4000000 in
theorem rStrange_er {M : Mach} {er : Int} (her : er ≠ 0) (v : Value) (w : World) (hx : MachAt w.heap.size w v M)
    (ht : ∀ W, Below w.heap.size w W → Calls Try.prog 70 #[v, .bool true] W (GaveT [] er W)) :
    Calls Try.prog 46 #[v] w fun e w' => e = .returned (.tuple #[.slice none 0 0, .int .i64 er]) ∧ Below w.heap.size w w' := by
  obtain ⟨a, cap, a2, cap2, rfl⟩ := hx.form
  have HT := Lib.hid ht
  have hne : (er != 0) = true := by rw [bne_iff_ne]; exact her
  clear hx ht
  go_enter Try.func46, Try.ntmps46
  go_wp2_with (go_at_call 70; refine (HT.out _ (by go_grown)).mono ?_; rintro e w1 ⟨u, rfl, _, hb⟩; have HB := Lib.hid ((show Below w.heap.size w _ by go_grown).trans (hb.mono (by simp))); clear hb)
  go_ret2
  exact ⟨rfl, HB.out⟩
set_option maxRecDepth 100000 in
set_option maxHeartbeats 8000000 in
theorem rShorts_er {M : Mach} {n er : Int} {b : Bool} (hwi : wB n 0 ((M.levers.length : Int) - 1) = b) (her : er ≠ 0) (v : Value) (w : World) (hx : MachAt w.heap.size w v M)
    (ht : ∀ W, Below w.heap.size w W → Calls Try.prog 70 #[v, .bool b] W (GaveT [] er W)) :
    Calls Try.prog 44 #[v, .int .i64 n] w fun e w' => e = .returned (.tuple #[.slice none 0 0, .int .i64 er]) ∧ Below w.heap.size w w' := by
  obtain ⟨a, cap, _, _, a2, cap2, _, _, rfl, hm, _⟩ := hx.opened
  obtain ⟨O, hO⟩ : ∃ O, O = Obj.cells #[.slice a M.levers.length cap, .int .i64 M.water, .int .i64 M.lkLo, .int .i64 M.lkHi, .slice a2 M.bals.length cap2, .int .i64 M.wrong] 27 := ⟨_, rfl⟩
  have HO := Lib.hid hO
  have HT := Lib.hid ht
  have HW0 := Lib.hid (show MStat w (w.alloc O) w.heap.size O from ⟨(Below.refl _ w).alloc (Nat.le_refl _) _, Nat.le_refl _, heap_new w O⟩)
  obtain ⟨c0, c1, c2, c3, c4, c5⟩ := mst_cells HW0.out.blk hO
  have hne : (er != 0) = true := by rw [bne_iff_ne]; exact her
  have HWI := Lib.hid (fun W => uwithin_to hwi W)
  have hw65 : IntKind.i64.wrap ((M.levers.length : Int) - 1) = (M.levers.length : Int) - 1 := IntWalk.i64_in _ (by omega)
  have hw64 : wrap64 ((M.levers.length : Int) - 1) = (M.levers.length : Int) - 1 := wrap_in (by omega)
  rw [hO] at c0 c1 c2 c3 c4 c5
  have HC := Lib.hid (show ∀ W', Below (w.alloc O).heap.size (w.alloc O) W' → W'.cell? ⟨w.heap.size, 0, none⟩ = some (.slice a M.levers.length cap) ∧ W'.cell? ⟨w.heap.size, 1, none⟩ = some (.int .i64 M.water) ∧ W'.cell? ⟨w.heap.size, 2, none⟩ = some (.int .i64 M.lkLo) ∧ W'.cell? ⟨w.heap.size, 3, none⟩ = some (.int .i64 M.lkHi) ∧ W'.cell? ⟨w.heap.size, 4, none⟩ = some (.slice a2 M.bals.length cap2) ∧ W'.cell? ⟨w.heap.size, 5, none⟩ = some (.int .i64 M.wrong) from fun W' hb => mst_cells (HW0.out.next hb).blk HO.out)
  clear hx ht hO
  go_enter Try.func44, Try.ntmps44
  go_wp2_with fail
  rw [← HO.out]
  go_region_held3 (fun W' => W'.cell? ⟨w.heap.size, 0, none⟩ = some (.slice a M.levers.length cap) ∧ W'.cell? ⟨w.heap.size, 1, none⟩ = some (.int .i64 M.water) ∧ W'.cell? ⟨w.heap.size, 2, none⟩ = some (.int .i64 M.lkLo) ∧ W'.cell? ⟨w.heap.size, 3, none⟩ = some (.int .i64 M.lkHi) ∧ W'.cell? ⟨w.heap.size, 4, none⟩ = some (.slice a2 M.bals.length cap2) ∧ W'.cell? ⟨w.heap.size, 5, none⟩ = some (.int .i64 M.wrong))
    (first
      | exact HC.out _ HB3.out
      | exact HC.out _ (by go_grown))
    (first
      | (go_at_call 53; refine (HWI.out _).mono ?_; rintro e w' ⟨rfl, rfl⟩)
      | (go_at_call 70; refine (HT.out _ (by go_grown)).mono ?_; rintro e w3 ⟨u, rfl, _, hb⟩; have HB3 := Lib.hid ((show Below (w.alloc O).heap.size (w.alloc O) _ by go_grown).trans (hb.mono (by simp))); clear hb))
  all_goals
    have HBZ := Lib.hid (HW0.out.b.trans (HB3.out.mono HW0.out.b.size))
    go_wp2
    go_ret2
    exact ⟨rfl, HBZ.out⟩
end Go.Proofs.Ytomcjopcfdllgaa
