/-
  Levers, the law's own function: two machines that are answered the same.
-/
import Derived.Test.YtomcjopcfdllgaaVFairM
import Derived.Test.YtomcjopcfdllgaaVWorks
import Derived.Test.YtomcjopcfdllgaaVRef3

namespace Go.Proofs.Ytomcjopcfdllgaa
open Go.RowKit Go.Shelf

theorem askB_of {x y : Int} (hx : 0 ≤ x ∧ x ≤ 9999) (hy : 0 ≤ y ∧ y ≤ 99) : askB x y 0 0 = true := askB_iff.2 ⟨hx, hy, by decide, by decide⟩
theorem askB_un {x z : Int} (hx : 0 ≤ x ∧ x ≤ 9999) (hz : 0 ≤ z ∧ z ≤ 999999999) : askB x 0 z 0 = true := askB_iff.2 ⟨hx, by decide, hz, by decide⟩
set_option maxRecDepth 100000 in
set_option maxHeartbeats 8000000 in
theorem alikeL_any (c : Int) (va vb : Value) (A B : Mach) (x0 x1 x2 : Int) (w : World) (ha : MachAt w.heap.size w va A) (hb : MachAt w.heap.size w vb B) (hVA : validMB A = true) (hVB : validMB B = true) (hx0 : 0 ≤ x0 ∧ x0 ≤ 9999) (hx1 : 0 ≤ x1 ∧ x1 ≤ 99) (hx2 : 0 ≤ x2 ∧ x2 ≤ 999999999) (h : LikeC c A B) :
    Calls Try.prog 38 #[va, vb, .agg #[.int .i64 x0, .int .i64 x1, .int .i64 x2]] w fun e w' => e = .returned (.bool true) ∧ Below w.heap.size w w' := by
  have HA := Lib.hid (fun W (hb : Below w.heap.size w W) => (ha.below hb).mono hb.size)
  have HBM := Lib.hid (fun W (hw : Below w.heap.size w W) => (hb.below hw).mono hw.size)
  have hl := h.load (validM_iff.1 hVA) x0 x1
  have hm := h.many
  have hf := h.fewest
  have hu := h.until x0 x2
  have HVA := Lib.hid hVA
  have HVB := Lib.hid hVB
  obtain ⟨a, cap, a2, cap2, rfl⟩ := ha.form
  obtain ⟨b, dap, b2, dap2, rfl⟩ := hb.form
  clear ha hb h hVA hVB
  obtain ⟨mm, hmm⟩ : ∃ mm, (truthsM A).length = mm := ⟨_, rfl⟩
  obtain ⟨fm, hfm⟩ : ∃ fm, fewestM A = fm := ⟨_, rfl⟩
  obtain ⟨⟨⟨sl, sh⟩, er⟩, hll⟩ : ∃ q, loadA A x0 x1 = q := ⟨_, rfl⟩
  obtain ⟨⟨ul, ue⟩, huu⟩ : ∃ q, untilA A x0 x2 = q := ⟨_, rfl⟩
  rw [hmm] at hm
  rw [hfm] at hf
  rw [hll] at hl
  rw [huu] at hu
  have M1 := Lib.hid (fun W (hw : Below w.heap.size w W) => Many_any _ A W (HA.out W hw) HVA.out)
  have M2 := Lib.hid (fun W (hw : Below w.heap.size w W) => Many_any _ B W (HBM.out W hw) HVB.out)
  have F1 := Lib.hid (fun W (hw : Below w.heap.size w W) => Fewest_any _ A W (HA.out W hw) HVA.out)
  have F2 := Lib.hid (fun W (hw : Below w.heap.size w W) => Fewest_any _ B W (HBM.out W hw) HVB.out)
  have L1 := Lib.hid (fun W (hw : Below w.heap.size w W) => Load_any _ A x0 x1 W (HA.out W hw) HVA.out (askB_of hx0 hx1))
  have L2 := Lib.hid (fun W (hw : Below w.heap.size w W) => Load_any _ B x0 x1 W (HBM.out W hw) HVB.out (askB_of hx0 hx1))
  have U1 := Lib.hid (fun W (hw : Below w.heap.size w W) => Until_any _ A x0 x2 W (HA.out W hw) HVA.out (askB_un hx0 hx2))
  have U2 := Lib.hid (fun W (hw : Below w.heap.size w W) => Until_any _ B x0 x2 W (HBM.out W hw) HVB.out (askB_un hx0 hx2))
  rw [hmm] at M1
  rw [hm] at M2
  rw [hfm] at F1
  rw [hf] at F2
  rw [hll] at L1
  rw [hl] at L2
  rw [huu] at U1
  rw [hu] at U2
  dsimp only at L1 L2 U1 U2
  clear hmm hm hfm hf hll hl huu hu HA HBM
  go_enter Try.func38, Try.ntmps38
  go_wp2_with fail
  obtain ⟨W, hW⟩ : ∃ W, W = ((w.alloc (.cells #[.slice a A.levers.length cap, .int .i64 A.water, .int .i64 A.lkLo, .int .i64 A.lkHi, .slice a2 A.bals.length cap2, .int .i64 A.wrong] 27)).alloc (.cells #[.slice b B.levers.length dap, .int .i64 B.water, .int .i64 B.lkLo, .int .i64 B.lkHi, .slice b2 B.bals.length dap2, .int .i64 B.wrong] 27)).alloc (.cells #[.int .i64 x0, .int .i64 x1, .int .i64 x2] 32) := ⟨_, rfl⟩
  have h3 := heap3w w (.cells #[.slice a A.levers.length cap, .int .i64 A.water, .int .i64 A.lkLo, .int .i64 A.lkHi, .slice a2 A.bals.length cap2, .int .i64 A.wrong] 27) (.cells #[.slice b B.levers.length dap, .int .i64 B.water, .int .i64 B.lkLo, .int .i64 B.lkHi, .slice b2 B.bals.length dap2, .int .i64 B.wrong] 27) (.cells #[.int .i64 x0, .int .i64 x1, .int .i64 x2] 32)
  rw [← hW] at h3 ⊢
  clear hW
  obtain ⟨e0, e1, e2, hb, hsz⟩ := h3
  have HB0 := Lib.hid hb
  have HC := Lib.hid (fun X (hX : Below W.heap.size W X) => (show _ ∧ _ ∧ _ from ⟨cells6 ((hX.block w.heap.size (by omega)).trans e0), cells6 ((hX.block (w.heap.size + 1) (by omega)).trans e1), cells3 ((hX.block (w.heap.size + 1 + 1) (by omega)).trans e2)⟩))
  clear e0 e1 e2 hsz hb
  have HW0 := Lib.hid (Below.refl W.heap.size W)
  refine (M1.out W (HB0.out.trans (HW0.out.mono HB0.out.size))).mono ?_
  rintro e w1 ⟨rfl, hb⟩
  have HW1 := Lib.hid (HW0.out.trans (hb.mono HW0.out.size))
  clear hb
  obtain ⟨⟨c0, c1, c2, c3, c4, c5⟩, ⟨d0, d1, d2, d3, d4, d5⟩, f0, f1, f2⟩ := HC.out w1 HW1.out
  go_wp2_with fail
  clear c0 c1 c2 c3 c4 c5 d0 d1 d2 d3 d4 d5 f0 f1 f2
  refine (M2.out w1 (HB0.out.trans (HW1.out.mono HB0.out.size))).mono ?_
  rintro e w2 ⟨rfl, hb⟩
  have HW2 := Lib.hid (HW1.out.trans (hb.mono HW1.out.size))
  clear hb
  obtain ⟨⟨c0, c1, c2, c3, c4, c5⟩, ⟨d0, d1, d2, d3, d4, d5⟩, f0, f1, f2⟩ := HC.out w2 HW2.out
  go_wp2_with fail
  clear c0 c1 c2 c3 c4 c5 d0 d1 d2 d3 d4 d5 f0 f1 f2
  refine (F1.out w2 (HB0.out.trans (HW2.out.mono HB0.out.size))).mono ?_
  rintro e w3 ⟨rfl, hb⟩
  have HW3 := Lib.hid (HW2.out.trans (hb.mono HW2.out.size))
  clear hb
  obtain ⟨⟨c0, c1, c2, c3, c4, c5⟩, ⟨d0, d1, d2, d3, d4, d5⟩, f0, f1, f2⟩ := HC.out w3 HW3.out
  go_wp2_with fail
  clear c0 c1 c2 c3 c4 c5 d0 d1 d2 d3 d4 d5 f0 f1 f2
  refine (F2.out w3 (HB0.out.trans (HW3.out.mono HB0.out.size))).mono ?_
  rintro e w4 ⟨rfl, hb⟩
  have HW4 := Lib.hid (HW3.out.trans (hb.mono HW3.out.size))
  clear hb
  obtain ⟨⟨c0, c1, c2, c3, c4, c5⟩, ⟨d0, d1, d2, d3, d4, d5⟩, f0, f1, f2⟩ := HC.out w4 HW4.out
  go_wp2_with fail
  clear c0 c1 c2 c3 c4 c5 d0 d1 d2 d3 d4 d5 f0 f1 f2
  refine (L1.out w4 (HB0.out.trans (HW4.out.mono HB0.out.size))).mono ?_
  rintro e w5 ⟨rfl, hb⟩
  have HW5 := Lib.hid (HW4.out.trans (hb.mono HW4.out.size))
  clear hb
  have hn := heap_new w5 (.cells #[.int .i64 sl, .int .i64 sh] 24)
  have hbx := HW5.out.alloc HW5.out.size (.cells #[.int .i64 sl, .int .i64 sh] 24)
  have HN4 := Lib.hid hn
  have HW6 := Lib.hid hbx
  clear hn
  obtain ⟨⟨c0, c1, c2, c3, c4, c5⟩, ⟨d0, d1, d2, d3, d4, d5⟩, f0, f1, f2⟩ := HC.out _ hbx
  clear hbx
  go_wp2_with fail
  obtain ⟨X4, hX⟩ : ∃ X, w5.alloc (.cells #[.int .i64 sl, .int .i64 sh] 24) = X := ⟨_, rfl⟩
  rw [hX] at HN4 HW6 ⊢
  clear hX
  clear c0 c1 c2 c3 c4 c5 d0 d1 d2 d3 d4 d5 f0 f1 f2
  obtain ⟨⟨c0, c1, c2, c3, c4, c5⟩, ⟨d0, d1, d2, d3, d4, d5⟩, f0, f1, f2⟩ := HC.out X4 HW6.out
  go_wp2_with fail
  clear c0 c1 c2 c3 c4 c5 d0 d1 d2 d3 d4 d5 f0 f1 f2
  refine (L2.out X4 (HB0.out.trans (HW6.out.mono HB0.out.size))).mono ?_
  rintro e w6 ⟨rfl, hb⟩
  have HW7 := Lib.hid (HW6.out.trans (hb.mono HW6.out.size))
  have HN4 := Lib.hid ((hb.block _ (heap_lt HN4.out)).trans HN4.out)
  clear hb
  have hn := heap_new w6 (.cells #[.int .i64 sl, .int .i64 sh] 24)
  have hbx := HW7.out.alloc HW7.out.size (.cells #[.int .i64 sl, .int .i64 sh] 24)
  have HN5 := Lib.hid hn
  have HW8 := Lib.hid hbx
  have HN4 := Lib.hid (((Below.refl w6.heap.size w6).alloc (Nat.le_refl _) (.cells #[.int .i64 sl, .int .i64 sh] 24)).block _ (heap_lt HN4.out) |>.trans HN4.out)
  clear hn
  obtain ⟨⟨c0, c1, c2, c3, c4, c5⟩, ⟨d0, d1, d2, d3, d4, d5⟩, f0, f1, f2⟩ := HC.out _ hbx
  clear hbx
  go_wp2_with fail
  obtain ⟨X5, hX⟩ : ∃ X, w6.alloc (.cells #[.int .i64 sl, .int .i64 sh] 24) = X := ⟨_, rfl⟩
  rw [hX] at HN5 HW8 HN4 ⊢
  clear hX
  clear c0 c1 c2 c3 c4 c5 d0 d1 d2 d3 d4 d5 f0 f1 f2
  obtain ⟨⟨c0, c1, c2, c3, c4, c5⟩, ⟨d0, d1, d2, d3, d4, d5⟩, f0, f1, f2⟩ := HC.out X5 HW8.out
  go_wp2_with fail
  clear c0 c1 c2 c3 c4 c5 d0 d1 d2 d3 d4 d5 f0 f1 f2
  refine (U1.out X5 (HB0.out.trans (HW8.out.mono HB0.out.size))).mono ?_
  rintro e w7 ⟨rfl, hb⟩
  have HW9 := Lib.hid (HW8.out.trans (hb.mono HW8.out.size))
  have HN4 := Lib.hid ((hb.block _ (heap_lt HN4.out)).trans HN4.out)
  have HN5 := Lib.hid ((hb.block _ (heap_lt HN5.out)).trans HN5.out)
  clear hb
  obtain ⟨⟨c0, c1, c2, c3, c4, c5⟩, ⟨d0, d1, d2, d3, d4, d5⟩, f0, f1, f2⟩ := HC.out w7 HW9.out
  go_wp2_with fail
  clear c0 c1 c2 c3 c4 c5 d0 d1 d2 d3 d4 d5 f0 f1 f2
  refine (U2.out w7 (HB0.out.trans (HW9.out.mono HB0.out.size))).mono ?_
  rintro e w8 ⟨rfl, hb⟩
  have HW10 := Lib.hid (HW9.out.trans (hb.mono HW9.out.size))
  have HN4 := Lib.hid ((hb.block _ (heap_lt HN4.out)).trans HN4.out)
  have HN5 := Lib.hid ((hb.block _ (heap_lt HN5.out)).trans HN5.out)
  clear hb
  obtain ⟨⟨c0, c1, c2, c3, c4, c5⟩, ⟨d0, d1, d2, d3, d4, d5⟩, f0, f1, f2⟩ := HC.out w8 HW10.out
  obtain ⟨pHN4, qHN4⟩ := cell2_of HN4.out
  obtain ⟨pHN5, qHN5⟩ := cell2_of HN5.out
  go_wp2_with fail
  go_ret
  exact ⟨rfl, HB0.out.trans (HW10.out.mono HB0.out.size)⟩
end Go.Proofs.Ytomcjopcfdllgaa
