/-
  Levers, Load and Pulled beside the reference: the law's body.
-/
import Derived.Test.YtomcjopcfdllgaaVLoadE
import Derived.Test.YtomcjopcfdllgaaVPulledR
import Derived.Test.YtomcjopcfdllgaaVSameL
import Derived.Test.YtomcjopcfdllgaaVWorks

namespace Go.Proofs.Ytomcjopcfdllgaa
open Go.RowKit Go.Shelf

set_option maxRecDepth 100000 in
set_option maxHeartbeats 8000000 in
theorem LeversLoad_any (v : Value) (M : Mach) (x0 x1 x2 : Int) (w : World) (hx : MachAt w.heap.size w v M) (_ : I64 x0 ∧ I64 x1 ∧ I64 x2) :
    Calls Try.prog 9 #[v, .agg #[.int .i64 x0, .int .i64 x1, .int .i64 x2]] w fun e w' => e = .returned (.bool true) ∧ Below w.heap.size w w' := by
  have HX := Lib.hid (fun W (hb : Below w.heap.size w W) => (hx.below hb).mono hb.size)
  have HI64 := Lib.hid hx.choose_spec.choose_spec.2.2.2
  obtain ⟨a, cap, a2, cap2, rfl⟩ := hx.form
  clear hx
  go_enter Try.func9, Try.ntmps9
  go_wp2_with fail
  obtain ⟨w0, hW⟩ : ∃ W, W = (w.alloc (.cells #[.slice a M.levers.length cap, .int .i64 M.water, .int .i64 M.lkLo, .int .i64 M.lkHi, .slice a2 M.bals.length cap2, .int .i64 M.wrong] 27)).alloc (.cells #[.int .i64 x0, .int .i64 x1, .int .i64 x2] 32) := ⟨_, rfl⟩
  have e0 : w0.heap[w.heap.size]? = some (.cells #[.slice a M.levers.length cap, .int .i64 M.water, .int .i64 M.lkLo, .int .i64 M.lkHi, .slice a2 M.bals.length cap2, .int .i64 M.wrong] 27) := by rw [hW]; exact heap_old1 _ _ _
  have e1 : w0.heap[w.heap.size + 1]? = some (.cells #[.int .i64 x0, .int .i64 x1, .int .i64 x2] 32) := by rw [hW]; exact heap_new1 _ _ _
  have hb : Below w.heap.size w w0 := by rw [hW]; exact ((Below.refl _ w).alloc (Nat.le_refl _) _).alloc (by simp) _
  have hsz : w0.heap.size = w.heap.size + 2 := by rw [hW]; simp
  rw [← hW]
  clear hW
  have HM := Lib.hid (fun X (hX : Below w0.heap.size w0 X) => HX.out X (hb.trans (hX.mono hb.size)))
  have HC := Lib.hid (fun X (hX : Below w0.heap.size w0 X) => (show _ ∧ _ from ⟨cells6 ((hX.block w.heap.size (by omega)).trans e0), cells3 ((hX.block (w.heap.size + 1) (by omega)).trans e1)⟩))
  have HWK := Lib.hid (fun X (hX : Below w0.heap.size w0 X) => (works_any X).mono (fun e w' (h : e = .returned (.bool true) ∧ Below X.heap.size X w') => (show e = .returned (.bool true) ∧ Below w.heap.size w w' from ⟨h.1, (hb.trans (hX.mono hb.size)).trans (h.2.mono (Nat.le_trans hb.size hX.size))⟩)))
  have HB0 := Lib.hid (Below.refl w0.heap.size w0)
  clear e0 e1 hb hsz
  refine (Far2_any _ M w0 (HM.out w0 (Below.refl _ _))).mono ?_
  rintro e w1 ⟨⟨r, rfl, hr⟩, hb⟩
  have HB1 := Lib.hid hb
  clear hb
  obtain ⟨⟨c0, c1, c2, c3, c4, c5⟩, d0, d1, d2⟩ := HC.out w1 HB1.out
  cases r with
  | true =>
    go_wp2_with (go_at_call 14; refine (HWK.out w1 HB1.out).mono ?_; rintro e wz ⟨rfl, hbz⟩; have HBZ := Lib.hid hbz; clear hbz)
    go_ret
    exact ⟨rfl, HBZ.out⟩
  | false =>
    obtain ⟨hn1, hn2, _⟩ := hr rfl
    clear hr
    go_wp2_with fail
    refine (Copy_any _ M w1 (HM.out w1 HB1.out) hn1 hn2).mono ?_
    rintro e w2 ⟨lv, bv, rfl, hlv, hbv, hb⟩
    have HB2 := Lib.hid (HB1.out.trans (hb.mono HB1.out.size))
    obtain ⟨la, lc, lb0, lo0, rfl, _⟩ := id hlv
    obtain ⟨ba, bc, bb0, bo0, rfl, _⟩ := id hbv
    have HLV := Lib.hid hlv
    have HBV := Lib.hid hbv
    clear hb hlv hbv c0 c1 c2 c3 c4 c5 d0 d1 d2 hn1 hn2
    have h6 := heap_new w2 (.cells #[.slice la M.levers.length lc, .int .i64 M.water, .int .i64 M.lkLo, .int .i64 M.lkHi, .slice ba M.bals.length bc, .int .i64 M.wrong] 27)
    have hwD := (Below.refl w2.heap.size w2).alloc (Nat.le_refl _) (.cells #[.slice la M.levers.length lc, .int .i64 M.water, .int .i64 M.lkLo, .int .i64 M.lkHi, .slice ba M.bals.length bc, .int .i64 M.wrong] 27)
    have hbD := HB2.out.alloc HB2.out.size (.cells #[.slice la M.levers.length lc, .int .i64 M.water, .int .i64 M.lkLo, .int .i64 M.lkHi, .slice ba M.bals.length bc, .int .i64 M.wrong] 27)
    have HB3 := Lib.hid hbD
    have HND := Lib.hid h6
    have HWD := Lib.hid hwD
    obtain ⟨⟨c0, c1, c2, c3, c4, c5⟩, d0, d1, d2⟩ := HC.out _ hbD
    obtain ⟨z0, z1, z2, z3, z4, z5⟩ := cells6 h6
    clear h6 hwD hbD
    go_wp2_with fail
    obtain ⟨w3, hD⟩ : ∃ w3, w2.alloc (.cells #[.slice la M.levers.length lc, .int .i64 M.water, .int .i64 M.lkLo, .int .i64 M.lkHi, .slice ba M.bals.length bc, .int .i64 M.wrong] 27) = w3 := ⟨_, rfl⟩
    rw [hD] at HB3 HND HWD ⊢
    clear hD c0 c1 c2 c3 c4 c5 d0 d1 d2 z0 z1 z2 z3 z4 z5
    have HOM := Lib.hid (fun X (hX : Below w3.heap.size w3 X) => (show MachAt X.heap.size X (.agg #[.slice la M.levers.length lc, .int .i64 M.water, .int .i64 M.lkLo, .int .i64 M.lkHi, .slice ba M.bals.length bc, .int .i64 M.wrong]) M from ⟨_, _, rfl, ((HLV.out.below HWD.out).mono HWD.out.size).below hX |>.mono hX.size, ((HBV.out.below HWD.out).mono HWD.out.size).below hX |>.mono hX.size, HI64.out⟩))
    have HE3 := Lib.hid (Below.refl w3.heap.size w3)
    obtain ⟨⟨⟨la0, ha0⟩, le⟩, hla⟩ : ∃ q, anyL M (ask3 x0 x1 0) (loadA M x0 x1) = q := ⟨_, rfl⟩
    obtain ⟨⟨pv, pe⟩, hpa⟩ : ∃ q, anyA M (ask3 x0 x1 x2) (pulledA M x0 x1 x2) = q := ⟨_, rfl⟩
    have HP1 := Lib.hid (fun X (hX : Below w3.heap.size w3 X) => lLoad_all _ M x0 x1 X (HOM.out X hX))
    have HP2 := Lib.hid (fun X (hX : Below w0.heap.size w0 X) => uLoad_all _ M x0 x1 X (HM.out X hX))
    have HP3 := Lib.hid (fun X (hX : Below w3.heap.size w3 X) => Pulled_any2 _ M x0 x1 x2 X (HOM.out X hX))
    have HP4 := Lib.hid (fun X (hX : Below w0.heap.size w0 X) => uPulled_all _ M x0 x1 x2 X (HM.out X hX))
    rw [hla] at HP1 HP2
    rw [hpa] at HP3 HP4
    clear hla hpa
    refine (HP1.out w3 HE3.out).mono ?_
    rintro e w4 ⟨rfl, hb⟩
    have HE4 := Lib.hid (HE3.out.trans (hb.mono HE3.out.size))
    have HB4 := Lib.hid (HB3.out.trans (HE4.out.mono HB3.out.size))
    clear hb
    have HS4 := Lib.hid (heap_new w4 (.cells #[.int .i64 la0, .int .i64 ha0] 24))
    obtain ⟨w5, hD4⟩ : ∃ W, W = w4.alloc (.cells #[.int .i64 la0, .int .i64 ha0] 24) := ⟨_, rfl⟩
    have HE5 := Lib.hid (show Below w3.heap.size w3 w5 by rw [hD4]; exact HE4.out.alloc HE4.out.size _)
    have HB5 := Lib.hid (HB3.out.trans (HE5.out.mono HB3.out.size))
    rw [← hD4] at HS4
    obtain ⟨⟨c0, c1, c2, c3, c4, c5⟩, d0, d1, d2⟩ := HC.out w5 HB5.out
    obtain ⟨z0, z1, z2, z3, z4, z5⟩ := cells6 ((HE5.out.block w2.heap.size (heap_lt HND.out)).trans HND.out)
    rw [hD4] at c0 c1 c2 c3 c4 c5 d0 d1 d2 z0 z1 z2 z3 z4 z5
    go_wp2_with fail
    rw [← hD4]
    clear hD4 c0 c1 c2 c3 c4 c5 d0 d1 d2 z0 z1 z2 z3 z4 z5
    refine (HP2.out w5 HB5.out).mono ?_
    rintro e w6 ⟨rfl, hb⟩
    have HE6 := Lib.hid (HE5.out.trans (hb.mono HE5.out.size))
    have HB6 := Lib.hid (HB3.out.trans (HE6.out.mono HB3.out.size))
    have HSA6 := Lib.hid ((hb.block w4.heap.size (heap_lt HS4.out)).trans HS4.out)
    clear hb
    have HSB6 := Lib.hid (heap_new w6 (.cells #[.int .i64 la0, .int .i64 ha0] 24))
    obtain ⟨w7, hD6⟩ : ∃ W, W = w6.alloc (.cells #[.int .i64 la0, .int .i64 ha0] 24) := ⟨_, rfl⟩
    have HE7 := Lib.hid (show Below w3.heap.size w3 w7 by rw [hD6]; exact HE6.out.alloc HE6.out.size _)
    have HB7 := Lib.hid (HB3.out.trans (HE7.out.mono HB3.out.size))
    rw [← hD6] at HSB6
    have HSA7 := Lib.hid (show w7.heap[w4.heap.size]? = some (.cells #[.int .i64 la0, .int .i64 ha0] 24) by rw [hD6]; exact (Below.heap_alloc w6 _ _ (heap_lt HSA6.out)).trans HSA6.out)
    obtain ⟨⟨c0, c1, c2, c3, c4, c5⟩, d0, d1, d2⟩ := HC.out w7 HB7.out
    obtain ⟨z0, z1, z2, z3, z4, z5⟩ := cells6 ((HE7.out.block w2.heap.size (heap_lt HND.out)).trans HND.out)
    rw [hD6] at c0 c1 c2 c3 c4 c5 d0 d1 d2 z0 z1 z2 z3 z4 z5
    go_wp2_with fail
    rw [← hD6]
    clear hD6 c0 c1 c2 c3 c4 c5 d0 d1 d2 z0 z1 z2 z3 z4 z5
    refine (HP3.out w7 HE7.out).mono ?_
    rintro e w8 ⟨rfl, hb⟩
    have HE8 := Lib.hid (HE7.out.trans (hb.mono HE7.out.size))
    have HB8 := Lib.hid (HB3.out.trans (HE8.out.mono HB3.out.size))
    have HSA8 := Lib.hid ((hb.block w4.heap.size (heap_lt HSA7.out)).trans HSA7.out)
    have HSB8 := Lib.hid ((hb.block w6.heap.size (heap_lt HSB6.out)).trans HSB6.out)
    clear hb
    obtain ⟨⟨c0, c1, c2, c3, c4, c5⟩, d0, d1, d2⟩ := HC.out w8 HB8.out
    obtain ⟨z0, z1, z2, z3, z4, z5⟩ := cells6 ((HE8.out.block w2.heap.size (heap_lt HND.out)).trans HND.out)
    obtain ⟨s0, s1⟩ := cells2S HSA8.out
    obtain ⟨t0, t1⟩ := cells2S HSB8.out
    go_wp2_with fail
    refine (HP4.out w8 HB8.out).mono ?_
    rintro e w9 ⟨rfl, hb⟩
    have HE9 := Lib.hid (HE8.out.trans (hb.mono HE8.out.size))
    have HB9 := Lib.hid (HB3.out.trans (HE9.out.mono HB3.out.size))
    have HSA9 := Lib.hid ((hb.block w4.heap.size (heap_lt HSA8.out)).trans HSA8.out)
    have HSB9 := Lib.hid ((hb.block w6.heap.size (heap_lt HSB8.out)).trans HSB8.out)
    clear hb
    clear c0 c1 c2 c3 c4 c5 d0 d1 d2 z0 z1 z2 z3 z4 z5 s0 s1 t0 t1
    obtain ⟨⟨c0, c1, c2, c3, c4, c5⟩, d0, d1, d2⟩ := HC.out w9 HB9.out
    obtain ⟨z0, z1, z2, z3, z4, z5⟩ := cells6 ((HE9.out.block w2.heap.size (heap_lt HND.out)).trans HND.out)
    obtain ⟨s0, s1⟩ := cells2S HSA9.out
    obtain ⟨t0, t1⟩ := cells2S HSB9.out
    go_wp2_with fail
    refine (same_any _ _ M w9 (HOM.out w9 HE9.out) (HM.out w9 HB9.out)).mono ?_
    rintro e w10 ⟨rfl, hb⟩
    have HB10 := Lib.hid (HB9.out.trans (hb.mono HB9.out.size))
    clear hb
    go_wp2_with (go_at_call 14; refine (HWK.out w10 HB10.out).mono ?_; rintro e wz ⟨rfl, hbz⟩; have HBZ := Lib.hid hbz; clear hbz)
    go_ret
    exact ⟨rfl, HBZ.out⟩
end Go.Proofs.Ytomcjopcfdllgaa
