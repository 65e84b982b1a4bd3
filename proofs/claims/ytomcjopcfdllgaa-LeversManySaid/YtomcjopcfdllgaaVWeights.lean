/-
  Levers, the theorem of more weight: the law's body.
-/
import Derived.Test.YtomcjopcfdllgaaVCopy

namespace Go.Proofs.Ytomcjopcfdllgaa
open Go.RowKit Go.Shelf

theorem ask3_iff {x y z : Int} : ask3 x y z = true ↔ (0 ≤ x ∧ x ≤ 9999) ∧ (0 ≤ y ∧ y ≤ 99) ∧ 0 ≤ z ∧ z ≤ 999999999 := by
  simp only [ask3, Bool.and_eq_true, wB_iff, and_assoc]
theorem askB_of {x y : Int} (hx : 0 ≤ x ∧ x ≤ 9999) (hy : 0 ≤ y ∧ y ≤ 99) : askB x y 0 0 = true := askB_iff.2 ⟨hx, hy, by decide, by decide⟩
theorem loadA_none {M : Mach} {x y : Int} (h : truthsM M = []) : loadA M x y = ((0, 0), 3) := by unfold loadA; rw [h]; rfl
theorem loadA_some {M : Mach} {x y : Int} (h : truthsM M ≠ []) : loadA M x y = ((loadLo M x y, loadHi M x y), 0) := by
  unfold loadA
  rw [if_neg (by rw [List.isEmpty_iff]; exact h)]
theorem cells3' {W : World} {b : Nat} {v0 v1 v2 : Value} {t : TypeId} (e : W.heap[b]? = some (.cells #[v0, v1, v2] t)) : W.cell? ⟨b, 0, none⟩ = some v0 ∧ W.cell? ⟨b, 1, none⟩ = some v1 ∧ W.cell? ⟨b, 2, none⟩ = some v2 := cells3 e

set_option maxRecDepth 100000 in
set_option maxHeartbeats 8000000 in
theorem LeversWeights_any (v : Value) (M : Mach) (x0 x1 x2 y0 y1 y2 : Int) (w : World) (hx : MachAt w.heap.size w v M) (hi : I64 x0 ∧ I64 x1 ∧ I64 x2 ∧ I64 y0 ∧ I64 y1 ∧ I64 y2) :
    Calls Try.prog 5 #[v, .agg #[.int .i64 x0, .int .i64 x1, .int .i64 x2], .agg #[.int .i64 y0, .int .i64 y1, .int .i64 y2]] w fun e w' => e = .returned (.bool true) ∧ Below w.heap.size w w' := by
  have HX := Lib.hid (fun W (hb : Below w.heap.size w W) => (hx.below hb).mono hb.size)
  obtain ⟨a, cap, a2, cap2, rfl⟩ := hx.form
  clear hx
  unfold I64 at hi
  go_enter Try.func5, Try.ntmps5
  go_wp2_with fail
  obtain ⟨W, hW⟩ : ∃ W, W = ((w.alloc (.cells #[.slice a M.levers.length cap, .int .i64 M.water, .int .i64 M.lkLo, .int .i64 M.lkHi, .slice a2 M.bals.length cap2, .int .i64 M.wrong] 27)).alloc (.cells #[.int .i64 x0, .int .i64 x1, .int .i64 x2] 32)).alloc (.cells #[.int .i64 y0, .int .i64 y1, .int .i64 y2] 32) := ⟨_, rfl⟩
  have h3 := heap3w w (.cells #[.slice a M.levers.length cap, .int .i64 M.water, .int .i64 M.lkLo, .int .i64 M.lkHi, .slice a2 M.bals.length cap2, .int .i64 M.wrong] 27) (.cells #[.int .i64 x0, .int .i64 x1, .int .i64 x2] 32) (.cells #[.int .i64 y0, .int .i64 y1, .int .i64 y2] 32)
  rw [← hW] at h3 ⊢
  clear hW
  obtain ⟨e0, e1, e2, hb, hsz⟩ := h3
  have HB := Lib.hid hb
  have HM := Lib.hid (fun X (hX : Below W.heap.size W X) => HX.out X (hb.trans (hX.mono hb.size)))
  have HC := Lib.hid (fun X (hX : Below W.heap.size W X) => (show _ ∧ _ ∧ _ from ⟨cells6 ((hX.block w.heap.size (by omega)).trans e0), cells3 ((hX.block (w.heap.size + 1) (by omega)).trans e1), cells3 ((hX.block (w.heap.size + 1 + 1) (by omega)).trans e2)⟩))
  have HWK := Lib.hid (fun X (hX : Below W.heap.size W X) => (works_any X).mono (fun e w' (h : e = .returned (.bool true) ∧ Below X.heap.size X w') => (show e = .returned (.bool true) ∧ Below w.heap.size w w' from ⟨h.1, (hb.trans (hX.mono hb.size)).trans (h.2.mono (Nat.le_trans hb.size hX.size))⟩)))
  clear e0 e1 e2 hb hsz
  refine (ready_any _ M W (HM.out W (Below.refl _ _))).mono ?_
  rintro e w1 ⟨⟨r, rfl, hr⟩, hb⟩
  have HB1 := Lib.hid hb
  obtain ⟨⟨c0, c1, c2, c3, c4, c5⟩, ⟨d0, d1, d2⟩, f0, f1, f2⟩ := HC.out w1 hb
  clear hb
  cases r with
  | false =>
    go_wp2_with (go_at_call 14; refine (HWK.out w1 HB1.out).mono ?_; rintro e w2 ⟨rfl, hbz⟩; have HBZ := Lib.hid hbz; clear hbz)
    go_ret
    exact ⟨rfl, HBZ.out⟩
  | true =>
    have HV := Lib.hid (validM_iff.1 (hr rfl))
    have HVB := Lib.hid (hr rfl)
    clear hr
    go_wp2_with fail
    refine (isAsk_any x0 x1 x2 w1).mono ?_
    rintro e w2 ⟨rfl, hb⟩
    have HB2 := Lib.hid (HB1.out.trans (hb.mono HB1.out.size))
    clear hb c0 c1 c2 c3 c4 c5 d0 d1 d2 f0 f1 f2
    obtain ⟨⟨c0, c1, c2, c3, c4, c5⟩, ⟨d0, d1, d2⟩, f0, f1, f2⟩ := HC.out w2 HB2.out
    cases h1 : ask3 x0 x1 x2 with
    | false =>
      go_wp2_with (go_at_call 14; refine (HWK.out w2 HB2.out).mono ?_; rintro e w3 ⟨rfl, hbz⟩; have HBZ := Lib.hid hbz; clear hbz)
      go_ret
      exact ⟨rfl, HBZ.out⟩
    | true =>
      obtain ⟨hx0, hx1, hx2⟩ := ask3_iff.1 h1
      clear h1
      by_cases hk1 : y0 < x0
      · go_wp2_with (go_at_call 14; refine (HWK.out w2 HB2.out).mono ?_; rintro e w3 ⟨rfl, hbz⟩; have HBZ := Lib.hid hbz; clear hbz)
        go_ret
        exact ⟨rfl, HBZ.out⟩
      by_cases hk2 : x1 < y1
      · go_wp2_with (go_at_call 14; refine (HWK.out w2 HB2.out).mono ?_; rintro e w3 ⟨rfl, hbz⟩; have HBZ := Lib.hid hbz; clear hbz)
        go_ret
        exact ⟨rfl, HBZ.out⟩
      cases h2 : ask3 y0 y1 0 with
      | false =>
        go_wp2_with (first | (go_at_call 33; refine (IsAsk_any _ _ _ _).mono ?_; rintro e w' ⟨rfl, rfl⟩; rw [h2]) | (go_at_call 14; refine (HWK.out w2 HB2.out).mono ?_; rintro e w3 ⟨rfl, hbz⟩; have HBZ := Lib.hid hbz; clear hbz))
        go_ret
        exact ⟨rfl, HBZ.out⟩
      | true =>
        obtain ⟨hy0, hy1, _⟩ := ask3_iff.1 h2
        by_cases hk3 : y2 < 1
        · go_wp2_with (first | (go_at_call 33; refine (IsAsk_any _ _ _ _).mono ?_; rintro e w' ⟨rfl, rfl⟩; rw [h2]) | (go_at_call 14; refine (HWK.out w2 HB2.out).mono ?_; rintro e w3 ⟨rfl, hbz⟩; have HBZ := Lib.hid hbz; clear hbz))
          go_ret
          exact ⟨rfl, HBZ.out⟩
        by_cases hk4 : 100 < y2
        · go_wp2_with (first | (go_at_call 33; refine (IsAsk_any _ _ _ _).mono ?_; rintro e w' ⟨rfl, rfl⟩; rw [h2]) | (go_at_call 14; refine (HWK.out w2 HB2.out).mono ?_; rintro e w3 ⟨rfl, hbz⟩; have HBZ := Lib.hid hbz; clear hbz))
          go_ret
          exact ⟨rfl, HBZ.out⟩
        go_wp2_with (go_at_call 33; refine (IsAsk_any _ _ _ _).mono ?_; rintro e w' ⟨rfl, rfl⟩; rw [h2])
        obtain ⟨⟨⟨sl, sh⟩, er⟩, hA⟩ : ∃ q, loadA M x0 x1 = q := ⟨_, rfl⟩
        obtain ⟨⟨⟨tl, th⟩, fr⟩, hA2⟩ : ∃ q, loadA M y0 y1 = q := ⟨_, rfl⟩
        have hL1 := Load_any _ M x0 x1 w2 (HM.out w2 HB2.out) HVB.out (askB_of hx0 hx1)
        rw [hA] at hL1
        refine hL1.mono ?_
        rintro e w3 ⟨rfl, hb⟩
        have HB3 := Lib.hid (HB2.out.trans (hb.mono HB2.out.size))
        clear hb hL1 c0 c1 c2 c3 c4 c5 d0 d1 d2 f0 f1 f2
        have hn3 := heap_new w3 (.cells #[.int .i64 sl, .int .i64 sh] 24)
        have hb3 := HB3.out.alloc HB3.out.size (.cells #[.int .i64 sl, .int .i64 sh] 24)
        have HN3 := Lib.hid hn3
        have HBX3 := Lib.hid hb3
        obtain ⟨⟨c0, c1, c2, c3, c4, c5⟩, ⟨d0, d1, d2⟩, f0, f1, f2⟩ := HC.out _ hb3
        clear hn3 hb3
        go_wp2_with fail
        obtain ⟨X3, hX3⟩ : ∃ X, w3.alloc (.cells #[.int .i64 sl, .int .i64 sh] 24) = X := ⟨_, rfl⟩
        rw [hX3] at HN3 HBX3 ⊢
        have hs3 : w3.heap.size + 1 = X3.heap.size := by rw [← hX3]; simp
        clear hX3
        have hL2 := Load_any _ M y0 y1 X3 (HM.out X3 HBX3.out) HVB.out (askB_of hy0 hy1)
        rw [hA2] at hL2
        refine hL2.mono ?_
        rintro e w4 ⟨rfl, hb⟩
        have HB4 := Lib.hid (HBX3.out.trans (hb.mono HBX3.out.size))
        have HS4 := Lib.hid ((hb.block w3.heap.size (by omega)).trans HN3.out)
        have hs4 := hb.size
        clear hb hL2 c0 c1 c2 c3 c4 c5 d0 d1 d2 f0 f1 f2
        obtain ⟨X4, hX4⟩ : ∃ X, w4.alloc (.cells #[.int .i64 tl, .int .i64 th] 24) = X := ⟨_, rfl⟩
        have HN4 := Lib.hid (hX4 ▸ heap_new w4 (.cells #[.int .i64 tl, .int .i64 th] 24) : X4.heap[w4.heap.size]? = some (.cells #[.int .i64 tl, .int .i64 th] 24))
        have hb4 : Below w4.heap.size w4 X4 := by rw [← hX4]; exact (Below.refl _ w4).alloc (Nat.le_refl _) _
        have HBX4 := Lib.hid (HB4.out.trans (hb4.mono HB4.out.size))
        have HS5 := Lib.hid ((hb4.block w3.heap.size (by omega)).trans HS4.out)
        clear hb4
        have hb4x := HB4.out.alloc HB4.out.size (.cells #[.int .i64 tl, .int .i64 th] 24)
        obtain ⟨⟨c0, c1, c2, c3, c4, c5⟩, ⟨d0, d1, d2⟩, f0, f1, f2⟩ := HC.out _ hb4x
        clear hb4x
        have HX4 := Lib.hid hX4
        clear hX4
        by_cases he : truthsM M = []
        · rw [loadA_none he] at hA hA2
          injection hA with hA3 hA4
          injection hA2 with hA5 hA6
          subst hA4; subst hA6
          go_wp2_with (go_at_call 29; refine (isKnown_any 3 _ (.inr rfl)).mono ?_; rintro e w' ⟨rfl, rfl⟩)
          rw [HX4.out]
          obtain ⟨WC, hWC⟩ : ∃ WC, X4 = WC := ⟨_, rfl⟩
          have HBC := HBX4
          rw [hWC] at HBC ⊢
          refine (Copy_any _ M WC (HM.out WC HBC.out) (by have := HV.out.nl; omega) (by have := HV.out.nb; omega)).mono ?_
          rintro e w6 ⟨lv, bv, rfl, hlv, hbv, hb⟩
          have HB6 := Lib.hid (HBC.out.trans (hb.mono HBC.out.size))
          obtain ⟨la, lc, lb0, lo0, rfl, _⟩ := id hlv
          obtain ⟨ba, bc, bb0, bo0, rfl, _⟩ := id hbv
          have HLV := Lib.hid hlv
          have HBV := Lib.hid hbv
          clear hb hlv hbv c0 c1 c2 c3 c4 c5 d0 d1 d2 f0 f1 f2
          have h6 := heap_new w6 (.cells #[.slice la M.levers.length lc, .int .i64 0, .int .i64 M.lkLo, .int .i64 M.lkHi, .slice ba M.bals.length bc, .int .i64 M.wrong] 27)
          have hwD := (Below.refl w6.heap.size w6).alloc (Nat.le_refl _) (.cells #[.slice la M.levers.length lc, .int .i64 0, .int .i64 M.lkLo, .int .i64 M.lkHi, .slice ba M.bals.length bc, .int .i64 M.wrong] 27)
          have hbD := HB6.out.alloc HB6.out.size (.cells #[.slice la M.levers.length lc, .int .i64 0, .int .i64 M.lkLo, .int .i64 M.lkHi, .slice ba M.bals.length bc, .int .i64 M.wrong] 27)
          have HBD0 := Lib.hid hbD
          have HND0 := Lib.hid h6
          have HWD0 := Lib.hid hwD
          obtain ⟨⟨c0, c1, c2, c3, c4, c5⟩, ⟨d0, d1, d2⟩, f0, f1, f2⟩ := HC.out _ hbD
          have hkx0 : 0 ≤ y2 * x0 := Int.mul_nonneg (by omega) hx0.1
          have hkx1 : y2 * x0 ≤ 100 * 9999 := mul_mono (by omega) hx0.1 (by omega) hx0.2
          obtain ⟨KX, hKX⟩ : ∃ KX, y2 * x0 = KX := ⟨_, rfl⟩
          have hw1 : wrap64 (y2 * x0) = KX := by rw [hKX] at hkx0 hkx1 ⊢; exact wrap_in (by omega)
          have hw2 : IntKind.i64.wrap (y2 * x0) = KX := by rw [hKX] at hkx0 hkx1 ⊢; exact IntWalk.i64_in _ (by omega)
          rw [hKX] at hkx0 hkx1
          have HKX := Lib.hid hKX
          clear hKX h6 hbD hwD
          by_cases hkx : 9999 < KX
          · go_wp2_with (go_at_call 14; refine (HWK.out _ HBD0.out).mono ?_; rintro e wz ⟨rfl, hbz⟩; have HBZ := Lib.hid hbz; clear hbz)
            go_ret
            exact ⟨rfl, HBZ.out⟩
          go_wp2_with fail
          obtain ⟨D, hD⟩ : ∃ D, w6.alloc (.cells #[.slice la M.levers.length lc, .int .i64 0, .int .i64 M.lkLo, .int .i64 M.lkHi, .slice ba M.bals.length bc, .int .i64 M.wrong] 27) = D := ⟨_, rfl⟩
          rw [hD] at HBD0 HND0 HWD0 ⊢
          clear hD c0 c1 c2 c3 c4 c5 d0 d1 d2 f0 f1 f2
          have HND := Lib.hid (show D.heap[w6.heap.size]? = some (.cells #[.slice la M.levers.length lc, .int .i64 0, .int .i64 M.lkLo, .int .i64 M.lkHi, .slice ba M.bals.length bc, .int .i64 M.wrong] 27) from HND0.out)
          have HDV := Lib.hid (dry_valid HV.out)
          have HDB := Lib.hid (validM_iff.2 HDV.out)
          have HDM := Lib.hid (fun X (hX : Below D.heap.size D X) => (show MachAt X.heap.size X (.agg #[.slice la M.levers.length lc, .int .i64 0, .int .i64 M.lkLo, .int .i64 M.lkHi, .slice ba M.bals.length bc, .int .i64 M.wrong]) (dryM M) from ⟨_, _, rfl, ((HLV.out.below HWD0.out).mono HWD0.out.size).below hX |>.mono hX.size, ((HBV.out.below HWD0.out).mono HWD0.out.size).below hX |>.mono hX.size, by have := HV.out.leak; have := HV.out.wrong; unfold I64; exact ⟨by show (-9223372036854775808 : Int) ≤ 0 ∧ (0 : Int) ≤ 9223372036854775807; decide, by show (-9223372036854775808 : Int) ≤ M.lkLo ∧ M.lkLo ≤ 9223372036854775807; omega, by show (-9223372036854775808 : Int) ≤ M.lkHi ∧ M.lkHi ≤ 9223372036854775807; omega, by show (-9223372036854775808 : Int) ≤ M.wrong ∧ M.wrong ≤ 9223372036854775807; omega⟩⟩))
          have hlD := heap_lt HND.out
          obtain ⟨⟨⟨ul, uh⟩, gr⟩, hB⟩ : ∃ q, loadA (dryM M) x0 x1 = q := ⟨_, rfl⟩
          obtain ⟨⟨⟨vl, vh⟩, hr⟩, hB2⟩ : ∃ q, loadA (dryM M) KX x1 = q := ⟨_, rfl⟩
          have hL3 := Load_any _ (dryM M) x0 x1 D (HDM.out D (Below.refl _ _)) HDB.out (askB_of hx0 hx1)
          rw [hB] at hL3
          refine hL3.mono ?_
          rintro e w7 ⟨rfl, hb⟩
          have HB7 := Lib.hid hb
          clear hb hL3
          have hn7 := heap_new w7 (.cells #[.int .i64 ul, .int .i64 uh] 24)
          have hb7 := HB7.out.alloc HB7.out.size (.cells #[.int .i64 ul, .int .i64 uh] 24)
          have HN7 := Lib.hid hn7
          have HBX7 := Lib.hid hb7
          have HW7 := Lib.hid (HBD0.out.trans (hb7.mono HBD0.out.size))
          obtain ⟨⟨c0, c1, c2, c3, c4, c5⟩, ⟨d0, d1, d2⟩, f0, f1, f2⟩ := HC.out _ HW7.out
          obtain ⟨z0, z1, z2, z3, z4, z5⟩ := cells6 ((hb7.block w6.heap.size hlD).trans HND.out)
          clear hn7 hb7
          go_wp2_with fail
          obtain ⟨X7, hX7⟩ : ∃ X, w7.alloc (.cells #[.int .i64 ul, .int .i64 uh] 24) = X := ⟨_, rfl⟩
          rw [hX7] at HN7 HBX7 HW7 ⊢
          have hs7 : w7.heap.size + 1 = X7.heap.size := by rw [← hX7]; simp
          clear hX7 c0 c1 c2 c3 c4 c5 d0 d1 d2 f0 f1 f2 z0 z1 z2 z3 z4 z5
          have hL4 := Load_any _ (dryM M) KX x1 X7 (HDM.out X7 HBX7.out) HDB.out (askB_of ⟨hkx0, by omega⟩ hx1)
          rw [hB2] at hL4
          refine hL4.mono ?_
          rintro e w8 ⟨rfl, hb⟩
          have HB8 := Lib.hid (HW7.out.trans (hb.mono HW7.out.size))
          have HS8 := Lib.hid ((hb.block w7.heap.size (by omega)).trans HN7.out)
          have hs8 := hb.size
          clear hb hL4
          obtain ⟨X8, hX8⟩ : ∃ X, w8.alloc (.cells #[.int .i64 vl, .int .i64 vh] 24) = X := ⟨_, rfl⟩
          have HN8 := Lib.hid (hX8 ▸ heap_new w8 (.cells #[.int .i64 vl, .int .i64 vh] 24) : X8.heap[w8.heap.size]? = some (.cells #[.int .i64 vl, .int .i64 vh] 24))
          have hb8 : Below w8.heap.size w8 X8 := by rw [← hX8]; exact (Below.refl _ w8).alloc (Nat.le_refl _) _
          have HBX8 := Lib.hid (HB8.out.trans (hb8.mono HB8.out.size))
          have HS9 := Lib.hid ((hb8.block w7.heap.size (by omega)).trans HS8.out)
          have HB8X := Lib.hid (HB8.out.alloc HB8.out.size (.cells #[.int .i64 vl, .int .i64 vh] 24))
          have HX8 := Lib.hid hX8
          clear hb8 hX8
          by_cases he2 : truthsM (dryM M) = []
          · rw [loadA_none he2] at hB hB2
            injection hB with hB3 hB4
            injection hB2 with hB5 hB6
            subst hB4; subst hB6
            go_wp2_with (first | (go_at_call 29; refine (isKnown_any 3 _ (.inr rfl)).mono ?_; rintro e w' ⟨rfl, rfl⟩) | (go_at_call 14; refine (HWK.out _ HB8X.out).mono ?_; rintro e wz ⟨rfl, hbz⟩; have HBZ := Lib.hid hbz; clear hbz))
            go_ret
            exact ⟨rfl, HBZ.out⟩
          · rw [loadA_some he2] at hB hB2
            injection hB with hB3 hB4
            injection hB2 with hB5 hB6
            subst hB4; subst hB6
            have hsu := load_sane HDV.out hx0 hx1.1 he2
            have hsv := load_sane HDV.out (w := KX) (m := x1) ⟨hkx0, by omega⟩ hx1.1 he2
            have hlt := load_times HV.out (k := y2) (w := x0) (m := x1) (by omega) hx0 (by rw [HKX.out]; omega) hx1.1 he2
            rw [HKX.out] at hlt
            injection hB3 with hB7 hB8
            injection hB5 with hB9 hB10
            rw [hB7, hB8] at hsu hlt
            rw [hB9, hB10] at hsv hlt
            clear hB7 hB8 hB9 hB10
            have hpl0 : 0 ≤ y2 * ul := Int.mul_nonneg (by omega) hsu.1
            have hpl1 : y2 * ul ≤ 100 * 1000000000000000 := mul_mono (by omega) hsu.1 (by omega) (by omega)
            have hph0 : 0 ≤ y2 * uh := Int.mul_nonneg (by omega) (by omega)
            have hph1 : y2 * uh ≤ 100 * 1000000000000000 := mul_mono (by omega) (by omega) (by omega) (by omega)
            obtain ⟨PL, hPL⟩ : ∃ P, y2 * ul = P := ⟨_, rfl⟩
            obtain ⟨PH, hPH⟩ : ∃ P, y2 * uh = P := ⟨_, rfl⟩
            have hwl1 : wrap64 (y2 * ul) = PL := by rw [hPL] at hpl0 hpl1 ⊢; exact wrap_in (by omega)
            have hwl2 : IntKind.i64.wrap (y2 * ul) = PL := by rw [hPL] at hpl0 hpl1 ⊢; exact IntWalk.i64_in _ (by omega)
            have hwh1 : wrap64 (y2 * uh) = PH := by rw [hPH] at hph0 hph1 ⊢; exact wrap_in (by omega)
            have hwh2 : IntKind.i64.wrap (y2 * uh) = PH := by rw [hPH] at hph0 hph1 ⊢; exact IntWalk.i64_in _ (by omega)
            rw [hPL, hPH] at hlt
            clear hPL hPH hpl0 hpl1 hph0 hph1
            obtain ⟨q0, q1⟩ := cell2_of (HX8.out.symm ▸ HS9.out : (w8.alloc (.cells #[.int .i64 vl, .int .i64 vh] 24)).heap[w7.heap.size]? = _)
            go_wp2_with (go_at_call 29; refine (isKnown_any 0 _ (.inl rfl)).mono ?_; rintro e w' ⟨rfl, rfl⟩)
            rw [HX8.out]
            refine (sane_any ul uh X8 ⟨hsu.1, hsu.2.1, hsu.2.2.2⟩).mono ?_
            rintro e w9 ⟨rfl, hb⟩
            have HB9 := Lib.hid (HBX8.out.trans (hb.mono HBX8.out.size))
            have HT9 := Lib.hid ((hb.block w8.heap.size (heap_lt HN8.out)).trans HN8.out)
            have HU9 := Lib.hid ((hb.block w7.heap.size (heap_lt HS9.out)).trans HS9.out)
            clear hb q0 q1
            obtain ⟨r0, r1⟩ := cell2_of HT9.out
            go_wp2_with fail
            refine (sane_any vl vh w9 ⟨hsv.1, hsv.2.1, hsv.2.2.2⟩).mono ?_
            rintro e wa ⟨rfl, hb⟩
            have HBA := Lib.hid (HB9.out.trans (hb.mono HB9.out.size))
            obtain ⟨r0, r1⟩ := cell2_of ((hb.block w8.heap.size (heap_lt HT9.out)).trans HT9.out)
            obtain ⟨q0, q1⟩ := cell2_of ((hb.block w7.heap.size (heap_lt HU9.out)).trans HU9.out)
            have hge1 : PL ≤ vl := hlt.1
            have hge2 : vh ≤ PH := hlt.2
            clear hb
            go_wp2_with (go_at_call 14; refine (HWK.out wa HBA.out).mono ?_; rintro e wz ⟨rfl, hbz⟩; have HBZ := Lib.hid hbz; clear hbz)
            go_ret
            exact ⟨rfl, HBZ.out⟩
        · rw [loadA_some he] at hA hA2
          injection hA with hA3 hA4
          injection hA2 with hA5 hA6
          subst hA4; subst hA6
          have hsx := load_sane HV.out hx0 hx1.1 he
          have hsy := load_sane HV.out hy0 hy1.1 he
          have hmo := load_mono HV.out (x0 := x0) (x1 := x1) (y0 := y0) (y1 := y1) (by omega) (by omega)
          injection hA3 with hA7 hA8
          injection hA5 with hA9 hA10
          rw [hA7, hA8] at hsx
          rw [hA9, hA10] at hsy
          rw [hA7, hA8, hA9, hA10] at hmo
          clear hA7 hA8 hA9 hA10
          obtain ⟨s0, s1⟩ := cell2_of (HX4.out.symm ▸ HS5.out : (w4.alloc (.cells #[.int .i64 tl, .int .i64 th] 24)).heap[w3.heap.size]? = _)
          go_wp2_with (go_at_call 29; refine (isKnown_any 0 _ (.inl rfl)).mono ?_; rintro e w' ⟨rfl, rfl⟩)
          rw [HX4.out]
          refine (sane_any sl sh X4 ⟨hsx.1, hsx.2.1, hsx.2.2.2⟩).mono ?_
          rintro e w5 ⟨rfl, hb⟩
          have HB5 := Lib.hid (HBX4.out.trans (hb.mono HBX4.out.size))
          have HT5 := Lib.hid ((hb.block w4.heap.size (heap_lt HN4.out)).trans HN4.out)
          have HS6 := Lib.hid ((hb.block w3.heap.size (heap_lt HS5.out)).trans HS5.out)
          clear hb s0 s1 c0 c1 c2 c3 c4 c5 d0 d1 d2 f0 f1 f2
          obtain ⟨t0, t1⟩ := cell2_of HT5.out
          go_wp2_with fail
          refine (sane_any tl th w5 ⟨hsy.1, hsy.2.1, hsy.2.2.2⟩).mono ?_
          rintro e w5' ⟨rfl, hb⟩
          have HBC := Lib.hid (HB5.out.trans (hb.mono HB5.out.size))
          obtain ⟨t0, t1⟩ := cell2_of ((hb.block w4.heap.size (heap_lt HT5.out)).trans HT5.out)
          obtain ⟨s0, s1⟩ := cell2_of ((hb.block w3.heap.size (heap_lt HS6.out)).trans HS6.out)
          obtain ⟨⟨c0, c1, c2, c3, c4, c5⟩, ⟨d0, d1, d2⟩, f0, f1, f2⟩ := HC.out w5' HBC.out
          clear hb
          have hn1 : ¬ tl < sl := by omega
          have hn2 : ¬ th < sh := by omega
          go_wp2_with fail
          obtain ⟨WC, hWC⟩ : ∃ WC, w5' = WC := ⟨_, rfl⟩
          rw [hWC] at HBC ⊢
          clear s0 s1 t0 t1
          refine (Copy_any _ M WC (HM.out WC HBC.out) (by have := HV.out.nl; omega) (by have := HV.out.nb; omega)).mono ?_
          rintro e w6 ⟨lv, bv, rfl, hlv, hbv, hb⟩
          have HB6 := Lib.hid (HBC.out.trans (hb.mono HBC.out.size))
          obtain ⟨la, lc, lb0, lo0, rfl, _⟩ := id hlv
          obtain ⟨ba, bc, bb0, bo0, rfl, _⟩ := id hbv
          have HLV := Lib.hid hlv
          have HBV := Lib.hid hbv
          clear hb hlv hbv c0 c1 c2 c3 c4 c5 d0 d1 d2 f0 f1 f2
          have h6 := heap_new w6 (.cells #[.slice la M.levers.length lc, .int .i64 0, .int .i64 M.lkLo, .int .i64 M.lkHi, .slice ba M.bals.length bc, .int .i64 M.wrong] 27)
          have hwD := (Below.refl w6.heap.size w6).alloc (Nat.le_refl _) (.cells #[.slice la M.levers.length lc, .int .i64 0, .int .i64 M.lkLo, .int .i64 M.lkHi, .slice ba M.bals.length bc, .int .i64 M.wrong] 27)
          have hbD := HB6.out.alloc HB6.out.size (.cells #[.slice la M.levers.length lc, .int .i64 0, .int .i64 M.lkLo, .int .i64 M.lkHi, .slice ba M.bals.length bc, .int .i64 M.wrong] 27)
          have HBD0 := Lib.hid hbD
          have HND0 := Lib.hid h6
          have HWD0 := Lib.hid hwD
          obtain ⟨⟨c0, c1, c2, c3, c4, c5⟩, ⟨d0, d1, d2⟩, f0, f1, f2⟩ := HC.out _ hbD
          have hkx0 : 0 ≤ y2 * x0 := Int.mul_nonneg (by omega) hx0.1
          have hkx1 : y2 * x0 ≤ 100 * 9999 := mul_mono (by omega) hx0.1 (by omega) hx0.2
          obtain ⟨KX, hKX⟩ : ∃ KX, y2 * x0 = KX := ⟨_, rfl⟩
          have hw1 : wrap64 (y2 * x0) = KX := by rw [hKX] at hkx0 hkx1 ⊢; exact wrap_in (by omega)
          have hw2 : IntKind.i64.wrap (y2 * x0) = KX := by rw [hKX] at hkx0 hkx1 ⊢; exact IntWalk.i64_in _ (by omega)
          rw [hKX] at hkx0 hkx1
          have HKX := Lib.hid hKX
          clear hKX h6 hbD hwD
          by_cases hkx : 9999 < KX
          · go_wp2_with (go_at_call 14; refine (HWK.out _ HBD0.out).mono ?_; rintro e wz ⟨rfl, hbz⟩; have HBZ := Lib.hid hbz; clear hbz)
            go_ret
            exact ⟨rfl, HBZ.out⟩
          go_wp2_with fail
          obtain ⟨D, hD⟩ : ∃ D, w6.alloc (.cells #[.slice la M.levers.length lc, .int .i64 0, .int .i64 M.lkLo, .int .i64 M.lkHi, .slice ba M.bals.length bc, .int .i64 M.wrong] 27) = D := ⟨_, rfl⟩
          rw [hD] at HBD0 HND0 HWD0 ⊢
          clear hD c0 c1 c2 c3 c4 c5 d0 d1 d2 f0 f1 f2
          have HND := Lib.hid (show D.heap[w6.heap.size]? = some (.cells #[.slice la M.levers.length lc, .int .i64 0, .int .i64 M.lkLo, .int .i64 M.lkHi, .slice ba M.bals.length bc, .int .i64 M.wrong] 27) from HND0.out)
          have HDV := Lib.hid (dry_valid HV.out)
          have HDB := Lib.hid (validM_iff.2 HDV.out)
          have HDM := Lib.hid (fun X (hX : Below D.heap.size D X) => (show MachAt X.heap.size X (.agg #[.slice la M.levers.length lc, .int .i64 0, .int .i64 M.lkLo, .int .i64 M.lkHi, .slice ba M.bals.length bc, .int .i64 M.wrong]) (dryM M) from ⟨_, _, rfl, ((HLV.out.below HWD0.out).mono HWD0.out.size).below hX |>.mono hX.size, ((HBV.out.below HWD0.out).mono HWD0.out.size).below hX |>.mono hX.size, by have := HV.out.leak; have := HV.out.wrong; unfold I64; exact ⟨by show (-9223372036854775808 : Int) ≤ 0 ∧ (0 : Int) ≤ 9223372036854775807; decide, by show (-9223372036854775808 : Int) ≤ M.lkLo ∧ M.lkLo ≤ 9223372036854775807; omega, by show (-9223372036854775808 : Int) ≤ M.lkHi ∧ M.lkHi ≤ 9223372036854775807; omega, by show (-9223372036854775808 : Int) ≤ M.wrong ∧ M.wrong ≤ 9223372036854775807; omega⟩⟩))
          have hlD := heap_lt HND.out
          obtain ⟨⟨⟨ul, uh⟩, gr⟩, hB⟩ : ∃ q, loadA (dryM M) x0 x1 = q := ⟨_, rfl⟩
          obtain ⟨⟨⟨vl, vh⟩, hr⟩, hB2⟩ : ∃ q, loadA (dryM M) KX x1 = q := ⟨_, rfl⟩
          have hL3 := Load_any _ (dryM M) x0 x1 D (HDM.out D (Below.refl _ _)) HDB.out (askB_of hx0 hx1)
          rw [hB] at hL3
          refine hL3.mono ?_
          rintro e w7 ⟨rfl, hb⟩
          have HB7 := Lib.hid hb
          clear hb hL3
          have hn7 := heap_new w7 (.cells #[.int .i64 ul, .int .i64 uh] 24)
          have hb7 := HB7.out.alloc HB7.out.size (.cells #[.int .i64 ul, .int .i64 uh] 24)
          have HN7 := Lib.hid hn7
          have HBX7 := Lib.hid hb7
          have HW7 := Lib.hid (HBD0.out.trans (hb7.mono HBD0.out.size))
          obtain ⟨⟨c0, c1, c2, c3, c4, c5⟩, ⟨d0, d1, d2⟩, f0, f1, f2⟩ := HC.out _ HW7.out
          obtain ⟨z0, z1, z2, z3, z4, z5⟩ := cells6 ((hb7.block w6.heap.size hlD).trans HND.out)
          clear hn7 hb7
          go_wp2_with fail
          obtain ⟨X7, hX7⟩ : ∃ X, w7.alloc (.cells #[.int .i64 ul, .int .i64 uh] 24) = X := ⟨_, rfl⟩
          rw [hX7] at HN7 HBX7 HW7 ⊢
          have hs7 : w7.heap.size + 1 = X7.heap.size := by rw [← hX7]; simp
          clear hX7 c0 c1 c2 c3 c4 c5 d0 d1 d2 f0 f1 f2 z0 z1 z2 z3 z4 z5
          have hL4 := Load_any _ (dryM M) KX x1 X7 (HDM.out X7 HBX7.out) HDB.out (askB_of ⟨hkx0, by omega⟩ hx1)
          rw [hB2] at hL4
          refine hL4.mono ?_
          rintro e w8 ⟨rfl, hb⟩
          have HB8 := Lib.hid (HW7.out.trans (hb.mono HW7.out.size))
          have HS8 := Lib.hid ((hb.block w7.heap.size (by omega)).trans HN7.out)
          have hs8 := hb.size
          clear hb hL4
          obtain ⟨X8, hX8⟩ : ∃ X, w8.alloc (.cells #[.int .i64 vl, .int .i64 vh] 24) = X := ⟨_, rfl⟩
          have HN8 := Lib.hid (hX8 ▸ heap_new w8 (.cells #[.int .i64 vl, .int .i64 vh] 24) : X8.heap[w8.heap.size]? = some (.cells #[.int .i64 vl, .int .i64 vh] 24))
          have hb8 : Below w8.heap.size w8 X8 := by rw [← hX8]; exact (Below.refl _ w8).alloc (Nat.le_refl _) _
          have HBX8 := Lib.hid (HB8.out.trans (hb8.mono HB8.out.size))
          have HS9 := Lib.hid ((hb8.block w7.heap.size (by omega)).trans HS8.out)
          have HB8X := Lib.hid (HB8.out.alloc HB8.out.size (.cells #[.int .i64 vl, .int .i64 vh] 24))
          have HX8 := Lib.hid hX8
          clear hb8 hX8
          by_cases he2 : truthsM (dryM M) = []
          · rw [loadA_none he2] at hB hB2
            injection hB with hB3 hB4
            injection hB2 with hB5 hB6
            subst hB4; subst hB6
            go_wp2_with (first | (go_at_call 29; refine (isKnown_any 3 _ (.inr rfl)).mono ?_; rintro e w' ⟨rfl, rfl⟩) | (go_at_call 14; refine (HWK.out _ HB8X.out).mono ?_; rintro e wz ⟨rfl, hbz⟩; have HBZ := Lib.hid hbz; clear hbz))
            go_ret
            exact ⟨rfl, HBZ.out⟩
          · rw [loadA_some he2] at hB hB2
            injection hB with hB3 hB4
            injection hB2 with hB5 hB6
            subst hB4; subst hB6
            have hsu := load_sane HDV.out hx0 hx1.1 he2
            have hsv := load_sane HDV.out (w := KX) (m := x1) ⟨hkx0, by omega⟩ hx1.1 he2
            have hlt := load_times HV.out (k := y2) (w := x0) (m := x1) (by omega) hx0 (by rw [HKX.out]; omega) hx1.1 he2
            rw [HKX.out] at hlt
            injection hB3 with hB7 hB8
            injection hB5 with hB9 hB10
            rw [hB7, hB8] at hsu hlt
            rw [hB9, hB10] at hsv hlt
            clear hB7 hB8 hB9 hB10
            have hpl0 : 0 ≤ y2 * ul := Int.mul_nonneg (by omega) hsu.1
            have hpl1 : y2 * ul ≤ 100 * 1000000000000000 := mul_mono (by omega) hsu.1 (by omega) (by omega)
            have hph0 : 0 ≤ y2 * uh := Int.mul_nonneg (by omega) (by omega)
            have hph1 : y2 * uh ≤ 100 * 1000000000000000 := mul_mono (by omega) (by omega) (by omega) (by omega)
            obtain ⟨PL, hPL⟩ : ∃ P, y2 * ul = P := ⟨_, rfl⟩
            obtain ⟨PH, hPH⟩ : ∃ P, y2 * uh = P := ⟨_, rfl⟩
            have hwl1 : wrap64 (y2 * ul) = PL := by rw [hPL] at hpl0 hpl1 ⊢; exact wrap_in (by omega)
            have hwl2 : IntKind.i64.wrap (y2 * ul) = PL := by rw [hPL] at hpl0 hpl1 ⊢; exact IntWalk.i64_in _ (by omega)
            have hwh1 : wrap64 (y2 * uh) = PH := by rw [hPH] at hph0 hph1 ⊢; exact wrap_in (by omega)
            have hwh2 : IntKind.i64.wrap (y2 * uh) = PH := by rw [hPH] at hph0 hph1 ⊢; exact IntWalk.i64_in _ (by omega)
            rw [hPL, hPH] at hlt
            clear hPL hPH hpl0 hpl1 hph0 hph1
            obtain ⟨q0, q1⟩ := cell2_of (HX8.out.symm ▸ HS9.out : (w8.alloc (.cells #[.int .i64 vl, .int .i64 vh] 24)).heap[w7.heap.size]? = _)
            go_wp2_with (go_at_call 29; refine (isKnown_any 0 _ (.inl rfl)).mono ?_; rintro e w' ⟨rfl, rfl⟩)
            rw [HX8.out]
            refine (sane_any ul uh X8 ⟨hsu.1, hsu.2.1, hsu.2.2.2⟩).mono ?_
            rintro e w9 ⟨rfl, hb⟩
            have HB9 := Lib.hid (HBX8.out.trans (hb.mono HBX8.out.size))
            have HT9 := Lib.hid ((hb.block w8.heap.size (heap_lt HN8.out)).trans HN8.out)
            have HU9 := Lib.hid ((hb.block w7.heap.size (heap_lt HS9.out)).trans HS9.out)
            clear hb q0 q1
            obtain ⟨r0, r1⟩ := cell2_of HT9.out
            go_wp2_with fail
            refine (sane_any vl vh w9 ⟨hsv.1, hsv.2.1, hsv.2.2.2⟩).mono ?_
            rintro e wa ⟨rfl, hb⟩
            have HBA := Lib.hid (HB9.out.trans (hb.mono HB9.out.size))
            obtain ⟨r0, r1⟩ := cell2_of ((hb.block w8.heap.size (heap_lt HT9.out)).trans HT9.out)
            obtain ⟨q0, q1⟩ := cell2_of ((hb.block w7.heap.size (heap_lt HU9.out)).trans HU9.out)
            have hge1 : PL ≤ vl := hlt.1
            have hge2 : vh ≤ PH := hlt.2
            clear hb
            go_wp2_with (go_at_call 14; refine (HWK.out wa HBA.out).mono ?_; rintro e wz ⟨rfl, hbz⟩; have HBZ := Lib.hid hbz; clear hbz)
            go_ret
            exact ⟨rfl, HBZ.out⟩
end Go.Proofs.Ytomcjopcfdllgaa
