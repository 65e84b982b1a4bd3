/-
  Levers, the law's own function: all that can be so of one machine can be so of another one.
-/
import Derived.Test.YtomcjopcfdllgaaVMoreM
import Derived.Test.YtomcjopcfdllgaaVWorks
import Derived.Test.YtomcjopcfdllgaaVRef3

namespace Go.Proofs.Ytomcjopcfdllgaa
open Go.RowKit Go.Shelf

theorem askB_ofI {x y : Int} (hx : 0 ≤ x ∧ x ≤ 9999) (hy : 0 ≤ y ∧ y ≤ 99) : askB x y 0 0 = true := askB_iff.2 ⟨hx, hy, by decide, by decide⟩
theorem loadA_err (M : Mach) (x y : Int) : (loadA M x y).2 = noneE (truthsM M).length := by
  unfold loadA noneE
  cases h : truthsM M with
  | nil => rfl
  | cons s l => rfl
theorem loadA_span {M : Mach} {x y : Int} (h : truthsM M ≠ []) : (loadA M x y).1 = (loadLo M x y, loadHi M x y) := by
  unfold loadA
  rw [if_neg (by rw [List.isEmpty_iff]; exact h)]
theorem noneE_or (n : Nat) : noneE n = 0 ∨ noneE n = 3 := by unfold noneE; split; exact .inr rfl; exact .inl rfl
set_option maxRecDepth 100000 in
set_option maxHeartbeats 8000000 in
theorem inside_any (va vb : Value) (A B : Mach) (x0 x1 x2 : Int) (w : World) (ha : MachAt w.heap.size w va A) (hb : MachAt w.heap.size w vb B) (hx0 : 0 ≤ x0 ∧ x0 ≤ 9999) (hx1 : 0 ≤ x1 ∧ x1 ≤ 99) (h : ValidM A → ValidM B → InsideM A B x0 x1) :
    Calls Try.prog 32 #[va, vb, .agg #[.int .i64 x0, .int .i64 x1, .int .i64 x2]] w fun e w' => e = .returned (.bool true) ∧ Below w.heap.size w w' := by
  have HA := Lib.hid (fun W (hb : Below w.heap.size w W) => (ha.below hb).mono hb.size)
  have HBM := Lib.hid (fun W (hw : Below w.heap.size w W) => (hb.below hw).mono hw.size)
  have HH := Lib.hid h
  obtain ⟨a, cap, a2, cap2, rfl⟩ := ha.form
  obtain ⟨b, dap, b2, dap2, rfl⟩ := hb.form
  clear ha hb h
  go_enter Try.func32, Try.ntmps32
  go_wp2_with fail
  obtain ⟨W, hW⟩ : ∃ W, W = ((w.alloc (.cells #[.slice a A.levers.length cap, .int .i64 A.water, .int .i64 A.lkLo, .int .i64 A.lkHi, .slice a2 A.bals.length cap2, .int .i64 A.wrong] 27)).alloc (.cells #[.slice b B.levers.length dap, .int .i64 B.water, .int .i64 B.lkLo, .int .i64 B.lkHi, .slice b2 B.bals.length dap2, .int .i64 B.wrong] 27)).alloc (.cells #[.int .i64 x0, .int .i64 x1, .int .i64 x2] 32) := ⟨_, rfl⟩
  have h3 := heap3w w (.cells #[.slice a A.levers.length cap, .int .i64 A.water, .int .i64 A.lkLo, .int .i64 A.lkHi, .slice a2 A.bals.length cap2, .int .i64 A.wrong] 27) (.cells #[.slice b B.levers.length dap, .int .i64 B.water, .int .i64 B.lkLo, .int .i64 B.lkHi, .slice b2 B.bals.length dap2, .int .i64 B.wrong] 27) (.cells #[.int .i64 x0, .int .i64 x1, .int .i64 x2] 32)
  rw [← hW] at h3 ⊢
  clear hW
  obtain ⟨e0, e1, e2, hb, hsz⟩ := h3
  have HB0 := Lib.hid hb
  have HC := Lib.hid (fun X (hX : Below W.heap.size W X) => (show _ ∧ _ ∧ _ from ⟨cells6 ((hX.block w.heap.size (by omega)).trans e0), cells6 ((hX.block (w.heap.size + 1) (by omega)).trans e1), cells3 ((hX.block (w.heap.size + 1 + 1) (by omega)).trans e2)⟩))
  clear e0 e1 e2 hsz hb
  have HW0 := Lib.hid (Below.refl W.heap.size W)
  refine (ready_any _ A W (HA.out W HB0.out)).mono ?_
  rintro e w1 ⟨⟨r, rfl, hr⟩, hb⟩
  have HW1 := Lib.hid hb
  obtain ⟨⟨c0, c1, c2, c3, c4, c5⟩, ⟨d0, d1, d2, d3, d4, d5⟩, f0, f1, f2⟩ := HC.out w1 HW1.out
  clear hb
  cases r with
  | false =>
    go_wp2_with fail
    go_ret
    exact ⟨rfl, HB0.out.trans (HW1.out.mono HB0.out.size)⟩
  | true =>
    have HVA := Lib.hid (hr rfl)
    clear hr
    go_wp2_with fail
    clear c0 c1 c2 c3 c4 c5 d0 d1 d2 d3 d4 d5 f0 f1 f2
    refine (ready_any _ B w1 (HBM.out w1 (HB0.out.trans (HW1.out.mono HB0.out.size)))).mono ?_
    rintro e w2 ⟨⟨r, rfl, hr⟩, hb⟩
    have HW2 := Lib.hid (HW1.out.trans (hb.mono HW1.out.size))
    clear hb
    obtain ⟨⟨c0, c1, c2, c3, c4, c5⟩, ⟨d0, d1, d2, d3, d4, d5⟩, f0, f1, f2⟩ := HC.out w2 HW2.out
    cases r with
    | false =>
      go_wp2_with fail
      go_ret
      exact ⟨rfl, HB0.out.trans (HW2.out.mono HB0.out.size)⟩
    | true =>
      have HVB := Lib.hid (hr rfl)
      clear hr
      have hVA := validM_iff.1 HVA.out
      have hVB := validM_iff.1 HVB.out
      have M1 := Lib.hid (fun W (hw : Below w.heap.size w W) => Many_any _ A W (HA.out W hw) HVA.out)
      have M2 := Lib.hid (fun W (hw : Below w.heap.size w W) => Many_any _ B W (HBM.out W hw) HVB.out)
      have L1 := Lib.hid (fun W (hw : Below w.heap.size w W) => Load_any _ A x0 x1 W (HA.out W hw) HVA.out (askB_ofI hx0 hx1))
      have L2 := Lib.hid (fun W (hw : Below w.heap.size w W) => Load_any _ B x0 x1 W (HBM.out W hw) HVB.out (askB_ofI hx0 hx1))
      have ea := loadA_err A x0 x1
      have eb := loadA_err B x0 x1
      have hin := HH.out hVA hVB
      have hsa := load_sane hVA hx0 hx1.1 (m := x1)
      have hsb := load_sane hVB hx0 hx1.1 (m := x1)
      have spa := loadA_span (M := A) (x := x0) (y := x1)
      have spb := loadA_span (M := B) (x := x0) (y := x1)
      obtain ⟨⟨⟨sl, sh⟩, er⟩, hla⟩ : ∃ q, loadA A x0 x1 = q := ⟨_, rfl⟩
      obtain ⟨⟨⟨tl, th⟩, fr⟩, hlb⟩ : ∃ q, loadA B x0 x1 = q := ⟨_, rfl⟩
      rw [hla] at L1 ea spa
      rw [hlb] at L2 eb spb
      dsimp only at L1 L2 ea eb spa spb
      have hfr : fr = 0 ∨ fr = 3 := by rw [eb]; exact noneE_or _
      rw [← ea] at M1
      rw [← eb] at M2
      have FACTS := Lib.hid (show (truthsM A = [] → er = 3) ∧ (truthsM A ≠ [] → er = 0 ∧ fr = 0 ∧ (1 ≤ ((truthsM A).length : Int) ∧ ((truthsM A).length : Int) ≤ ((truthsM B).length : Int)) ∧ (0 ≤ sl ∧ sl ≤ sh ∧ sh < 1125899906842624) ∧ (0 ≤ tl ∧ tl ≤ th ∧ th < 1125899906842624) ∧ tl ≤ sl ∧ sh ≤ th) from by
        refine ⟨fun he => by rw [ea, he]; rfl, fun he => ?_⟩
        obtain ⟨i1, i2, i3, i4⟩ := hin he
        have l1 : (truthsM A).length ≠ 0 := fun h => he (List.length_eq_zero_iff.1 h)
        have l2 : (truthsM B).length ≠ 0 := fun h => i1 (List.length_eq_zero_iff.1 h)
        have s1 := spa he
        have s2 := spb i1
        have q1 := hsa he
        have q2 := hsb i1
        injection s1 with s11 s12
        injection s2 with s21 s22
        subst s11 s12 s21 s22
        exact ⟨by rw [ea]; exact noneE_pos l1, by rw [eb]; exact noneE_pos l2, by omega, by omega, by omega, by omega⟩)
      obtain ⟨mm, hmm⟩ : ∃ mm, (truthsM A).length = mm := ⟨_, rfl⟩
      obtain ⟨nn, hnn⟩ : ∃ nn, (truthsM B).length = nn := ⟨_, rfl⟩
      rw [hmm] at M1 FACTS
      rw [hnn] at M2 FACTS
      clear ea eb hin hsa hsb spa spb hla hlb hmm hnn hVA hVB HH HA HBM
      go_wp2_with fail
      clear c0 c1 c2 c3 c4 c5 d0 d1 d2 d3 d4 d5 f0 f1 f2
      refine (M1.out w2 (HB0.out.trans (HW2.out.mono HB0.out.size))).mono ?_
      rintro e w3 ⟨rfl, hb⟩
      have HW3 := Lib.hid (HW2.out.trans (hb.mono HW2.out.size))
      clear hb
      obtain ⟨⟨c0, c1, c2, c3, c4, c5⟩, ⟨d0, d1, d2, d3, d4, d5⟩, f0, f1, f2⟩ := HC.out w3 HW3.out
      go_wp2_with fail
      clear c0 c1 c2 c3 c4 c5 d0 d1 d2 d3 d4 d5 f0 f1 f2
      refine (M2.out w3 (HB0.out.trans (HW3.out.mono HB0.out.size))).mono ?_
      rintro e w4 ⟨rfl, hb⟩
      have HW4 := Lib.hid (HW3.out.trans (hb.mono HW3.out.size))
      clear hb
      obtain ⟨⟨c0, c1, c2, c3, c4, c5⟩, ⟨d0, d1, d2, d3, d4, d5⟩, f0, f1, f2⟩ := HC.out w4 HW4.out
      go_wp2_with fail
      clear c0 c1 c2 c3 c4 c5 d0 d1 d2 d3 d4 d5 f0 f1 f2
      refine (L1.out w4 (HB0.out.trans (HW4.out.mono HB0.out.size))).mono ?_
      rintro e w5 ⟨rfl, hb⟩
      have HW5 := Lib.hid (HW4.out.trans (hb.mono HW4.out.size))
      clear hb
      have hn := heap_new w5 (.cells #[.int .i64 sl, .int .i64 sh] 24)
      have hbx := HW5.out.alloc HW5.out.size (.cells #[.int .i64 sl, .int .i64 sh] 24)
      have HNs := Lib.hid hn
      have HW6 := Lib.hid hbx
      clear hn
      obtain ⟨⟨c0, c1, c2, c3, c4, c5⟩, ⟨d0, d1, d2, d3, d4, d5⟩, f0, f1, f2⟩ := HC.out _ hbx
      clear hbx
      go_wp2_with fail
      obtain ⟨Xs, hX⟩ : ∃ X, w5.alloc (.cells #[.int .i64 sl, .int .i64 sh] 24) = X := ⟨_, rfl⟩
      rw [hX] at HNs HW6 ⊢
      clear hX
      clear c0 c1 c2 c3 c4 c5 d0 d1 d2 d3 d4 d5 f0 f1 f2
      obtain ⟨⟨c0, c1, c2, c3, c4, c5⟩, ⟨d0, d1, d2, d3, d4, d5⟩, f0, f1, f2⟩ := HC.out Xs HW6.out
      go_wp2_with fail
      clear c0 c1 c2 c3 c4 c5 d0 d1 d2 d3 d4 d5 f0 f1 f2
      refine (L2.out Xs (HB0.out.trans (HW6.out.mono HB0.out.size))).mono ?_
      rintro e w6 ⟨rfl, hb⟩
      have HW7 := Lib.hid (HW6.out.trans (hb.mono HW6.out.size))
      have HNs := Lib.hid ((hb.block _ (heap_lt HNs.out)).trans HNs.out)
      clear hb
      have hn := heap_new w6 (.cells #[.int .i64 tl, .int .i64 th] 24)
      have hbx := HW7.out.alloc HW7.out.size (.cells #[.int .i64 tl, .int .i64 th] 24)
      have HNt := Lib.hid hn
      have HW8 := Lib.hid hbx
      have HNs := Lib.hid (((Below.refl w6.heap.size w6).alloc (Nat.le_refl _) (.cells #[.int .i64 tl, .int .i64 th] 24)).block _ (heap_lt HNs.out) |>.trans HNs.out)
      clear hn
      obtain ⟨⟨c0, c1, c2, c3, c4, c5⟩, ⟨d0, d1, d2, d3, d4, d5⟩, f0, f1, f2⟩ := HC.out _ hbx
      clear hbx
      go_upto_region 7 with fail
      obtain ⟨Xt, hX⟩ : ∃ X, w6.alloc (.cells #[.int .i64 tl, .int .i64 th] 24) = X := ⟨_, rfl⟩
      rw [hX] at HNt HW8 HNs ⊢
      clear hX
      clear c0 c1 c2 c3 c4 c5 d0 d1 d2 d3 d4 d5 f0 f1 f2
      obtain ⟨s0, s1⟩ := cell2_of HNs.out
      obtain ⟨t0, t1⟩ := cell2_of HNt.out
      by_cases he : truthsM A = []
      · obtain rfl := FACTS.out.1 he
        go_wp2_with (go_at_call 29; first | (refine (isKnown_any 3 _ (.inr rfl)).mono ?_; rintro e w' ⟨rfl, rfl⟩) | (refine (isKnown_any fr _ hfr).mono ?_; rintro e w' ⟨rfl, rfl⟩))
        go_ret
        exact ⟨rfl, HB0.out.trans (HW8.out.mono HB0.out.size)⟩
      · obtain ⟨rfl, rfl, hmn, hs, ht, hlo, hhi⟩ := FACTS.out.2 he
        have HS := Lib.hid hs
        have HTT := Lib.hid ht
        have h1m := hmn.1
        have hmn2 := hmn.2
        clear hs ht hmn he FACTS
        go_upto_region 9 with (go_at_call 29; (refine (isKnown_any 0 _ (.inl rfl)).mono ?_; rintro e w' ⟨rfl, rfl⟩))
        go_wp2_with fail
        refine (sane_any sl sh Xt HS.out).mono ?_
        rintro e y1 ⟨rfl, hb⟩
        have HY1 := Lib.hid (HW8.out.trans (hb.mono HW8.out.size))
        have HNs := Lib.hid ((hb.block _ (heap_lt HNs.out)).trans HNs.out)
        have HNt := Lib.hid ((hb.block _ (heap_lt HNt.out)).trans HNt.out)
        clear hb s0 s1 t0 t1
        obtain ⟨s0, s1⟩ := cell2_of HNs.out
        obtain ⟨t0, t1⟩ := cell2_of HNt.out
        go_wp2_with fail
        refine (sane_any tl th y1 HTT.out).mono ?_
        rintro e y2 ⟨rfl, hb⟩
        have HY2 := Lib.hid (HY1.out.trans (hb.mono HY1.out.size))
        have HNs := Lib.hid ((hb.block _ (heap_lt HNs.out)).trans HNs.out)
        have HNt := Lib.hid ((hb.block _ (heap_lt HNt.out)).trans HNt.out)
        clear hb s0 s1 t0 t1
        obtain ⟨s0, s1⟩ := cell2_of HNs.out
        obtain ⟨t0, t1⟩ := cell2_of HNt.out
        go_wp2_with fail
        go_ret
        exact ⟨rfl, HB0.out.trans (HY2.out.mono HB0.out.size)⟩
end Go.Proofs.Ytomcjopcfdllgaa
