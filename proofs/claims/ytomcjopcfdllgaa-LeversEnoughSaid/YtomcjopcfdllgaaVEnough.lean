/-
  Levers, the theorem of what is enough: the law's body.
-/
import Derived.Test.YtomcjopcfdllgaaVEnoughM

namespace Go.Proofs.Ytomcjopcfdllgaa
open Go.RowKit Go.Shelf

set_option maxRecDepth 100000 in
set_option maxHeartbeats 8000000 in
theorem LeversEnough_any (v : Value) (M : Mach) (x0 x1 x2 n : Int) (w : World) (hx : MachAt w.heap.size w v M) (hi : I64 x0 ∧ I64 x1 ∧ I64 x2 ∧ I64 n) :
    Calls Try.prog 6 #[v, .agg #[.int .i64 x0, .int .i64 x1, .int .i64 x2], .int .i64 n] w fun e w' => e = .returned (.bool true) ∧ Below w.heap.size w w' := by
  have HX := Lib.hid (fun W (hb : Below w.heap.size w W) => (hx.below hb).mono hb.size)
  obtain ⟨a, cap, a2, cap2, rfl⟩ := hx.form
  clear hx
  unfold I64 at hi
  go_enter Try.func6, Try.ntmps6
  go_wp2_with fail
  obtain ⟨w0, hW⟩ : ∃ W, W = (w.alloc (.cells #[.slice a M.levers.length cap, .int .i64 M.water, .int .i64 M.lkLo, .int .i64 M.lkHi, .slice a2 M.bals.length cap2, .int .i64 M.wrong] 27)).alloc (.cells #[.int .i64 x0, .int .i64 x1, .int .i64 x2] 32) := ⟨_, rfl⟩
  have e0 : w0.heap[w.heap.size]? = some (.cells #[.slice a M.levers.length cap, .int .i64 M.water, .int .i64 M.lkLo, .int .i64 M.lkHi, .slice a2 M.bals.length cap2, .int .i64 M.wrong] 27) := by rw [hW]; exact heap_old1 _ _ _
  have e1 : w0.heap[w.heap.size + 1]? = some (.cells #[.int .i64 x0, .int .i64 x1, .int .i64 x2] 32) := by rw [hW]; exact heap_new1 _ _ _
  have hb : Below w.heap.size w w0 := by rw [hW]; exact ((Below.refl _ w).alloc (Nat.le_refl _) _).alloc (by simp) _
  have hsz : w0.heap.size = w.heap.size + 2 := by rw [hW]; simp
  rw [← hW]
  clear hW
  have HM := Lib.hid (fun X (hX : Below w0.heap.size w0 X) => HX.out X (hb.trans (hX.mono hb.size)))
  have HC := Lib.hid (fun X (hX : Below w0.heap.size w0 X) => (show _ ∧ _ from ⟨cells6 ((hX.block w.heap.size (by omega)).trans e0), cells3 ((hX.block (w.heap.size + 1) (by omega)).trans e1)⟩))
  have HWK := Lib.hid (fun X (hX : Below w0.heap.size w0 X) => (works_any X).mono (fun e w' (h : e = .returned (.bool true) ∧ Below X.heap.size X w') => (show e = .returned (.bool true) ∧ Below w.heap.size w w' from ⟨h.1, (hb.trans (hX.mono hb.size)).trans (h.2.mono (Nat.le_trans hb.size hX.size))⟩)))
  have HB0 := Lib.hid (Below.refl w0.heap.size w0)
  clear e0 e1 hb hsz
  refine (ready_any _ M w0 (HM.out w0 (Below.refl _ _))).mono ?_
  rintro e w1 ⟨⟨r, rfl, hr⟩, hb⟩
  have HB1 := Lib.hid hb
  clear hb
  obtain ⟨⟨c0, c1, c2, c3, c4, c5⟩, d0, d1, d2⟩ := HC.out w1 HB1.out
  cases r with
  | false =>
    go_wp2_with (go_at_call 14; refine (HWK.out w1 HB1.out).mono ?_; rintro e wz ⟨rfl, hbz⟩; have HBZ := Lib.hid hbz; clear hbz)
    go_ret
    exact ⟨rfl, HBZ.out⟩
  | true =>
    have HV := Lib.hid (validM_iff.1 (hr rfl))
    have HVB := Lib.hid (hr rfl)
    clear hr
    go_wp2_with fail
    refine (isAsk_any x0 x1 x2 w1).mono ?_
    rintro e w2 ⟨rfl, hb⟩
    have HB2 := Lib.hid (HB1.out.trans (hb.mono HB1.out.size))
    clear hb c0 c1 c2 c3 c4 c5 d0 d1 d2
    obtain ⟨⟨c0, c1, c2, c3, c4, c5⟩, d0, d1, d2⟩ := HC.out w2 HB2.out
    cases h1 : ask3 x0 x1 x2 with
    | false =>
      go_wp2_with (go_at_call 14; refine (HWK.out w2 HB2.out).mono ?_; rintro e wz ⟨rfl, hbz⟩; have HBZ := Lib.hid hbz; clear hbz)
      go_ret
      exact ⟨rfl, HBZ.out⟩
    | true =>
      obtain ⟨hx0, hx1, hx2⟩ := ask3_iff.1 h1
      clear h1
      by_cases hk1 : n < 0
      · go_wp2_with (go_at_call 14; refine (HWK.out w2 HB2.out).mono ?_; rintro e wz ⟨rfl, hbz⟩; have HBZ := Lib.hid hbz; clear hbz)
        go_ret
        exact ⟨rfl, HBZ.out⟩
      by_cases hk2 : 9999 < n
      · go_wp2_with (go_at_call 14; refine (HWK.out w2 HB2.out).mono ?_; rintro e wz ⟨rfl, hbz⟩; have HBZ := Lib.hid hbz; clear hbz)
        go_ret
        exact ⟨rfl, HBZ.out⟩
      have HTR := Lib.hid (Truths_any _ M w2 (HM.out w2 HB2.out) HVB.out)
      by_cases hne : truthsM M = []
      · rw [show noneE (truthsM M).length = 3 by rw [hne]; rfl] at HTR
        go_wp2_with fail
        refine (HTR.out).mono ?_
        rintro e w3 ⟨rfl, hb⟩
        have HB3 := Lib.hid (HB2.out.trans (hb.mono HB2.out.size))
        clear hb c0 c1 c2 c3 c4 c5 d0 d1 d2
        obtain ⟨⟨c0, c1, c2, c3, c4, c5⟩, d0, d1, d2⟩ := HC.out w3 HB3.out
        go_wp2_with (go_at_call 14; refine (HWK.out w3 HB3.out).mono ?_; rintro e wz ⟨rfl, hbz⟩; have HBZ := Lib.hid hbz; clear hbz)
        go_ret
        exact ⟨rfl, HBZ.out⟩
      have HNE := Lib.hid hne
      rw [show noneE (truthsM M).length = 0 by rw [noneE, if_neg (fun h => hne (List.eq_nil_of_length_eq_zero h))]] at HTR
      clear hne
      go_wp2_with fail
      refine (HTR.out).mono ?_
      rintro e w3 ⟨rfl, hb⟩
      have HB3 := Lib.hid (HB2.out.trans (hb.mono HB2.out.size))
      clear hb c0 c1 c2 c3 c4 c5 d0 d1 d2
      obtain ⟨⟨c0, c1, c2, c3, c4, c5⟩, d0, d1, d2⟩ := HC.out w3 HB3.out
      obtain ⟨⟨wv, we⟩, hwa⟩ : ∃ q, weightA M x1 x2 = q := ⟨_, rfl⟩
      obtain ⟨⟨uv, ue⟩, hua⟩ : ∃ q, untilA M x0 x2 = q := ⟨_, rfl⟩
      have HSU := Lib.hid (fun X (hX : Below w0.heap.size w0 X) (wt mn : Int) (hw : 0 ≤ wt ∧ wt ≤ 9999) (hm : 0 ≤ mn ∧ mn ≤ 99) (b : Bool) (e : sureB M wt mn x2 = b) => (show Calls Try.prog 37 #[_, .int .i64 wt, .int .i64 mn, .int .i64 x2] X (fun e w' => e = .returned (.bool b) ∧ Below X.heap.size X w') from e ▸ sure_any _ M wt mn x2 X (HM.out X hX) HVB.out (askB_iff.2 ⟨hw, hm, hx2, by decide, by decide⟩)))
      have HWA := Lib.hid (Weight_any _ M x1 x2 w3 (HM.out w3 HB3.out) HVB.out (askB_iff.2 ⟨by decide, hx1, hx2, by decide, by decide⟩))
      rw [hwa] at HWA
      have HWS := Lib.hid (weight_says HV.out HNE.out x1 x2 hwa)
      have HUS := Lib.hid (until_says HV.out HNE.out x0 x2 hua)
      have HUA := Lib.hid (fun X (hX : Below w0.heap.size w0 X) => (show Calls Try.prog 36 #[_, .int .i64 x0, .int .i64 x2] X (fun e w' => e = .returned (.tuple #[.int .i64 uv, .int .i64 ue]) ∧ Below X.heap.size X w') from by have h := Until_any _ M x0 x2 X (HM.out X hX) HVB.out (askB_iff.2 ⟨hx0, by decide, hx2, by decide, by decide⟩); rw [hua] at h; exact h))
      clear hwa hua
      go_wp2_with fail
      refine (HWA.out).mono ?_
      rintro e w4 ⟨rfl, hb⟩
      have HB4 := Lib.hid (HB3.out.trans (hb.mono HB3.out.size))
      clear hb c0 c1 c2 c3 c4 c5 d0 d1 d2
      obtain ⟨⟨c0, c1, c2, c3, c4, c5⟩, d0, d1, d2⟩ := HC.out w4 HB4.out
      go_wp2_with fail
      refine (HUA.out w4 HB4.out).mono ?_
      rintro e w5 ⟨rfl, hb⟩
      have HB5 := Lib.hid (HB4.out.trans (hb.mono HB4.out.size))
      clear hb c0 c1 c2 c3 c4 c5 d0 d1 d2
      obtain ⟨⟨c0, c1, c2, c3, c4, c5⟩, d0, d1, d2⟩ := HC.out w5 HB5.out
      have hke : we = 0 ∨ we = 3 := by rcases HWS.out with h | h; exact .inl h.1; exact .inr h.1
      have hkf : ue = 0 ∨ ue = 3 := by rcases HUS.out with h | h; exact .inl h.1; exact .inr h.1
      have HKE := Lib.hid (isKnown_any we w5 hke)
      have HKF := Lib.hid (isKnown_any ue w5 hkf)
      clear hke hkf
      go_upto_region 7 with (go_at_call 29; first | (refine HKE.out.mono ?_; rintro e w' ⟨rfl, rfl⟩) | (refine HKF.out.mono ?_; rintro e w' ⟨rfl, rfl⟩))
      clear HWA HUA HKE HKF HTR
      rcases HWS.out with ⟨h0, hwr, hall, hlow⟩ | ⟨h0, hno⟩
      · have h0 : we = 0 := h0
        subst h0
        have hwr : 0 ≤ wv ∧ wv ≤ 9999 := hwr
        have HALL := Lib.hid (fun u (h : wv ≤ u) => hall u h)
        have HLOW := Lib.hid (fun (h : 0 < wv) => hlow h)
        clear hall hlow HWS
        go_wp2_with fail
        refine (HSU.out w5 HB5.out wv x1 hwr hx1 _ (HALL.out wv (Int.le_refl _))).mono ?_
        rintro e w6 ⟨rfl, hb⟩
        have HB6 := Lib.hid (HB5.out.trans (hb.mono HB5.out.size))
        clear hb c0 c1 c2 c3 c4 c5 d0 d1 d2
        obtain ⟨⟨c0, c1, c2, c3, c4, c5⟩, d0, d1, d2⟩ := HC.out w6 HB6.out
        go_wp2_with fail
        refine (HSU.out w6 HB6.out (min 9999 (wv + n)) x1 (by omega) hx1 _ (HALL.out _ (by omega))).mono ?_
        rintro e w7 ⟨rfl, hb⟩
        have HB7 := Lib.hid (HB6.out.trans (hb.mono HB6.out.size))
        clear hb c0 c1 c2 c3 c4 c5 d0 d1 d2
        obtain ⟨⟨c0, c1, c2, c3, c4, c5⟩, d0, d1, d2⟩ := HC.out w7 HB7.out
        by_cases hz : 0 < wv
        · go_wp2_with fail
          refine (HSU.out w7 HB7.out (wv - 1) x1 (by omega) hx1 _ (HLOW.out hz)).mono ?_
          rintro e w8 ⟨rfl, hb⟩
          have HB8 := Lib.hid (HB7.out.trans (hb.mono HB7.out.size))
          clear hb c0 c1 c2 c3 c4 c5 d0 d1 d2
          obtain ⟨⟨c0, c1, c2, c3, c4, c5⟩, d0, d1, d2⟩ := HC.out w8 HB8.out
          rcases HUS.out with ⟨h0, hur, hall, hlow⟩ | ⟨h0, hno⟩
          · have h0 : ue = 0 := h0
            subst h0
            have hur : 0 ≤ uv ∧ uv ≤ 99 := hur
            have HALLU := Lib.hid (fun u (h : u ≤ uv) => hall u h)
            have HLOWU := Lib.hid (fun (h : uv < 99) => hlow h)
            clear hall hlow HUS
            go_wp2_with fail
            refine (HSU.out w8 HB8.out x0 uv hx0 hur _ (HALLU.out uv (Int.le_refl _))).mono ?_
            rintro e w9 ⟨rfl, hb⟩
            have HB9 := Lib.hid (HB8.out.trans (hb.mono HB8.out.size))
            clear hb c0 c1 c2 c3 c4 c5 d0 d1 d2
            obtain ⟨⟨c0, c1, c2, c3, c4, c5⟩, d0, d1, d2⟩ := HC.out w9 HB9.out
            go_wp2_with fail
            refine (HSU.out w9 HB9.out x0 (max 0 (uv - n)) hx0 (by omega) _ (HALLU.out _ (by omega))).mono ?_
            rintro e w10 ⟨rfl, hb⟩
            have HB10 := Lib.hid (HB9.out.trans (hb.mono HB9.out.size))
            clear hb c0 c1 c2 c3 c4 c5 d0 d1 d2
            obtain ⟨⟨c0, c1, c2, c3, c4, c5⟩, d0, d1, d2⟩ := HC.out w10 HB10.out
            by_cases hm : uv = 99
            · have hm' : (uv == 99) = true := by rw [beq_iff_eq]; exact hm
              go_wp2_with (go_at_call 14; refine (HWK.out w10 HB10.out).mono ?_; rintro e wz ⟨rfl, hbz⟩; have HBZ := Lib.hid hbz; clear hbz)
              go_ret
              exact ⟨rfl, HBZ.out⟩
            · have hm' : (uv == 99) = false := by rw [beq_eq_false_iff_ne]; exact hm
              go_wp2_with fail
              refine (HSU.out w10 HB10.out x0 (uv + 1) hx0 (by omega) _ (HLOWU.out (by omega))).mono ?_
              rintro e w11 ⟨rfl, hb⟩
              have HB11 := Lib.hid (HB10.out.trans (hb.mono HB10.out.size))
              clear hb c0 c1 c2 c3 c4 c5 d0 d1 d2
              obtain ⟨⟨c0, c1, c2, c3, c4, c5⟩, d0, d1, d2⟩ := HC.out w11 HB11.out
              go_wp2_with (go_at_call 14; refine (HWK.out w11 HB11.out).mono ?_; rintro e wz ⟨rfl, hbz⟩; have HBZ := Lib.hid hbz; clear hbz)
              go_ret
              exact ⟨rfl, HBZ.out⟩
          · have h0 : ue = 3 := h0
            subst h0
            have HNO := Lib.hid (show sureB M x0 0 x2 = false from hno)
            clear hno HUS
            go_wp2_with fail
            refine (HSU.out w8 HB8.out x0 0 hx0 (by decide) _ HNO.out).mono ?_
            rintro e w9 ⟨rfl, hb⟩
            have HB9 := Lib.hid (HB8.out.trans (hb.mono HB8.out.size))
            clear hb c0 c1 c2 c3 c4 c5 d0 d1 d2
            obtain ⟨⟨c0, c1, c2, c3, c4, c5⟩, d0, d1, d2⟩ := HC.out w9 HB9.out
            go_wp2_with (go_at_call 14; refine (HWK.out w9 HB9.out).mono ?_; rintro e wz ⟨rfl, hbz⟩; have HBZ := Lib.hid hbz; clear hbz)
            go_ret
            exact ⟨rfl, HBZ.out⟩
        · rcases HUS.out with ⟨h0, hur, hall, hlow⟩ | ⟨h0, hno⟩
          · have h0 : ue = 0 := h0
            subst h0
            have hur : 0 ≤ uv ∧ uv ≤ 99 := hur
            have HALLU := Lib.hid (fun u (h : u ≤ uv) => hall u h)
            have HLOWU := Lib.hid (fun (h : uv < 99) => hlow h)
            clear hall hlow HUS
            go_wp2_with fail
            refine (HSU.out w7 HB7.out x0 uv hx0 hur _ (HALLU.out uv (Int.le_refl _))).mono ?_
            rintro e w8 ⟨rfl, hb⟩
            have HB8 := Lib.hid (HB7.out.trans (hb.mono HB7.out.size))
            clear hb c0 c1 c2 c3 c4 c5 d0 d1 d2
            obtain ⟨⟨c0, c1, c2, c3, c4, c5⟩, d0, d1, d2⟩ := HC.out w8 HB8.out
            go_wp2_with fail
            refine (HSU.out w8 HB8.out x0 (max 0 (uv - n)) hx0 (by omega) _ (HALLU.out _ (by omega))).mono ?_
            rintro e w9 ⟨rfl, hb⟩
            have HB9 := Lib.hid (HB8.out.trans (hb.mono HB8.out.size))
            clear hb c0 c1 c2 c3 c4 c5 d0 d1 d2
            obtain ⟨⟨c0, c1, c2, c3, c4, c5⟩, d0, d1, d2⟩ := HC.out w9 HB9.out
            by_cases hm : uv = 99
            · have hm' : (uv == 99) = true := by rw [beq_iff_eq]; exact hm
              go_wp2_with (go_at_call 14; refine (HWK.out w9 HB9.out).mono ?_; rintro e wz ⟨rfl, hbz⟩; have HBZ := Lib.hid hbz; clear hbz)
              go_ret
              exact ⟨rfl, HBZ.out⟩
            · have hm' : (uv == 99) = false := by rw [beq_eq_false_iff_ne]; exact hm
              go_wp2_with fail
              refine (HSU.out w9 HB9.out x0 (uv + 1) hx0 (by omega) _ (HLOWU.out (by omega))).mono ?_
              rintro e w10 ⟨rfl, hb⟩
              have HB10 := Lib.hid (HB9.out.trans (hb.mono HB9.out.size))
              clear hb c0 c1 c2 c3 c4 c5 d0 d1 d2
              obtain ⟨⟨c0, c1, c2, c3, c4, c5⟩, d0, d1, d2⟩ := HC.out w10 HB10.out
              go_wp2_with (go_at_call 14; refine (HWK.out w10 HB10.out).mono ?_; rintro e wz ⟨rfl, hbz⟩; have HBZ := Lib.hid hbz; clear hbz)
              go_ret
              exact ⟨rfl, HBZ.out⟩
          · have h0 : ue = 3 := h0
            subst h0
            have HNO := Lib.hid (show sureB M x0 0 x2 = false from hno)
            clear hno HUS
            go_wp2_with fail
            refine (HSU.out w7 HB7.out x0 0 hx0 (by decide) _ HNO.out).mono ?_
            rintro e w8 ⟨rfl, hb⟩
            have HB8 := Lib.hid (HB7.out.trans (hb.mono HB7.out.size))
            clear hb c0 c1 c2 c3 c4 c5 d0 d1 d2
            obtain ⟨⟨c0, c1, c2, c3, c4, c5⟩, d0, d1, d2⟩ := HC.out w8 HB8.out
            go_wp2_with (go_at_call 14; refine (HWK.out w8 HB8.out).mono ?_; rintro e wz ⟨rfl, hbz⟩; have HBZ := Lib.hid hbz; clear hbz)
            go_ret
            exact ⟨rfl, HBZ.out⟩
      · have h0 : we = 3 := h0
        subst h0
        have HNW := Lib.hid (show sureB M 9999 x1 x2 = false from hno)
        clear hno HWS
        go_wp2_with fail
        refine (HSU.out w5 HB5.out 9999 x1 (by decide) hx1 _ HNW.out).mono ?_
        rintro e w6 ⟨rfl, hb⟩
        have HB6 := Lib.hid (HB5.out.trans (hb.mono HB5.out.size))
        clear hb c0 c1 c2 c3 c4 c5 d0 d1 d2
        obtain ⟨⟨c0, c1, c2, c3, c4, c5⟩, d0, d1, d2⟩ := HC.out w6 HB6.out
        rcases HUS.out with ⟨h0, hur, hall, hlow⟩ | ⟨h0, hno⟩
        · have h0 : ue = 0 := h0
          subst h0
          have hur : 0 ≤ uv ∧ uv ≤ 99 := hur
          have HALLU := Lib.hid (fun u (h : u ≤ uv) => hall u h)
          have HLOWU := Lib.hid (fun (h : uv < 99) => hlow h)
          clear hall hlow HUS
          go_wp2_with fail
          refine (HSU.out w6 HB6.out x0 uv hx0 hur _ (HALLU.out uv (Int.le_refl _))).mono ?_
          rintro e w7 ⟨rfl, hb⟩
          have HB7 := Lib.hid (HB6.out.trans (hb.mono HB6.out.size))
          clear hb c0 c1 c2 c3 c4 c5 d0 d1 d2
          obtain ⟨⟨c0, c1, c2, c3, c4, c5⟩, d0, d1, d2⟩ := HC.out w7 HB7.out
          go_wp2_with fail
          refine (HSU.out w7 HB7.out x0 (max 0 (uv - n)) hx0 (by omega) _ (HALLU.out _ (by omega))).mono ?_
          rintro e w8 ⟨rfl, hb⟩
          have HB8 := Lib.hid (HB7.out.trans (hb.mono HB7.out.size))
          clear hb c0 c1 c2 c3 c4 c5 d0 d1 d2
          obtain ⟨⟨c0, c1, c2, c3, c4, c5⟩, d0, d1, d2⟩ := HC.out w8 HB8.out
          by_cases hm : uv = 99
          · have hm' : (uv == 99) = true := by rw [beq_iff_eq]; exact hm
            go_wp2_with (go_at_call 14; refine (HWK.out w8 HB8.out).mono ?_; rintro e wz ⟨rfl, hbz⟩; have HBZ := Lib.hid hbz; clear hbz)
            go_ret
            exact ⟨rfl, HBZ.out⟩
          · have hm' : (uv == 99) = false := by rw [beq_eq_false_iff_ne]; exact hm
            go_wp2_with fail
            refine (HSU.out w8 HB8.out x0 (uv + 1) hx0 (by omega) _ (HLOWU.out (by omega))).mono ?_
            rintro e w9 ⟨rfl, hb⟩
            have HB9 := Lib.hid (HB8.out.trans (hb.mono HB8.out.size))
            clear hb c0 c1 c2 c3 c4 c5 d0 d1 d2
            obtain ⟨⟨c0, c1, c2, c3, c4, c5⟩, d0, d1, d2⟩ := HC.out w9 HB9.out
            go_wp2_with (go_at_call 14; refine (HWK.out w9 HB9.out).mono ?_; rintro e wz ⟨rfl, hbz⟩; have HBZ := Lib.hid hbz; clear hbz)
            go_ret
            exact ⟨rfl, HBZ.out⟩
        · have h0 : ue = 3 := h0
          subst h0
          have HNO := Lib.hid (show sureB M x0 0 x2 = false from hno)
          clear hno HUS
          go_wp2_with fail
          refine (HSU.out w6 HB6.out x0 0 hx0 (by decide) _ HNO.out).mono ?_
          rintro e w7 ⟨rfl, hb⟩
          have HB7 := Lib.hid (HB6.out.trans (hb.mono HB6.out.size))
          clear hb c0 c1 c2 c3 c4 c5 d0 d1 d2
          obtain ⟨⟨c0, c1, c2, c3, c4, c5⟩, d0, d1, d2⟩ := HC.out w7 HB7.out
          go_wp2_with (go_at_call 14; refine (HWK.out w7 HB7.out).mono ?_; rintro e wz ⟨rfl, hbz⟩; have HBZ := Lib.hid hbz; clear hbz)
          go_ret
          exact ⟨rfl, HBZ.out⟩
end Go.Proofs.Ytomcjopcfdllgaa
