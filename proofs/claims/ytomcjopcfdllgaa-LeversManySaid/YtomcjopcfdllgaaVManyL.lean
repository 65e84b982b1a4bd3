/-
  Levers, Fewest, Many, Shorts, Leaks and Strange beside the reference: the law's body.
-/
import Derived.Test.YtomcjopcfdllgaaVBothM
import Derived.Test.YtomcjopcfdllgaaVSameL
import Derived.Test.YtomcjopcfdllgaaVWorks

namespace Go.Proofs.Ytomcjopcfdllgaa
open Go.RowKit Go.Shelf

set_option maxRecDepth 100000 in
set_option maxHeartbeats 16000000 in
theorem LeversMany_any (v : Value) (M : Mach) (n : Int) (w : World) (hx : MachAt w.heap.size w v M) (_ : I64 n) :
    Calls Try.prog 8 #[v, .int .i64 n] w fun e w' => e = .returned (.bool true) ∧ Below w.heap.size w w' := by
  have HX := Lib.hid (fun W (hb : Below w.heap.size w W) => (hx.below hb).mono hb.size)
  have HI64 := Lib.hid hx.choose_spec.choose_spec.2.2.2
  obtain ⟨a, cap, a2, cap2, rfl⟩ := hx.form
  clear hx
  go_enter Try.func8, Try.ntmps8
  go_wp2_with fail
  obtain ⟨w0, hW⟩ : ∃ W, W = w.alloc (.cells #[.slice a M.levers.length cap, .int .i64 M.water, .int .i64 M.lkLo, .int .i64 M.lkHi, .slice a2 M.bals.length cap2, .int .i64 M.wrong] 27) := ⟨_, rfl⟩
  have e0 : w0.heap[w.heap.size]? = some (.cells #[.slice a M.levers.length cap, .int .i64 M.water, .int .i64 M.lkLo, .int .i64 M.lkHi, .slice a2 M.bals.length cap2, .int .i64 M.wrong] 27) := by rw [hW]; exact heap_new _ _
  have hb : Below w.heap.size w w0 := by rw [hW]; exact (Below.refl _ w).alloc (Nat.le_refl _) _
  have hsz : w0.heap.size = w.heap.size + 1 := by rw [hW]; simp
  rw [← hW]
  clear hW
  have HM := Lib.hid (fun X (hX : Below w0.heap.size w0 X) => HX.out X (hb.trans (hX.mono hb.size)))
  have HC := Lib.hid (fun X (hX : Below w0.heap.size w0 X) => cells6 ((hX.block w.heap.size (by omega)).trans e0))
  have HWK := Lib.hid (fun X (hX : Below w0.heap.size w0 X) => (works_any X).mono (fun e w' (h : e = .returned (.bool true) ∧ Below X.heap.size X w') => (show e = .returned (.bool true) ∧ Below w.heap.size w w' from ⟨h.1, (hb.trans (hX.mono hb.size)).trans (h.2.mono (Nat.le_trans hb.size hX.size))⟩)))
  have HB0 := Lib.hid (Below.refl w0.heap.size w0)
  clear e0 hb hsz
  refine (Far2_any _ M w0 (HM.out w0 (Below.refl _ _))).mono ?_
  rintro e w1 ⟨⟨r, rfl, hr⟩, hb⟩
  have HB1 := Lib.hid hb
  clear hb
  obtain ⟨c0, c1, c2, c3, c4, c5⟩ := HC.out w1 HB1.out
  cases r with
  | true =>
    go_wp2_with (go_at_call 14; refine (HWK.out w1 HB1.out).mono ?_; rintro e wz ⟨rfl, hbz⟩; have HBZ := Lib.hid hbz; clear hbz)
    go_ret
    exact ⟨rfl, HBZ.out⟩
  | false =>
    obtain ⟨hn1, hn2, _⟩ := hr rfl
    clear hr
    go_wp2_with fail
    refine (Copy_any _ M w1 (HM.out w1 HB1.out) hn1 hn2).mono ?_
    rintro e w2 ⟨lv, bv, rfl, hlv, hbv, hb⟩
    have HB2 := Lib.hid (HB1.out.trans (hb.mono HB1.out.size))
    obtain ⟨la, lc, lb0, lo0, rfl, _⟩ := id hlv
    obtain ⟨ba, bc, bb0, bo0, rfl, _⟩ := id hbv
    have HLV := Lib.hid hlv
    have HBV := Lib.hid hbv
    clear hb hlv hbv c0 c1 c2 c3 c4 c5 hn1 hn2
    have h6 := heap_new w2 (.cells #[.slice la M.levers.length lc, .int .i64 M.water, .int .i64 M.lkLo, .int .i64 M.lkHi, .slice ba M.bals.length bc, .int .i64 M.wrong] 27)
    have hwD := (Below.refl w2.heap.size w2).alloc (Nat.le_refl _) (.cells #[.slice la M.levers.length lc, .int .i64 M.water, .int .i64 M.lkLo, .int .i64 M.lkHi, .slice ba M.bals.length bc, .int .i64 M.wrong] 27)
    have hbD := HB2.out.alloc HB2.out.size (.cells #[.slice la M.levers.length lc, .int .i64 M.water, .int .i64 M.lkLo, .int .i64 M.lkHi, .slice ba M.bals.length bc, .int .i64 M.wrong] 27)
    have HB3 := Lib.hid hbD
    have HND := Lib.hid h6
    have HWD := Lib.hid hwD
    obtain ⟨c0, c1, c2, c3, c4, c5⟩ := HC.out _ hbD
    obtain ⟨z0, z1, z2, z3, z4, z5⟩ := cells6 h6
    clear h6 hwD hbD
    go_upto_region 4 with fail
    obtain ⟨w3, hD⟩ : ∃ w3, w2.alloc (.cells #[.slice la M.levers.length lc, .int .i64 M.water, .int .i64 M.lkLo, .int .i64 M.lkHi, .slice ba M.bals.length bc, .int .i64 M.wrong] 27) = w3 := ⟨_, rfl⟩
    rw [hD] at HB3 HND HWD ⊢
    clear hD c0 c1 c2 c3 c4 c5 z0 z1 z2 z3 z4 z5
    have HOM := Lib.hid (fun X (hX : Below w3.heap.size w3 X) => (show MachAt X.heap.size X (.agg #[.slice la M.levers.length lc, .int .i64 M.water, .int .i64 M.lkLo, .int .i64 M.lkHi, .slice ba M.bals.length bc, .int .i64 M.wrong]) M from ⟨_, _, rfl, ((HLV.out.below HWD.out).mono HWD.out.size).below hX |>.mono hX.size, ((HBV.out.below HWD.out).mono HWD.out.size).below hX |>.mono hX.size, HI64.out⟩))
    have HE3 := Lib.hid (Below.refl w3.heap.size w3)
    obtain ⟨⟨fv, fe⟩, hfa⟩ : ∃ q, fewA M = q := ⟨_, rfl⟩
    obtain ⟨⟨mv, me⟩, hma⟩ : ∃ q, manyA M = q := ⟨_, rfl⟩
    obtain ⟨⟨sl, se⟩, hsa⟩ : ∃ q, listA M (wB n 0 ((M.levers.length : Int) - 1)) (shortsM M n.toNat) = q := ⟨_, rfl⟩
    obtain ⟨⟨kl, ke⟩, hka⟩ : ∃ q, listA M true (leaksM M) = q := ⟨_, rfl⟩
    obtain ⟨⟨tl, te⟩, hta⟩ : ∃ q, listA M true (strM M) = q := ⟨_, rfl⟩
    have HCO := Lib.hid (fun X (hX : Below w3.heap.size w3 X) => check_any _ M X (HOM.out X hX))
    have HCM := Lib.hid (fun X (hX : Below w0.heap.size w0 X) => rCheck_any _ M X (HM.out X hX))
    obtain ⟨ck, hck⟩ : ∃ ck, chkM M = ck := ⟨_, rfl⟩
    rw [hck] at HCO HCM
    have HP1 := Lib.hid (fun X (hX : Below w3.heap.size w3 X) => lFewest_all _ M X (HOM.out X hX))
    have HP2 := Lib.hid (fun X (hX : Below w0.heap.size w0 X) => uFewest_all _ M X (HM.out X hX))
    have HP3 := Lib.hid (fun X (hX : Below w3.heap.size w3 X) => lMany_all _ M X (HOM.out X hX))
    have HP4 := Lib.hid (fun X (hX : Below w0.heap.size w0 X) => uMany_all _ M X (HM.out X hX))
    have HP5 := Lib.hid (fun X (hX : Below w3.heap.size w3 X) => lShorts_all _ M X (HOM.out X hX) n)
    have HP6 := Lib.hid (fun X (hX : Below w0.heap.size w0 X) => uShorts_all _ M X (HM.out X hX) n)
    have HP7 := Lib.hid (fun X (hX : Below w3.heap.size w3 X) => lLeaks_all _ M X (HOM.out X hX))
    have HP8 := Lib.hid (fun X (hX : Below w0.heap.size w0 X) => uLeaks_all _ M X (HM.out X hX))
    have HP9 := Lib.hid (fun X (hX : Below w3.heap.size w3 X) => lStrange_all _ M X (HOM.out X hX))
    have HP10 := Lib.hid (fun X (hX : Below w0.heap.size w0 X) => uStrange_all _ M X (HM.out X hX))
    rw [hfa] at HP1 HP2
    rw [hma] at HP3 HP4
    rw [hsa] at HP5 HP6
    rw [hka] at HP7 HP8
    rw [hta] at HP9 HP10
    clear hfa hma hsa hka hta hck
    refine wp_region_facts _ 5 [27, 28, 29, 30, 31] [isV (.agg #[.slice la M.levers.length lc, .int .i64 M.water, .int .i64 M.lkLo, .int .i64 M.lkHi, .slice ba M.bals.length bc, .int .i64 M.wrong]), ⟨fun v W => v = .int .i64 ck, fun _ _ _ h _ => h⟩, isV (.agg #[.slice a M.levers.length cap, .int .i64 M.water, .int .i64 M.lkLo, .int .i64 M.lkHi, .slice a2 M.bals.length cap2, .int .i64 M.wrong]), ⟨fun v W => v = .int .i64 ck, fun _ _ _ h _ => h⟩, isV (.bool false)] (by kernel_rfl) (by kernel_rfl) (by kernel_rfl) rfl (by decide) (by decide) (by simp) ?step ?rest
    case step =>
      intro i ac W d hi hd hb hoff hdep
      obtain ⟨c0, c1, c2, c3, c4, c5⟩ := HC.out W (HB3.out.trans (hb.mono HB3.out.size))
      obtain ⟨z0, z1, z2, z3, z4, z5⟩ := cells6 ((hb.block w2.heap.size (heap_lt HND.out)).trans HND.out)
      have hi2 : i = 0 ∨ i = 1 ∨ i = 2 ∨ i = 3 ∨ i = 4 := by omega
      rcases hi2 with rfl | rfl | rfl | rfl | rfl
      · obtain rfl : 27 = d := by simpa using hd
        have q5 : ac.tmps[5]?.getD undef = .pointer (some ⟨w2.heap.size, 0, none⟩) := (eval_tmp _ _).symm.trans <| (hoff 5 (by decide)).trans rfl
        refine fact_value rfl rfl rfl (v := .agg #[.slice la M.levers.length lc, .int .i64 M.water, .int .i64 M.lkLo, .int .i64 M.lkHi, .slice ba M.bals.length bc, .int .i64 M.wrong]) (W' := W) ?_ (Below.refl _ _) rfl
        simp only [execOp]
        go_simp
      · obtain rfl : 28 = d := by simpa using hd
        have q27 : ac.tmps[27]?.getD undef = .agg #[.slice la M.levers.length lc, .int .i64 M.water, .int .i64 M.lkLo, .int .i64 M.lkHi, .slice ba M.bals.length bc, .int .i64 M.wrong] := (eval_tmp _ _).symm.trans (hdep 0 27 rfl rfl)
        refine fact_call rfl rfl rfl (f := 40) (args := #[.agg #[.slice la M.levers.length lc, .int .i64 M.water, .int .i64 M.lkLo, .int .i64 M.lkHi, .slice ba M.bals.length bc, .int .i64 M.wrong]]) ?_ ?_
        · simp only [execOp]
          go_simp
        · refine (HCO.out W hb).mono ?_
          rintro e w' ⟨rfl, hb2⟩
          exact ⟨_, rfl, hb2, rfl⟩
      · obtain rfl : 29 = d := by simpa using hd
        have q2 : ac.tmps[2]?.getD undef = .pointer (some ⟨w.heap.size, 0, none⟩) := (eval_tmp _ _).symm.trans <| (hoff 2 (by decide)).trans rfl
        refine fact_value rfl rfl rfl (v := .agg #[.slice a M.levers.length cap, .int .i64 M.water, .int .i64 M.lkLo, .int .i64 M.lkHi, .slice a2 M.bals.length cap2, .int .i64 M.wrong]) (W' := W) ?_ (Below.refl _ _) rfl
        simp only [execOp]
        go_simp
      · obtain rfl : 30 = d := by simpa using hd
        have q29 : ac.tmps[29]?.getD undef = .agg #[.slice a M.levers.length cap, .int .i64 M.water, .int .i64 M.lkLo, .int .i64 M.lkHi, .slice a2 M.bals.length cap2, .int .i64 M.wrong] := (eval_tmp _ _).symm.trans (hdep 2 29 rfl rfl)
        refine fact_call rfl rfl rfl (f := 41) (args := #[.agg #[.slice a M.levers.length cap, .int .i64 M.water, .int .i64 M.lkLo, .int .i64 M.lkHi, .slice a2 M.bals.length cap2, .int .i64 M.wrong]]) ?_ ?_
        · simp only [execOp]
          go_simp
        · refine (HCM.out W (HB3.out.trans (hb.mono HB3.out.size))).mono ?_
          rintro e w' ⟨rfl, hb2⟩
          exact ⟨_, rfl, hb2, rfl⟩
      · obtain rfl : 31 = d := by simpa using hd
        have q28 : (ac.tmps[28]?.getD undef) = .int .i64 ck := eval_tmp ac _ ▸ hdep 1 28 rfl rfl
        have q30 : (ac.tmps[30]?.getD undef) = .int .i64 ck := eval_tmp ac _ ▸ hdep 3 30 rfl rfl
        refine fact_value rfl rfl rfl (v := .bool false) (W' := W) ?_ (Below.refl _ _) rfl
        simp only [execOp]
        go_simp
    case rest =>
      intro vs w4 hvl hb hval
      obtain ⟨v0, v1, v2, v3, v4, rfl⟩ : ∃ v0 v1 v2 v3 v4, vs = [v0, v1, v2, v3, v4] := by
        match vs, hvl with
        | [v0, v1, v2, v3, v4], _ => exact ⟨v0, v1, v2, v3, v4, rfl⟩
      obtain rfl : v0 = .agg #[.slice la M.levers.length lc, .int .i64 M.water, .int .i64 M.lkLo, .int .i64 M.lkHi, .slice ba M.bals.length bc, .int .i64 M.wrong] := by obtain ⟨u, e, h⟩ := hval 0 (by omega); have e2 : some v0 = some u := e; injection e2 with e2; subst e2; exact h
      have k1 : v1 = .int .i64 ck := by obtain ⟨u, e, h⟩ := hval 1 (by omega); have e2 : some v1 = some u := e; injection e2 with e2; subst e2; exact h
      obtain rfl : v2 = .agg #[.slice a M.levers.length cap, .int .i64 M.water, .int .i64 M.lkLo, .int .i64 M.lkHi, .slice a2 M.bals.length cap2, .int .i64 M.wrong] := by obtain ⟨u, e, h⟩ := hval 2 (by omega); have e2 : some v2 = some u := e; injection e2 with e2; subst e2; exact h
      have k3 : v3 = .int .i64 ck := by obtain ⟨u, e, h⟩ := hval 3 (by omega); have e2 : some v3 = some u := e; injection e2 with e2; subst e2; exact h
      obtain rfl : v4 = .bool false := by obtain ⟨u, e, h⟩ := hval 4 (by omega); have e2 : some v4 = some u := e; injection e2 with e2; subst e2; exact h
      clear hval hvl
      simp only [putL, Act.put, List.drop, List.setIfInBounds_toArray, List.set_cons_zero, List.set_cons_succ]

      subst k1
      subst k3
      have HE4 := Lib.hid hb
      have HB4 := Lib.hid (HB3.out.trans (hb.mono HB3.out.size))
      clear hb
      obtain ⟨c0, c1, c2, c3, c4, c5⟩ := HC.out w4 HB4.out
      obtain ⟨z0, z1, z2, z3, z4, z5⟩ := cells6 ((HE4.out.block w2.heap.size (heap_lt HND.out)).trans HND.out)
      go_wp2_with fail
      refine (HP1.out w4 HE4.out).mono ?_
      rintro e w5 ⟨rfl, hb⟩
      have HS5 := Lib.hid hb
      have HE5 := Lib.hid (HE4.out.trans (hb.mono HE4.out.size))
      have HB5 := Lib.hid (HB3.out.trans (HE5.out.mono HB3.out.size))
      clear hb c0 c1 c2 c3 c4 c5 z0 z1 z2 z3 z4 z5
      obtain ⟨c0, c1, c2, c3, c4, c5⟩ := HC.out w5 HB5.out
      obtain ⟨z0, z1, z2, z3, z4, z5⟩ := cells6 ((HE5.out.block w2.heap.size (heap_lt HND.out)).trans HND.out)
      go_wp2_with fail
      refine (HP2.out w5 HB5.out).mono ?_
      rintro e w6 ⟨rfl, hb⟩
      have HS6 := Lib.hid hb
      have HE6 := Lib.hid (HE5.out.trans (hb.mono HE5.out.size))
      have HB6 := Lib.hid (HB3.out.trans (HE6.out.mono HB3.out.size))
      clear hb c0 c1 c2 c3 c4 c5 z0 z1 z2 z3 z4 z5
      obtain ⟨c0, c1, c2, c3, c4, c5⟩ := HC.out w6 HB6.out
      obtain ⟨z0, z1, z2, z3, z4, z5⟩ := cells6 ((HE6.out.block w2.heap.size (heap_lt HND.out)).trans HND.out)
      go_wp2_with fail
      refine (HP3.out w6 HE6.out).mono ?_
      rintro e w7 ⟨rfl, hb⟩
      have HS7 := Lib.hid hb
      have HE7 := Lib.hid (HE6.out.trans (hb.mono HE6.out.size))
      have HB7 := Lib.hid (HB3.out.trans (HE7.out.mono HB3.out.size))
      clear hb c0 c1 c2 c3 c4 c5 z0 z1 z2 z3 z4 z5
      obtain ⟨c0, c1, c2, c3, c4, c5⟩ := HC.out w7 HB7.out
      obtain ⟨z0, z1, z2, z3, z4, z5⟩ := cells6 ((HE7.out.block w2.heap.size (heap_lt HND.out)).trans HND.out)
      go_wp2_with fail
      refine (HP4.out w7 HB7.out).mono ?_
      rintro e w8 ⟨rfl, hb⟩
      have HS8 := Lib.hid hb
      have HE8 := Lib.hid (HE7.out.trans (hb.mono HE7.out.size))
      have HB8 := Lib.hid (HB3.out.trans (HE8.out.mono HB3.out.size))
      clear hb c0 c1 c2 c3 c4 c5 z0 z1 z2 z3 z4 z5
      obtain ⟨c0, c1, c2, c3, c4, c5⟩ := HC.out w8 HB8.out
      obtain ⟨z0, z1, z2, z3, z4, z5⟩ := cells6 ((HE8.out.block w2.heap.size (heap_lt HND.out)).trans HND.out)
      go_wp2_with fail
      refine (HP5.out w8 HE8.out).mono ?_
      rintro e w9 ⟨⟨q5, rfl, hq⟩, hb⟩
      have HS9 := Lib.hid hb
      have HE9 := Lib.hid (HE8.out.trans (hb.mono HE8.out.size))
      have HB9 := Lib.hid (HB3.out.trans (HE9.out.mono HB3.out.size))
      have HQ5 := Lib.hid (fun X (hX : Below w9.heap.size w9 X) => (hq.below hX).mono hX.size)
      clear hq
      clear hb c0 c1 c2 c3 c4 c5 z0 z1 z2 z3 z4 z5
      obtain ⟨c0, c1, c2, c3, c4, c5⟩ := HC.out w9 HB9.out
      obtain ⟨z0, z1, z2, z3, z4, z5⟩ := cells6 ((HE9.out.block w2.heap.size (heap_lt HND.out)).trans HND.out)
      go_wp2_with fail
      refine (HP6.out w9 HB9.out).mono ?_
      rintro e w10 ⟨⟨q6, rfl, hq⟩, hb⟩
      have HS10 := Lib.hid hb
      have HE10 := Lib.hid (HE9.out.trans (hb.mono HE9.out.size))
      have HB10 := Lib.hid (HB3.out.trans (HE10.out.mono HB3.out.size))
      have HQ6 := Lib.hid (fun X (hX : Below w10.heap.size w10 X) => (hq.below hX).mono hX.size)
      clear hq
      clear hb c0 c1 c2 c3 c4 c5 z0 z1 z2 z3 z4 z5
      obtain ⟨c0, c1, c2, c3, c4, c5⟩ := HC.out w10 HB10.out
      obtain ⟨z0, z1, z2, z3, z4, z5⟩ := cells6 ((HE10.out.block w2.heap.size (heap_lt HND.out)).trans HND.out)
      go_wp2_with fail
      refine (HP7.out w10 HE10.out).mono ?_
      rintro e w11 ⟨⟨q7, rfl, hq⟩, hb⟩
      have HS11 := Lib.hid hb
      have HE11 := Lib.hid (HE10.out.trans (hb.mono HE10.out.size))
      have HB11 := Lib.hid (HB3.out.trans (HE11.out.mono HB3.out.size))
      have HQ7 := Lib.hid (fun X (hX : Below w11.heap.size w11 X) => (hq.below hX).mono hX.size)
      clear hq
      clear hb c0 c1 c2 c3 c4 c5 z0 z1 z2 z3 z4 z5
      obtain ⟨c0, c1, c2, c3, c4, c5⟩ := HC.out w11 HB11.out
      obtain ⟨z0, z1, z2, z3, z4, z5⟩ := cells6 ((HE11.out.block w2.heap.size (heap_lt HND.out)).trans HND.out)
      go_wp2_with fail
      refine (HP8.out w11 HB11.out).mono ?_
      rintro e w12 ⟨⟨q8, rfl, hq⟩, hb⟩
      have HS12 := Lib.hid hb
      have HE12 := Lib.hid (HE11.out.trans (hb.mono HE11.out.size))
      have HB12 := Lib.hid (HB3.out.trans (HE12.out.mono HB3.out.size))
      have HQ8 := Lib.hid (fun X (hX : Below w12.heap.size w12 X) => (hq.below hX).mono hX.size)
      clear hq
      clear hb c0 c1 c2 c3 c4 c5 z0 z1 z2 z3 z4 z5
      obtain ⟨c0, c1, c2, c3, c4, c5⟩ := HC.out w12 HB12.out
      obtain ⟨z0, z1, z2, z3, z4, z5⟩ := cells6 ((HE12.out.block w2.heap.size (heap_lt HND.out)).trans HND.out)
      go_wp2_with fail
      refine (HP9.out w12 HE12.out).mono ?_
      rintro e w13 ⟨⟨q9, rfl, hq⟩, hb⟩
      have HS13 := Lib.hid hb
      have HE13 := Lib.hid (HE12.out.trans (hb.mono HE12.out.size))
      have HB13 := Lib.hid (HB3.out.trans (HE13.out.mono HB3.out.size))
      have HQ9 := Lib.hid (fun X (hX : Below w13.heap.size w13 X) => (hq.below hX).mono hX.size)
      clear hq
      clear hb c0 c1 c2 c3 c4 c5 z0 z1 z2 z3 z4 z5
      obtain ⟨c0, c1, c2, c3, c4, c5⟩ := HC.out w13 HB13.out
      obtain ⟨z0, z1, z2, z3, z4, z5⟩ := cells6 ((HE13.out.block w2.heap.size (heap_lt HND.out)).trans HND.out)
      go_wp2_with fail
      refine (HP10.out w13 HB13.out).mono ?_
      rintro e w14 ⟨⟨q10, rfl, hq⟩, hb⟩
      have HS14 := Lib.hid hb
      have HE14 := Lib.hid (HE13.out.trans (hb.mono HE13.out.size))
      have HB14 := Lib.hid (HB3.out.trans (HE14.out.mono HB3.out.size))
      have HQ10 := Lib.hid (fun X (hX : Below w14.heap.size w14 X) => (hq.below hX).mono hX.size)
      clear hq
      clear hb c0 c1 c2 c3 c4 c5 z0 z1 z2 z3 z4 z5
      obtain ⟨c0, c1, c2, c3, c4, c5⟩ := HC.out w14 HB14.out
      obtain ⟨z0, z1, z2, z3, z4, z5⟩ := cells6 ((HE14.out.block w2.heap.size (heap_lt HND.out)).trans HND.out)
      have HR5 := Lib.hid (show Below w9.heap.size w9 w14 from by first | exact Below.refl _ _ | exact HS10.out.trans ((HS11.out.trans ((HS12.out.trans ((HS13.out.trans ((HS14.out).mono HS13.out.size)).mono HS12.out.size)).mono HS11.out.size)).mono HS10.out.size))
      have HR6 := Lib.hid (show Below w10.heap.size w10 w14 from by first | exact Below.refl _ _ | exact HS11.out.trans ((HS12.out.trans ((HS13.out.trans ((HS14.out).mono HS13.out.size)).mono HS12.out.size)).mono HS11.out.size))
      have HR7 := Lib.hid (show Below w11.heap.size w11 w14 from by first | exact Below.refl _ _ | exact HS12.out.trans ((HS13.out.trans ((HS14.out).mono HS13.out.size)).mono HS12.out.size))
      have HR8 := Lib.hid (show Below w12.heap.size w12 w14 from by first | exact Below.refl _ _ | exact HS13.out.trans ((HS14.out).mono HS13.out.size))
      have HR9 := Lib.hid (show Below w13.heap.size w13 w14 from by first | exact Below.refl _ _ | exact HS14.out)
      have HR10 := Lib.hid (show Below w14.heap.size w14 w14 from by first | exact Below.refl _ _ | exact Below.refl _ _)
      go_wp2_with fail
      refine (SameInts_to (r := true) (by simp) (HQ5.out w14 HR5.out) (HQ6.out w14 HR6.out)).mono ?_
      rintro e w15 ⟨rfl, hb⟩
      have HD15 := Lib.hid hb
      have HE15 := Lib.hid (HE14.out.trans (hb.mono HE14.out.size))
      have HB15 := Lib.hid (HB3.out.trans (HE15.out.mono HB3.out.size))
      clear hb c0 c1 c2 c3 c4 c5 z0 z1 z2 z3 z4 z5
      obtain ⟨c0, c1, c2, c3, c4, c5⟩ := HC.out w15 HB15.out
      obtain ⟨z0, z1, z2, z3, z4, z5⟩ := cells6 ((HE15.out.block w2.heap.size (heap_lt HND.out)).trans HND.out)
      go_wp2_with fail
      refine (SameInts_to (r := true) (by simp) (HQ7.out w15 (HR7.out.trans (HD15.out.mono HR7.out.size))) (HQ8.out w15 (HR8.out.trans (HD15.out.mono HR8.out.size)))).mono ?_
      rintro e w16 ⟨rfl, hb⟩
      have HD16 := Lib.hid (HD15.out.trans (hb.mono HD15.out.size))
      have HE16 := Lib.hid (HE15.out.trans (hb.mono HE15.out.size))
      have HB16 := Lib.hid (HB3.out.trans (HE16.out.mono HB3.out.size))
      clear hb c0 c1 c2 c3 c4 c5 z0 z1 z2 z3 z4 z5
      obtain ⟨c0, c1, c2, c3, c4, c5⟩ := HC.out w16 HB16.out
      obtain ⟨z0, z1, z2, z3, z4, z5⟩ := cells6 ((HE16.out.block w2.heap.size (heap_lt HND.out)).trans HND.out)
      go_wp2_with fail
      refine (SameInts_to (r := true) (by simp) (HQ9.out w16 (HR9.out.trans (HD16.out.mono HR9.out.size))) (HQ10.out w16 (HR10.out.trans (HD16.out.mono HR10.out.size)))).mono ?_
      rintro e w17 ⟨rfl, hb⟩
      have HD17 := Lib.hid (HD16.out.trans (hb.mono HD16.out.size))
      have HE17 := Lib.hid (HE16.out.trans (hb.mono HE16.out.size))
      have HB17 := Lib.hid (HB3.out.trans (HE17.out.mono HB3.out.size))
      clear hb c0 c1 c2 c3 c4 c5 z0 z1 z2 z3 z4 z5
      obtain ⟨c0, c1, c2, c3, c4, c5⟩ := HC.out w17 HB17.out
      obtain ⟨z0, z1, z2, z3, z4, z5⟩ := cells6 ((HE17.out.block w2.heap.size (heap_lt HND.out)).trans HND.out)
      go_wp2_with fail
      refine (same_any _ _ M w17 (HOM.out w17 HE17.out) (HM.out w17 HB17.out)).mono ?_
      rintro e w18 ⟨rfl, hb⟩
      have HB18 := Lib.hid (HB17.out.trans (hb.mono HB17.out.size))
      clear hb
      go_wp2_with (go_at_call 14; refine (HWK.out w18 HB18.out).mono ?_; rintro e wz ⟨rfl, hbz⟩; have HBZ := Lib.hid hbz; clear hbz)
      go_ret
      exact ⟨rfl, HBZ.out⟩
end Go.Proofs.Ytomcjopcfdllgaa
