/-
  Levers, the theorem of one more balance: the law's body.
-/
import Derived.Test.YtomcjopcfdllgaaVMoreW

namespace Go.Proofs.Ytomcjopcfdllgaa
open Go.RowKit Go.Shelf

theorem run_mn4 {P : Program} (w : World) (ts : Array TypeId) (t : TypeId) (a b c d : Int) : (Builtin.min_ ts t #[.int .i64 a, .int .i64 b, .int .i64 c, .int .i64 d]).run P w = .ok (.int .i64 (min (min (min a b) c) d)) w := by
  have e : ∀ x y : Int, (if y < x then y else x) = min x y := fun x y => by split <;> omega
  simp [Builtin.min_, Builtin.min2, e]
theorem run_mx4 {P : Program} (w : World) (ts : Array TypeId) (t : TypeId) (a b c d : Int) : (Builtin.max_ ts t #[.int .i64 a, .int .i64 b, .int .i64 c, .int .i64 d]).run P w = .ok (.int .i64 (max (max (max a b) c) d)) w := by
  have e : ∀ x y : Int, (if x < y then y else x) = max x y := fun x y => by split <;> omega
  simp [Builtin.max_, Builtin.max2, e]
attribute [local go_sem high] run_mn2a run_mx2a run_mn4 run_mx4
theorem levs_same {M : Mach} (hV : ValidM M) : Wider M.levers M.levers ∧ ∀ i, i < M.levers.length → LI64 (lnth M.levers i) := ⟨wider_refl _, fun i hi => lev_i64 hV (by rw [lnth_lt hi]; exact List.getElem_mem hi)⟩
theorem bals_same {M : Mach} (hV : ValidM M) : Looser M.bals M.bals ∧ ∀ i, i < M.bals.length → BI64 (bnth M.bals i) := ⟨looser_refl _, bal_i64 hV⟩
theorem levs_wide {M : Mach} (hV : ValidM M) {J : Nat} (hJ : J < M.levers.length) {x y : Int} (h1 : x ≤ (lnth M.levers J).lo) (h2 : (lnth M.levers J).hi ≤ y) (h3 : I64 x) (h4 : I64 y) :
    Wider M.levers (M.levers.set J ⟨(lnth M.levers J).long, x, y⟩) ∧ ∀ i, i < (M.levers.set J ⟨(lnth M.levers J).long, x, y⟩).length → LI64 (lnth (M.levers.set J ⟨(lnth M.levers J).long, x, y⟩) i) := by
  refine ⟨wider_set _ _ _ (fun l hl => ?_), fun i hi => ?_⟩
  · have e : lnth M.levers J = l := by rw [lnth_lt hJ]; have := (List.getElem?_eq_some_iff.1 hl).2; exact this
    rw [e] at h1 h2 ⊢
    exact ⟨h1, h2, rfl⟩
  · rw [List.length_set] at hi
    rw [lnth_lt (by rw [List.length_set]; exact hi), List.getElem_set]
    split
    · have := (levs_same hV).2 J hJ
      exact ⟨this.1, h3, h4⟩
    · have := (levs_same hV).2 i hi
      rwa [lnth_lt hi] at this
theorem bals_off {M : Mach} (hV : ValidM M) {K : Nat} (hK : K < M.bals.length) {x : Int} (h1 : (bnth M.bals K).off ≤ x) (h2 : I64 x) :
    Looser M.bals (M.bals.set K { bnth M.bals K with off := x }) ∧ ∀ i, i < (M.bals.set K { bnth M.bals K with off := x }).length → BI64 (bnth (M.bals.set K { bnth M.bals K with off := x }) i) := by
  refine ⟨looser_set _ _ _ (fun l hl => ?_), fun i hi => ?_⟩
  · have e : bnth M.bals K = l := by rw [bnth_lt hK]; have := (List.getElem?_eq_some_iff.1 hl).2; exact this
    rw [e] at h1 ⊢
    exact ⟨rfl, rfl, rfl, h1⟩
  · rw [List.length_set] at hi
    rw [bnth_lt (by rw [List.length_set]; exact hi), List.getElem_set]
    split
    · have := bal_i64 hV K hK
      exact ⟨this.1, this.2.1, this.2.2.1, h2⟩
    · have := bal_i64 hV i hi
      rwa [bnth_lt hi] at this
theorem row_off {w : World} {base g n c : Nat} {bs : List Bal} {J : Nat} (h : w.ownsRow base 51 4 (.slice (some ⟨g, 0, none⟩) n c) n (bcells bs)) (hJ : J < n) : w.cell? ⟨g, J * 4 + 3, none⟩ = some (.int .i64 (bnth bs J).off) := by
  obtain ⟨hlen, ⟨hv, _⟩ | ⟨g', cap, cur, hv, _, hh, hn, _, hs, ht⟩⟩ := h
  · cases hv
  · injection hv with h1 _ _
    injection h1 with h1
    injection h1 with h1
    subst h1
    have hl : bs.length * 4 = n * 4 := by rw [← bcells_len]; exact hlen
    have hJ2 : J < bs.length := by omega
    have := flat_at bcell 4 (fun _ => rfl) bs hJ2 (show 3 < 4 by omega)
    rw [show bs.flatMap bcell = bcells bs from rfl, ← ht, List.getElem?_take_of_lt (by omega), Array.getElem?_toList] at this
    simp only [World.cell?, hh, Option.isSome_none, Bool.false_eq_true, if_false]
    rw [bnth_lt hJ2]
    exact this
theorem add_at {Z : World} {M C : Mach} {b : Bal} {base B U : Nat} {l1 b1 l2 b2 : Value} (hV : ValidM M) (hb : BI64 b) (h : MoreW base Z (addB M b) C B U l1 b1 l2 b2) :
    MachAt Z.heap.size Z (.agg #[l1, .int .i64 M.water, .int .i64 M.lkLo, .int .i64 M.lkHi, b1, .int .i64 M.wrong]) (addB M b) := by
  refine ⟨_, _, rfl, levs_of_own h.r1 (levs_same hV).2, bals_of_own h.r2 (fun i hi => ?_), (mach_i64 hV : I64 M.water ∧ I64 M.lkLo ∧ I64 M.lkHi ∧ I64 M.wrong)⟩
  rw [bnth_lt hi]
  rcases List.mem_append.1 (List.getElem_mem (l := M.bals ++ [b]) hi) with h | h
  · obtain ⟨j, hj, e⟩ := List.getElem_of_mem h
    have := bal_i64 hV j hj
    rw [bnth_lt hj, e] at this
    exact this
  · have e := List.mem_singleton.1 h
    show BI64 ((M.bals ++ [b])[i])
    rw [e]; exact hb
theorem wide_at {Z : World} {M A C : Mach} {base B U : Nat} {l1 b1 l2 b2 : Value} (hV : ValidM M) (hl : Wider M.levers C.levers ∧ ∀ i, i < C.levers.length → LI64 (lnth C.levers i)) (hb : Looser M.bals C.bals ∧ ∀ i, i < C.bals.length → BI64 (bnth C.bals i)) (h1 : I64 C.lkHi) (h2 : I64 C.wrong) (h : MoreW base Z A C B U l1 b1 l2 b2) (hw : C.water = M.water := by rfl) (hk : C.lkLo = M.lkLo := by rfl) :
    MachAt Z.heap.size Z (.agg #[l2, .int .i64 C.water, .int .i64 C.lkLo, .int .i64 C.lkHi, b2, .int .i64 C.wrong]) C := by
  obtain ⟨m1, m2, _, _⟩ := mach_i64 hV
  exact ⟨_, _, rfl, levs_of_own h.r3 hl.2, bals_of_own h.r4 hb.2, by rw [hw]; exact m1, by rw [hk]; exact m2, h1, h2⟩
set_option maxRecDepth 100000 in
set_option maxHeartbeats 16000000 in
theorem LeversMore_any (v : Value) (M : Mach) (yb : Bal) (y0 y1 y2 y3 y4 y5 x0 x1 x2 : Int) (w : World) (hx : MachAt w.heap.size w v M) (hyb : BI64 yb) (hy : I64 y0 ∧ I64 y1 ∧ I64 y2 ∧ I64 y3 ∧ I64 y4 ∧ I64 y5) (_hi : I64 x0 ∧ I64 x1 ∧ I64 x2) :
    Calls Try.prog 4 #[v, .agg #[.int .i64 yb.weight, .int .i64 yb.minutes, .int .i64 yb.load, .int .i64 yb.off, .int .i64 y0, .int .i64 y1, .int .i64 y2, .int .i64 y3, .int .i64 y4, .int .i64 y5], .agg #[.int .i64 x0, .int .i64 x1, .int .i64 x2]] w fun e w' => e = .returned (.bool true) ∧ Below w.heap.size w w' := by
  have HX := Lib.hid (fun W (hb : Below w.heap.size w W) => (hx.below hb).mono hb.size)
  obtain ⟨a, cap, a2, cap2, rfl⟩ := hx.form
  clear hx
  have HYB := Lib.hid hyb
  clear hyb
  unfold I64 at hy
  go_enter Try.func4, Try.ntmps4
  go_wp2_with fail
  obtain ⟨W, hW⟩ : ∃ W, W = ((w.alloc (.cells #[.slice a M.levers.length cap, .int .i64 M.water, .int .i64 M.lkLo, .int .i64 M.lkHi, .slice a2 M.bals.length cap2, .int .i64 M.wrong] 27)).alloc (.cells #[.int .i64 yb.weight, .int .i64 yb.minutes, .int .i64 yb.load, .int .i64 yb.off, .int .i64 y0, .int .i64 y1, .int .i64 y2, .int .i64 y3, .int .i64 y4, .int .i64 y5] 58)).alloc (.cells #[.int .i64 x0, .int .i64 x1, .int .i64 x2] 32) := ⟨_, rfl⟩
  have h3 := heap3w w (.cells #[.slice a M.levers.length cap, .int .i64 M.water, .int .i64 M.lkLo, .int .i64 M.lkHi, .slice a2 M.bals.length cap2, .int .i64 M.wrong] 27) (.cells #[.int .i64 yb.weight, .int .i64 yb.minutes, .int .i64 yb.load, .int .i64 yb.off, .int .i64 y0, .int .i64 y1, .int .i64 y2, .int .i64 y3, .int .i64 y4, .int .i64 y5] 58) (.cells #[.int .i64 x0, .int .i64 x1, .int .i64 x2] 32)
  rw [← hW] at h3 ⊢
  clear hW
  obtain ⟨e0, e1, e2, hb, hsz⟩ := h3
  have HB := Lib.hid hb
  have HM := Lib.hid (fun X (hX : Below W.heap.size W X) => HX.out X (hb.trans (hX.mono hb.size)))
  have HC := Lib.hid (fun X (hX : Below W.heap.size W X) => (show _ ∧ _ ∧ _ from ⟨cells6 ((hX.block w.heap.size (by omega)).trans e0), cells10 ((hX.block (w.heap.size + 1) (by omega)).trans e1), cells3 ((hX.block (w.heap.size + 1 + 1) (by omega)).trans e2)⟩))
  have HWK := Lib.hid (fun X (hX : Below W.heap.size W X) => (works_any X).mono (fun e w' (h : e = .returned (.bool true) ∧ Below X.heap.size X w') => (show e = .returned (.bool true) ∧ Below w.heap.size w w' from ⟨h.1, (hb.trans (hX.mono hb.size)).trans (h.2.mono (Nat.le_trans hb.size hX.size))⟩)))
  have hwlt : w.heap.size + 2 < W.heap.size := by omega
  clear e0 e1 e2 hb hsz
  refine (ready_any _ M W (HM.out W (Below.refl _ _))).mono ?_
  rintro e w1 ⟨⟨r, rfl, hr⟩, hb⟩
  have HB1 := Lib.hid hb
  obtain ⟨⟨c0, c1, c2, c3, c4, c5⟩, ⟨⟨z0, z1, z2, z3, z4⟩, z5, z6, z7, z8, z9⟩, f0, f1, f2⟩ := HC.out w1 hb
  clear hb
  cases r with
  | false =>
    go_wp2_with (go_at_call 14; refine (HWK.out w1 HB1.out).mono ?_; rintro e wz ⟨rfl, hbz⟩; have HBZ := Lib.hid hbz; clear hbz)
    go_ret
    exact ⟨rfl, HBZ.out⟩
  | true =>
    have HV := Lib.hid (validM_iff.1 (hr rfl))
    have HVB := Lib.hid (hr rfl)
    clear hr
    go_wp2_with fail
    refine (isAsk_any x0 x1 x2 w1).mono ?_
    rintro e w2 ⟨rfl, hb⟩
    have HB2 := Lib.hid (HB1.out.trans (hb.mono HB1.out.size))
    clear hb
    clear c0 c1 c2 c3 c4 c5 z0 z1 z2 z3 z4 z5 z6 z7 z8 z9 f0 f1 f2
    obtain ⟨⟨c0, c1, c2, c3, c4, c5⟩, ⟨⟨z0, z1, z2, z3, z4⟩, z5, z6, z7, z8, z9⟩, f0, f1, f2⟩ := HC.out w2 HB2.out
    cases h1 : ask3 x0 x1 x2 with
    | false =>
      go_wp2_with (go_at_call 14; refine (HWK.out w2 HB2.out).mono ?_; rintro e wz ⟨rfl, hbz⟩; have HBZ := Lib.hid hbz; clear hbz)
      go_ret
      exact ⟨rfl, HBZ.out⟩
    | true =>
      obtain ⟨hx0, hx1, hx2⟩ := ask3_iff.1 h1
      clear h1
      obtain ⟨mn, hmn⟩ : ∃ mn, min (min (min y1 y2) y4) y5 = mn := ⟨_, rfl⟩
      obtain ⟨mx, hmx⟩ : ∃ mx, max (max (max y1 y2) y4) y5 = mx := ⟨_, rfl⟩
      by_cases hk1 : mn < 0
      · go_wp2_with (go_at_call 14; refine (HWK.out w2 HB2.out).mono ?_; rintro e wz ⟨rfl, hbz⟩; have HBZ := Lib.hid hbz; clear hbz)
        go_ret
        exact ⟨rfl, HBZ.out⟩
      by_cases hk2 : 999999999 < mx
      · go_wp2_with (go_at_call 14; refine (HWK.out w2 HB2.out).mono ?_; rintro e wz ⟨rfl, hbz⟩; have HBZ := Lib.hid hbz; clear hbz)
        go_ret
        exact ⟨rfl, HBZ.out⟩
      go_wp2_with fail
      have hk : (0 ≤ y1 ∧ y1 ≤ 999999999) ∧ (0 ≤ y2 ∧ y2 ≤ 999999999) ∧ (0 ≤ y4 ∧ y4 ≤ 999999999) ∧ 0 ≤ y5 ∧ y5 ≤ 999999999 := by omega
      clear hmn hmx hk1 hk2
      clear c0 c1 c2 c3 c4 c5 z0 z1 z2 z3 z4 z5 z6 z7 z8 z9 f0 f1 f2
      have hfl := fewest_le M
      have htf := truth_few HV.out
      have hnl40 : M.levers.length ≤ 40 := by have := HV.out.nl; omega
      have hnb40 : M.bals.length ≤ 40 := by have := HV.out.nb; omega
      obtain ⟨FN, hFN⟩ : ∃ FN, fewestM M = FN := ⟨_, rfl⟩
      have hF := Fewest_any _ M w2 (HM.out w2 HB2.out) HVB.out
      rw [hFN] at hF hfl htf
      refine hF.mono ?_
      rintro e w3 ⟨rfl, hb⟩
      have HB3 := Lib.hid (HB2.out.trans (hb.mono HB2.out.size))
      clear hb hF hFN
      obtain ⟨⟨c0, c1, c2, c3, c4, c5⟩, ⟨⟨z0, z1, z2, z3, z4⟩, z5, z6, z7, z8, z9⟩, f0, f1, f2⟩ := HC.out w3 HB3.out
      go_wp2_with fail
      clear c0 c1 c2 c3 c4 c5 z0 z1 z2 z3 z4 z5 z6 z7 z8 z9 f0 f1 f2
      have hT := Many_any _ M w3 (HM.out w3 HB3.out) HVB.out
      obtain ⟨fr, hfr⟩ : ∃ fr, noneE (truthsM M).length = fr := ⟨_, rfl⟩
      rw [hfr] at hT
      refine hT.mono ?_
      rintro e w4 ⟨rfl, hb⟩
      have HB4 := Lib.hid (HB3.out.trans (hb.mono HB3.out.size))
      clear hb hT
      have hfr2 : (fr = 3 ∧ ¬ ((FN : Nat) : Int) ≤ M.wrong) ∨ (fr = 0 ∧ ((FN : Nat) : Int) ≤ M.wrong) := by
        by_cases he : truthsM M = []
        · exact .inl ⟨by rw [← hfr, he]; rfl, fun h => htf.2 h he⟩
        · exact .inr ⟨by rw [← hfr]; exact noneE_pos (fun h => he (List.length_eq_zero_iff.1 h)), htf.1 he⟩
      have hfl2 : ((FN : Nat) : Int) ≤ ((M.bals.length : Nat) : Int) := by omega
      clear hfr htf
      obtain ⟨⟨c0, c1, c2, c3, c4, c5⟩, ⟨⟨z0, z1, z2, z3, z4⟩, z5, z6, z7, z8, z9⟩, f0, f1, f2⟩ := HC.out w4 HB4.out
      have hgo : ∀ (P : Prop), (∀ (fr : Int), fr = 0 ∨ fr = 3 → P) → P := fun P h => h 0 (.inl rfl)
      clear hgo
      have hfr3 : fr = 0 ∨ fr = 3 := by rcases hfr2 with h | h; exact .inr h.1; exact .inl h.1
      obtain ⟨bo, hq1, hq2, hq3⟩ : ∃ bo, (fr == 0) = bo ∧ decide (fr = 0) = bo ∧ decide (((FN : Nat) : Int) ≤ M.wrong) = bo := by
        rcases hfr2 with ⟨rfl, h⟩ | ⟨rfl, h⟩
        · exact ⟨false, rfl, rfl, by simpa using h⟩
        · exact ⟨true, rfl, rfl, by simpa using h⟩
      clear hfr2
      go_upto_region 7 with (go_at_call 29; (refine (isKnown_any fr _ hfr3).mono ?_; rintro e w' ⟨rfl, rfl⟩))
      clear c0 c1 c2 c3 c4 c5 z0 z1 z2 z3 z4 z5 z6 z7 z8 z9 f0 f1 f2
      refine wp_region_factsK _ 6 [84, 85, 86, 87, 11, 12] (psM w4.heap.size (.agg #[.slice a M.levers.length cap, .int .i64 M.water, .int .i64 M.lkLo, .int .i64 M.lkHi, .slice a2 M.bals.length cap2, .int .i64 M.wrong]) M) keyM (by kernel_rfl) (by kernel_rfl) (by kernel_rfl) rfl (by decide) (by decide) (by simp) keyM_lt ?step ?rest
      case step =>
        intro i ac W d hi hd hb hoff hdep
        have hlo := hb.size
        have hbW := HB4.out.trans (hb.mono HB4.out.size)
        obtain ⟨⟨c0, c1, c2, c3, c4, c5⟩, _⟩ := HC.out W hbW
        have hi2 : i = 0 ∨ i = 1 ∨ i = 2 ∨ i = 3 ∨ i = 4 ∨ i = 5 := by omega
        rcases hi2 with rfl | rfl | rfl | rfl | rfl | rfl
        · obtain rfl : 84 = d := by simpa using hd
          have q3 : ac.tmps[3]?.getD undef = .pointer (some ⟨w.heap.size, 0, none⟩) := (eval_tmp _ _).symm.trans <| (hoff 3 (by decide)).trans rfl
          refine factK (fun _ => rfl) ?_
          refine fact_value rfl rfl rfl (v := .agg #[.slice a M.levers.length cap, .int .i64 M.water, .int .i64 M.lkLo, .int .i64 M.lkHi, .slice a2 M.bals.length cap2, .int .i64 M.wrong]) (W' := W) ?_ (Below.refl _ _) rfl
          simp only [execOp]
          go_simp
        · obtain rfl : 85 = d := by simpa using hd
          have q84 : ac.tmps[84]?.getD undef = .agg #[.slice a M.levers.length cap, .int .i64 M.water, .int .i64 M.lkLo, .int .i64 M.lkHi, .slice a2 M.bals.length cap2, .int .i64 M.wrong] := (eval_tmp _ _).symm.trans (hdep 0 84 rfl rfl)
          refine fact_callK rfl rfl rfl (f := 30) (args := #[.agg #[.slice a M.levers.length cap, .int .i64 M.water, .int .i64 M.lkLo, .int .i64 M.lkHi, .slice a2 M.bals.length cap2, .int .i64 M.wrong]]) ?_ ?_
          · simp only [execOp]
            go_simp
          · refine (Copy_M _ M W (HM.out W hbW) hnl40 hnb40).mono ?_
            rintro e w' ⟨u, rfl, hb2, hc⟩
            exact ⟨u, rfl, hb2, hc.low hlo, fun b hk => (hc.key (by simpa [keyM] using hk)).1⟩
        · obtain rfl : 86 = d := by simpa using hd
          have q3 : ac.tmps[3]?.getD undef = .pointer (some ⟨w.heap.size, 0, none⟩) := (eval_tmp _ _).symm.trans <| (hoff 3 (by decide)).trans rfl
          refine factK (fun _ => rfl) ?_
          refine fact_value rfl rfl rfl (v := .agg #[.slice a M.levers.length cap, .int .i64 M.water, .int .i64 M.lkLo, .int .i64 M.lkHi, .slice a2 M.bals.length cap2, .int .i64 M.wrong]) (W' := W) ?_ (Below.refl _ _) rfl
          simp only [execOp]
          go_simp
        · obtain rfl : 87 = d := by simpa using hd
          have q86 : ac.tmps[86]?.getD undef = .agg #[.slice a M.levers.length cap, .int .i64 M.water, .int .i64 M.lkLo, .int .i64 M.lkHi, .slice a2 M.bals.length cap2, .int .i64 M.wrong] := (eval_tmp _ _).symm.trans (hdep 2 86 rfl rfl)
          refine fact_callK rfl rfl rfl (f := 30) (args := #[.agg #[.slice a M.levers.length cap, .int .i64 M.water, .int .i64 M.lkLo, .int .i64 M.lkHi, .slice a2 M.bals.length cap2, .int .i64 M.wrong]]) ?_ ?_
          · simp only [execOp]
            go_simp
          · refine (Copy_M _ M W (HM.out W hbW) hnl40 hnb40).mono ?_
            rintro e w' ⟨u, rfl, hb2, hc⟩
            exact ⟨u, rfl, hb2, hc.low hlo, fun b hk => (hc.key (by simpa [keyM] using hk)).1⟩
        · obtain rfl : 11 = d := by simpa using hd
          refine fact_valueK rfl rfl rfl (v := .pointer (some ⟨W.heap.size, 0, none⟩)) (W' := W.alloc (.cells zeroM 27)) ?_ ((Below.refl _ _).alloc (Nat.le_refl _) _) ⟨W.heap.size, rfl, hlo, heap_new _ _⟩ (fun b hk => by simp [keyM, blocksM] at hk; omega)
          simp only [execOp]
          go_simp
        · obtain rfl : 12 = d := by simpa using hd
          refine fact_valueK rfl rfl rfl (v := .pointer (some ⟨W.heap.size, 0, none⟩)) (W' := W.alloc (.cells zeroM 27)) ?_ ((Below.refl _ _).alloc (Nat.le_refl _) _) ⟨W.heap.size, rfl, hlo, heap_new _ _⟩ (fun b hk => by simp [keyM, blocksM] at hk; omega)
          simp only [execOp]
          go_simp
      case rest =>
        intro vs W hvl hb hval hfar
        obtain ⟨v0, v1, v2, v3, v4, v5, rfl⟩ : ∃ v0 v1 v2 v3 v4 v5, vs = [v0, v1, v2, v3, v4, v5] := by
          match vs, hvl with
          | [v0, v1, v2, v3, v4, v5], _ => exact ⟨v0, v1, v2, v3, v4, v5, rfl⟩
        obtain ⟨z1, e1, k1⟩ := hval 1 (by omega)
        obtain ⟨z3, e3, k3⟩ := hval 3 (by omega)
        obtain ⟨z4, e4, k4⟩ := hval 4 (by omega)
        obtain ⟨z5, e5, k5⟩ := hval 5 (by omega)
        obtain rfl : v1 = z1 := by simpa using e1
        obtain rfl : v3 = z3 := by simpa using e3
        obtain rfl : v4 = z4 := by simpa using e4
        obtain rfl : v5 = z5 := by simpa using e5
        have g14 := hfar 1 4 v1 v4 (by omega) (by omega) (by omega) rfl rfl
        have g15 := hfar 1 5 v1 v5 (by omega) (by omega) (by omega) rfl rfl
        have g34 := hfar 3 4 v3 v4 (by omega) (by omega) (by omega) rfl rfl
        have g35 := hfar 3 5 v3 v5 (by omega) (by omega) (by omega) rfl rfl
        have g13 := hfar 1 3 v1 v3 (by omega) (by omega) (by omega) rfl rfl
        have g45 := hfar 4 5 v4 v5 (by omega) (by omega) (by omega) rfl rfl
        obtain ⟨B, rfl, hB, hBb⟩ := k4
        obtain ⟨U, rfl, hU, hUb⟩ := k5
        have m4 : ∀ {k : Nat} {x : Nat}, x ∈ keyM 4 (.pointer (some ⟨k, 0, none⟩)) ↔ x = k := by simp [keyM, blocksM]
        have m5 : ∀ {k : Nat} {x : Nat}, x ∈ keyM 5 (.pointer (some ⟨k, 0, none⟩)) ↔ x = k := by simp [keyM, blocksM]
        have m1 : ∀ {v : Value} {x : Nat}, x ∈ blocksM v → x ∈ keyM 1 v := fun h => by simpa [keyM] using h
        have m3 : ∀ {v : Value} {x : Nat}, x ∈ blocksM v → x ∈ keyM 3 v := fun h => by simpa [keyM] using h
        obtain ⟨lo1, lb1, lo2, lb2, rfl, rfl, ht⟩ := two_put k1 k3 ⟨hB, hBb⟩ ⟨hU, hUb⟩ (fun h => g45 B (m4.2 rfl) (m5.2 h)) (fun h => g14 B (m1 h) (m4.2 rfl)) (fun h => g15 U (m1 h) (m5.2 rfl)) (fun h => g34 B (m3 h) (m4.2 rfl)) (fun h => g35 U (m3 h) (m5.2 rfl)) (fun b h1 h2 => g13 b (m1 h1) (m3 h2))
        clear g14 g15 g34 g35 g13 g45 m4 m5 m1 m3 k1 k3 hval hfar hvl
        have hne := ht.far.2.2
        obtain ⟨la1, lc1, rfl, _⟩ := own_form ht.rows.1.1
        obtain ⟨ba1, bc1, rfl, _⟩ := own_form ht.rows.1.2
        obtain ⟨la2, lc2, rfl, _⟩ := own_form ht.rows.2.1
        obtain ⟨ba2, bc2, rfl, _⟩ := own_form ht.rows.2.2
        have HT := Lib.hid ht
        have HBR := Lib.hid (put6_below (put6_below hb hB (v0 := .slice la1 M.levers.length lc1) (v1 := .int .i64 M.water) (v2 := .int .i64 M.lkLo) (v3 := .int .i64 M.lkHi) (v4 := .slice ba1 M.bals.length bc1) (v5 := .int .i64 M.wrong)) hU (v0 := .slice la2 M.levers.length lc2) (v1 := .int .i64 M.water) (v2 := .int .i64 M.lkLo) (v3 := .int .i64 M.lkHi) (v4 := .slice ba2 M.bals.length bc2) (v5 := .int .i64 M.wrong))
        obtain ⟨x0', x1', x2', x3', x4', x5'⟩ := cells6 hBb
        obtain ⟨y0', y1', y2', y3', y4', y5'⟩ := cells6 hUb
        have xf := froz hBb
        have yf := froz hUb
        have hBW := heap_lt hBb
        have hUW := heap_lt hUb
        clear ht hb hBb hUb hB hU
        simp only [putL, Act.put, List.drop, List.setIfInBounds_toArray, List.set_cons_zero, List.set_cons_succ]
        go_upto_region 8 with fail
        obtain ⟨Y, hY⟩ : ∃ Y, Y = put6 (put6 W B (.slice la1 M.levers.length lc1) (.int .i64 M.water) (.int .i64 M.lkLo) (.int .i64 M.lkHi) (.slice ba1 M.bals.length bc1) (.int .i64 M.wrong)) U (.slice la2 M.levers.length lc2) (.int .i64 M.water) (.int .i64 M.lkLo) (.int .i64 M.lkHi) (.slice ba2 M.bals.length bc2) (.int .i64 M.wrong) := ⟨_, rfl⟩
        have hY2 := hY
        unfold put6 at hY2
        rw [← hY] at HT HBR
        rw [← hY2]
        clear hY hY2 x0' x1' x2' x3' x4' x5' y0' y1' y2' y3' y4' y5' xf yf hBW hUW
        have HS0 := Lib.hid (MoreW.start HT.out)
        have hfar := HT.out.far
        clear HT
        obtain ⟨iP, hiP, hzP0, hzP1, hzP2⟩ := info_parts Try_infoBal
        have HR2 := Lib.hid HS0.out.r2
        have hs4 := HBR.out.size
        obtain ⟨⟨c0, c1, c2, c3, c4, c5⟩, ⟨⟨z0, z1, z2, z3, z4⟩, z5, z6, z7, z8, z9⟩, f0, f1, f2⟩ := HC.out Y (HB4.out.trans (HBR.out.mono HB4.out.size))
        obtain ⟨t0, t1, t2, t3, t4, t5⟩ := cells6 HS0.out.vB
        obtain ⟨u0, u1, u2, u3, u4, u5⟩ := cells6 HS0.out.vU
        have uf := froz HS0.out.vU
        have hUl := heap_lt HS0.out.vU
        have hBl := heap_lt HS0.out.vB
        have tf := froz HS0.out.vB
        have HFB := Lib.hid HS0.out.far
        go_upto_region 9 with (at_builtin; refine wpList_onto (base := w4.heap.size) (v := .slice ba1 M.bals.length bc1) (n := M.bals.length) (xs := bcells M.bals) (A := some ⟨Y.heap.size, 0, none⟩) (m := 1) (c := 1) (news := [.int .i64 yb.weight, .int .i64 yb.minutes, .int .i64 yb.load, .int .i64 yb.off]) rfl (.tmp 89) (.tmp 92) rfl Try.underlying25 hiP hzP0 hzP1 hzP2 rfl (by decide) rfl (HR2.out.alloc _) rfl (four_new _ _ _ _ _ _) (by simp [Value.oneCell']) (by unfold maxLen; omega) (by omega) (by simp; omega) ?_
                               intro A5 c5' w5 hown5 hgrow5 hat5
                               have HAD := Lib.hid (HS0.out.add (b := yb) hne hown5 hgrow5 hat5)
                               have hB5 := ((grown_kept hgrow5).block B hBl (fun e => (HFB.out.2.1 B e).1 rfl)).trans HS0.out.vB
                               obtain ⟨t50, t51, t52, t53, t54, t55⟩ := cells6 hB5
                               have tf5 := froz hB5
                               have HB55 := Lib.hid (below_setCell (HBR.out.trans ((grown_kept hgrow5).below hs4 (fun k hk => (HR2.out.lt k hk).1))) hfar.1 (o := 4) (v := .slice A5 (M.bals.length + 1) c5'))
                               clear hown5 hgrow5 hat5 hB5)
        obtain ⟨Z, hZ⟩ : ∃ Z, Z = w5.setCell ⟨B, 4, none⟩ (.slice A5 (M.bals.length + 1) c5') := ⟨_, rfl⟩
        have hzm := HAD.out
        have hzb := HB55.out
        rw [← hZ] at hzm hzb ⊢
        have HZM := Lib.hid hzm
        have HZB := Lib.hid hzb
        clear hZ hzm hzb HAD HB55 HFB tf uf t50 t51 t52 t53 t54 t55 tf5 c0 c1 c2 c3 c4 c5 z0 z1 z2 z3 z4 z5 z6 z7 z8 z9 f0 f1 f2 t0 t1 t2 t3 t4 t5 u0 u1 u2 u3 u4 u5
        obtain ⟨⟨c0, c1, c2, c3, c4, c5⟩, ⟨⟨z0, z1, z2, z3, z4⟩, z5, z6, z7, z8, z9⟩, f0, f1, f2⟩ := HC.out Z (HB4.out.trans (HZB.out.mono HB4.out.size))
        obtain ⟨t0, t1, t2, t3, t4, t5⟩ := cells6 HZM.out.vB
        obtain ⟨u0, u1, u2, u3, u4, u5⟩ := cells6 HZM.out.vU
        have uf := froz HZM.out.vU
        have hUl := heap_lt HZM.out.vU
        have hBl := heap_lt HZM.out.vB
        have hq1 : wrap64 ((M.levers.length : Int) - 1) = (M.levers.length : Int) - 1 := wrap_in (by omega)
        have hq2 : IntKind.i64.wrap ((M.levers.length : Int) - 1) = (M.levers.length : Int) - 1 := IntWalk.i64_in _ (by omega)
        have hwrg := HV.out.wrong
        have hlk := HV.out.leak
        have hnl3 := HV.out.nl
        have hnb6 := HV.out.nb
        cases hwa : wB y0 0 ((M.levers.length : Int) - 1) with
        | false =>
          go_upto_region 12 with (go_at_call 31; refine (rWithin_any _ _ _ _).mono ?_; rintro e w' ⟨rfl, rfl⟩; rw [hwa])
          clear hq1 hq2 hwa uf c0 c1 c2 c3 c4 c5 z0 z1 z2 z3 z4 z5 z6 z7 z8 z9 f0 f1 f2 t0 t1 t2 t3 t4 t5 u0 u1 u2 u3 u4 u5
          obtain ⟨⟨c0, c1, c2, c3, c4, c5⟩, ⟨⟨z0, z1, z2, z3, z4⟩, z5, z6, z7, z8, z9⟩, f0, f1, f2⟩ := HC.out Z (HB4.out.trans (HZB.out.mono HB4.out.size))
          obtain ⟨t0, t1, t2, t3, t4, t5⟩ := cells6 HZM.out.vB
          obtain ⟨u0, u1, u2, u3, u4, u5⟩ := cells6 HZM.out.vU
          have uf := froz HZM.out.vU
          have hUl := heap_lt HZM.out.vU
          have hBl := heap_lt HZM.out.vB
          have hw1 : wrap64 (M.lkHi + y2) = M.lkHi + y2 := wrap_in (by omega)
          have hw2 : IntKind.i64.wrap (M.lkHi + y2) = M.lkHi + y2 := IntWalk.i64_in _ (by omega)
          go_upto_region 13 with fail
          obtain ⟨L, hL⟩ : ∃ L, L = Z.setCell ⟨U, 3, none⟩ (.int .i64 (min 20 (M.lkHi + y2))) := ⟨_, rfl⟩
          have hlm : MoreW w4.heap.size L (addB M yb) { levers := M.levers, water := M.water, lkLo := M.lkLo, lkHi := min 20 (M.lkHi + y2), bals := M.bals, wrong := M.wrong } B U (.slice la1 M.levers.length lc1) (.slice A5 (M.bals.length + 1) c5') (.slice la2 M.levers.length lc2) (.slice ba2 M.bals.length bc2) := by rw [hL]; exact HZM.out.leak hne (min 20 (M.lkHi + y2))
          have hLb : Below w4.heap.size w4 L := by rw [hL]; exact below_setCell HZB.out hfar.2.1
          rw [← hL]
          have HLM := Lib.hid hlm
          have HLB := Lib.hid hLb
          clear hL hlm hLb hw1 hw2 uf c0 c1 c2 c3 c4 c5 z0 z1 z2 z3 z4 z5 z6 z7 z8 z9 f0 f1 f2 t0 t1 t2 t3 t4 t5 u0 u1 u2 u3 u4 u5
          obtain ⟨⟨c0, c1, c2, c3, c4, c5⟩, ⟨⟨z0, z1, z2, z3, z4⟩, z5, z6, z7, z8, z9⟩, f0, f1, f2⟩ := HC.out L (HB4.out.trans (HLB.out.mono HB4.out.size))
          obtain ⟨t0, t1, t2, t3, t4, t5⟩ := cells6 HLM.out.vB
          obtain ⟨u0, u1, u2, u3, u4, u5⟩ := cells6 HLM.out.vU
          have uf := froz HLM.out.vU
          have hUl := heap_lt HLM.out.vU
          have hBl := heap_lt HLM.out.vB
          have hq1 : wrap64 ((M.bals.length : Int) - 1) = (M.bals.length : Int) - 1 := wrap_in (by omega)
          have hq2 : IntKind.i64.wrap ((M.bals.length : Int) - 1) = (M.bals.length : Int) - 1 := IntWalk.i64_in _ (by omega)
          cases hwb : wB y3 0 ((M.bals.length : Int) - 1) with
          | false =>
            go_upto_region 15 with (go_at_call 31; refine (rWithin_any _ _ _ _).mono ?_; rintro e w' ⟨rfl, rfl⟩; rw [hwb])
            clear hq1 hq2 hwb uf c0 c1 c2 c3 c4 c5 z0 z1 z2 z3 z4 z5 z6 z7 z8 z9 f0 f1 f2 t0 t1 t2 t3 t4 t5 u0 u1 u2 u3 u4 u5
            obtain ⟨⟨c0, c1, c2, c3, c4, c5⟩, ⟨⟨z0, z1, z2, z3, z4⟩, z5, z6, z7, z8, z9⟩, f0, f1, f2⟩ := HC.out L (HB4.out.trans (HLB.out.mono HB4.out.size))
            obtain ⟨t0, t1, t2, t3, t4, t5⟩ := cells6 HLM.out.vB
            obtain ⟨u0, u1, u2, u3, u4, u5⟩ := cells6 HLM.out.vU
            have uf := froz HLM.out.vU
            have hUl := heap_lt HLM.out.vU
            have hBl := heap_lt HLM.out.vB
            have hw1 : wrap64 (M.wrong + y5) = M.wrong + y5 := wrap_in (by omega)
            have hw2 : IntKind.i64.wrap (M.wrong + y5) = M.wrong + y5 := IntWalk.i64_in _ (by omega)
            go_upto_region 16 with fail
            obtain ⟨Q, hQ⟩ : ∃ Q, Q = L.setCell ⟨U, 5, none⟩ (.int .i64 (M.wrong + y5)) := ⟨_, rfl⟩
            have hmw := HLM.out.wrong hne (M.wrong + y5)
            have hQb : Below w4.heap.size w4 Q := by rw [hQ]; exact below_setCell HLB.out hfar.2.1
            rw [← hQ] at hmw ⊢
            have HQB := Lib.hid (HB4.out.trans (hQb.mono HB4.out.size))
            have HAM := Lib.hid (add_at HV.out HYB.out hmw)
            have HCM := Lib.hid (wide_at HV.out (C := ({ levers := M.levers, water := M.water, lkLo := M.lkLo, lkHi := min 20 (M.lkHi + y2), bals := M.bals, wrong := M.wrong + y5 } : Mach)) (levs_same HV.out) (bals_same HV.out) (by show I64 (min 20 (M.lkHi + y2)); unfold I64; omega) (by show I64 (M.wrong + y5); unfold I64; omega) hmw)
            have HWD := Lib.hid (show WideM M ({ levers := M.levers, water := M.water, lkLo := M.lkLo, lkHi := min 20 (M.lkHi + y2), bals := M.bals, wrong := M.wrong + y5 } : Mach) from ⟨(levs_same HV.out).1, rfl, Int.le_refl _, by show M.lkHi ≤ min 20 (M.lkHi + y2); omega, (bals_same HV.out).1, by show M.wrong ≤ M.wrong + y5; omega⟩)
            have HCQ := Lib.hid (fun X (hX : Below Q.heap.size Q X) => (show _ ∧ _ ∧ _ from ⟨HC.out X (HQB.out.trans (hX.mono HQB.out.size)), cells6 ((hX.block B (heap_lt hmw.vB)).trans hmw.vB), cells6 ((hX.block U (heap_lt hmw.vU)).trans hmw.vU)⟩))
            have HMQ := Lib.hid (fun X (hX : Below Q.heap.size Q X) => HM.out X (HQB.out.trans (hX.mono HQB.out.size)))
            have HWQ := Lib.hid (fun X (hX : Below Q.heap.size Q X) => HWK.out X (HQB.out.trans (hX.mono HQB.out.size)))
            clear hQ hQb hmw hw1 hw2 uf c0 c1 c2 c3 c4 c5 z0 z1 z2 z3 z4 z5 z6 z7 z8 z9 f0 f1 f2 t0 t1 t2 t3 t4 t5 u0 u1 u2 u3 u4 u5
            obtain ⟨⟨⟨c0, c1, c2, c3, c4, c5⟩, ⟨⟨z0, z1, z2, z3, z4⟩, z5, z6, z7, z8, z9⟩, f0, f1, f2⟩, ⟨t0, t1, t2, t3, t4, t5⟩, u0, u1, u2, u3, u4, u5⟩ := HCQ.out Q (Below.refl _ _)
            go_wp2_with fail
            refine (inside_any _ _ (addB M yb) M x0 x1 x2 Q HAM.out (HMQ.out Q (Below.refl _ _)) hx0 hx1 (fun _ _ => add_inside M yb x0 x1)).mono ?_
            rintro e q1 ⟨rfl, hb⟩
            have HQ1 := Lib.hid hb
            clear c0 c1 c2 c3 c4 c5 z0 z1 z2 z3 z4 z5 z6 z7 z8 z9 f0 f1 f2 t0 t1 t2 t3 t4 t5 u0 u1 u2 u3 u4 u5
            obtain ⟨⟨⟨c0, c1, c2, c3, c4, c5⟩, ⟨⟨z0, z1, z2, z3, z4⟩, z5, z6, z7, z8, z9⟩, f0, f1, f2⟩, ⟨t0, t1, t2, t3, t4, t5⟩, u0, u1, u2, u3, u4, u5⟩ := HCQ.out q1 hb
            clear hb
            go_wp2_with fail
            refine (inside_any _ _ M ({ levers := M.levers, water := M.water, lkLo := M.lkLo, lkHi := min 20 (M.lkHi + y2), bals := M.bals, wrong := M.wrong + y5 } : Mach) x0 x1 x2 q1 (HMQ.out q1 HQ1.out) ((HCM.out.below HQ1.out).mono HQ1.out.size) hx0 hx1 (fun hA _ => HWD.out.inside hA x0 x1)).mono ?_
            rintro e q2 ⟨rfl, hb⟩
            have HQ2 := Lib.hid (HQ1.out.trans (hb.mono HQ1.out.size))
            clear hb
            go_wp2_with (go_at_call 14; refine (HWQ.out q2 HQ2.out).mono ?_; rintro e wz ⟨rfl, hbz⟩; have HBZ := Lib.hid hbz; clear hbz)
            go_ret
            exact ⟨rfl, HBZ.out⟩
          | true =>
            obtain ⟨hwl, hwh⟩ := wB_iff.1 hwb
            obtain ⟨K, rfl⟩ : ∃ K : Nat, y3 = (K : Int) := ⟨y3.toNat, by omega⟩
            have hK : K < M.bals.length := by omega
            obtain ⟨g4, rfl, hg4⟩ := own_some HLM.out.r4 (by show 0 < M.bals.length; omega)
            have hof := bal_i64 HV.out K hK
            have hob := HV.out.bal (bnth M.bals K) (by rw [bnth_lt hK]; exact List.getElem_mem hK)
            have HOF := Lib.hid (fun W (hb : Below L.heap.size L W) => row_off (HLM.out.below hb).r4 hK)
            obtain ⟨OF, hOF⟩ : ∃ OF, (bnth M.bals K).off = OF := ⟨_, rfl⟩
            rw [hOF] at HOF hob
            have hr1 : wrap64 (OF + y4) = OF + y4 := wrap_in (by omega)
            have hr2 : IntKind.i64.wrap (OF + y4) = OF + y4 := IntWalk.i64_in _ (by omega)
            go_upto_region 14 with (go_at_call 31; refine (rWithin_any _ _ _ _).mono ?_; rintro e w' ⟨rfl, rfl⟩; rw [hwb])
            have bsok := bals_off HV.out hK (x := OF + y4) (by omega) (by unfold I64; omega)
            clear hq1 hq2 hwb hof uf c0 c1 c2 c3 c4 c5 z0 z1 z2 z3 z4 z5 z6 z7 z8 z9 f0 f1 f2 t0 t1 t2 t3 t4 t5 u0 u1 u2 u3 u4 u5
            refine wp_region_facts _ 12 [144, 145, 146, 147, 148, 149, 150, 151, 152, 153, 154, 155] [isV (.pointer (some ⟨U, 4, none⟩)), isV (.slice (some ⟨g4, 0, none⟩) M.bals.length bc2), isV (.pointer (some ⟨w.heap.size + 1, 7, none⟩)), isV (.int .i64 (K : Nat)), isV (.pointer (some ⟨g4, K * 4, none⟩)), isV (.pointer (some ⟨g4, K * 4 + 3, none⟩)), isV (.int .i64 OF), isV (.pointer (some ⟨w.heap.size + 1, 8, none⟩)), isV (.int .i64 y4), isV (.int .i64 (OF + y4)), isV (.pointer (some ⟨g4, K * 4, none⟩)), isV (.pointer (some ⟨g4, K * 4 + 3, none⟩))] (by kernel_rfl) (by kernel_rfl) (by kernel_rfl) rfl (by decide) (by decide) (by simp) ?step ?rest
            case step =>
              intro i ac W d hi hd hb hoff hdep
              obtain ⟨⟨c0, c1, c2, c3, c4, c5⟩, ⟨⟨z0, z1, z2, z3, z4⟩, z5, z6, z7, z8, z9⟩, f0, f1, f2⟩ := HC.out W (HB4.out.trans ((HLB.out.trans (hb.mono HLB.out.size)).mono HB4.out.size))
              obtain ⟨u0, u1, u2, u3, u4, u5⟩ := cells6 ((HLM.out.below hb).vU)
              have o3 := HOF.out W hb
              have hi2 : i = 0 ∨ i = 1 ∨ i = 2 ∨ i = 3 ∨ i = 4 ∨ i = 5 ∨ i = 6 ∨ i = 7 ∨ i = 8 ∨ i = 9 ∨ i = 10 ∨ i = 11 := by omega
              rcases hi2 with rfl | rfl | rfl | rfl | rfl | rfl | rfl | rfl | rfl | rfl | rfl | rfl
              · obtain rfl : 144 = d := by simpa using hd
                have q12 : ac.tmps[12]?.getD undef = .pointer (some ⟨U, 0, none⟩) := (eval_tmp _ _).symm.trans <| (hoff 12 (by decide)).trans rfl
                refine fact_value rfl rfl rfl (v := .pointer (some ⟨U, 4, none⟩)) (W' := W) ?_ (Below.refl _ _) rfl
                simp only [execOp]
                go_simp
              · obtain rfl : 145 = d := by simpa using hd
                have q144 : ac.tmps[144]?.getD undef = .pointer (some ⟨U, 4, none⟩) := (eval_tmp _ _).symm.trans (hdep 0 144 rfl rfl)
                refine fact_value rfl rfl rfl (v := .slice (some ⟨g4, 0, none⟩) M.bals.length bc2) (W' := W) ?_ (Below.refl _ _) rfl
                simp only [execOp]
                go_simp
              · obtain rfl : 146 = d := by simpa using hd
                have q4 : ac.tmps[4]?.getD undef = .pointer (some ⟨w.heap.size + 1, 0, none⟩) := (eval_tmp _ _).symm.trans <| (hoff 4 (by decide)).trans rfl
                refine fact_value rfl rfl rfl (v := .pointer (some ⟨w.heap.size + 1, 7, none⟩)) (W' := W) ?_ (Below.refl _ _) rfl
                simp only [execOp]
                go_simp
              · obtain rfl : 147 = d := by simpa using hd
                have q146 : ac.tmps[146]?.getD undef = .pointer (some ⟨w.heap.size + 1, 7, none⟩) := (eval_tmp _ _).symm.trans (hdep 2 146 rfl rfl)
                refine fact_value rfl rfl rfl (v := .int .i64 (K : Nat)) (W' := W) ?_ (Below.refl _ _) rfl
                simp only [execOp]
                go_simp
              · obtain rfl : 148 = d := by simpa using hd
                have q145 : ac.tmps[145]?.getD undef = .slice (some ⟨g4, 0, none⟩) M.bals.length bc2 := (eval_tmp _ _).symm.trans (hdep 1 145 rfl rfl)
                have q147 : ac.tmps[147]?.getD undef = .int .i64 (K : Nat) := (eval_tmp _ _).symm.trans (hdep 3 147 rfl rfl)
                refine fact_value rfl rfl rfl (v := .pointer (some ⟨g4, K * 4, none⟩)) (W' := W) ?_ (Below.refl _ _) rfl
                simp only [execOp]
                go_simp
              · obtain rfl : 149 = d := by simpa using hd
                have q148 : ac.tmps[148]?.getD undef = .pointer (some ⟨g4, K * 4, none⟩) := (eval_tmp _ _).symm.trans (hdep 4 148 rfl rfl)
                refine fact_value rfl rfl rfl (v := .pointer (some ⟨g4, K * 4 + 3, none⟩)) (W' := W) ?_ (Below.refl _ _) rfl
                simp only [execOp]
                go_simp
              · obtain rfl : 150 = d := by simpa using hd
                have q149 : ac.tmps[149]?.getD undef = .pointer (some ⟨g4, K * 4 + 3, none⟩) := (eval_tmp _ _).symm.trans (hdep 5 149 rfl rfl)
                refine fact_value rfl rfl rfl (v := .int .i64 OF) (W' := W) ?_ (Below.refl _ _) rfl
                simp only [execOp]
                go_simp
              · obtain rfl : 151 = d := by simpa using hd
                have q4 : ac.tmps[4]?.getD undef = .pointer (some ⟨w.heap.size + 1, 0, none⟩) := (eval_tmp _ _).symm.trans <| (hoff 4 (by decide)).trans rfl
                refine fact_value rfl rfl rfl (v := .pointer (some ⟨w.heap.size + 1, 8, none⟩)) (W' := W) ?_ (Below.refl _ _) rfl
                simp only [execOp]
                go_simp
              · obtain rfl : 152 = d := by simpa using hd
                have q151 : ac.tmps[151]?.getD undef = .pointer (some ⟨w.heap.size + 1, 8, none⟩) := (eval_tmp _ _).symm.trans (hdep 7 151 rfl rfl)
                refine fact_value rfl rfl rfl (v := .int .i64 y4) (W' := W) ?_ (Below.refl _ _) rfl
                simp only [execOp]
                go_simp
              · obtain rfl : 153 = d := by simpa using hd
                have q150 : ac.tmps[150]?.getD undef = .int .i64 OF := (eval_tmp _ _).symm.trans (hdep 6 150 rfl rfl)
                have q152 : ac.tmps[152]?.getD undef = .int .i64 y4 := (eval_tmp _ _).symm.trans (hdep 8 152 rfl rfl)
                refine fact_value rfl rfl rfl (v := .int .i64 (OF + y4)) (W' := W) ?_ (Below.refl _ _) rfl
                simp only [execOp]
                go_simp
              · obtain rfl : 154 = d := by simpa using hd
                have q145 : ac.tmps[145]?.getD undef = .slice (some ⟨g4, 0, none⟩) M.bals.length bc2 := (eval_tmp _ _).symm.trans (hdep 1 145 rfl rfl)
                have q147 : ac.tmps[147]?.getD undef = .int .i64 (K : Nat) := (eval_tmp _ _).symm.trans (hdep 3 147 rfl rfl)
                refine fact_value rfl rfl rfl (v := .pointer (some ⟨g4, K * 4, none⟩)) (W' := W) ?_ (Below.refl _ _) rfl
                simp only [execOp]
                go_simp
              · obtain rfl : 155 = d := by simpa using hd
                have q154 : ac.tmps[154]?.getD undef = .pointer (some ⟨g4, K * 4, none⟩) := (eval_tmp _ _).symm.trans (hdep 10 154 rfl rfl)
                refine fact_value rfl rfl rfl (v := .pointer (some ⟨g4, K * 4 + 3, none⟩)) (W' := W) ?_ (Below.refl _ _) rfl
                simp only [execOp]
                go_simp
            case rest =>
              intro vs W hvl hb hval
              obtain ⟨v0, v1, v2, v3, v4, v5, v6, v7, v8, v9, v10, v11, rfl⟩ : ∃ v0 v1 v2 v3 v4 v5 v6 v7 v8 v9 v10 v11, vs = [v0, v1, v2, v3, v4, v5, v6, v7, v8, v9, v10, v11] := by
                match vs, hvl with
                | [v0, v1, v2, v3, v4, v5, v6, v7, v8, v9, v10, v11], _ => exact ⟨v0, v1, v2, v3, v4, v5, v6, v7, v8, v9, v10, v11, rfl⟩
              obtain rfl : v0 = .pointer (some ⟨U, 4, none⟩) := by obtain ⟨u, e, h⟩ := hval 0 (by omega); have e2 : some v0 = some u := e; injection e2 with e2; subst e2; exact h
              obtain rfl : v1 = .slice (some ⟨g4, 0, none⟩) M.bals.length bc2 := by obtain ⟨u, e, h⟩ := hval 1 (by omega); have e2 : some v1 = some u := e; injection e2 with e2; subst e2; exact h
              obtain rfl : v2 = .pointer (some ⟨w.heap.size + 1, 7, none⟩) := by obtain ⟨u, e, h⟩ := hval 2 (by omega); have e2 : some v2 = some u := e; injection e2 with e2; subst e2; exact h
              obtain rfl : v3 = .int .i64 (K : Nat) := by obtain ⟨u, e, h⟩ := hval 3 (by omega); have e2 : some v3 = some u := e; injection e2 with e2; subst e2; exact h
              obtain rfl : v4 = .pointer (some ⟨g4, K * 4, none⟩) := by obtain ⟨u, e, h⟩ := hval 4 (by omega); have e2 : some v4 = some u := e; injection e2 with e2; subst e2; exact h
              obtain rfl : v5 = .pointer (some ⟨g4, K * 4 + 3, none⟩) := by obtain ⟨u, e, h⟩ := hval 5 (by omega); have e2 : some v5 = some u := e; injection e2 with e2; subst e2; exact h
              obtain rfl : v6 = .int .i64 OF := by obtain ⟨u, e, h⟩ := hval 6 (by omega); have e2 : some v6 = some u := e; injection e2 with e2; subst e2; exact h
              obtain rfl : v7 = .pointer (some ⟨w.heap.size + 1, 8, none⟩) := by obtain ⟨u, e, h⟩ := hval 7 (by omega); have e2 : some v7 = some u := e; injection e2 with e2; subst e2; exact h
              obtain rfl : v8 = .int .i64 y4 := by obtain ⟨u, e, h⟩ := hval 8 (by omega); have e2 : some v8 = some u := e; injection e2 with e2; subst e2; exact h
              obtain rfl : v9 = .int .i64 (OF + y4) := by obtain ⟨u, e, h⟩ := hval 9 (by omega); have e2 : some v9 = some u := e; injection e2 with e2; subst e2; exact h
              obtain rfl : v10 = .pointer (some ⟨g4, K * 4, none⟩) := by obtain ⟨u, e, h⟩ := hval 10 (by omega); have e2 : some v10 = some u := e; injection e2 with e2; subst e2; exact h
              obtain rfl : v11 = .pointer (some ⟨g4, K * 4 + 3, none⟩) := by obtain ⟨u, e, h⟩ := hval 11 (by omega); have e2 : some v11 = some u := e; injection e2 with e2; subst e2; exact h
              clear hval hvl
              simp only [putL, Act.put, List.drop, List.setIfInBounds_toArray, List.set_cons_zero, List.set_cons_succ]
              have o3 := HOF.out W hb
              have hmk0 := (HLM.out.below hb).off hK (OF + y4)
              have pf3 := row_frozen (HLM.out.below hb).r4 (K * 4 + 3)
              have hgw := row_lt (HLM.out.below hb).r4
              have HNB := Lib.hid (below_setCell (HLB.out.trans (hb.mono HLB.out.size)) hg4 (o := K * 4 + 3) (v := .int .i64 (OF + y4)))
              have HMK := Lib.hid hmk0
              clear hb hmk0
              go_upto_region 15 with fail
              obtain ⟨V, hV⟩ : ∃ V, V = W.setCell ⟨g4, K * 4 + 3, none⟩ (.int .i64 (OF + y4)) := ⟨_, rfl⟩
              have hVB2 := HNB.out
              have hVM := HMK.out
              rw [← hV] at hVB2 hVM ⊢
              have HVBW := Lib.hid hVB2
              have HVM := Lib.hid hVM
              clear hV hVB2 hVM o3 pf3 hgw hr1 hr2 HNB HMK
              obtain ⟨⟨c0, c1, c2, c3, c4, c5⟩, ⟨⟨z0, z1, z2, z3, z4⟩, z5, z6, z7, z8, z9⟩, f0, f1, f2⟩ := HC.out V (HB4.out.trans (HVBW.out.mono HB4.out.size))
              obtain ⟨t0, t1, t2, t3, t4, t5⟩ := cells6 HVM.out.vB
              obtain ⟨u0, u1, u2, u3, u4, u5⟩ := cells6 HVM.out.vU
              have uf := froz HVM.out.vU
              have hUl := heap_lt HVM.out.vU
              have hBl := heap_lt HVM.out.vB
              have hw1 : wrap64 (M.wrong + y5) = M.wrong + y5 := wrap_in (by omega)
              have hw2 : IntKind.i64.wrap (M.wrong + y5) = M.wrong + y5 := IntWalk.i64_in _ (by omega)
              go_upto_region 16 with fail
              obtain ⟨Q, hQ⟩ : ∃ Q, Q = V.setCell ⟨U, 5, none⟩ (.int .i64 (M.wrong + y5)) := ⟨_, rfl⟩
              have hmw := HVM.out.wrong hne (M.wrong + y5)
              have hQb : Below w4.heap.size w4 Q := by rw [hQ]; exact below_setCell HVBW.out hfar.2.1
              rw [← hQ] at hmw ⊢
              have HQB := Lib.hid (HB4.out.trans (hQb.mono HB4.out.size))
              have HAM := Lib.hid (add_at HV.out HYB.out hmw)
              have HCM := Lib.hid (wide_at HV.out (C := ({ levers := M.levers, water := M.water, lkLo := M.lkLo, lkHi := min 20 (M.lkHi + y2), bals := (M.bals.set K { bnth M.bals K with off := OF + y4 }), wrong := M.wrong + y5 } : Mach)) (levs_same HV.out) bsok (by show I64 (min 20 (M.lkHi + y2)); unfold I64; omega) (by show I64 (M.wrong + y5); unfold I64; omega) hmw)
              have HWD := Lib.hid (show WideM M ({ levers := M.levers, water := M.water, lkLo := M.lkLo, lkHi := min 20 (M.lkHi + y2), bals := (M.bals.set K { bnth M.bals K with off := OF + y4 }), wrong := M.wrong + y5 } : Mach) from ⟨(levs_same HV.out).1, rfl, Int.le_refl _, by show M.lkHi ≤ min 20 (M.lkHi + y2); omega, bsok.1, by show M.wrong ≤ M.wrong + y5; omega⟩)
              have HCQ := Lib.hid (fun X (hX : Below Q.heap.size Q X) => (show _ ∧ _ ∧ _ from ⟨HC.out X (HQB.out.trans (hX.mono HQB.out.size)), cells6 ((hX.block B (heap_lt hmw.vB)).trans hmw.vB), cells6 ((hX.block U (heap_lt hmw.vU)).trans hmw.vU)⟩))
              have HMQ := Lib.hid (fun X (hX : Below Q.heap.size Q X) => HM.out X (HQB.out.trans (hX.mono HQB.out.size)))
              have HWQ := Lib.hid (fun X (hX : Below Q.heap.size Q X) => HWK.out X (HQB.out.trans (hX.mono HQB.out.size)))
              clear hQ hQb hmw hw1 hw2 uf c0 c1 c2 c3 c4 c5 z0 z1 z2 z3 z4 z5 z6 z7 z8 z9 f0 f1 f2 t0 t1 t2 t3 t4 t5 u0 u1 u2 u3 u4 u5
              obtain ⟨⟨⟨c0, c1, c2, c3, c4, c5⟩, ⟨⟨z0, z1, z2, z3, z4⟩, z5, z6, z7, z8, z9⟩, f0, f1, f2⟩, ⟨t0, t1, t2, t3, t4, t5⟩, u0, u1, u2, u3, u4, u5⟩ := HCQ.out Q (Below.refl _ _)
              go_wp2_with fail
              refine (inside_any _ _ (addB M yb) M x0 x1 x2 Q HAM.out (HMQ.out Q (Below.refl _ _)) hx0 hx1 (fun _ _ => add_inside M yb x0 x1)).mono ?_
              rintro e q1 ⟨rfl, hb⟩
              have HQ1 := Lib.hid hb
              clear c0 c1 c2 c3 c4 c5 z0 z1 z2 z3 z4 z5 z6 z7 z8 z9 f0 f1 f2 t0 t1 t2 t3 t4 t5 u0 u1 u2 u3 u4 u5
              obtain ⟨⟨⟨c0, c1, c2, c3, c4, c5⟩, ⟨⟨z0, z1, z2, z3, z4⟩, z5, z6, z7, z8, z9⟩, f0, f1, f2⟩, ⟨t0, t1, t2, t3, t4, t5⟩, u0, u1, u2, u3, u4, u5⟩ := HCQ.out q1 hb
              clear hb
              go_wp2_with fail
              refine (inside_any _ _ M ({ levers := M.levers, water := M.water, lkLo := M.lkLo, lkHi := min 20 (M.lkHi + y2), bals := (M.bals.set K { bnth M.bals K with off := OF + y4 }), wrong := M.wrong + y5 } : Mach) x0 x1 x2 q1 (HMQ.out q1 HQ1.out) ((HCM.out.below HQ1.out).mono HQ1.out.size) hx0 hx1 (fun hA _ => HWD.out.inside hA x0 x1)).mono ?_
              rintro e q2 ⟨rfl, hb⟩
              have HQ2 := Lib.hid (HQ1.out.trans (hb.mono HQ1.out.size))
              clear hb
              go_wp2_with (go_at_call 14; refine (HWQ.out q2 HQ2.out).mono ?_; rintro e wz ⟨rfl, hbz⟩; have HBZ := Lib.hid hbz; clear hbz)
              go_ret
              exact ⟨rfl, HBZ.out⟩
        | true =>
          obtain ⟨hwl, hwh⟩ := wB_iff.1 hwa
          obtain ⟨J, rfl⟩ : ∃ J : Nat, y0 = (J : Int) := ⟨y0.toNat, by omega⟩
          have hJ : J < M.levers.length := by omega
          obtain ⟨g3, rfl, hg3⟩ := own_some HZM.out.r3 (by show 0 < M.levers.length; omega)
          have hlv := HV.out.lev (lnth M.levers J) (by rw [lnth_lt hJ]; exact List.getElem_mem hJ)
          obtain ⟨bb, off, rfl, hbb, hcell⟩ := lev_read (HM.out Z (HB4.out.trans (HZB.out.mono HB4.out.size))) (by omega)
          have HCELL := Lib.hid (hcell J hJ)
          clear hcell
          have hk13 := cell2_of (heap_new Z (.cells #[.int .i64 (lnth M.levers J).lo, .int .i64 (lnth M.levers J).hi] 24))
          obtain ⟨k130, k131⟩ := hk13
          obtain ⟨y30, y31, y32⟩ := HCELL.out
          obtain ⟨LO, hLO⟩ : ∃ LO, (lnth M.levers J).lo = LO := ⟨_, rfl⟩
          obtain ⟨HI, hHI⟩ : ∃ HI, (lnth M.levers J).hi = HI := ⟨_, rfl⟩
          rw [hLO] at hlv k130 k131 y31
          rw [hHI] at hlv k130 k131 y32
          have hr1 : wrap64 (LO - y1) = LO - y1 := wrap_in (by omega)
          have hr2 : IntKind.i64.wrap (LO - y1) = LO - y1 := IntWalk.i64_in _ (by omega)
          have hr3 : wrap64 (HI + y1) = HI + y1 := wrap_in (by omega)
          have hr4 : IntKind.i64.wrap (HI + y1) = HI + y1 := IntWalk.i64_in _ (by omega)
          have lsok := levs_wide HV.out hJ (x := max 1 (LO - y1)) (y := min 1000 (HI + y1)) (by omega) (by omega) (by unfold I64; omega) (by unfold I64; omega)
          go_upto_region 11 with (go_at_call 31; refine (rWithin_any _ _ _ _).mono ?_; rintro e w' ⟨rfl, rfl⟩; rw [hwa])
          obtain ⟨Z1, hZ1⟩ : ∃ Z1, Z1 = Z.alloc (.cells #[.int .i64 LO, .int .i64 HI] 24) := ⟨_, rfl⟩
          rw [← hZ1] at k130 k131 ⊢
          have hbz1 : Below Z.heap.size Z Z1 := by rw [hZ1]; exact (Below.refl _ _).alloc (Nat.le_refl _) _
          have HZ1M := Lib.hid (HZM.out.below hbz1)
          have HZ1B := Lib.hid (HZB.out.trans (hbz1.mono HZB.out.size))
          have hz1s : Z1.heap.size = Z.heap.size + 1 := by rw [hZ1]; simp
          clear hZ1 hbz1 hq1 hq2 hwa uf y30 y31 y32 c0 c1 c2 c3 c4 c5 z0 z1 z2 z3 z4 z5 z6 z7 z8 z9 f0 f1 f2 t0 t1 t2 t3 t4 t5 u0 u1 u2 u3 u4 u5
          obtain ⟨⟨c0, c1, c2, c3, c4, c5⟩, ⟨⟨z0, z1, z2, z3, z4⟩, z5, z6, z7, z8, z9⟩, f0, f1, f2⟩ := HC.out Z1 (HB4.out.trans (HZ1B.out.mono HB4.out.size))
          obtain ⟨t0, t1, t2, t3, t4, t5⟩ := cells6 HZ1M.out.vB
          obtain ⟨u0, u1, u2, u3, u4, u5⟩ := cells6 HZ1M.out.vU
          have uf := froz HZ1M.out.vU
          have hUl := heap_lt HZ1M.out.vU
          have hBl := heap_lt HZ1M.out.vB
          obtain ⟨⟨p0, hp0⟩, ⟨p1, hp1⟩, p2, hp2⟩ := row_cells HZ1M.out.r3 hJ
          have pf1 := row_frozen HZ1M.out.r3 (J * 3 + 1)
          have pf2 := row_frozen HZ1M.out.r3 (J * 3 + 2)
          have hgw := row_lt HZ1M.out.r3
          go_upto_region 12 with fail
          obtain ⟨Z2, hZ2⟩ : ∃ Z2, Z2 = (Z1.setCell ⟨g3, J * 3 + 1, none⟩ (.int .i64 (max 1 (LO - y1)))).setCell ⟨g3, J * 3 + 2, none⟩ (.int .i64 (min 1000 (HI + y1))) := ⟨_, rfl⟩
          have hzm2 := HZ1M.out.lever hJ (max 1 (LO - y1)) (min 1000 (HI + y1))
          have hzb2 : Below w4.heap.size w4 Z2 := by rw [hZ2]; exact below_setCell (below_setCell HZ1B.out hg3) hg3
          rw [← hZ2] at hzm2 ⊢
          have HZ2M := Lib.hid hzm2
          have HZ2B := Lib.hid hzb2
          clear hZ2 hzm2 hzb2 k130 k131 hp0 hp1 hp2 pf1 pf2 hgw hr1 hr2 hr3 hr4 uf HZ1M HZ1B hLO hHI c0 c1 c2 c3 c4 c5 z0 z1 z2 z3 z4 z5 z6 z7 z8 z9 f0 f1 f2 t0 t1 t2 t3 t4 t5 u0 u1 u2 u3 u4 u5
          obtain ⟨⟨c0, c1, c2, c3, c4, c5⟩, ⟨⟨z0, z1, z2, z3, z4⟩, z5, z6, z7, z8, z9⟩, f0, f1, f2⟩ := HC.out Z2 (HB4.out.trans (HZ2B.out.mono HB4.out.size))
          obtain ⟨t0, t1, t2, t3, t4, t5⟩ := cells6 HZ2M.out.vB
          obtain ⟨u0, u1, u2, u3, u4, u5⟩ := cells6 HZ2M.out.vU
          have uf := froz HZ2M.out.vU
          have hUl := heap_lt HZ2M.out.vU
          have hBl := heap_lt HZ2M.out.vB
          have hw1 : wrap64 (M.lkHi + y2) = M.lkHi + y2 := wrap_in (by omega)
          have hw2 : IntKind.i64.wrap (M.lkHi + y2) = M.lkHi + y2 := IntWalk.i64_in _ (by omega)
          go_upto_region 13 with fail
          obtain ⟨L, hL⟩ : ∃ L, L = Z2.setCell ⟨U, 3, none⟩ (.int .i64 (min 20 (M.lkHi + y2))) := ⟨_, rfl⟩
          have hlm : MoreW w4.heap.size L (addB M yb) { levers := (M.levers.set J ⟨(lnth M.levers J).long, max 1 (LO - y1), min 1000 (HI + y1)⟩), water := M.water, lkLo := M.lkLo, lkHi := min 20 (M.lkHi + y2), bals := M.bals, wrong := M.wrong } B U (.slice la1 M.levers.length lc1) (.slice A5 (M.bals.length + 1) c5') (.slice (some ⟨g3, 0, none⟩) M.levers.length lc2) (.slice ba2 M.bals.length bc2) := by rw [hL]; exact HZ2M.out.leak hne (min 20 (M.lkHi + y2))
          have hLb : Below w4.heap.size w4 L := by rw [hL]; exact below_setCell HZ2B.out hfar.2.1
          rw [← hL]
          have HLM := Lib.hid hlm
          have HLB := Lib.hid hLb
          clear hL hlm hLb hw1 hw2 uf c0 c1 c2 c3 c4 c5 z0 z1 z2 z3 z4 z5 z6 z7 z8 z9 f0 f1 f2 t0 t1 t2 t3 t4 t5 u0 u1 u2 u3 u4 u5
          obtain ⟨⟨c0, c1, c2, c3, c4, c5⟩, ⟨⟨z0, z1, z2, z3, z4⟩, z5, z6, z7, z8, z9⟩, f0, f1, f2⟩ := HC.out L (HB4.out.trans (HLB.out.mono HB4.out.size))
          obtain ⟨t0, t1, t2, t3, t4, t5⟩ := cells6 HLM.out.vB
          obtain ⟨u0, u1, u2, u3, u4, u5⟩ := cells6 HLM.out.vU
          have uf := froz HLM.out.vU
          have hUl := heap_lt HLM.out.vU
          have hBl := heap_lt HLM.out.vB
          have hq1 : wrap64 ((M.bals.length : Int) - 1) = (M.bals.length : Int) - 1 := wrap_in (by omega)
          have hq2 : IntKind.i64.wrap ((M.bals.length : Int) - 1) = (M.bals.length : Int) - 1 := IntWalk.i64_in _ (by omega)
          cases hwb : wB y3 0 ((M.bals.length : Int) - 1) with
          | false =>
            go_upto_region 15 with (go_at_call 31; refine (rWithin_any _ _ _ _).mono ?_; rintro e w' ⟨rfl, rfl⟩; rw [hwb])
            clear hq1 hq2 hwb uf c0 c1 c2 c3 c4 c5 z0 z1 z2 z3 z4 z5 z6 z7 z8 z9 f0 f1 f2 t0 t1 t2 t3 t4 t5 u0 u1 u2 u3 u4 u5
            obtain ⟨⟨c0, c1, c2, c3, c4, c5⟩, ⟨⟨z0, z1, z2, z3, z4⟩, z5, z6, z7, z8, z9⟩, f0, f1, f2⟩ := HC.out L (HB4.out.trans (HLB.out.mono HB4.out.size))
            obtain ⟨t0, t1, t2, t3, t4, t5⟩ := cells6 HLM.out.vB
            obtain ⟨u0, u1, u2, u3, u4, u5⟩ := cells6 HLM.out.vU
            have uf := froz HLM.out.vU
            have hUl := heap_lt HLM.out.vU
            have hBl := heap_lt HLM.out.vB
            have hw1 : wrap64 (M.wrong + y5) = M.wrong + y5 := wrap_in (by omega)
            have hw2 : IntKind.i64.wrap (M.wrong + y5) = M.wrong + y5 := IntWalk.i64_in _ (by omega)
            go_upto_region 16 with fail
            obtain ⟨Q, hQ⟩ : ∃ Q, Q = L.setCell ⟨U, 5, none⟩ (.int .i64 (M.wrong + y5)) := ⟨_, rfl⟩
            have hmw := HLM.out.wrong hne (M.wrong + y5)
            have hQb : Below w4.heap.size w4 Q := by rw [hQ]; exact below_setCell HLB.out hfar.2.1
            rw [← hQ] at hmw ⊢
            have HQB := Lib.hid (HB4.out.trans (hQb.mono HB4.out.size))
            have HAM := Lib.hid (add_at HV.out HYB.out hmw)
            have HCM := Lib.hid (wide_at HV.out (C := ({ levers := (M.levers.set J ⟨(lnth M.levers J).long, max 1 (LO - y1), min 1000 (HI + y1)⟩), water := M.water, lkLo := M.lkLo, lkHi := min 20 (M.lkHi + y2), bals := M.bals, wrong := M.wrong + y5 } : Mach)) lsok (bals_same HV.out) (by show I64 (min 20 (M.lkHi + y2)); unfold I64; omega) (by show I64 (M.wrong + y5); unfold I64; omega) hmw)
            have HWD := Lib.hid (show WideM M ({ levers := (M.levers.set J ⟨(lnth M.levers J).long, max 1 (LO - y1), min 1000 (HI + y1)⟩), water := M.water, lkLo := M.lkLo, lkHi := min 20 (M.lkHi + y2), bals := M.bals, wrong := M.wrong + y5 } : Mach) from ⟨lsok.1, rfl, Int.le_refl _, by show M.lkHi ≤ min 20 (M.lkHi + y2); omega, (bals_same HV.out).1, by show M.wrong ≤ M.wrong + y5; omega⟩)
            have HCQ := Lib.hid (fun X (hX : Below Q.heap.size Q X) => (show _ ∧ _ ∧ _ from ⟨HC.out X (HQB.out.trans (hX.mono HQB.out.size)), cells6 ((hX.block B (heap_lt hmw.vB)).trans hmw.vB), cells6 ((hX.block U (heap_lt hmw.vU)).trans hmw.vU)⟩))
            have HMQ := Lib.hid (fun X (hX : Below Q.heap.size Q X) => HM.out X (HQB.out.trans (hX.mono HQB.out.size)))
            have HWQ := Lib.hid (fun X (hX : Below Q.heap.size Q X) => HWK.out X (HQB.out.trans (hX.mono HQB.out.size)))
            clear hQ hQb hmw hw1 hw2 uf c0 c1 c2 c3 c4 c5 z0 z1 z2 z3 z4 z5 z6 z7 z8 z9 f0 f1 f2 t0 t1 t2 t3 t4 t5 u0 u1 u2 u3 u4 u5
            obtain ⟨⟨⟨c0, c1, c2, c3, c4, c5⟩, ⟨⟨z0, z1, z2, z3, z4⟩, z5, z6, z7, z8, z9⟩, f0, f1, f2⟩, ⟨t0, t1, t2, t3, t4, t5⟩, u0, u1, u2, u3, u4, u5⟩ := HCQ.out Q (Below.refl _ _)
            go_wp2_with fail
            refine (inside_any _ _ (addB M yb) M x0 x1 x2 Q HAM.out (HMQ.out Q (Below.refl _ _)) hx0 hx1 (fun _ _ => add_inside M yb x0 x1)).mono ?_
            rintro e q1 ⟨rfl, hb⟩
            have HQ1 := Lib.hid hb
            clear c0 c1 c2 c3 c4 c5 z0 z1 z2 z3 z4 z5 z6 z7 z8 z9 f0 f1 f2 t0 t1 t2 t3 t4 t5 u0 u1 u2 u3 u4 u5
            obtain ⟨⟨⟨c0, c1, c2, c3, c4, c5⟩, ⟨⟨z0, z1, z2, z3, z4⟩, z5, z6, z7, z8, z9⟩, f0, f1, f2⟩, ⟨t0, t1, t2, t3, t4, t5⟩, u0, u1, u2, u3, u4, u5⟩ := HCQ.out q1 hb
            clear hb
            go_wp2_with fail
            refine (inside_any _ _ M ({ levers := (M.levers.set J ⟨(lnth M.levers J).long, max 1 (LO - y1), min 1000 (HI + y1)⟩), water := M.water, lkLo := M.lkLo, lkHi := min 20 (M.lkHi + y2), bals := M.bals, wrong := M.wrong + y5 } : Mach) x0 x1 x2 q1 (HMQ.out q1 HQ1.out) ((HCM.out.below HQ1.out).mono HQ1.out.size) hx0 hx1 (fun hA _ => HWD.out.inside hA x0 x1)).mono ?_
            rintro e q2 ⟨rfl, hb⟩
            have HQ2 := Lib.hid (HQ1.out.trans (hb.mono HQ1.out.size))
            clear hb
            go_wp2_with (go_at_call 14; refine (HWQ.out q2 HQ2.out).mono ?_; rintro e wz ⟨rfl, hbz⟩; have HBZ := Lib.hid hbz; clear hbz)
            go_ret
            exact ⟨rfl, HBZ.out⟩
          | true =>
            obtain ⟨hwl, hwh⟩ := wB_iff.1 hwb
            obtain ⟨K, rfl⟩ : ∃ K : Nat, y3 = (K : Int) := ⟨y3.toNat, by omega⟩
            have hK : K < M.bals.length := by omega
            obtain ⟨g4, rfl, hg4⟩ := own_some HLM.out.r4 (by show 0 < M.bals.length; omega)
            have hof := bal_i64 HV.out K hK
            have hob := HV.out.bal (bnth M.bals K) (by rw [bnth_lt hK]; exact List.getElem_mem hK)
            have HOF := Lib.hid (fun W (hb : Below L.heap.size L W) => row_off (HLM.out.below hb).r4 hK)
            obtain ⟨OF, hOF⟩ : ∃ OF, (bnth M.bals K).off = OF := ⟨_, rfl⟩
            rw [hOF] at HOF hob
            have hr1 : wrap64 (OF + y4) = OF + y4 := wrap_in (by omega)
            have hr2 : IntKind.i64.wrap (OF + y4) = OF + y4 := IntWalk.i64_in _ (by omega)
            go_upto_region 14 with (go_at_call 31; refine (rWithin_any _ _ _ _).mono ?_; rintro e w' ⟨rfl, rfl⟩; rw [hwb])
            have bsok := bals_off HV.out hK (x := OF + y4) (by omega) (by unfold I64; omega)
            clear hq1 hq2 hwb hof uf c0 c1 c2 c3 c4 c5 z0 z1 z2 z3 z4 z5 z6 z7 z8 z9 f0 f1 f2 t0 t1 t2 t3 t4 t5 u0 u1 u2 u3 u4 u5
            refine wp_region_facts _ 12 [144, 145, 146, 147, 148, 149, 150, 151, 152, 153, 154, 155] [isV (.pointer (some ⟨U, 4, none⟩)), isV (.slice (some ⟨g4, 0, none⟩) M.bals.length bc2), isV (.pointer (some ⟨w.heap.size + 1, 7, none⟩)), isV (.int .i64 (K : Nat)), isV (.pointer (some ⟨g4, K * 4, none⟩)), isV (.pointer (some ⟨g4, K * 4 + 3, none⟩)), isV (.int .i64 OF), isV (.pointer (some ⟨w.heap.size + 1, 8, none⟩)), isV (.int .i64 y4), isV (.int .i64 (OF + y4)), isV (.pointer (some ⟨g4, K * 4, none⟩)), isV (.pointer (some ⟨g4, K * 4 + 3, none⟩))] (by kernel_rfl) (by kernel_rfl) (by kernel_rfl) rfl (by decide) (by decide) (by simp) ?step ?rest
            case step =>
              intro i ac W d hi hd hb hoff hdep
              obtain ⟨⟨c0, c1, c2, c3, c4, c5⟩, ⟨⟨z0, z1, z2, z3, z4⟩, z5, z6, z7, z8, z9⟩, f0, f1, f2⟩ := HC.out W (HB4.out.trans ((HLB.out.trans (hb.mono HLB.out.size)).mono HB4.out.size))
              obtain ⟨u0, u1, u2, u3, u4, u5⟩ := cells6 ((HLM.out.below hb).vU)
              have o3 := HOF.out W hb
              have hi2 : i = 0 ∨ i = 1 ∨ i = 2 ∨ i = 3 ∨ i = 4 ∨ i = 5 ∨ i = 6 ∨ i = 7 ∨ i = 8 ∨ i = 9 ∨ i = 10 ∨ i = 11 := by omega
              rcases hi2 with rfl | rfl | rfl | rfl | rfl | rfl | rfl | rfl | rfl | rfl | rfl | rfl
              · obtain rfl : 144 = d := by simpa using hd
                have q12 : ac.tmps[12]?.getD undef = .pointer (some ⟨U, 0, none⟩) := (eval_tmp _ _).symm.trans <| (hoff 12 (by decide)).trans rfl
                refine fact_value rfl rfl rfl (v := .pointer (some ⟨U, 4, none⟩)) (W' := W) ?_ (Below.refl _ _) rfl
                simp only [execOp]
                go_simp
              · obtain rfl : 145 = d := by simpa using hd
                have q144 : ac.tmps[144]?.getD undef = .pointer (some ⟨U, 4, none⟩) := (eval_tmp _ _).symm.trans (hdep 0 144 rfl rfl)
                refine fact_value rfl rfl rfl (v := .slice (some ⟨g4, 0, none⟩) M.bals.length bc2) (W' := W) ?_ (Below.refl _ _) rfl
                simp only [execOp]
                go_simp
              · obtain rfl : 146 = d := by simpa using hd
                have q4 : ac.tmps[4]?.getD undef = .pointer (some ⟨w.heap.size + 1, 0, none⟩) := (eval_tmp _ _).symm.trans <| (hoff 4 (by decide)).trans rfl
                refine fact_value rfl rfl rfl (v := .pointer (some ⟨w.heap.size + 1, 7, none⟩)) (W' := W) ?_ (Below.refl _ _) rfl
                simp only [execOp]
                go_simp
              · obtain rfl : 147 = d := by simpa using hd
                have q146 : ac.tmps[146]?.getD undef = .pointer (some ⟨w.heap.size + 1, 7, none⟩) := (eval_tmp _ _).symm.trans (hdep 2 146 rfl rfl)
                refine fact_value rfl rfl rfl (v := .int .i64 (K : Nat)) (W' := W) ?_ (Below.refl _ _) rfl
                simp only [execOp]
                go_simp
              · obtain rfl : 148 = d := by simpa using hd
                have q145 : ac.tmps[145]?.getD undef = .slice (some ⟨g4, 0, none⟩) M.bals.length bc2 := (eval_tmp _ _).symm.trans (hdep 1 145 rfl rfl)
                have q147 : ac.tmps[147]?.getD undef = .int .i64 (K : Nat) := (eval_tmp _ _).symm.trans (hdep 3 147 rfl rfl)
                refine fact_value rfl rfl rfl (v := .pointer (some ⟨g4, K * 4, none⟩)) (W' := W) ?_ (Below.refl _ _) rfl
                simp only [execOp]
                go_simp
              · obtain rfl : 149 = d := by simpa using hd
                have q148 : ac.tmps[148]?.getD undef = .pointer (some ⟨g4, K * 4, none⟩) := (eval_tmp _ _).symm.trans (hdep 4 148 rfl rfl)
                refine fact_value rfl rfl rfl (v := .pointer (some ⟨g4, K * 4 + 3, none⟩)) (W' := W) ?_ (Below.refl _ _) rfl
                simp only [execOp]
                go_simp
              · obtain rfl : 150 = d := by simpa using hd
                have q149 : ac.tmps[149]?.getD undef = .pointer (some ⟨g4, K * 4 + 3, none⟩) := (eval_tmp _ _).symm.trans (hdep 5 149 rfl rfl)
                refine fact_value rfl rfl rfl (v := .int .i64 OF) (W' := W) ?_ (Below.refl _ _) rfl
                simp only [execOp]
                go_simp
              · obtain rfl : 151 = d := by simpa using hd
                have q4 : ac.tmps[4]?.getD undef = .pointer (some ⟨w.heap.size + 1, 0, none⟩) := (eval_tmp _ _).symm.trans <| (hoff 4 (by decide)).trans rfl
                refine fact_value rfl rfl rfl (v := .pointer (some ⟨w.heap.size + 1, 8, none⟩)) (W' := W) ?_ (Below.refl _ _) rfl
                simp only [execOp]
                go_simp
              · obtain rfl : 152 = d := by simpa using hd
                have q151 : ac.tmps[151]?.getD undef = .pointer (some ⟨w.heap.size + 1, 8, none⟩) := (eval_tmp _ _).symm.trans (hdep 7 151 rfl rfl)
                refine fact_value rfl rfl rfl (v := .int .i64 y4) (W' := W) ?_ (Below.refl _ _) rfl
                simp only [execOp]
                go_simp
              · obtain rfl : 153 = d := by simpa using hd
                have q150 : ac.tmps[150]?.getD undef = .int .i64 OF := (eval_tmp _ _).symm.trans (hdep 6 150 rfl rfl)
                have q152 : ac.tmps[152]?.getD undef = .int .i64 y4 := (eval_tmp _ _).symm.trans (hdep 8 152 rfl rfl)
                refine fact_value rfl rfl rfl (v := .int .i64 (OF + y4)) (W' := W) ?_ (Below.refl _ _) rfl
                simp only [execOp]
                go_simp
              · obtain rfl : 154 = d := by simpa using hd
                have q145 : ac.tmps[145]?.getD undef = .slice (some ⟨g4, 0, none⟩) M.bals.length bc2 := (eval_tmp _ _).symm.trans (hdep 1 145 rfl rfl)
                have q147 : ac.tmps[147]?.getD undef = .int .i64 (K : Nat) := (eval_tmp _ _).symm.trans (hdep 3 147 rfl rfl)
                refine fact_value rfl rfl rfl (v := .pointer (some ⟨g4, K * 4, none⟩)) (W' := W) ?_ (Below.refl _ _) rfl
                simp only [execOp]
                go_simp
              · obtain rfl : 155 = d := by simpa using hd
                have q154 : ac.tmps[154]?.getD undef = .pointer (some ⟨g4, K * 4, none⟩) := (eval_tmp _ _).symm.trans (hdep 10 154 rfl rfl)
                refine fact_value rfl rfl rfl (v := .pointer (some ⟨g4, K * 4 + 3, none⟩)) (W' := W) ?_ (Below.refl _ _) rfl
                simp only [execOp]
                go_simp
            case rest =>
              intro vs W hvl hb hval
              obtain ⟨v0, v1, v2, v3, v4, v5, v6, v7, v8, v9, v10, v11, rfl⟩ : ∃ v0 v1 v2 v3 v4 v5 v6 v7 v8 v9 v10 v11, vs = [v0, v1, v2, v3, v4, v5, v6, v7, v8, v9, v10, v11] := by
                match vs, hvl with
                | [v0, v1, v2, v3, v4, v5, v6, v7, v8, v9, v10, v11], _ => exact ⟨v0, v1, v2, v3, v4, v5, v6, v7, v8, v9, v10, v11, rfl⟩
              obtain rfl : v0 = .pointer (some ⟨U, 4, none⟩) := by obtain ⟨u, e, h⟩ := hval 0 (by omega); have e2 : some v0 = some u := e; injection e2 with e2; subst e2; exact h
              obtain rfl : v1 = .slice (some ⟨g4, 0, none⟩) M.bals.length bc2 := by obtain ⟨u, e, h⟩ := hval 1 (by omega); have e2 : some v1 = some u := e; injection e2 with e2; subst e2; exact h
              obtain rfl : v2 = .pointer (some ⟨w.heap.size + 1, 7, none⟩) := by obtain ⟨u, e, h⟩ := hval 2 (by omega); have e2 : some v2 = some u := e; injection e2 with e2; subst e2; exact h
              obtain rfl : v3 = .int .i64 (K : Nat) := by obtain ⟨u, e, h⟩ := hval 3 (by omega); have e2 : some v3 = some u := e; injection e2 with e2; subst e2; exact h
              obtain rfl : v4 = .pointer (some ⟨g4, K * 4, none⟩) := by obtain ⟨u, e, h⟩ := hval 4 (by omega); have e2 : some v4 = some u := e; injection e2 with e2; subst e2; exact h
              obtain rfl : v5 = .pointer (some ⟨g4, K * 4 + 3, none⟩) := by obtain ⟨u, e, h⟩ := hval 5 (by omega); have e2 : some v5 = some u := e; injection e2 with e2; subst e2; exact h
              obtain rfl : v6 = .int .i64 OF := by obtain ⟨u, e, h⟩ := hval 6 (by omega); have e2 : some v6 = some u := e; injection e2 with e2; subst e2; exact h
              obtain rfl : v7 = .pointer (some ⟨w.heap.size + 1, 8, none⟩) := by obtain ⟨u, e, h⟩ := hval 7 (by omega); have e2 : some v7 = some u := e; injection e2 with e2; subst e2; exact h
              obtain rfl : v8 = .int .i64 y4 := by obtain ⟨u, e, h⟩ := hval 8 (by omega); have e2 : some v8 = some u := e; injection e2 with e2; subst e2; exact h
              obtain rfl : v9 = .int .i64 (OF + y4) := by obtain ⟨u, e, h⟩ := hval 9 (by omega); have e2 : some v9 = some u := e; injection e2 with e2; subst e2; exact h
              obtain rfl : v10 = .pointer (some ⟨g4, K * 4, none⟩) := by obtain ⟨u, e, h⟩ := hval 10 (by omega); have e2 : some v10 = some u := e; injection e2 with e2; subst e2; exact h
              obtain rfl : v11 = .pointer (some ⟨g4, K * 4 + 3, none⟩) := by obtain ⟨u, e, h⟩ := hval 11 (by omega); have e2 : some v11 = some u := e; injection e2 with e2; subst e2; exact h
              clear hval hvl
              simp only [putL, Act.put, List.drop, List.setIfInBounds_toArray, List.set_cons_zero, List.set_cons_succ]
              have o3 := HOF.out W hb
              have hmk0 := (HLM.out.below hb).off hK (OF + y4)
              have pf3 := row_frozen (HLM.out.below hb).r4 (K * 4 + 3)
              have hgw := row_lt (HLM.out.below hb).r4
              have HNB := Lib.hid (below_setCell (HLB.out.trans (hb.mono HLB.out.size)) hg4 (o := K * 4 + 3) (v := .int .i64 (OF + y4)))
              have HMK := Lib.hid hmk0
              clear hb hmk0
              go_upto_region 15 with fail
              obtain ⟨V, hV⟩ : ∃ V, V = W.setCell ⟨g4, K * 4 + 3, none⟩ (.int .i64 (OF + y4)) := ⟨_, rfl⟩
              have hVB2 := HNB.out
              have hVM := HMK.out
              rw [← hV] at hVB2 hVM ⊢
              have HVBW := Lib.hid hVB2
              have HVM := Lib.hid hVM
              clear hV hVB2 hVM o3 pf3 hgw hr1 hr2 HNB HMK
              obtain ⟨⟨c0, c1, c2, c3, c4, c5⟩, ⟨⟨z0, z1, z2, z3, z4⟩, z5, z6, z7, z8, z9⟩, f0, f1, f2⟩ := HC.out V (HB4.out.trans (HVBW.out.mono HB4.out.size))
              obtain ⟨t0, t1, t2, t3, t4, t5⟩ := cells6 HVM.out.vB
              obtain ⟨u0, u1, u2, u3, u4, u5⟩ := cells6 HVM.out.vU
              have uf := froz HVM.out.vU
              have hUl := heap_lt HVM.out.vU
              have hBl := heap_lt HVM.out.vB
              have hw1 : wrap64 (M.wrong + y5) = M.wrong + y5 := wrap_in (by omega)
              have hw2 : IntKind.i64.wrap (M.wrong + y5) = M.wrong + y5 := IntWalk.i64_in _ (by omega)
              go_upto_region 16 with fail
              obtain ⟨Q, hQ⟩ : ∃ Q, Q = V.setCell ⟨U, 5, none⟩ (.int .i64 (M.wrong + y5)) := ⟨_, rfl⟩
              have hmw := HVM.out.wrong hne (M.wrong + y5)
              have hQb : Below w4.heap.size w4 Q := by rw [hQ]; exact below_setCell HVBW.out hfar.2.1
              rw [← hQ] at hmw ⊢
              have HQB := Lib.hid (HB4.out.trans (hQb.mono HB4.out.size))
              have HAM := Lib.hid (add_at HV.out HYB.out hmw)
              have HCM := Lib.hid (wide_at HV.out (C := ({ levers := (M.levers.set J ⟨(lnth M.levers J).long, max 1 (LO - y1), min 1000 (HI + y1)⟩), water := M.water, lkLo := M.lkLo, lkHi := min 20 (M.lkHi + y2), bals := (M.bals.set K { bnth M.bals K with off := OF + y4 }), wrong := M.wrong + y5 } : Mach)) lsok bsok (by show I64 (min 20 (M.lkHi + y2)); unfold I64; omega) (by show I64 (M.wrong + y5); unfold I64; omega) hmw)
              have HWD := Lib.hid (show WideM M ({ levers := (M.levers.set J ⟨(lnth M.levers J).long, max 1 (LO - y1), min 1000 (HI + y1)⟩), water := M.water, lkLo := M.lkLo, lkHi := min 20 (M.lkHi + y2), bals := (M.bals.set K { bnth M.bals K with off := OF + y4 }), wrong := M.wrong + y5 } : Mach) from ⟨lsok.1, rfl, Int.le_refl _, by show M.lkHi ≤ min 20 (M.lkHi + y2); omega, bsok.1, by show M.wrong ≤ M.wrong + y5; omega⟩)
              have HCQ := Lib.hid (fun X (hX : Below Q.heap.size Q X) => (show _ ∧ _ ∧ _ from ⟨HC.out X (HQB.out.trans (hX.mono HQB.out.size)), cells6 ((hX.block B (heap_lt hmw.vB)).trans hmw.vB), cells6 ((hX.block U (heap_lt hmw.vU)).trans hmw.vU)⟩))
              have HMQ := Lib.hid (fun X (hX : Below Q.heap.size Q X) => HM.out X (HQB.out.trans (hX.mono HQB.out.size)))
              have HWQ := Lib.hid (fun X (hX : Below Q.heap.size Q X) => HWK.out X (HQB.out.trans (hX.mono HQB.out.size)))
              clear hQ hQb hmw hw1 hw2 uf c0 c1 c2 c3 c4 c5 z0 z1 z2 z3 z4 z5 z6 z7 z8 z9 f0 f1 f2 t0 t1 t2 t3 t4 t5 u0 u1 u2 u3 u4 u5
              obtain ⟨⟨⟨c0, c1, c2, c3, c4, c5⟩, ⟨⟨z0, z1, z2, z3, z4⟩, z5, z6, z7, z8, z9⟩, f0, f1, f2⟩, ⟨t0, t1, t2, t3, t4, t5⟩, u0, u1, u2, u3, u4, u5⟩ := HCQ.out Q (Below.refl _ _)
              go_wp2_with fail
              refine (inside_any _ _ (addB M yb) M x0 x1 x2 Q HAM.out (HMQ.out Q (Below.refl _ _)) hx0 hx1 (fun _ _ => add_inside M yb x0 x1)).mono ?_
              rintro e q1 ⟨rfl, hb⟩
              have HQ1 := Lib.hid hb
              clear c0 c1 c2 c3 c4 c5 z0 z1 z2 z3 z4 z5 z6 z7 z8 z9 f0 f1 f2 t0 t1 t2 t3 t4 t5 u0 u1 u2 u3 u4 u5
              obtain ⟨⟨⟨c0, c1, c2, c3, c4, c5⟩, ⟨⟨z0, z1, z2, z3, z4⟩, z5, z6, z7, z8, z9⟩, f0, f1, f2⟩, ⟨t0, t1, t2, t3, t4, t5⟩, u0, u1, u2, u3, u4, u5⟩ := HCQ.out q1 hb
              clear hb
              go_wp2_with fail
              refine (inside_any _ _ M ({ levers := (M.levers.set J ⟨(lnth M.levers J).long, max 1 (LO - y1), min 1000 (HI + y1)⟩), water := M.water, lkLo := M.lkLo, lkHi := min 20 (M.lkHi + y2), bals := (M.bals.set K { bnth M.bals K with off := OF + y4 }), wrong := M.wrong + y5 } : Mach) x0 x1 x2 q1 (HMQ.out q1 HQ1.out) ((HCM.out.below HQ1.out).mono HQ1.out.size) hx0 hx1 (fun hA _ => HWD.out.inside hA x0 x1)).mono ?_
              rintro e q2 ⟨rfl, hb⟩
              have HQ2 := Lib.hid (HQ1.out.trans (hb.mono HQ1.out.size))
              clear hb
              go_wp2_with (go_at_call 14; refine (HWQ.out q2 HQ2.out).mono ?_; rintro e wz ⟨rfl, hbz⟩; have HBZ := Lib.hid hbz; clear hbz)
              go_ret
              exact ⟨rfl, HBZ.out⟩
end Go.Proofs.Ytomcjopcfdllgaa
