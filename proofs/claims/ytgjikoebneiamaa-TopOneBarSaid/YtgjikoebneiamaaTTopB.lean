/-
  Through the layers: the bars of a cable that is welded of the pieces of a plan (P0.10): the law's body.
-/
import Derived.Test.YtgjikoebneiamaaTTopA
import Derived.Deep.DeepCutAuto
namespace Go.Proofs.Ytgjikoebneiamaa
open Go.RowKit Go.Shelf

set_option maxRecDepth 100000 in
set_option maxHeartbeats 32000000 in
theorem TopOneBar_any (v : Value) (S : Tb.Store) (w : World) (hx : Tb.StoreAt w.heap.size w v S) :
    Calls Try.prog 12 #[v] w fun e w' => e = .returned (.bool true) ∧ Below w.heap.size w w' := by
  obtain ⟨iB, hiB, hzB0, hzB1, hzB2⟩ := info_parts top_info
  have hx' := hx
  obtain ⟨a, cap, b, off, a2, cap2, b2, off2, rfl, hm, hm2, HA, HC, HA2, HC2⟩ := hx.opened
  have HST := Lib.hid (show ∀ W : World, Below (w.heap.size + 1) (w.alloc (.cells #[.slice a S.bars.length cap, .int .i64 S.kerf, .slice a2 S.pieces.length cap2, .int .i64 S.wrong] 69)) W → Tb.StoreAt W.heap.size W (.agg #[.slice a S.bars.length cap, .int .i64 S.kerf, .slice a2 S.pieces.length cap2, .int .i64 S.wrong]) S from fun _ h => (hx'.below (Tb.boxed h)).mono (Tb.boxed h).size)
  have HB0 := Lib.hid (show Below (w.heap.size + 1) (w.alloc (.cells #[.slice a S.bars.length cap, .int .i64 S.kerf, .slice a2 S.pieces.length cap2, .int .i64 S.wrong] 69)) (w.alloc (.cells #[.slice a S.bars.length cap, .int .i64 S.kerf, .slice a2 S.pieces.length cap2, .int .i64 S.wrong] 69)) from Below.refl _ _)
  clear hx hx' HA HC HA2 HC2
  obtain ⟨c0, c1, c2, c3⟩ := Tb.box4 HB0.out
  cases hf : Tb.farB S
  case true =>
    have HF := Lib.hid hf
    clear hf
    go_enter Try.func12, Try.ntmps12
    go_wp2_with fail
    refine (Tb.Far_to HF.out (HST.out _ HB0.out)).mono ?_
    rintro e z1 ⟨rfl, hb⟩
    have HB1 := Lib.hid (HB0.out.trans (hb.mono (Tb.boxed_size HB0.out)))
    clear hb c0 c1 c2 c3
    go_wp2_with (go_at_call 61; refine (made_any _).mono ?_; rintro e wz ⟨rfl, hb⟩; have HBZ := Lib.hid ((Tb.boxed HB1.out).trans (hb.mono (Tb.boxed HB1.out).size)); clear hb)
    go_ret
    exact ⟨rfl, HBZ.out⟩
  have HF := Lib.hid hf
  cases hv : Tb.validB S
  case false =>
    have HV := Lib.hid hv
    clear hf hv
    go_enter Try.func12, Try.ntmps12
    go_wp2_with fail
    refine (Tb.Far_to HF.out (HST.out _ HB0.out)).mono ?_
    rintro e z1 ⟨rfl, hb⟩
    have HB1 := Lib.hid (HB0.out.trans (hb.mono (Tb.boxed_size HB0.out)))
    clear hb c0 c1 c2 c3
    obtain ⟨c0, c1, c2, c3⟩ := Tb.box4 HB1.out
    go_wp2_with fail
    refine (Tb.rCheck_bad HV.out (HST.out _ HB1.out)).mono ?_
    rintro e z2 ⟨rfl, hb⟩
    have HB2 := Lib.hid (HB1.out.trans (hb.mono (Tb.boxed_size HB1.out)))
    clear hb c0 c1 c2 c3
    go_wp2_with (go_at_call 61; refine (made_any _).mono ?_; rintro e wz ⟨rfl, hb⟩; have HBZ := Lib.hid ((Tb.boxed HB2.out).trans (hb.mono (Tb.boxed HB2.out).size)); clear hb)
    go_ret
    exact ⟨rfl, HBZ.out⟩
  obtain ⟨hnb, hnp⟩ := far_few hf hv
  have HV := Lib.hid hv
  have HVS := Lib.hid (Tb.valid_iff.1 hv)
  clear hf hv
  by_cases hz : (Tb.truthsL S).length = 0
  · have HPL := Lib.hid (show Tb.planS S = [] by unfold Tb.planS; rw [Tb.planL_none.2 hz]; rfl)
    have HLE := Lib.hid (show Tb.leastS S = 0 by unfold Tb.leastS; rw [HPL.out]; rfl)
    have HER := Lib.hid (show Tb.errN (Tb.truthsL S).length = 3 by rw [hz]; rfl)
    clear hz
    go_enter Try.func12, Try.ntmps12
    go_wp2_with fail
    refine (Tb.Far_to HF.out (HST.out _ HB0.out)).mono ?_
    rintro e z1 ⟨rfl, hb⟩
    have HB1 := Lib.hid (HB0.out.trans (hb.mono (Tb.boxed_size HB0.out)))
    clear hb c0 c1 c2 c3
    obtain ⟨c0, c1, c2, c3⟩ := Tb.box4 HB1.out
    go_wp2_with fail
    refine (Tb.rCheck_ok HV.out (HST.out _ HB1.out)).mono ?_
    rintro e z2 ⟨rfl, hb⟩
    have HB2 := Lib.hid (HB1.out.trans (hb.mono (Tb.boxed_size HB1.out)))
    clear hb c0 c1 c2 c3
    obtain ⟨c0, c1, c2, c3⟩ := Tb.box4 HB2.out
    go_wp2_with fail
    refine (Plan_some HPL.out HER.out (HST.out _ HB2.out) HVS.out).mono ?_
    rintro e z3 ⟨vP, rfl, hv, hb⟩
    have HB3 := Lib.hid (HB2.out.trans (hb.mono (Tb.boxed_size HB2.out)))
    have HV3 := Lib.hid hv
    obtain ⟨aP, kP, bP, gP, rfl, mP, AP, CP, _⟩ := hv.opened
    clear hb hv c0 c1 c2 c3 AP CP
    obtain ⟨c0, c1, c2, c3⟩ := Tb.box4 HB3.out
    go_wp2_with fail
    refine (Least_some HLE.out HER.out (HST.out _ HB3.out) HVS.out).mono ?_
    rintro e z4 ⟨rfl, hb⟩
    have HB4 := Lib.hid (HB3.out.trans (hb.mono (Tb.boxed_size HB3.out)))
    have HV4 := Lib.hid ((HV3.out.below hb).mono hb.size)
    clear hb HV3 c0 c1 c2 c3
    go_wp2_with (go_at_call 61; refine (made_any _).mono ?_; rintro e wz ⟨rfl, hb⟩; have HBZ := Lib.hid ((Tb.boxed HB4.out).trans (hb.mono (Tb.boxed HB4.out).size)); clear hb)
    go_ret
    exact ⟨rfl, HBZ.out⟩
  obtain ⟨l, hl⟩ : ∃ l, Tb.planS S = l := ⟨_, rfl⟩
  have hO := Tb.truths_ok (Tb.planS_ok hz)
  rw [hl] at hO
  obtain ⟨⟨_, hbar0⟩, hlen⟩ := hO
  have HPL := Lib.hid hl
  have HBAR := Lib.hid (show ∀ i, i < l.length → 0 ≤ nth l i ∧ nth l i < S.bars.length from hbar0)
  have HLE := Lib.hid (show Tb.leastS S = Tb.usedTo2 l S.bars.length by
    have h := Tb.usedS_eq (Tb.truths_ok (Tb.planS_ok hz)).1
    unfold Tb.leastS
    rw [h, hl])
  have HER := Lib.hid (show Tb.errN (Tb.truthsL S).length = 0 from Tb.errN_pos hz)
  have HAL := Lib.hid (fun p r => plan_alike hz p r)
  have HCV := Lib.hid (top_valid (l := l) (by omega) (fun i hi => by have := HBAR.out i hi; omega))
  obtain ⟨n, hn⟩ : ∃ n, l.length = n := ⟨_, rfl⟩
  have HN := Lib.hid hn
  have HNP := Lib.hid (show n = S.pieces.length by rw [← hn]; exact hlen)
  have hn5 : n ≤ 5 := by omega
  obtain ⟨LE, hLE⟩ : ∃ LE, Tb.usedTo2 l S.bars.length = LE := ⟨_, rfl⟩
  have HLE2 := Lib.hid hLE
  rw [hLE] at HLE
  clear hbar0 hlen hl hz hn hLE
  go_enter Try.func12, Try.ntmps12
  go_wp2_with fail
  refine (Tb.Far_to HF.out (HST.out _ HB0.out)).mono ?_
  rintro e z1 ⟨rfl, hb⟩
  have HB1 := Lib.hid (HB0.out.trans (hb.mono (Tb.boxed_size HB0.out)))
  clear hb c0 c1 c2 c3
  obtain ⟨c0, c1, c2, c3⟩ := Tb.box4 HB1.out
  go_wp2_with fail
  refine (Tb.rCheck_ok HV.out (HST.out _ HB1.out)).mono ?_
  rintro e z2 ⟨rfl, hb⟩
  have HB2 := Lib.hid (HB1.out.trans (hb.mono (Tb.boxed_size HB1.out)))
  clear hb c0 c1 c2 c3
  obtain ⟨c0, c1, c2, c3⟩ := Tb.box4 HB2.out
  go_wp2_with fail
  refine (Plan_some HPL.out HER.out (HST.out _ HB2.out) HVS.out).mono ?_
  rintro e z3 ⟨vP, rfl, hv, hb⟩
  have HB3 := Lib.hid (HB2.out.trans (hb.mono (Tb.boxed_size HB2.out)))
  have HV3 := Lib.hid hv
  obtain ⟨aP, kP, bP, gP, rfl, mP, AP, CP, _⟩ := hv.opened
  clear hb hv c0 c1 c2 c3 AP CP
  obtain ⟨c0, c1, c2, c3⟩ := Tb.box4 HB3.out
  go_wp2_with fail
  refine (Least_some HLE.out HER.out (HST.out _ HB3.out) HVS.out).mono ?_
  rintro e z4 ⟨rfl, hb⟩
  have HB4 := Lib.hid (HB3.out.trans (hb.mono (Tb.boxed_size HB3.out)))
  have HV4 := Lib.hid ((HV3.out.below hb).mono hb.size)
  clear hb HV3 c0 c1 c2 c3
  have hPl : l.length = n := HN.out
  rw [HN.out]
  have hvv := HV4.out
  obtain ⟨aQ, kQ, bQ, gQ, hqe, mQ, AQ, CQ, _⟩ := hvv.opened
  rw [HN.out] at hqe
  injection hqe with hq1 _ hq3
  subst hq1 hq3
  have HAQ := Lib.hid (fun (h : 0 < n) => AQ.out (by rw [HN.out]; exact h))
  have HCQ := Lib.hid (fun i (h : i < n) => CQ.out i (by rw [HN.out]; exact h))
  have hnp2 : (((n : Nat) : Int) != (S.pieces.length : Int)) = false := by rw [HNP.out]; simp
  have hnp3 : (((n : Nat) : Int) == (S.pieces.length : Int)) = true := by rw [HNP.out]; simp
  clear hvv AQ CQ mQ hPl
  obtain ⟨c0, c1, c2, c3⟩ := Tb.box4 HB4.out
  have hs4 := Tb.boxed_size HB4.out
  go_wp2_with fail
  go_loopw [9] (fun i wr => ∃ k : Nat, k ≤ n ∧ i = .int .i64 k ∧ ∃ s, Hid (wr.heap[z4.heap.size]? = some (.cells #[s, .slice none 0 0, .int .i64 0] 25)) ∧ Hid (wr.ownsRow (z4.heap.size + 1) 55 5 s k (dcells (topD l k) k)) ∧ Hid (Below z4.heap.size z4 wr)) (fun i _ => n - (intOf i).toNat)
  case atStart => exact ⟨0, Nat.zero_le _, rfl, _, heap_new _ _, World.ownsRow_nil _ _ _ _, (Below.refl _ _).alloc (Nat.le_refl _) _⟩
  case round =>
    obtain ⟨k, hk, rfl, s, hzc, hown, hbl⟩ := hrel
    obtain ⟨sA, sc, rfl, _⟩ := own_form hown.out
    clear c0 c1 c2 c3
    have HBR := Lib.hid (HB4.out.trans (hbl.out.mono hs4))
    obtain ⟨c0, c1, c2, c3⟩ := Tb.box4 HBR.out
    have hzl := heap_lt hzc.out
    by_cases hlt : k < n
    · obtain ⟨rfl, hbQ⟩ := HAQ.out (by omega)
      have hcell0 := (hbl.out.cell (p := ⟨bQ, gQ + k, none⟩) hbQ).trans (HCQ.out k hlt)
      obtain ⟨x, hx⟩ : ∃ x, nth l k = x := ⟨_, rfl⟩
      obtain ⟨hx0, hx1⟩ := HBAR.out k (by rw [HN.out]; exact hlt)
      rw [hx] at hcell0 hx0 hx1
      have HX := Lib.hid hx
      have hk0 : (0 : Int) ≤ (k : Nat) := by omega
      have hk1 : ((k : Nat) : Int) < (n : Int) := by omega
      have g1 : decide (x < 0) = false := by simpa using hx0
      have g2 : decide ((S.bars.length : Int) ≤ x) = false := by simpa using hx1
      clear hx
      go_upto_region 16 with fail
      go_quiet (fail)
      have hcl : bQ < wr.heap.size := by omega
      have HCE := Lib.hid hcell0
      go_upto_region 18 with fail
      clear c0 c1 c2 c3 hcell0
      refine wp_region_facts _ 10 [84, 85, 86, 87, 88, 89, 90, 91, 92, 93] [isV (.pointer (some ⟨z4.heap.size, 0, none⟩)), isV (.slice sA k sc), isV (.int .i64 (k : Int)), isV (.slice (some ⟨bQ, gQ, none⟩) n kP), isV (.int .i64 (k : Int)), isV (.pointer (some ⟨bQ, gQ + k, none⟩)), isV (.int .i64 x), isV (.int .i64 (k : Int)), isV (.agg #[.int .i64 1, .int .i64 (k : Int), .int .i64 0, .int .i64 x, .int .i64 (k : Int)]), ⟨fun v W => ∃ A, v = .slice (some ⟨A, 0, none⟩) 1 1 ∧ wr.heap.size ≤ A ∧ W.heap[A]? = some (.cells #[.int .i64 1, .int .i64 (k : Int), .int .i64 0, .int .i64 x, .int .i64 (k : Int)] 55), fun _ _ _ ⟨A, h1, h0, h2⟩ hb => ⟨A, h1, h0, (hb.block A (heap_lt h2)).trans h2⟩⟩] (by kernel_rfl) (by kernel_rfl) (by kernel_rfl) rfl (by decide) (by decide) (by simp) ?step ?rest
      case step =>
        intro i ac W d hi hd hb hoff hdep
        have hcell := (hb.cell (p := ⟨bQ, gQ + k, none⟩) hcl).trans HCE.out
        obtain ⟨⟨z0, z1, z2⟩, zf⟩ := box3f_of ((hb.block _ hzl).trans hzc.out)
        have hi2 : i = 0 ∨ i = 1 ∨ i = 2 ∨ i = 3 ∨ i = 4 ∨ i = 5 ∨ i = 6 ∨ i = 7 ∨ i = 8 ∨ i = 9 := by omega
        rcases hi2 with rfl | rfl | rfl | rfl | rfl | rfl | rfl | rfl | rfl | rfl
        · obtain rfl : 84 = d := by simpa using hd
          have q7 : ac.tmps[7]?.getD undef = .pointer (some ⟨z4.heap.size, 0, none⟩) := (eval_tmp _ _).symm.trans <| (hoff 7 (by decide)).trans rfl
          refine fact_value rfl rfl rfl (v := .pointer (some ⟨z4.heap.size, 0, none⟩)) (W' := W) ?_ (Below.refl _ _) rfl
          simp only [execOp]
          go_simp
        · obtain rfl : 85 = d := by simpa using hd
          have q84 : ac.tmps[84]?.getD undef = .pointer (some ⟨z4.heap.size, 0, none⟩) := (eval_tmp _ _).symm.trans (hdep 0 84 rfl rfl)
          refine fact_value rfl rfl rfl (v := .slice sA k sc) (W' := W) ?_ (Below.refl _ _) rfl
          simp only [execOp]
          go_simp
        · obtain rfl : 86 = d := by simpa using hd
          have q9 : ac.tmps[9]?.getD undef = .int .i64 (k : Int) := (eval_tmp _ _).symm.trans <| (hoff 9 (by decide)).trans rfl
          refine fact_value rfl rfl rfl (v := .int .i64 (k : Int)) (W' := W) ?_ (Below.refl _ _) rfl
          simp only [execOp]
          go_simp
        · obtain rfl : 87 = d := by simpa using hd
          have q3 : ac.tmps[3]?.getD undef = .slice (some ⟨bQ, gQ, none⟩) n kP := (eval_tmp _ _).symm.trans <| (hoff 3 (by decide)).trans rfl
          refine fact_value rfl rfl rfl (v := .slice (some ⟨bQ, gQ, none⟩) n kP) (W' := W) ?_ (Below.refl _ _) rfl
          simp only [execOp]
          go_simp
        · obtain rfl : 88 = d := by simpa using hd
          have q9 : ac.tmps[9]?.getD undef = .int .i64 (k : Int) := (eval_tmp _ _).symm.trans <| (hoff 9 (by decide)).trans rfl
          refine fact_value rfl rfl rfl (v := .int .i64 (k : Int)) (W' := W) ?_ (Below.refl _ _) rfl
          simp only [execOp]
          go_simp
        · obtain rfl : 89 = d := by simpa using hd
          have q87 : ac.tmps[87]?.getD undef = .slice (some ⟨bQ, gQ, none⟩) n kP := (eval_tmp _ _).symm.trans (hdep 3 87 rfl rfl)
          have q88 : ac.tmps[88]?.getD undef = .int .i64 (k : Int) := (eval_tmp _ _).symm.trans (hdep 4 88 rfl rfl)
          refine fact_value rfl rfl rfl (v := .pointer (some ⟨bQ, gQ + k, none⟩)) (W' := W) ?_ (Below.refl _ _) rfl
          simp only [execOp]
          go_simp
        · obtain rfl : 90 = d := by simpa using hd
          have q89 : ac.tmps[89]?.getD undef = .pointer (some ⟨bQ, gQ + k, none⟩) := (eval_tmp _ _).symm.trans (hdep 5 89 rfl rfl)
          refine fact_value rfl rfl rfl (v := .int .i64 x) (W' := W) ?_ (Below.refl _ _) rfl
          simp only [execOp]
          go_simp
        · obtain rfl : 91 = d := by simpa using hd
          have q9 : ac.tmps[9]?.getD undef = .int .i64 (k : Int) := (eval_tmp _ _).symm.trans <| (hoff 9 (by decide)).trans rfl
          refine fact_value rfl rfl rfl (v := .int .i64 (k : Int)) (W' := W) ?_ (Below.refl _ _) rfl
          simp only [execOp]
          go_simp
        · obtain rfl : 92 = d := by simpa using hd
          have q86 : ac.tmps[86]?.getD undef = .int .i64 (k : Int) := (eval_tmp _ _).symm.trans (hdep 2 86 rfl rfl)
          have q90 : ac.tmps[90]?.getD undef = .int .i64 x := (eval_tmp _ _).symm.trans (hdep 6 90 rfl rfl)
          have q91 : ac.tmps[91]?.getD undef = .int .i64 (k : Int) := (eval_tmp _ _).symm.trans (hdep 7 91 rfl rfl)
          refine fact_value rfl rfl rfl (v := .agg #[.int .i64 1, .int .i64 (k : Int), .int .i64 0, .int .i64 x, .int .i64 (k : Int)]) (W' := W) ?_ (Below.refl _ _) rfl
          simp only [execOp]
          go_simp
        · obtain rfl : 93 = d := by simpa using hd
          have q92 : ac.tmps[92]?.getD undef = .agg #[.int .i64 1, .int .i64 (k : Int), .int .i64 0, .int .i64 x, .int .i64 (k : Int)] := (eval_tmp _ _).symm.trans (hdep 8 92 rfl rfl)
          refine fact_value rfl rfl rfl (v := .slice (some ⟨W.heap.size, 0, none⟩) 1 1) (W' := W.alloc (.cells #[.int .i64 1, .int .i64 (k : Int), .int .i64 0, .int .i64 x, .int .i64 (k : Int)] 55)) ?_ ((Below.refl _ _).alloc (Nat.le_refl _) _) ⟨_, rfl, hb.size, heap_new _ _⟩
          simp only [execOp]
          go_simp
      case rest =>
        intro vs W2 hvl hbx hval
        obtain ⟨y0, y1, y2, y3, y4, y5, y6, y7, y8, y9, rfl⟩ : ∃ y0 y1 y2 y3 y4 y5 y6 y7 y8 y9, vs = [y0, y1, y2, y3, y4, y5, y6, y7, y8, y9] := by
          match vs, hvl with
          | [y0, y1, y2, y3, y4, y5, y6, y7, y8, y9], _ => exact ⟨y0, y1, y2, y3, y4, y5, y6, y7, y8, y9, rfl⟩
        obtain rfl : y0 = .pointer (some ⟨z4.heap.size, 0, none⟩) := by obtain ⟨u, e, h⟩ := hval 0 (by omega); have e2 : some y0 = some u := e; injection e2 with e2; subst e2; exact h
        obtain rfl : y1 = .slice sA k sc := by obtain ⟨u, e, h⟩ := hval 1 (by omega); have e2 : some y1 = some u := e; injection e2 with e2; subst e2; exact h
        obtain rfl : y2 = .int .i64 (k : Int) := by obtain ⟨u, e, h⟩ := hval 2 (by omega); have e2 : some y2 = some u := e; injection e2 with e2; subst e2; exact h
        obtain rfl : y3 = .slice (some ⟨bQ, gQ, none⟩) n kP := by obtain ⟨u, e, h⟩ := hval 3 (by omega); have e2 : some y3 = some u := e; injection e2 with e2; subst e2; exact h
        obtain rfl : y4 = .int .i64 (k : Int) := by obtain ⟨u, e, h⟩ := hval 4 (by omega); have e2 : some y4 = some u := e; injection e2 with e2; subst e2; exact h
        obtain rfl : y5 = .pointer (some ⟨bQ, gQ + k, none⟩) := by obtain ⟨u, e, h⟩ := hval 5 (by omega); have e2 : some y5 = some u := e; injection e2 with e2; subst e2; exact h
        obtain rfl : y6 = .int .i64 x := by obtain ⟨u, e, h⟩ := hval 6 (by omega); have e2 : some y6 = some u := e; injection e2 with e2; subst e2; exact h
        obtain rfl : y7 = .int .i64 (k : Int) := by obtain ⟨u, e, h⟩ := hval 7 (by omega); have e2 : some y7 = some u := e; injection e2 with e2; subst e2; exact h
        obtain rfl : y8 = .agg #[.int .i64 1, .int .i64 (k : Int), .int .i64 0, .int .i64 x, .int .i64 (k : Int)] := by obtain ⟨u, e, h⟩ := hval 8 (by omega); have e2 : some y8 = some u := e; injection e2 with e2; subst e2; exact h
        have k9 : ∃ A, y9 = .slice (some ⟨A, 0, none⟩) 1 1 ∧ wr.heap.size ≤ A ∧ W2.heap[A]? = some (.cells #[.int .i64 1, .int .i64 (k : Int), .int .i64 0, .int .i64 x, .int .i64 (k : Int)] 55) := by obtain ⟨u, e, h⟩ := hval 9 (by omega); have e2 : some y9 = some u := e; injection e2 with e2; subst e2; exact h
        clear hval hvl
        have hbx : Below wr.heap.size wr W2 := (drewN_below (Below.refl _ wr) _).trans hbx
        obtain ⟨A, rfl, hA0, hA⟩ := k9
        have HA := Lib.hid hA
        have HBX := Lib.hid hbx
        have hsr := hbl.out.size
        have hsx := hbx.size
        have HOW := Lib.hid (top_below (w' := W2) hown.out hbx)
        clear hA hbx
        simp only [putL, Act.put, List.drop, List.setIfInBounds_toArray, List.set_cons_zero, List.set_cons_succ]
        go_wp2_with (at_builtin; refine wpList_append_own _ rfl (.tmp 85) (.tmp 93) 22 rfl (z4.heap.size + 1) 55 iB (.agg #[.int .i64 0, .int .i64 0, .int .i64 0, .int .i64 0, .int .i64 0]) 5 40 Try.underlying22 hiB hzB0 hzB1 hzB2 rfl (by decide) (.slice sA k sc) k _ rfl HOW.out ⟨A, 0, none⟩ 1 1 [.int .i64 1, .int .i64 (k : Int), .int .i64 0, .int .i64 x, .int .i64 (k : Int)] rfl rfl ?f1 ?f2 ?f3 ?f4 ?f5 ?_)
        case f1 => exact fun j u hj => by have h1 := World.news_of_block (fr := (0, 0)) HA.out j u hj; rwa [add_plain0, Nat.zero_add] at h1
        case f2 => simp [Value.oneCell']
        case f3 => unfold maxLen; omega
        case f4 => omega
        case f5 => omega
        intro v' w5 hown' hgrow _
        have HG := Lib.hid (show Below (z4.heap.size + 1) wr w5 from (HBX.out.mono (by omega)).grown hgrow (by omega) (fun j e => (HOW.out.lt j e).1))
        have HZ5 := Lib.hid ((HG.out.block z4.heap.size (by omega)).trans hzc.out)
        obtain ⟨⟨z0, z1, z2⟩, zf⟩ := box3f_of HZ5.out
        have zf0 := zf 0
        have HO5 := Lib.hid hown'
        obtain ⟨vA, vc, rfl, _⟩ := own_form hown'
        clear hown' hgrow zf
        go_wp2
        refine ⟨⟨k + 1, by omega, by go_num, .slice vA (k + 1) vc, ?_, ?_, ?_⟩, by simp [intOf]; omega⟩
        · exact (heap_setCell_same HZ5.out).trans rfl
        · have := ownsRow_setCell_below (a := ⟨z4.heap.size, 0, none⟩) HO5.out (Nat.lt_succ_self _) (.slice vA (k + 1) vc)
          rw [top_more, HX.out]
          exact this
        · exact below_setCell (hbl.out.trans (HG.out.mono (by omega))) (Nat.le_refl _)
    · obtain rfl : n = k := by omega
      have hown2 := hown.out
      have HLS := Lib.hid (show LStat w wr z4.heap.size (.slice sA n sc) (.slice none 0 0) (.int .i64 0) (topC l) from ⟨hzc.out, ⟨_, _, rfl, by
          have h := deeds_of_own hown2 (fun i hi => by
            rw [topD_nth hi]
            have := HBAR.out i (by rw [HN.out]; exact hi)
            show I64 1 ∧ I64 (i : Int) ∧ I64 0 ∧ I64 (nth l i) ∧ I64 (i : Int)
            unfold I64
            omega)
          show DeedsTo wr.heap.size wr _ (topD l l.length) (topD l l.length).length
          rw [topD_len, HN.out]
          exact h, ⟨none, 0, 0, 0, rfl, Nat.le_refl _, by unfold maxLen; omega, fun h => absurd h (by simp [topC]), fun i hi => absurd hi (by simp [topC]), fun i hi => absurd hi (by simp [topC])⟩, (show I64 (0 : Int) by unfold I64; omega)⟩, Tb.boxed HBR.out⟩)
      have HCQ2 := Lib.hid (fun i (h : i < n) => (hbl.out.cell (p := ⟨bQ, gQ + i, none⟩) (HAQ.out (by omega)).2).trans (HCQ.out i h))
      have HAQ2 := Lib.hid (fun (h : 0 < n) => (show aP = some ⟨bQ, gQ, none⟩ ∧ bQ < wr.heap.size from ⟨(HAQ.out h).1, by have := (HAQ.out h).2; have := hbl.out.size; omega⟩))
      obtain ⟨z5, hz5⟩ : ∃ z, z = wr := ⟨_, rfl⟩
      rw [← hz5] at HLS HCQ2 HAQ2 HBR ⊢
      clear hown hown2 hzc hbl hzl hz5 HCQ HAQ c0 c1 c2 c3
      have HB5 := HBR
      obtain ⟨c0, c1, c2, c3⟩ := Tb.box4 HB5.out
      have hs5 := Tb.boxed_size HB5.out
      have hn0 : (0 : Int) ≤ (n : Nat) := by omega
      go_wp2_with fail
      go_loopw [8, 10] (fun u i wr => ∃ k : Nat, k ≤ S.bars.length ∧ i = .int .i64 k ∧ u = .int .i64 (Tb.usedTo2 l k) ∧ Hid (Below z5.heap.size z5 wr)) (fun _ i _ => S.bars.length - (intOf i).toNat)
      case atStart => exact ⟨0, Nat.zero_le _, rfl, rfl, Below.refl _ _⟩
      case round =>
        obtain ⟨k, hk, rfl, rfl, hbl⟩ := hrel
        clear c0 c1 c2 c3
        have HBR := Lib.hid (HB5.out.trans (hbl.out.mono hs5))
        obtain ⟨c0, c1, c2, c3⟩ := Tb.box4 HBR.out
        obtain ⟨hu0, hu1⟩ := Tb.usedTo2_le l k
        obtain ⟨u, hu⟩ : ∃ u, Tb.usedTo2 l k = u := ⟨_, rfl⟩
        have HU := Lib.hid hu
        rw [hu] at hu0 hu1 ⊢
        clear hu
        by_cases hlt : k < S.bars.length
        · have hk1 : ((k : Nat) : Int) < (S.bars.length : Int) := by omega
          obtain ⟨z6, hz6⟩ : ∃ z, z = wr := ⟨_, rfl⟩
          rw [← hz6] at hbl HBR c0 c1 c2 c3 ⊢
          clear hz6 wr
          go_wp2_with fail
          go_loopw [8, 11] (fun uu i wr => ∃ j : Nat, j ≤ n ∧ i = .int .i64 j ∧ uu = .int .i64 u ∧ Hid (∀ i, i < j → nth l i ≠ k) ∧ Hid (Below z6.heap.size z6 wr)) (fun _ i _ => n - (intOf i).toNat)
          case atStart => exact ⟨0, Nat.zero_le _, rfl, rfl, fun i hi => absurd hi (by omega), Below.refl _ _⟩
          case round =>
            obtain ⟨j, hj, rfl, rfl, hno, hbl2⟩ := hrel
            have hs6 := hbl.out.size
            have HB7 := Lib.hid (hbl.out.trans (hbl2.out.mono hs6))
            clear c0 c1 c2 c3
            by_cases hjl : j < n
            · obtain ⟨rfl, hbQ⟩ := HAQ2.out (by omega)
              have hcell := (HB7.out.cell (p := ⟨bQ, gQ + j, none⟩) hbQ).trans (HCQ2.out j hjl)
              have hj0 : (0 : Int) ≤ (j : Nat) := by omega
              have hj1 : ((j : Nat) : Int) < (n : Int) := by omega
              obtain ⟨x, hx⟩ : ∃ x, nth l j = x := ⟨_, rfl⟩
              rw [hx] at hcell
              have HX := Lib.hid hx
              clear hx
              by_cases he : x = k
              · have hE := Lib.hid (show Tb.usedTo2 l (k + 1) = u + 1 by
                  simp only [Tb.usedTo2]
                  rw [HU.out, if_pos (show Tb.inB l (k : Int) = true from by
                    simp only [Tb.inB, decide_eq_true_eq]
                    rw [← he, ← HX.out]
                    exact nth_mem (by rw [HN.out]; exact hjl))])
                have e1 : (x == ((k : Nat) : Int)) = true := by simp [he]
                clear he
                go_wp2
                exact ⟨⟨k + 1, by omega, by go_num, by rw [hE.out], HB7.out⟩, by simp [intOf]; omega⟩
              · have e1 : (x == ((k : Nat) : Int)) = false := by simpa using he
                have HE := Lib.hid he
                clear he
                go_wp2
                exact ⟨⟨j + 1, by omega, by go_num, rfl, fun i hi => by
                  by_cases h : i = j
                  · subst h; rw [HX.out]; exact HE.out
                  · exact hno.out i (by omega), hbl2.out⟩, by simp [intOf]; omega⟩
            · obtain rfl : n = j := by omega
              have hE := Lib.hid (show Tb.usedTo2 l (k + 1) = u by
                simp only [Tb.usedTo2]
                rw [HU.out, if_neg (show ¬ Tb.inB l (k : Int) = true from fun h => by
                  simp only [Tb.inB, decide_eq_true_eq] at h
                  obtain ⟨i, hi, e⟩ := List.getElem_of_mem h
                  exact hno.out i (by rw [← HN.out]; exact hi) (by rw [nth_lt hi, e]))]
                omega)
              go_wp2
              exact ⟨⟨k + 1, by omega, by go_num, by rw [hE.out], HB7.out⟩, by simp [intOf]; omega⟩
        · obtain rfl : S.bars.length = k := by omega
          have HUL := Lib.hid (show u = LE by rw [← HU.out, ← HLE2.out])
          have HLS6 := Lib.hid (HLS.out.next hbl.out)
          have HB6 := HBR
          have hs6 := hbl.out.size
          have HCQ6 := Lib.hid (fun i (h : i < n) => (hbl.out.cell (p := ⟨bQ, gQ + i, none⟩) (HAQ2.out (by omega)).2).trans (HCQ2.out i h))
          have HAQ6 := Lib.hid (fun (h : 0 < n) => (show aP = some ⟨bQ, gQ, none⟩ ∧ bQ < wr.heap.size from ⟨(HAQ2.out h).1, by have := (HAQ2.out h).2; omega⟩))
          obtain ⟨z6, hz6⟩ : ∃ z, z = wr := ⟨_, rfl⟩
          rw [← hz6] at HLS6 HB6 HCQ6 HAQ6 c0 c1 c2 c3 ⊢
          clear hz6 hbl HBR HCQ2 HAQ2 HLS
          have hs7 := Tb.boxed_size HB6.out
          go_wp2_with fail
          go_loopw [12] (fun i wr => ∃ k : Nat, k ≤ n ∧ i = .int .i64 k ∧ Hid (Below z6.heap.size z6 wr)) (fun i _ => n - (intOf i).toNat)
          case atStart => exact ⟨0, Nat.zero_le _, rfl, Below.refl _ _⟩
          case round =>
            obtain ⟨k, hk, rfl, hbl⟩ := hrel
            clear c0 c1 c2 c3
            by_cases hlt : k < n
            · obtain ⟨rfl, hbQ⟩ := HAQ6.out (by omega)
              have HLR := Lib.hid (HLS6.out.next hbl.out)
              have HBR := Lib.hid (HB6.out.trans (hbl.out.mono hs7))
              have hsr := hbl.out.size
              have hk0 : (0 : Int) ≤ (k : Nat) := by omega
              have hk1 : ((k : Nat) : Int) < (n : Int) := by omega
              obtain ⟨x, hx⟩ : ∃ x, nth l k = x := ⟨_, rfl⟩
              have hx9 := HBAR.out k (by rw [HN.out]; exact hlt)
              rw [hx] at hx9
              have HX := Lib.hid hx
              clear hx
              obtain ⟨c0, c1, c2⟩ := HLR.out.cells
              go_wp2_with fail
              refine (top_Bars (by rw [HN.out]; exact hlt) HX.out HN.out.symm rfl HCV.out HLR.out.st).mono ?_
              rintro e z7 ⟨v7, rfl, hv7, hb⟩
              obtain ⟨a7, k7, b7, o7, rfl, _⟩ := hv7.opened
              have HV7 := Lib.hid hv7
              have HB7 := Lib.hid (hbl.out.trans (hb.mono hsr))
              have hsz7 := HB7.out.size
              have hcell := (HB7.out.cell (p := ⟨bQ, gQ + k, none⟩) hbQ).trans (HCQ6.out k hlt)
              rw [HX.out] at hcell
              clear hb hv7 c0 c1 c2 HLR HBR
              go_wp2_with fail
              refine (SameInts_to (r := true) (by simp) (HV7.out.below ((Below.refl _ z7).alloc (Nat.le_refl _) (.cells #[.int .i64 x] 3))) (ints_lit (B := z7.heap.size + 1) (xs := [x]) (heap_new z7 _) (by omega) rfl (lit1 _) (by intro y hy; simp at hy; unfold I64; omega) (by simp [maxLen]))).mono ?_
              rintro e z8 ⟨rfl, hb⟩
              have HB8 := Lib.hid (show Below z6.heap.size z6 z8 from (HB7.out.alloc hsz7 _).trans (hb.mono (by simp; omega)))
              have hs8 := HB8.out.size
              clear hb hcell HV7
              go_wp2_with fail
              go_loopw [15] (fun i wr => ∃ j : Nat, j ≤ n ∧ i = .int .i64 j ∧ Hid (Below z6.heap.size z6 wr)) (fun i _ => n - (intOf i).toNat)
              case atStart => exact ⟨0, Nat.zero_le _, rfl, HB8.out⟩
              case round =>
                obtain ⟨j, hj, rfl, hbl2⟩ := hrel
                by_cases hjl : j < n
                · have HLR := Lib.hid (HLS6.out.next hbl2.out)
                  have HBR := Lib.hid (HB6.out.trans (hbl2.out.mono hs7))
                  have hsr2 := hbl2.out.size
                  have hj0 : (0 : Int) ≤ (j : Nat) := by omega
                  have hj1 : ((j : Nat) : Int) < (n : Int) := by omega
                  obtain ⟨y, hy⟩ : ∃ y, nth l j = y := ⟨_, rfl⟩
                  have HY := Lib.hid hy
                  clear hy
                  obtain ⟨m, hm⟩ : ∃ m : Int, (if x = y then (1 : Int) else 2) = m := ⟨_, rfl⟩
                  have HM := Lib.hid hm
                  obtain ⟨q, hq⟩ : ∃ q, (Tb.alikeV S k j).1 = q := ⟨_, rfl⟩
                  have hqm : q = 3 ∨ q = m := by
                    have h := (HAL.out k j).2
                    rw [hq, HPL.out] at h
                    rcases h with h | h
                    · exact .inl h
                    · refine .inr ?_
                      rw [h, ← hm, show Tb.nth l k = x from HX.out, show Tb.nth l j = y from HY.out]
                  have HQ := Lib.hid hq
                  clear hm hq
                  obtain ⟨c0, c1, c2⟩ := HLR.out.cells
                  go_wp2_with fail
                  refine (top_Alike (p := k) (q := j) (x := m) (by rw [HN.out]; exact hlt) (by rw [HN.out]; exact hjl) (by rw [HX.out, HY.out]; exact HM.out) HN.out.symm rfl HCV.out HLR.out.st).mono ?_
                  rintro e z9 ⟨rfl, hb⟩
                  have HB9 := Lib.hid (hbl2.out.trans (hb.mono hsr2))
                  have HBK := Lib.hid (HBR.out.trans (hb.mono (Tb.boxed_size HBR.out)))
                  clear hb c0 c1 c2 HLR HBR
                  obtain ⟨c0, c1, c2, c3⟩ := Tb.box4 HBK.out
                  go_wp2_with fail
                  refine (bAlike_some HQ.out (HAL.out k j).1 (HST.out _ HBK.out) HVS.out (by rw [← HNP.out]; exact hlt) (by rw [← HNP.out]; exact hjl)).mono ?_
                  rintro e z10 ⟨rfl, hb⟩
                  have HB10 := Lib.hid (HB9.out.trans (hb.mono HB9.out.size))
                  clear hb c0 c1 c2 c3 HBK
                  have hcell := (HB10.out.cell (p := ⟨bQ, gQ + k, none⟩) hbQ).trans (HCQ6.out k hlt)
                  have hcell2 := (HB10.out.cell (p := ⟨bQ, gQ + j, none⟩) hbQ).trans (HCQ6.out j hjl)
                  rw [HX.out] at hcell
                  rw [HY.out] at hcell2
                  obtain ⟨d, hd⟩ : ∃ d, (x == y) = d := ⟨_, rfl⟩
                  have e2 : (x != y) = !d := by rw [← hd]; rfl
                  have e3 : (m == 1) = d := by
                    rw [← HM.out, ← hd]
                    by_cases h : x = y
                    · simp [h]
                    · simp [h]
                  have e4 : (m == 2) = !d := by
                    rw [← HM.out, ← hd]
                    by_cases h : x = y
                    · simp [h]
                    · simp [h]
                  have e5 : (m != 3) = true := by
                    rw [← HM.out]
                    by_cases h : x = y
                    · simp [h]
                    · simp [h]
                  have HD := Lib.hid hd
                  have e1 : (x == y) = d := HD.out
                  clear hd HM HQ
                  rcases hqm with rfl | rfl
                  · go_upto_region 38 with fail
                    go_quiet (fail)
                    go_wp2
                    exact ⟨⟨j + 1, by omega, by go_num, drewN_below HB10.out _⟩, by simp [intOf]; omega⟩
                  · go_upto_region 38 with fail
                    go_quiet (fail)
                    go_wp2
                    exact ⟨⟨j + 1, by omega, by go_num, drewN_below HB10.out _⟩, by simp [intOf]; omega⟩
                · obtain rfl : n = j := by omega
                  go_wp2
                  exact ⟨⟨k + 1, by omega, by go_num, hbl2.out⟩, by simp [intOf]; omega⟩
            · obtain rfl : n = k := by omega
              have HB7 := Lib.hid (HB6.out.trans (hbl.out.mono hs7))
              obtain rfl : LE = u := HUL.out.symm
              go_wp2_with (go_at_call 61; refine (made_any _).mono ?_; rintro e wz ⟨rfl, hb⟩; have HBZ := Lib.hid ((Tb.boxed HB7.out).trans (hb.mono (Tb.boxed HB7.out).size)); clear hb)
              go_ret
              exact ⟨rfl, HBZ.out⟩

end Go.Proofs.Ytgjikoebneiamaa
