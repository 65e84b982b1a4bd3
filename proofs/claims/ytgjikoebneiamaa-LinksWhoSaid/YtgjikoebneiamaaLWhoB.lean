/-
  A law's body: who made each link, of which bar, and how often the chain can have come about (P2.1 to P2.5).
-/
import Derived.Test.YtgjikoebneiamaaLWhoM
import Derived.Test.YtgjikoebneiamaaLTwo
import Derived.Test.YtgjikoebneiamaaLFar
import Derived.Test.YtgjikoebneiamaaLWorks
import Derived.Test.YtgjikoebneiamaaLCopy
import Derived.Test.YtgjikoebneiamaaLVals
import Derived.Deep.DeepCutAuto
namespace Go.Proofs.Ytgjikoebneiamaa
open Go.RowKit

theorem far_is {C : Chain} (h : farB C = false) : C.deeds.length ≤ 40 ∧ C.sights.length ≤ 40 := by
  simp only [farB, Bool.or_eq_false_iff, decide_eq_false_iff_not] at h
  omega

theorem const_of {vs : List Value} {ps : List Fact} {i : Nat} {W : World} {x c : Value} (h : ∃ v, vs[i]? = some v ∧ factAt ps i v W) (hv : vs[i]? = some x) (hp : ps.getD i anyV = isV c) : x = c := by
  obtain ⟨v, h1, h2⟩ := h
  rw [hv] at h1
  obtain rfl := Option.some.inj h1
  unfold factAt at h2
  rw [hp] at h2
  exact h2

set_option maxRecDepth 100000 in
set_option maxHeartbeats 32000000 in
theorem LinksWho_any (v : Value) (C : Chain) (X0 : Int) (w : World) (hx : ChainAt w.heap.size w v C) (hX0 : I64 X0) :
    Calls Try.prog 3 #[v, .int .i64 X0] w fun e w' => e = .returned (.bool true) ∧ Below w.heap.size w w' := by
  have hx' := hx
  obtain ⟨a, cap, b, off, a2, cap2, b2, off2, rfl, hm, hm2, hcap, hcapm, HA, HC, HA2, HC2, HI, HI2⟩ := hx.opened
  have HS0 := Lib.hid (LStat.first hx')
  have HXI := Lib.hid hX0
  clear hx hx' HA HC HA2 HC2 HI HI2 hX0
  obtain ⟨c0, c1, c2⟩ := HS0.out.cells
  cases hf : farB C
  case true =>
    have HF := Lib.hid hf
    clear hf
    go_enter Try.func3, Try.ntmps3
    go_wp2_with fail
    refine (Far_to HF.out HS0.out.st).mono ?_
    rintro e z1 ⟨rfl, hb⟩
    have HS1 := Lib.hid (HS0.out.next hb)
    clear hb c0 c1 c2
    go_wp2_with (go_at_call 14; refine (works_any _).mono ?_; rintro e wz ⟨rfl, hb⟩; have HBZ := Lib.hid (HS1.out.next hb).b; clear hb)
    go_ret
    exact ⟨rfl, HBZ.out⟩
  obtain ⟨hn1, hn2⟩ := far_is hf
  have HF := Lib.hid hf
  have HN1 := Lib.hid hn1
  have HN2 := Lib.hid hn2
  obtain ⟨K, hK⟩ : ∃ K, chkS C = K := ⟨_, rfl⟩
  obtain ⟨LN, hLN⟩ : ∃ LN, (if validB C = true then (lenTo C.deeds C.deeds.length : Int) else 0) = LN := ⟨_, rfl⟩
  obtain ⟨FW, hFW⟩ : ∃ FW, (if validB C = true then fewV C else 0) = FW := ⟨_, rfl⟩
  obtain ⟨MN, hMN⟩ : ∃ MN, (knownL C true).length = MN := ⟨_, rfl⟩
  obtain ⟨ME, hME⟩ : ∃ ME, knownE C true = ME := ⟨_, rfl⟩
  obtain ⟨PE, hPE⟩ : ∃ PE, knownE C (placeB C X0) = PE := ⟨_, rfl⟩
  obtain ⟨LW, hLW⟩ : ∃ LW, whoR C X0 = LW := ⟨_, rfl⟩
  obtain ⟨LB, hLB⟩ : ∃ LB, selTo ((whoR C X0).map (fun q => (markD C.deeds q).bar)) 0 100 = LB := ⟨_, rfl⟩
  obtain ⟨LS, hLS⟩ : ∃ LS, selTo ((whoR C X0).map (fun q => (markD C.deeds q).smith)) 0 100 = LS := ⟨_, rfl⟩
  have HK := Lib.hid hK
  have HLN := Lib.hid hLN
  have HFW := Lib.hid hFW
  have HMN := Lib.hid hMN
  have HME := Lib.hid hME
  have HPE := Lib.hid hPE
  have HLW := Lib.hid hLW
  have HLB := Lib.hid hLB
  have HLS := Lib.hid hLS
  clear hf hn1 hn2 hK hLN hFW hMN hME hPE hLW hLB hLS
  go_enter Try.func3, Try.ntmps3
  go_wp2_with fail
  refine (Far_to HF.out HS0.out.st).mono ?_
  rintro e z1 ⟨rfl, hb⟩
  clear c0 c1 c2
  have HS1 := Lib.hid (HS0.out.next hb)
  clear HS0 hb
  obtain ⟨c0, c1, c2⟩ := HS1.out.cells
  go_wp2_with fail
  refine (Copy_any _ C _ HS1.out.st (by have := HN1.out; omega) (by have := HN2.out; omega)).mono ?_
  rintro e z2 ⟨u, rfl, hcp, hb⟩
  obtain ⟨f1, p1, f2, p2, rfl, hp1, hp2⟩ := hcp.shape
  have HB1 := Lib.hid hb
  have HCP := Lib.hid hcp
  have hs1 := hb.size
  clear hb hcp c0 c1 c2
  go_upto_region 4 with fail
  obtain ⟨z3, hY⟩ : ∃ Y, Y = z2.alloc (.cells #[.slice f1 C.deeds.length p1, .slice f2 C.sights.length p2, .int .i64 C.wrong] 25) := ⟨_, rfl⟩
  have hYB : z3.heap[z2.heap.size]? = some (.cells #[.slice f1 C.deeds.length p1, .slice f2 C.sights.length p2, .int .i64 C.wrong] 25) := by rw [hY]; exact heap_new _ _
  have hb : Below z1.heap.size z1 z3 := by rw [hY]; exact HB1.out.alloc hs1 _
  have hYc : CopyAt z1.heap.size z3 (.agg #[.slice f1 C.deeds.length p1, .slice f2 C.sights.length p2, .int .i64 C.wrong]) C := by rw [hY]; exact HCP.out.below ((Below.refl _ _).alloc (Nat.le_refl _) _)
  rw [← hY]
  clear hY HCP HB1
  have HS2 := Lib.hid (HS1.out.next hb)
  have HO2 := Lib.hid (show LStat w z3 z2.heap.size (.slice f1 C.deeds.length p1) (.slice f2 C.sights.length p2) (.int .i64 C.wrong) C from ⟨hYB, hYc.chain, HS2.out.b⟩)
  clear HS1 hYB hYc hb hs1
  obtain ⟨zz, hzz⟩ : ∃ zz, z2.heap.size = zz := ⟨_, rfl⟩
  rw [hzz] at HO2 ⊢
  clear hzz
  refine wp_region_facts _ 5 [25, 26, 27, 28, 29] [isV (.agg #[.slice f1 C.deeds.length p1, .slice f2 C.sights.length p2, .int .i64 C.wrong]), isV (.int .i64 K), isV (.agg #[.slice a C.deeds.length cap, .slice a2 C.sights.length cap2, .int .i64 C.wrong]), isV (.int .i64 K), isV (.bool false)] (by kernel_rfl) (by kernel_rfl) (by kernel_rfl) rfl (by decide) (by decide) (by simp) ?step ?rest
  case step =>
    intro i ac W d hi hd hb hoff hdep
    have hs := HS2.out.next hb
    have ho := HO2.out.next hb
    obtain ⟨c0, c1, c2⟩ := hs.cells
    obtain ⟨o0, o1, o2⟩ := ho.cells
    have hi2 : i = 0 ∨ i = 1 ∨ i = 2 ∨ i = 3 ∨ i = 4 := by omega
    rcases hi2 with rfl | rfl | rfl | rfl | rfl
    · obtain rfl : 25 = d := by simpa using hd
      have q5 : ac.tmps[5]?.getD undef = .pointer (some ⟨zz, 0, none⟩) := (eval_tmp _ _).symm.trans <| (hoff 5 (by decide)).trans rfl
      refine fact_value rfl rfl rfl (v := .agg #[.slice f1 C.deeds.length p1, .slice f2 C.sights.length p2, .int .i64 C.wrong]) (W' := W) ?_ (Below.refl _ _) rfl
      simp only [execOp]
      go_simp
    · obtain rfl : 26 = d := by simpa using hd
      have q25 : ac.tmps[25]?.getD undef = .agg #[.slice f1 C.deeds.length p1, .slice f2 C.sights.length p2, .int .i64 C.wrong] := (eval_tmp _ _).symm.trans (hdep 0 25 rfl rfl)
      refine fact_call rfl rfl rfl (f := 16) (args := #[.agg #[.slice f1 C.deeds.length p1, .slice f2 C.sights.length p2, .int .i64 C.wrong]]) ?_ ?_
      · simp only [execOp]
        go_simp
      · refine (check_to HK.out _ ho.st).mono ?_
        rintro e W' ⟨rfl, hbk⟩
        exact ⟨_, rfl, hbk, rfl⟩
    · obtain rfl : 27 = d := by simpa using hd
      have q2 : ac.tmps[2]?.getD undef = .pointer (some ⟨w.heap.size, 0, none⟩) := (eval_tmp _ _).symm.trans <| (hoff 2 (by decide)).trans rfl
      refine fact_value rfl rfl rfl (v := .agg #[.slice a C.deeds.length cap, .slice a2 C.sights.length cap2, .int .i64 C.wrong]) (W' := W) ?_ (Below.refl _ _) rfl
      simp only [execOp]
      go_simp
    · obtain rfl : 28 = d := by simpa using hd
      have q27 : ac.tmps[27]?.getD undef = .agg #[.slice a C.deeds.length cap, .slice a2 C.sights.length cap2, .int .i64 C.wrong] := (eval_tmp _ _).symm.trans (hdep 2 27 rfl rfl)
      refine fact_call rfl rfl rfl (f := 17) (args := #[.agg #[.slice a C.deeds.length cap, .slice a2 C.sights.length cap2, .int .i64 C.wrong]]) ?_ ?_
      · simp only [execOp]
        go_simp
      · refine (rCheck_to HK.out hs.st).mono ?_
        rintro e W' ⟨rfl, hbk⟩
        exact ⟨_, rfl, hbk, rfl⟩
    · obtain rfl : 29 = d := by simpa using hd
      have q26 : ac.tmps[26]?.getD undef = .int .i64 K := (eval_tmp _ _).symm.trans (hdep 1 26 rfl rfl)
      have q28 : ac.tmps[28]?.getD undef = .int .i64 K := (eval_tmp _ _).symm.trans (hdep 3 28 rfl rfl)
      refine fact_value rfl rfl rfl (v := .bool false) (W' := W) ?_ (Below.refl _ _) rfl
      simp only [execOp]
      go_simp
  case rest =>
    intro vs z3b hvl hb hval
    obtain ⟨v0, v1, v2, v3, v4, rfl⟩ : ∃ v0 v1 v2 v3 v4, vs = [v0, v1, v2, v3, v4] := by
      match vs, hvl with
      | [v0, v1, v2, v3, v4], _ => exact ⟨v0, v1, v2, v3, v4, rfl⟩
    obtain rfl : v0 = .agg #[.slice f1 C.deeds.length p1, .slice f2 C.sights.length p2, .int .i64 C.wrong] := const_of (hval 0 (by decide)) rfl rfl
    obtain rfl : v1 = .int .i64 K := const_of (hval 1 (by decide)) rfl rfl
    obtain rfl : v2 = .agg #[.slice a C.deeds.length cap, .slice a2 C.sights.length cap2, .int .i64 C.wrong] := const_of (hval 2 (by decide)) rfl rfl
    obtain rfl : v3 = .int .i64 K := const_of (hval 3 (by decide)) rfl rfl
    obtain rfl : v4 = .bool false := const_of (hval 4 (by decide)) rfl rfl
    clear hval hvl
    simp only [putL, Act.put, List.drop, List.setIfInBounds_toArray, List.set_cons_zero, List.set_cons_succ]
    have HS3 := Lib.hid (HS2.out.next hb)
    have HO3 := Lib.hid (HO2.out.next hb)
    clear HS2 HO2 hb
    obtain ⟨c0, c1, c2⟩ := HS3.out.cells
    obtain ⟨o0, o1, o2⟩ := HO3.out.cells
    go_wp2_with fail
    refine (Length_u HLN.out HK.out HO3.out.st).mono ?_
    rintro e z4 ⟨rfl, hb⟩
    clear c0 c1 c2 o0 o1 o2
    have HS4 := Lib.hid (HS3.out.next hb)
    have HO4 := Lib.hid (HO3.out.next hb)
    clear HS3 HO3 hb
    obtain ⟨c0, c1, c2⟩ := HS4.out.cells
    obtain ⟨o0, o1, o2⟩ := HO4.out.cells
    go_wp2_with fail
    refine (rLength_u HLN.out HK.out HS4.out.st).mono ?_
    rintro e z5 ⟨rfl, hb⟩
    clear c0 c1 c2 o0 o1 o2
    have HS5 := Lib.hid (HS4.out.next hb)
    have HO5 := Lib.hid (HO4.out.next hb)
    clear HS4 HO4 hb
    obtain ⟨c0, c1, c2⟩ := HS5.out.cells
    obtain ⟨o0, o1, o2⟩ := HO5.out.cells
    go_wp2_with fail
    refine (Fewest_u HFW.out HK.out HO5.out.st).mono ?_
    rintro e z6 ⟨rfl, hb⟩
    clear c0 c1 c2 o0 o1 o2
    have HS6 := Lib.hid (HS5.out.next hb)
    have HO6 := Lib.hid (HO5.out.next hb)
    clear HS5 HO5 hb
    obtain ⟨c0, c1, c2⟩ := HS6.out.cells
    obtain ⟨o0, o1, o2⟩ := HO6.out.cells
    go_wp2_with fail
    refine (rFewest_u HFW.out HK.out HS6.out.st).mono ?_
    rintro e z7 ⟨rfl, hb⟩
    clear c0 c1 c2 o0 o1 o2
    have HS7 := Lib.hid (HS6.out.next hb)
    have HO7 := Lib.hid (HO6.out.next hb)
    clear HS6 HO6 hb
    obtain ⟨c0, c1, c2⟩ := HS7.out.cells
    obtain ⟨o0, o1, o2⟩ := HO7.out.cells
    go_wp2_with fail
    refine (Many_u HMN.out HME.out HO7.out.st).mono ?_
    rintro e z8 ⟨rfl, hb⟩
    clear c0 c1 c2 o0 o1 o2
    have HS8 := Lib.hid (HS7.out.next hb)
    have HO8 := Lib.hid (HO7.out.next hb)
    clear HS7 HO7 hb
    obtain ⟨c0, c1, c2⟩ := HS8.out.cells
    obtain ⟨o0, o1, o2⟩ := HO8.out.cells
    go_wp2_with fail
    refine (rMany_u HMN.out HME.out HS8.out.st).mono ?_
    rintro e z9 ⟨rfl, hb⟩
    clear c0 c1 c2 o0 o1 o2
    have HS9 := Lib.hid (HS8.out.next hb)
    have HO9 := Lib.hid (HO8.out.next hb)
    clear HS8 HO8 hb
    obtain ⟨c0, c1, c2⟩ := HS9.out.cells
    obtain ⟨o0, o1, o2⟩ := HO9.out.cells
    go_wp2_with fail
    refine (Who_u HLW.out HPE.out HXI.out HO9.out.st).mono ?_
    rintro e z10 ⟨vP, rfl, hv, hb⟩
    obtain ⟨aP, kP, bP, gP, rfl, mP, AP, CP, _⟩ := hv.opened
    clear c0 c1 c2 o0 o1 o2 AP CP
    have HS10 := Lib.hid (HS9.out.next hb)
    have HO10 := Lib.hid (HO9.out.next hb)
    have HP10 := Lib.hid (hv)
    clear HS9 HO9 hb
    clear hv
    obtain ⟨c0, c1, c2⟩ := HS10.out.cells
    obtain ⟨o0, o1, o2⟩ := HO10.out.cells
    go_wp2_with fail
    refine (rWho_u HLW.out HPE.out HN1.out HS10.out.st).mono ?_
    rintro e z11 ⟨vQ, rfl, hv, hb⟩
    obtain ⟨aQ, kQ, bQ, gQ, rfl, mQ, AQ, CQ, _⟩ := hv.opened
    clear c0 c1 c2 o0 o1 o2 AQ CQ
    have HS11 := Lib.hid (HS10.out.next hb)
    have HO11 := Lib.hid (HO10.out.next hb)
    have HP11 := Lib.hid ((HP10.out.below hb).mono hb.size)
    have HQ11 := Lib.hid (hv)
    clear HS10 HO10 HP10 hb
    clear hv
    obtain ⟨c0, c1, c2⟩ := HS11.out.cells
    obtain ⟨o0, o1, o2⟩ := HO11.out.cells
    go_wp2_with fail
    refine (SameInts_to (same_true _) HP11.out HQ11.out).mono ?_
    rintro e z12 ⟨rfl, hb⟩
    clear c0 c1 c2 o0 o1 o2
    have HS12 := Lib.hid (HS11.out.next hb)
    have HO12 := Lib.hid (HO11.out.next hb)
    have HP12 := Lib.hid ((HP11.out.below hb).mono hb.size)
    have HQ12 := Lib.hid ((HQ11.out.below hb).mono hb.size)
    clear HS11 HO11 HP11 HQ11 hb
    obtain ⟨c0, c1, c2⟩ := HS12.out.cells
    obtain ⟨o0, o1, o2⟩ := HO12.out.cells
    go_wp2_with fail
    refine (Bars_u HLB.out HPE.out HXI.out HO12.out.st).mono ?_
    rintro e z13 ⟨vR, rfl, hv, hb⟩
    obtain ⟨aR, kR, bR, gR, rfl, mR, AR, CR, _⟩ := hv.opened
    clear c0 c1 c2 o0 o1 o2 AR CR
    have HS13 := Lib.hid (HS12.out.next hb)
    have HO13 := Lib.hid (HO12.out.next hb)
    have HP13 := Lib.hid ((HP12.out.below hb).mono hb.size)
    have HQ13 := Lib.hid ((HQ12.out.below hb).mono hb.size)
    have HR13 := Lib.hid (hv)
    clear HS12 HO12 HP12 HQ12 hb
    clear hv
    obtain ⟨c0, c1, c2⟩ := HS13.out.cells
    obtain ⟨o0, o1, o2⟩ := HO13.out.cells
    go_wp2_with fail
    refine (rBars_u HLB.out HPE.out HN1.out HS13.out.st).mono ?_
    rintro e z14 ⟨vT, rfl, hv, hb⟩
    obtain ⟨aT, kT, bT, gT, rfl, mT, AT, CT, _⟩ := hv.opened
    clear c0 c1 c2 o0 o1 o2 AT CT
    have HS14 := Lib.hid (HS13.out.next hb)
    have HO14 := Lib.hid (HO13.out.next hb)
    have HP14 := Lib.hid ((HP13.out.below hb).mono hb.size)
    have HQ14 := Lib.hid ((HQ13.out.below hb).mono hb.size)
    have HR14 := Lib.hid ((HR13.out.below hb).mono hb.size)
    have HT14 := Lib.hid (hv)
    clear HS13 HO13 HP13 HQ13 HR13 hb
    clear hv
    obtain ⟨c0, c1, c2⟩ := HS14.out.cells
    obtain ⟨o0, o1, o2⟩ := HO14.out.cells
    go_wp2_with fail
    refine (Smiths_u HLS.out HPE.out HXI.out HO14.out.st).mono ?_
    rintro e z15 ⟨vU, rfl, hv, hb⟩
    obtain ⟨aU, kU, bU, gU, rfl, mU, AU, CU, _⟩ := hv.opened
    clear c0 c1 c2 o0 o1 o2 AU CU
    have HS15 := Lib.hid (HS14.out.next hb)
    have HO15 := Lib.hid (HO14.out.next hb)
    have HP15 := Lib.hid ((HP14.out.below hb).mono hb.size)
    have HQ15 := Lib.hid ((HQ14.out.below hb).mono hb.size)
    have HR15 := Lib.hid ((HR14.out.below hb).mono hb.size)
    have HT15 := Lib.hid ((HT14.out.below hb).mono hb.size)
    have HU15 := Lib.hid (hv)
    clear HS14 HO14 HP14 HQ14 HR14 HT14 hb
    clear hv
    obtain ⟨c0, c1, c2⟩ := HS15.out.cells
    obtain ⟨o0, o1, o2⟩ := HO15.out.cells
    go_wp2_with fail
    refine (rSmiths_u HLS.out HPE.out HN1.out HS15.out.st).mono ?_
    rintro e z16 ⟨vV, rfl, hv, hb⟩
    obtain ⟨aV, kV, bV, gV, rfl, mV, AV, CV, _⟩ := hv.opened
    clear c0 c1 c2 o0 o1 o2 AV CV
    have HS16 := Lib.hid (HS15.out.next hb)
    have HO16 := Lib.hid (HO15.out.next hb)
    have HP16 := Lib.hid ((HP15.out.below hb).mono hb.size)
    have HQ16 := Lib.hid ((HQ15.out.below hb).mono hb.size)
    have HR16 := Lib.hid ((HR15.out.below hb).mono hb.size)
    have HT16 := Lib.hid ((HT15.out.below hb).mono hb.size)
    have HU16 := Lib.hid ((HU15.out.below hb).mono hb.size)
    have HV16 := Lib.hid (hv)
    clear HS15 HO15 HP15 HQ15 HR15 HT15 HU15 hb
    clear hv
    obtain ⟨c0, c1, c2⟩ := HS16.out.cells
    obtain ⟨o0, o1, o2⟩ := HO16.out.cells
    go_wp2_with fail
    refine (SameInts_to (same_true _) HR16.out HT16.out).mono ?_
    rintro e z17 ⟨rfl, hb⟩
    clear c0 c1 c2 o0 o1 o2
    have HS17 := Lib.hid (HS16.out.next hb)
    have HO17 := Lib.hid (HO16.out.next hb)
    have HP17 := Lib.hid ((HP16.out.below hb).mono hb.size)
    have HQ17 := Lib.hid ((HQ16.out.below hb).mono hb.size)
    have HR17 := Lib.hid ((HR16.out.below hb).mono hb.size)
    have HT17 := Lib.hid ((HT16.out.below hb).mono hb.size)
    have HU17 := Lib.hid ((HU16.out.below hb).mono hb.size)
    have HV17 := Lib.hid ((HV16.out.below hb).mono hb.size)
    clear HS16 HO16 HP16 HQ16 HR16 HT16 HU16 HV16 hb
    obtain ⟨c0, c1, c2⟩ := HS17.out.cells
    obtain ⟨o0, o1, o2⟩ := HO17.out.cells
    go_wp2_with fail
    refine (SameInts_to (same_true _) HU17.out HV17.out).mono ?_
    rintro e z18 ⟨rfl, hb⟩
    clear c0 c1 c2 o0 o1 o2
    have HS18 := Lib.hid (HS17.out.next hb)
    have HO18 := Lib.hid (HO17.out.next hb)
    have HP18 := Lib.hid ((HP17.out.below hb).mono hb.size)
    have HQ18 := Lib.hid ((HQ17.out.below hb).mono hb.size)
    have HR18 := Lib.hid ((HR17.out.below hb).mono hb.size)
    have HT18 := Lib.hid ((HT17.out.below hb).mono hb.size)
    have HU18 := Lib.hid ((HU17.out.below hb).mono hb.size)
    have HV18 := Lib.hid ((HV17.out.below hb).mono hb.size)
    clear HS17 HO17 HP17 HQ17 HR17 HT17 HU17 HV17 hb
    obtain ⟨c0, c1, c2⟩ := HS18.out.cells
    obtain ⟨o0, o1, o2⟩ := HO18.out.cells
    go_wp2_with fail
    refine (Same_any _ _ C _ HO18.out.st HS18.out.st).mono ?_
    rintro e z19 ⟨rfl, hb⟩
    clear c0 c1 c2 o0 o1 o2
    have HS19 := Lib.hid (HS18.out.next hb)
    have HO19 := Lib.hid (HO18.out.next hb)
    have HP19 := Lib.hid ((HP18.out.below hb).mono hb.size)
    have HQ19 := Lib.hid ((HQ18.out.below hb).mono hb.size)
    have HR19 := Lib.hid ((HR18.out.below hb).mono hb.size)
    have HT19 := Lib.hid ((HT18.out.below hb).mono hb.size)
    have HU19 := Lib.hid ((HU18.out.below hb).mono hb.size)
    have HV19 := Lib.hid ((HV18.out.below hb).mono hb.size)
    clear HS18 HO18 HP18 HQ18 HR18 HT18 HU18 HV18 hb
    obtain ⟨c0, c1, c2⟩ := HS19.out.cells
    obtain ⟨o0, o1, o2⟩ := HO19.out.cells
    go_wp2_with (go_at_call 14; refine (works_any _).mono ?_; rintro e wz ⟨rfl, hb⟩; have HBZ := Lib.hid (HS19.out.next hb).b; clear hb)
    go_ret
    exact ⟨rfl, HBZ.out⟩
  
end Go.Proofs.Ytgjikoebneiamaa
