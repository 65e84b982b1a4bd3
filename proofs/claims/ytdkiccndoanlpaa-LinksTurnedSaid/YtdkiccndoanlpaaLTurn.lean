/-
  A law's body: the turned cable (P2.15).
-/
import Derived.Test.YtdkiccndoanlpaaLTurned
import Derived.Test.YtdkiccndoanlpaaLCalls
import Derived.Test.YtdkiccndoanlpaaLIn
import Derived.Test.YtdkiccndoanlpaaLWorks
import Derived.Deep.DeepCutAuto
namespace Go.Proofs.Ytdkiccndoanlpaa
open Go.RowKit

theorem box2c {w : World} {b : Nat} {v0 v1 : Value} {t : TypeId} (e : w.heap[b]? = some (.cells #[v0, v1] t)) : w.cell? ⟨b, 0, none⟩ = some v0 ∧ w.cell? ⟨b, 1, none⟩ = some v1 := by
  refine ⟨?_, ?_⟩ <;> simp [World.cell?, e]

set_option maxRecDepth 100000 in
set_option maxHeartbeats 16000000 in
theorem LinksTurned_any (v : Value) (C : Chain) (X0 X1 X2 : Int) (w : World) (hx : ChainAt w.heap.size w v C) (hX0 : I64 X0) :
    Calls Try.prog 9 #[v, .agg #[.int .i64 X0, .int .i64 X1, .int .i64 X2]] w fun e w' => e = .returned (.bool true) ∧ Below w.heap.size w w' := by
  have hx' := hx
  obtain ⟨a, cap, b, off, a2, cap2, b2, off2, rfl, hm, hm2, hcap, hcapm, HA, HC, HA2, HC2, HI, HI2⟩ := hx.opened
  have HS0 := Lib.hid ((LStat.first hx').next ((Below.refl _ _).alloc (Nat.le_refl _) (.cells #[.int .i64 X0, .int .i64 X1, .int .i64 X2] 40)))
  have HX0 := Lib.hid (heap_new1 w (.cells #[.slice a C.deeds.length cap, .slice a2 C.sights.length cap2, .int .i64 C.wrong] 25) (.cells #[.int .i64 X0, .int .i64 X1, .int .i64 X2] 40))
  have HXI0 := Lib.hid hX0
  clear hx hx' HA2 HC2 HI2 HI HA HC hX0
  obtain ⟨c0, c1, c2⟩ := HS0.out.cells
  obtain ⟨x0, x1, x2⟩ := box3c HX0.out
  cases hr : readyB C
  case false =>
    have HR := Lib.hid hr
    clear hr
    go_enter Try.func9, Try.ntmps9
    go_wp2_with fail
    refine (ready_to HR.out HS0.out.st).mono ?_
    rintro e z1 ⟨rfl, hb⟩
    have HS1 := Lib.hid (HS0.out.next hb)
    clear hb c0 c1 c2 x0 x1 x2
    go_wp2_with (go_at_call 14; refine (works_any _).mono ?_; rintro e wz ⟨rfl, hb⟩; have HBZ := Lib.hid (HS1.out.next hb).b; clear hb)
    go_ret
    exact ⟨rfl, HBZ.out⟩
  obtain ⟨hV, hnd, hns⟩ := ready_is hr
  have hV' := valid_iff.1 hV
  have HR := Lib.hid hr
  have HV := Lib.hid hV
  have HV' := Lib.hid hV'
  have HVO := Lib.hid (valid_iff.2 (turn_valid hV'))
  have HND := Lib.hid (turn_nd C).symm
  have HNS := Lib.hid (turn_ns C).symm
  have hll := lenTo_le C.deeds C.deeds.length
  obtain ⟨len, hlen⟩ : ∃ len : Nat, lenTo C.deeds C.deeds.length = len := ⟨(story C.deeds [] C.deeds.length).length, (story_ok (ends := []) hV'.deed _ (Nat.le_refl _)).1.symm⟩
  rw [hlen] at hll
  have HLEN := Lib.hid hlen
  obtain ⟨M, hM⟩ : ∃ M, (truthsP C).length = M := ⟨_, rfl⟩
  have HM := Lib.hid hM
  have HMO := Lib.hid ((turn_many hV').trans hM)
  have hM4 : M ≤ 4096 := hM ▸ truthsP_len hV'
  obtain ⟨e1, he1⟩ : ∃ e1, noneE M = e1 := ⟨_, rfl⟩
  have HE1 := Lib.hid he1
  have hek : e1 = 0 ∨ e1 = 3 := by rw [← he1, noneE]; split <;> simp
  obtain ⟨F, hF⟩ : ∃ F, fewV C = F := ⟨_, rfl⟩
  have HF := Lib.hid hF
  have HFO := Lib.hid ((turn_few hV').trans hF)
  obtain ⟨fv, hfv⟩ : ∃ fv, firstV C = fv := ⟨_, rfl⟩
  obtain ⟨fe, hfe⟩ : ∃ fe, firstE C = fe := ⟨_, rfl⟩
  have HFV := Lib.hid hfv
  have HFE := Lib.hid hfe
  have HFVO := Lib.hid ((turn_first hV').1.trans hfv)
  have HFEO := Lib.hid ((turn_first hV').2.trans hfe)
  obtain ⟨y, hy⟩ : ∃ y, ansE C (linkB C X2) = y := ⟨_, rfl⟩
  have HY := Lib.hid hy
  have HYO := Lib.hid (show ansE (turnC C) (linkB (turnC C) X2) = y from by rw [turn_link, ← hy, ansE, ansE, turn_many hV'])
  obtain ⟨L, hL⟩ : ∃ L, ansV C (linkB C X2) (timesOf C X2) = L := ⟨_, rfl⟩
  have HL := Lib.hid hL
  have HLO := Lib.hid (show ansV (turnC C) (linkB (turnC C) X2) (timesOf (turnC C) X2) = L from by
    rw [turn_link, ← hL, ansV, ansV]
    split
    · exact turn_srt hV' (fun x hx => turn_times hV' hx X2)
    · rfl)
  obtain ⟨q0, hq0⟩ : ∃ q0, nth L 0 = q0 := ⟨_, rfl⟩
  obtain ⟨q1, hq1⟩ : ∃ q1, nth L (L.length - 1) = q1 := ⟨_, rfl⟩
  have HSP := Lib.hid (show spanL L = .agg #[.int .i64 q0, .int .i64 q1] from by rw [spanL, hq0, hq1])
  obtain ⟨V, hVV⟩ : ∃ V, ansV C (linkB C X2) (placeOf C X2) = V := ⟨_, rfl⟩
  obtain ⟨U, hU⟩ : ∃ U, ansV (turnC C) (linkB (turnC C) X2) (placeOf (turnC C) X2) = U := ⟨_, rfl⟩
  have HVV := Lib.hid hVV
  have HU := Lib.hid hU
  have hpl := turn_places hV' X2 (linkB C X2)
  rw [turn_link] at hU
  rw [hVV, hU, hlen] at hpl
  have hV40 : V.length ≤ 40 := hVV ▸ where_len hV' X2 _
  have HUV := Lib.hid hpl.1
  have HPL := Lib.hid hpl.2
  clear hr hV hV' hlen hM he1 hF hfv hfe hy hL hq0 hq1 hVV hU hpl
  go_enter Try.func9, Try.ntmps9
  go_wp2_with fail
  refine (ready_to HR.out HS0.out.st).mono ?_
  rintro e z1 ⟨rfl, hb⟩
  have HS1 := Lib.hid (HS0.out.next hb)
  have HX1 := Lib.hid ((hb.block _ (heap_lt HX0.out)).trans HX0.out)
  clear hb c0 c1 c2 x0 x1 x2
  obtain ⟨c0, c1, c2⟩ := HS1.out.cells
  go_wp2_with fail
  refine (turned_any _ C _ HS1.out.st HV'.out).mono ?_
  rintro e z2 ⟨u, rfl, hcp, hb⟩
  obtain ⟨f1, p1, f2, p2, rfl, hp1, hp2⟩ := hcp.shape
  rw [← HND.out, ← HNS.out] at hcp ⊢
  have HCP := Lib.hid hcp
  have HS2 := Lib.hid (HS1.out.next hb)
  have HX2 := Lib.hid ((hb.block _ (heap_lt HX1.out)).trans HX1.out)
  clear hb hcp c0 c1 c2
  have HO3 := Lib.hid (show LStat w (z2.alloc (.cells #[.slice f1 C.deeds.length p1, .slice f2 C.sights.length p2, .int .i64 (turnC C).wrong] 25)) z2.heap.size (.slice f1 C.deeds.length p1) (.slice f2 C.sights.length p2) (.int .i64 (turnC C).wrong) (turnC C) from ⟨heap_new _ _, (HCP.out.below ((Below.refl _ z2).alloc (Nat.le_refl _) _)).chain, HS2.out.b.trans (((Below.refl _ z2).alloc (Nat.le_refl _) _).mono HS2.out.b.size)⟩)
  have HS3 := Lib.hid (HS2.out.next ((Below.refl _ z2).alloc (Nat.le_refl _) (.cells #[.slice f1 C.deeds.length p1, .slice f2 C.sights.length p2, .int .i64 (turnC C).wrong] 25)))
  have HX3 := Lib.hid ((Below.heap_alloc z2 (.cells #[.slice f1 C.deeds.length p1, .slice f2 C.sights.length p2, .int .i64 (turnC C).wrong] 25) _ (heap_lt HX2.out)).trans HX2.out)
  clear HCP
  obtain ⟨c0, c1, c2⟩ := HS3.out.cells
  obtain ⟨o0, o1, o2⟩ := HO3.out.cells
  obtain ⟨x0, x1, x2⟩ := box3c HX3.out
  go_wp2_with fail
  refine (Length_l HLEN.out HS3.out.st HV.out).mono ?_
  rintro e z4 ⟨rfl, hb⟩
  have HS4 := Lib.hid (HS3.out.next hb)
  have HO4 := Lib.hid (HO3.out.next hb)
  have HX4 := Lib.hid ((hb.block _ (heap_lt HX3.out)).trans HX3.out)
  clear hb c0 c1 c2 o0 o1 o2 x0 x1 x2
  obtain ⟨c0, c1, c2⟩ := HS4.out.cells
  obtain ⟨o0, o1, o2⟩ := HO4.out.cells
  obtain ⟨x0, x1, x2⟩ := box3c HX4.out
  go_wp2_with fail
  refine (Many_l HM.out HE1.out rfl rfl HS4.out.st HV.out).mono ?_
  rintro e z5 ⟨rfl, hb⟩
  have HS5 := Lib.hid (HS4.out.next hb)
  have HO5 := Lib.hid (HO4.out.next hb)
  have HX5 := Lib.hid ((hb.block _ (heap_lt HX4.out)).trans HX4.out)
  clear hb c0 c1 c2 o0 o1 o2 x0 x1 x2
  obtain ⟨c0, c1, c2⟩ := HS5.out.cells
  obtain ⟨o0, o1, o2⟩ := HO5.out.cells
  obtain ⟨x0, x1, x2⟩ := box3c HX5.out
  go_wp2_with fail
  refine (Many_l HMO.out HE1.out HND.out HNS.out HO5.out.st HVO.out).mono ?_
  rintro e z6 ⟨rfl, hb⟩
  have HS6 := Lib.hid (HS5.out.next hb)
  have HO6 := Lib.hid (HO5.out.next hb)
  have HX6 := Lib.hid ((hb.block _ (heap_lt HX5.out)).trans HX5.out)
  clear hb c0 c1 c2 o0 o1 o2 x0 x1 x2
  obtain ⟨c0, c1, c2⟩ := HS6.out.cells
  obtain ⟨o0, o1, o2⟩ := HO6.out.cells
  obtain ⟨x0, x1, x2⟩ := box3c HX6.out
  go_wp2_with fail
  refine (Fewest_l HF.out rfl rfl HS6.out.st HV.out).mono ?_
  rintro e z7 ⟨rfl, hb⟩
  have HS7 := Lib.hid (HS6.out.next hb)
  have HO7 := Lib.hid (HO6.out.next hb)
  have HX7 := Lib.hid ((hb.block _ (heap_lt HX6.out)).trans HX6.out)
  clear hb c0 c1 c2 o0 o1 o2 x0 x1 x2
  obtain ⟨c0, c1, c2⟩ := HS7.out.cells
  obtain ⟨o0, o1, o2⟩ := HO7.out.cells
  obtain ⟨x0, x1, x2⟩ := box3c HX7.out
  go_wp2_with fail
  refine (Fewest_l HFO.out HND.out HNS.out HO7.out.st HVO.out).mono ?_
  rintro e z8 ⟨rfl, hb⟩
  have HS8 := Lib.hid (HS7.out.next hb)
  have HO8 := Lib.hid (HO7.out.next hb)
  have HX8 := Lib.hid ((hb.block _ (heap_lt HX7.out)).trans HX7.out)
  clear hb c0 c1 c2 o0 o1 o2 x0 x1 x2
  obtain ⟨c0, c1, c2⟩ := HS8.out.cells
  obtain ⟨o0, o1, o2⟩ := HO8.out.cells
  obtain ⟨x0, x1, x2⟩ := box3c HX8.out
  go_wp2_with (go_at_call 56; refine (isKnown_to (by assumption) _).mono ?_; rintro e wk ⟨rfl, rfl⟩)
  refine (First_l HFV.out HFE.out rfl rfl HS8.out.st HV.out).mono ?_
  rintro e z9 ⟨rfl, hb⟩
  have HS9 := Lib.hid (HS8.out.next hb)
  have HO9 := Lib.hid (HO8.out.next hb)
  have HX9 := Lib.hid ((hb.block _ (heap_lt HX8.out)).trans HX8.out)
  clear hb c0 c1 c2 o0 o1 o2 x0 x1 x2
  obtain ⟨c0, c1, c2⟩ := HS9.out.cells
  obtain ⟨o0, o1, o2⟩ := HO9.out.cells
  obtain ⟨x0, x1, x2⟩ := box3c HX9.out
  go_wp2_with fail
  refine (First_l HFVO.out HFEO.out HND.out HNS.out HO9.out.st HVO.out).mono ?_
  rintro e z10 ⟨rfl, hb⟩
  have HS10 := Lib.hid (HS9.out.next hb)
  have HO10 := Lib.hid (HO9.out.next hb)
  have HX10 := Lib.hid ((hb.block _ (heap_lt HX9.out)).trans HX9.out)
  clear hb c0 c1 c2 o0 o1 o2 x0 x1 x2
  obtain ⟨c0, c1, c2⟩ := HS10.out.cells
  obtain ⟨o0, o1, o2⟩ := HO10.out.cells
  obtain ⟨x0, x1, x2⟩ := box3c HX10.out
  go_wp2_with fail
  refine (Proofs_v HL.out HY.out rfl rfl HS10.out.st HV.out).mono ?_
  rintro e z11 ⟨rfl, hb⟩
  rw [HSP.out]
  have HS11 := Lib.hid ((HS10.out.next hb).next ((Below.refl _ z11).alloc (Nat.le_refl _) (.cells #[.int .i64 q0, .int .i64 q1] 42)))
  have HO11 := Lib.hid ((HO10.out.next hb).next ((Below.refl _ z11).alloc (Nat.le_refl _) (.cells #[.int .i64 q0, .int .i64 q1] 42)))
  have HX11 := Lib.hid ((Below.heap_alloc z11 (.cells #[.int .i64 q0, .int .i64 q1] 42) _ (heap_lt ((hb.block _ (heap_lt HX10.out)).trans HX10.out))).trans ((hb.block _ (heap_lt HX10.out)).trans HX10.out))
  have HP11 := Lib.hid (heap_new z11 (.cells #[.int .i64 q0, .int .i64 q1] 42))
  clear hb c0 c1 c2 o0 o1 o2 x0 x1 x2
  obtain ⟨c0, c1, c2⟩ := HS11.out.cells
  obtain ⟨o0, o1, o2⟩ := HO11.out.cells
  obtain ⟨x0, x1, x2⟩ := box3c HX11.out
  obtain ⟨s0, s1⟩ := box2c HP11.out
  go_wp2_with fail
  refine (Proofs_v HLO.out HYO.out HND.out HNS.out HO11.out.st HVO.out).mono ?_
  rintro e z12 ⟨rfl, hb⟩
  rw [HSP.out]
  have HS12 := Lib.hid ((HS11.out.next hb).next ((Below.refl _ z12).alloc (Nat.le_refl _) (.cells #[.int .i64 q0, .int .i64 q1] 42)))
  have HO12 := Lib.hid ((HO11.out.next hb).next ((Below.refl _ z12).alloc (Nat.le_refl _) (.cells #[.int .i64 q0, .int .i64 q1] 42)))
  have HX12 := Lib.hid ((Below.heap_alloc z12 (.cells #[.int .i64 q0, .int .i64 q1] 42) _ (heap_lt ((hb.block _ (heap_lt HX11.out)).trans HX11.out))).trans ((hb.block _ (heap_lt HX11.out)).trans HX11.out))
  have HP12 := Lib.hid ((Below.heap_alloc z12 (.cells #[.int .i64 q0, .int .i64 q1] 42) _ (heap_lt ((hb.block _ (heap_lt HP11.out)).trans HP11.out))).trans ((hb.block _ (heap_lt HP11.out)).trans HP11.out))
  have HQ12 := Lib.hid (heap_new z12 (.cells #[.int .i64 q0, .int .i64 q1] 42))
  clear hb c0 c1 c2 o0 o1 o2 x0 x1 x2 s0 s1
  obtain ⟨c0, c1, c2⟩ := HS12.out.cells
  obtain ⟨o0, o1, o2⟩ := HO12.out.cells
  obtain ⟨x0, x1, x2⟩ := box3c HX12.out
  obtain ⟨s0, s1⟩ := box2c HP12.out
  obtain ⟨t0, t1⟩ := box2c HQ12.out
  go_wp2_with fail
  refine (Where_v HVV.out HY.out rfl rfl HS12.out.st HV.out).mono ?_
  rintro e z13 ⟨v13, rfl, hv, hb⟩
  obtain ⟨a13, k13, b13, j13, rfl, hm13, HA13, HC13, _⟩ := hv.opened
  have HL13 := Lib.hid hv
  clear hv
  have HS13 := Lib.hid (HS12.out.next hb)
  have HO13 := Lib.hid (HO12.out.next hb)
  have HX13 := Lib.hid ((hb.block _ (heap_lt HX12.out)).trans HX12.out)
  have HP13 := Lib.hid ((hb.block _ (heap_lt HP12.out)).trans HP12.out)
  have HQ13 := Lib.hid ((hb.block _ (heap_lt HQ12.out)).trans HQ12.out)
  clear hb c0 c1 c2 o0 o1 o2 x0 x1 x2 s0 s1 t0 t1
  obtain ⟨c0, c1, c2⟩ := HS13.out.cells
  obtain ⟨o0, o1, o2⟩ := HO13.out.cells
  obtain ⟨x0, x1, x2⟩ := box3c HX13.out
  obtain ⟨s0, s1⟩ := box2c HP13.out
  obtain ⟨t0, t1⟩ := box2c HQ13.out
  go_wp2_with fail
  refine (Where_v HU.out HYO.out HND.out HNS.out HO13.out.st HVO.out).mono ?_
  rintro e z14 ⟨v14, rfl, hv, hb⟩
  obtain ⟨a14, k14, b14, j14, rfl, hm14, HA14, HC14, _⟩ := hv.opened
  have HL14 := Lib.hid hv
  clear hv
  have HS14 := Lib.hid (HS13.out.next hb)
  have HO14 := Lib.hid (HO13.out.next hb)
  have HX14 := Lib.hid ((hb.block _ (heap_lt HX13.out)).trans HX13.out)
  have HP14 := Lib.hid ((hb.block _ (heap_lt HP13.out)).trans HP13.out)
  have HQ14 := Lib.hid ((hb.block _ (heap_lt HQ13.out)).trans HQ13.out)
  have HL13b := Lib.hid ((HL13.out.below hb).mono hb.size)
  clear hb c0 c1 c2 o0 o1 o2 x0 x1 x2 s0 s1 t0 t1
  obtain ⟨c0, c1, c2⟩ := HS14.out.cells
  obtain ⟨o0, o1, o2⟩ := HO14.out.cells
  obtain ⟨x0, x1, x2⟩ := box3c HX14.out
  obtain ⟨s0, s1⟩ := box2c HP14.out
  obtain ⟨t0, t1⟩ := box2c HQ14.out
  have hnew := heap_new z14 (.cells #[.slice a13 V.length k13] 33)
  have hlu : ((V.length : Int) != (U.length : Int)) = false := by have := HUV.out; simp; omega
  go_wp2_with fail
  refine (small_any z14.heap.size 1 _ _ _ hnew (by omega) (fun i hi => by
    match i, hi with
    | 0, _ => exact ⟨_, _, _, rfl, hV40⟩)).mono ?_
  rintro e z15 ⟨rfl, rfl⟩
  have HBA := Lib.hid ((Below.refl _ z14).alloc (Nat.le_refl _) (.cells #[.slice a13 V.length k13] 33))
  have HSA := Lib.hid (HS14.out.next HBA.out)
  have HOA := Lib.hid (HO14.out.next HBA.out)
  have HXA := Lib.hid ((HBA.out.block _ (heap_lt HX14.out)).trans HX14.out)
  have HVA := Lib.hid (HL13b.out.below HBA.out)
  have HUA := Lib.hid (HL14.out.below HBA.out)
  clear hnew c0 c1 c2 o0 o1 o2 x0 x1 x2 s0 s1 t0 t1
  obtain ⟨ZA, hZA⟩ : ∃ ZA, z14.alloc (.cells #[.slice a13 V.length k13] 33) = ZA := ⟨_, rfl⟩
  rw [hZA] at HBA HSA HOA HXA HVA HUA ⊢
  clear hZA
  obtain ⟨c0, c1, c2⟩ := HSA.out.cells
  obtain ⟨o0, o1, o2⟩ := HOA.out.cells
  obtain ⟨x0, x1, x2⟩ := box3c HXA.out
  obtain ⟨qa, qk, qb, qo, hqe, _, QA, QC, _⟩ := HVA.out.opened
  cases hqe
  go_wp2_with fail
  go_loop [20] (fun i => ∃ k : Nat, k ≤ V.length ∧ i = .int .i64 k) (fun i => V.length - (intOf i).toNat)
  case atStart => exact ⟨0, Nat.zero_le _, rfl⟩
  case round =>
    obtain ⟨k, hk, rfl⟩ := hrel
    by_cases hlt : k < V.length
    · obtain ⟨rfl, hqb⟩ := QA.out (by omega)
      have hcell := QC.out k hlt
      obtain ⟨p1', p2', p3, p4⟩ := HPL.out _ (nth_mem hlt)
      obtain ⟨vk, hvk⟩ : ∃ vk, nth V k = vk := ⟨_, rfl⟩
      rw [hvk] at hcell p1' p2' p3 p4
      have P3 := Lib.hid p3
      have P4 := Lib.hid p4
      clear hvk p3 p4
      by_cases hneg : vk < 0
      · have HI := Lib.hid (P3.out hneg)
        go_wp2_with (go_at_call 50; refine (in_to HI.out HUA.out).mono ?_; rintro e w' ⟨rfl, rfl⟩)
        exact ⟨⟨k + 1, by omega, by go_num⟩, by simp [intOf]; omega⟩
      · have HI := Lib.hid (P4.out (by omega))
        go_wp2_with (go_at_call 50; refine (in_to HI.out HUA.out).mono ?_; rintro e w' ⟨rfl, rfl⟩)
        exact ⟨⟨k + 1, by omega, by go_num⟩, by simp [intOf]; omega⟩
    · obtain rfl : V.length = k := by omega
      clear hlt hk
      by_cases hx0 : X0 < 0
      · go_wp2_with (go_at_call 14; refine (works_any _).mono ?_; rintro e wz ⟨rfl, hb⟩; have HBZ := Lib.hid (HSA.out.next hb).b; clear hb)
        go_ret
        exact ⟨rfl, HBZ.out⟩
      by_cases hx1 : (len : Int) ≤ X0
      · go_wp2_with (go_at_call 14; refine (works_any _).mono ?_; rintro e wz ⟨rfl, hb⟩; have HBZ := Lib.hid (HSA.out.next hb).b; clear hb)
        go_ret
        exact ⟨rfl, HBZ.out⟩
      have hpb : placeB C X0 = true := wB_iff.2 ⟨by omega, by rw [HLEN.out]; omega⟩
      have hpo : placeB (turnC C) ((len : Int) - 1 - X0) = true := by rw [turn_place]; exact wB_iff.2 ⟨by omega, by rw [HLEN.out]; omega⟩
      have HXI := Lib.hid (show I64 ((len : Int) - 1 - X0) from by unfold I64; omega)
      obtain ⟨K, hK⟩ : ∃ K, ansV C (placeB C X0) (linkAt C X0.toNat) = K := ⟨_, rfl⟩
      have HK := Lib.hid hK
      have HKO := Lib.hid (show ansV (turnC C) (placeB (turnC C) ((len : Int) - 1 - X0)) (linkAt (turnC C) ((len : Int) - 1 - X0).toNat) = K from by
        rw [← hK, ansV, ansV, if_pos hpo, if_pos hpb]
        refine turn_srt HV'.out (fun x hx => ?_)
        have := turn_who HV'.out (at_ := X0.toNat) (by rw [HLEN.out]; omega) hx
        rw [HLEN.out, Int.toNat_of_nonneg (show 0 ≤ X0 by omega)] at this
        exact this)
      have HKE := Lib.hid (show ansE C (placeB C X0) = e1 from by rw [ansE, if_pos hpb, HM.out, HE1.out])
      have HKF := Lib.hid (show ansE (turnC C) (placeB (turnC C) ((len : Int) - 1 - X0)) = e1 from by rw [ansE, if_pos hpo, HMO.out, HE1.out])
      clear hpb hpo hK
      go_wp2_with fail
      refine (Who_v HK.out HKE.out rfl rfl HSA.out.st HV.out HXI0.out).mono ?_
      rintro e z16 ⟨v16, rfl, hv16, hb⟩
      obtain ⟨a16, k16, b16, j16, rfl, _⟩ := hv16.opened
      have HL16 := Lib.hid hv16
      have HSB := Lib.hid (HSA.out.next hb)
      have HOB := Lib.hid (HOA.out.next hb)
      have HXB := Lib.hid ((hb.block _ (heap_lt HXA.out)).trans HXA.out)
      clear hv16 hb c0 c1 c2 o0 o1 o2 x0 x1 x2
      obtain ⟨c0, c1, c2⟩ := HSB.out.cells
      obtain ⟨o0, o1, o2⟩ := HOB.out.cells
      obtain ⟨x0, x1, x2⟩ := box3c HXB.out
      go_wp2_with fail
      refine (Who_v HKO.out HKF.out HND.out HNS.out HOB.out.st HVO.out HXI.out).mono ?_
      rintro e z17 ⟨v17, rfl, hv17, hb⟩
      obtain ⟨a17, k17, b17, j17, rfl, _⟩ := hv17.opened
      have HL17 := Lib.hid hv17
      have HL16b := Lib.hid (HL16.out.below hb)
      have HSC := Lib.hid (HSB.out.next hb)
      clear hv17 hb c0 c1 c2 o0 o1 o2 x0 x1 x2
      go_wp2_with fail
      refine (SameInts_to (r := true) (by simp) HL16b.out HL17.out).mono ?_
      rintro e z18 ⟨rfl, hb⟩
      have HSD := Lib.hid (HSC.out.next hb)
      clear hb
      go_wp2_with (go_at_call 14; refine (works_any _).mono ?_; rintro e wz ⟨rfl, hb⟩; have HBZ := Lib.hid (HSD.out.next hb).b; clear hb)
      go_ret
      exact ⟨rfl, HBZ.out⟩

end Go.Proofs.Ytdkiccndoanlpaa
