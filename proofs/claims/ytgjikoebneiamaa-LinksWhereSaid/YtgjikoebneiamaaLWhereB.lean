/-
  A law's body: where each link is, how often and when it was proved, whether two are of one bar (P2.6 to P2.9).
-/
import Derived.Test.YtgjikoebneiamaaLWhereM
import Derived.Test.YtgjikoebneiamaaLTwo
import Derived.Test.YtgjikoebneiamaaLFar
import Derived.Test.YtgjikoebneiamaaLWorks
import Derived.Test.YtgjikoebneiamaaLCopy
import Derived.Test.YtgjikoebneiamaaLVals
import Derived.Deep.DeepCutAuto
namespace Go.Proofs.Ytgjikoebneiamaa
open Go.RowKit

theorem far_it {C : Chain} (h : farB C = false) : C.deeds.length ≤ 40 ∧ C.sights.length ≤ 40 := by
  simp only [farB, Bool.or_eq_false_iff, decide_eq_false_iff_not] at h
  omega
theorem cell3 {w : World} {b : Nat} {v0 v1 v2 : Value} {t : TypeId} (e : w.heap[b]? = some (.cells #[v0, v1, v2] t)) : w.cell? ⟨b, 0, none⟩ = some v0 ∧ w.cell? ⟨b, 1, none⟩ = some v1 ∧ w.cell? ⟨b, 2, none⟩ = some v2 := by
  refine ⟨?_, ?_, ?_⟩ <;> simp [World.cell?, e]

set_option maxRecDepth 100000 in
set_option maxHeartbeats 32000000 in
theorem LinksWhere_any (v : Value) (C : Chain) (X0 X1 X2 : Int) (w : World) (hx : ChainAt w.heap.size w v C) (hX0 : I64 X0) (hX1 : I64 X1) :
    Calls Try.prog 4 #[v, .agg #[.int .i64 X0, .int .i64 X1, .int .i64 X2]] w fun e w' => e = .returned (.bool true) ∧ Below w.heap.size w w' := by
  have hx' := hx
  obtain ⟨a, cap, b, off, a2, cap2, b2, off2, rfl, hm, hm2, hcap, hcapm, HA, HC, HA2, HC2, HI, HI2⟩ := hx.opened
  have HS0 := Lib.hid ((LStat.first hx').next ((Below.refl _ _).alloc (Nat.le_refl _) (.cells #[.int .i64 X0, .int .i64 X1, .int .i64 X2] 40)))
  have HX0 := Lib.hid (heap_new1 w (.cells #[.slice a C.deeds.length cap, .slice a2 C.sights.length cap2, .int .i64 C.wrong] 25) (.cells #[.int .i64 X0, .int .i64 X1, .int .i64 X2] 40))
  have HXI := Lib.hid hX0
  have HXJ := Lib.hid hX1
  clear hx hx' HA HC HA2 HC2 HI HI2 hX0 hX1
  obtain ⟨c0, c1, c2⟩ := HS0.out.cells
  obtain ⟨x0, x1, x2⟩ := cell3 HX0.out
  cases hf : farB C
  case true =>
    have HF := Lib.hid hf
    clear hf
    go_enter Try.func4, Try.ntmps4
    go_wp2_with fail
    refine (Far_to HF.out HS0.out.st).mono ?_
    rintro e z1 ⟨rfl, hb⟩
    have HS1 := Lib.hid (HS0.out.next hb)
    clear hb c0 c1 c2 x0 x1 x2
    go_wp2_with (go_at_call 14; refine (works_any _).mono ?_; rintro e wz ⟨rfl, hb⟩; have HBZ := Lib.hid (HS1.out.next hb).b; clear hb)
    go_ret
    exact ⟨rfl, HBZ.out⟩
  obtain ⟨hn1, hn2⟩ := far_it hf
  have HF := Lib.hid hf
  have HN1 := Lib.hid hn1
  have HN2 := Lib.hid hn2
  obtain ⟨LW, hLW⟩ : ∃ LW, whereR C X2 = LW := ⟨_, rfl⟩
  obtain ⟨LL, hLL⟩ : ∃ LL, lastR C X2 = LL := ⟨_, rfl⟩
  obtain ⟨KE, hKE⟩ : ∃ KE, knownE C (linkB C X2) = KE := ⟨_, rfl⟩
  obtain ⟨lo, hlo⟩ : ∃ lo, loL ((knownL C (linkB C X2)).map (timesOf C X2)) = lo := ⟨_, rfl⟩
  obtain ⟨hi, hhi⟩ : ∃ hi, hiL ((knownL C (linkB C X2)).map (timesOf C X2)) = hi := ⟨_, rfl⟩
  obtain ⟨AR, hAR⟩ : ∃ AR, alikeR C X0 X1 = AR := ⟨_, rfl⟩
  obtain ⟨AE, hAE⟩ : ∃ AE, knownE C (placeB C X0 && placeB C X1) = AE := ⟨_, rfl⟩
  have HLW := Lib.hid hLW
  have HLL := Lib.hid hLL
  have HKE := Lib.hid hKE
  have HLO := Lib.hid hlo
  have HHI := Lib.hid hhi
  have HAR := Lib.hid hAR
  have HAE := Lib.hid hAE
  clear hf hn1 hn2 hLW hLL hKE hlo hhi hAR hAE
  go_enter Try.func4, Try.ntmps4
  go_wp2_with fail
  refine (Far_to HF.out HS0.out.st).mono ?_
  rintro e z1 ⟨rfl, hb⟩
  clear c0 c1 c2 x0 x1 x2
  have HS1 := Lib.hid (HS0.out.next hb)
  have HX1 := Lib.hid ((hb.block _ (heap_lt HX0.out)).trans HX0.out)
  clear HS0 HX0 hb
  obtain ⟨c0, c1, c2⟩ := HS1.out.cells
  obtain ⟨x0, x1, x2⟩ := cell3 HX1.out
  go_wp2_with fail
  refine (Copy_any _ C _ HS1.out.st (by have := HN1.out; omega) (by have := HN2.out; omega)).mono ?_
  rintro e z2 ⟨u, rfl, hcp, hb⟩
  obtain ⟨f1, p1, f2, p2, rfl, hp1, hp2⟩ := hcp.shape
  have HB1 := Lib.hid hb
  have HCP := Lib.hid hcp
  have hs1 := hb.size
  clear hb hcp c0 c1 c2 x0 x1 x2
  go_upto_region 4 with fail
  obtain ⟨z3, hY⟩ : ∃ Y, Y = z2.alloc (.cells #[.slice f1 C.deeds.length p1, .slice f2 C.sights.length p2, .int .i64 C.wrong] 25) := ⟨_, rfl⟩
  have hYB : z3.heap[z2.heap.size]? = some (.cells #[.slice f1 C.deeds.length p1, .slice f2 C.sights.length p2, .int .i64 C.wrong] 25) := by rw [hY]; exact heap_new _ _
  have hb : Below z1.heap.size z1 z3 := by rw [hY]; exact HB1.out.alloc hs1 _
  have hYc : CopyAt z1.heap.size z3 (.agg #[.slice f1 C.deeds.length p1, .slice f2 C.sights.length p2, .int .i64 C.wrong]) C := by rw [hY]; exact HCP.out.below ((Below.refl _ _).alloc (Nat.le_refl _) _)
  rw [← hY]
  clear hY HCP HB1
  have HS2 := Lib.hid (HS1.out.next hb)
  have HX2 := Lib.hid ((hb.block _ (heap_lt HX1.out)).trans HX1.out)
  have HO2 := Lib.hid (show LStat w z3 z2.heap.size (.slice f1 C.deeds.length p1) (.slice f2 C.sights.length p2) (.int .i64 C.wrong) C from ⟨hYB, hYc.chain, HS2.out.b⟩)
  clear HS1 HX1 hYB hYc hb hs1
  obtain ⟨zz, hzz⟩ : ∃ zz, z2.heap.size = zz := ⟨_, rfl⟩
  rw [hzz] at HO2 ⊢
  clear hzz
  have HS3 := HS2
  have HX3 := HX2
  have HO3 := HO2
  clear HS2 HX2 HO2
  obtain ⟨c0, c1, c2⟩ := HS3.out.cells
  obtain ⟨o0, o1, o2⟩ := HO3.out.cells
  obtain ⟨x0, x1, x2⟩ := cell3 HX3.out
  go_wp2_with fail
  refine (Where_u HLW.out HKE.out HO3.out.st).mono ?_
  rintro e z4 ⟨vP, rfl, hv, hb⟩
  obtain ⟨aP, kP, bP, gP, rfl, mP, AP, CP, _⟩ := hv.opened
  clear c0 c1 c2 o0 o1 o2 x0 x1 x2 AP CP
  have HS4 := Lib.hid (HS3.out.next hb)
  have HX4 := Lib.hid ((hb.block _ (heap_lt HX3.out)).trans HX3.out)
  have HO4 := Lib.hid (HO3.out.next hb)
  have HP4 := Lib.hid (hv)
  clear HS3 HX3 HO3 hb
  clear hv
  obtain ⟨c0, c1, c2⟩ := HS4.out.cells
  obtain ⟨o0, o1, o2⟩ := HO4.out.cells
  obtain ⟨x0, x1, x2⟩ := cell3 HX4.out
  go_wp2_with fail
  refine (rWhere_u HLW.out HKE.out HN1.out HS4.out.st).mono ?_
  rintro e z5 ⟨vQ, rfl, hv, hb⟩
  obtain ⟨aQ, kQ, bQ, gQ, rfl, mQ, AQ, CQ, _⟩ := hv.opened
  clear c0 c1 c2 o0 o1 o2 x0 x1 x2 AQ CQ
  have HS5 := Lib.hid (HS4.out.next hb)
  have HX5 := Lib.hid ((hb.block _ (heap_lt HX4.out)).trans HX4.out)
  have HO5 := Lib.hid (HO4.out.next hb)
  have HP5 := Lib.hid ((HP4.out.below hb).mono hb.size)
  have HQ5 := Lib.hid (hv)
  clear HS4 HX4 HO4 HP4 hb
  clear hv
  obtain ⟨c0, c1, c2⟩ := HS5.out.cells
  obtain ⟨o0, o1, o2⟩ := HO5.out.cells
  obtain ⟨x0, x1, x2⟩ := cell3 HX5.out
  go_wp2_with fail
  refine (Proofs_u HLO.out HHI.out HKE.out HO5.out.st).mono ?_
  rintro e z6 ⟨rfl, hb⟩
  clear c0 c1 c2 o0 o1 o2 x0 x1 x2
  have HS6 := Lib.hid (HS5.out.next hb)
  have HX6 := Lib.hid ((hb.block _ (heap_lt HX5.out)).trans HX5.out)
  have HO6 := Lib.hid (HO5.out.next hb)
  have HP6 := Lib.hid ((HP5.out.below hb).mono hb.size)
  have HQ6 := Lib.hid ((HQ5.out.below hb).mono hb.size)
  clear HS5 HX5 HO5 HP5 HQ5 hb
  obtain ⟨c0, c1, c2⟩ := HS6.out.cells
  obtain ⟨o0, o1, o2⟩ := HO6.out.cells
  obtain ⟨x0, x1, x2⟩ := cell3 HX6.out
  go_upto_region 7 with fail
  obtain ⟨z7, hY⟩ : ∃ Y, Y = z6.alloc (.cells #[.int .i64 lo, .int .i64 hi] 42) := ⟨_, rfl⟩
  have hYB : z7.heap[z6.heap.size]? = some (.cells #[.int .i64 lo, .int .i64 hi] 42) := by rw [hY]; exact heap_new _ _
  have hb : Below z6.heap.size z6 z7 := by rw [hY]; exact (Below.refl _ _).alloc (Nat.le_refl _) _
  rw [← hY]
  clear hY c0 c1 c2 o0 o1 o2 x0 x1 x2
  obtain ⟨qA, hqA⟩ : ∃ q, z6.heap.size = q := ⟨_, rfl⟩
  have hYBA : z7.heap[qA]? = some (.cells #[.int .i64 lo, .int .i64 hi] 42) := hqA ▸ hYB
  have HS7 := Lib.hid (HS6.out.next hb)
  have HX7 := Lib.hid ((hb.block _ (heap_lt HX6.out)).trans HX6.out)
  have HO7 := Lib.hid (HO6.out.next hb)
  have HP7 := Lib.hid ((HP6.out.below hb).mono hb.size)
  have HQ7 := Lib.hid ((HQ6.out.below hb).mono hb.size)
  have HA7 := Lib.hid (hYBA)
  clear HS6 HX6 HO6 HP6 HQ6 hb
  rw [hqA]
  clear hYB hYBA hqA
  obtain ⟨c0, c1, c2⟩ := HS7.out.cells
  obtain ⟨o0, o1, o2⟩ := HO7.out.cells
  obtain ⟨x0, x1, x2⟩ := cell3 HX7.out
  go_wp2_with fail
  refine (rProofs_u HLO.out HHI.out HKE.out HN1.out HS7.out.st).mono ?_
  rintro e z8 ⟨rfl, hb⟩
  clear c0 c1 c2 o0 o1 o2 x0 x1 x2
  have HS8 := Lib.hid (HS7.out.next hb)
  have HX8 := Lib.hid ((hb.block _ (heap_lt HX7.out)).trans HX7.out)
  have HO8 := Lib.hid (HO7.out.next hb)
  have HP8 := Lib.hid ((HP7.out.below hb).mono hb.size)
  have HQ8 := Lib.hid ((HQ7.out.below hb).mono hb.size)
  have HA8 := Lib.hid ((hb.block _ (heap_lt HA7.out)).trans HA7.out)
  clear HS7 HX7 HO7 HP7 HQ7 HA7 hb
  obtain ⟨c0, c1, c2⟩ := HS8.out.cells
  obtain ⟨o0, o1, o2⟩ := HO8.out.cells
  obtain ⟨x0, x1, x2⟩ := cell3 HX8.out
  go_upto_region 8 with fail
  obtain ⟨z9, hY⟩ : ∃ Y, Y = z8.alloc (.cells #[.int .i64 lo, .int .i64 hi] 42) := ⟨_, rfl⟩
  have hYB : z9.heap[z8.heap.size]? = some (.cells #[.int .i64 lo, .int .i64 hi] 42) := by rw [hY]; exact heap_new _ _
  have hb : Below z8.heap.size z8 z9 := by rw [hY]; exact (Below.refl _ _).alloc (Nat.le_refl _) _
  rw [← hY]
  clear hY c0 c1 c2 o0 o1 o2 x0 x1 x2
  obtain ⟨qB, hqB⟩ : ∃ q, z8.heap.size = q := ⟨_, rfl⟩
  have hYBB : z9.heap[qB]? = some (.cells #[.int .i64 lo, .int .i64 hi] 42) := hqB ▸ hYB
  have HS9 := Lib.hid (HS8.out.next hb)
  have HX9 := Lib.hid ((hb.block _ (heap_lt HX8.out)).trans HX8.out)
  have HO9 := Lib.hid (HO8.out.next hb)
  have HP9 := Lib.hid ((HP8.out.below hb).mono hb.size)
  have HQ9 := Lib.hid ((HQ8.out.below hb).mono hb.size)
  have HA9 := Lib.hid ((hb.block _ (heap_lt HA8.out)).trans HA8.out)
  have HB9 := Lib.hid (hYBB)
  clear HS8 HX8 HO8 HP8 HQ8 HA8 hb
  rw [hqB]
  clear hYB hYBB hqB
  obtain ⟨c0, c1, c2⟩ := HS9.out.cells
  obtain ⟨o0, o1, o2⟩ := HO9.out.cells
  obtain ⟨x0, x1, x2⟩ := cell3 HX9.out
  go_wp2_with fail
  refine (SameInts_to (same_true _) HP9.out HQ9.out).mono ?_
  rintro e z10 ⟨rfl, hb⟩
  clear c0 c1 c2 o0 o1 o2 x0 x1 x2
  have HS10 := Lib.hid (HS9.out.next hb)
  have HX10 := Lib.hid ((hb.block _ (heap_lt HX9.out)).trans HX9.out)
  have HO10 := Lib.hid (HO9.out.next hb)
  have HP10 := Lib.hid ((HP9.out.below hb).mono hb.size)
  have HQ10 := Lib.hid ((HQ9.out.below hb).mono hb.size)
  have HA10 := Lib.hid ((hb.block _ (heap_lt HA9.out)).trans HA9.out)
  have HB10 := Lib.hid ((hb.block _ (heap_lt HB9.out)).trans HB9.out)
  clear HS9 HX9 HO9 HP9 HQ9 HA9 HB9 hb
  obtain ⟨c0, c1, c2⟩ := HS10.out.cells
  obtain ⟨o0, o1, o2⟩ := HO10.out.cells
  obtain ⟨x0, x1, x2⟩ := cell3 HX10.out
  obtain ⟨sa0, sa1, _, _⟩ := cell2f HA10.out
  obtain ⟨sb0, sb1, _, _⟩ := cell2f HB10.out
  go_wp2_with fail
  refine (Last_u HLL.out HKE.out HO10.out.st).mono ?_
  rintro e z11 ⟨vR, rfl, hv, hb⟩
  obtain ⟨aR, kR, bR, gR, rfl, mR, AR, CR, _⟩ := hv.opened
  clear c0 c1 c2 o0 o1 o2 x0 x1 x2 AR CR sa0 sa1 sb0 sb1
  have HS11 := Lib.hid (HS10.out.next hb)
  have HX11 := Lib.hid ((hb.block _ (heap_lt HX10.out)).trans HX10.out)
  have HO11 := Lib.hid (HO10.out.next hb)
  have HP11 := Lib.hid ((HP10.out.below hb).mono hb.size)
  have HQ11 := Lib.hid ((HQ10.out.below hb).mono hb.size)
  have HA11 := Lib.hid ((hb.block _ (heap_lt HA10.out)).trans HA10.out)
  have HB11 := Lib.hid ((hb.block _ (heap_lt HB10.out)).trans HB10.out)
  have HR11 := Lib.hid (hv)
  clear HS10 HX10 HO10 HP10 HQ10 HA10 HB10 hb
  clear hv
  obtain ⟨c0, c1, c2⟩ := HS11.out.cells
  obtain ⟨o0, o1, o2⟩ := HO11.out.cells
  obtain ⟨x0, x1, x2⟩ := cell3 HX11.out
  go_wp2_with fail
  refine (rLast_u HLL.out HKE.out HN1.out HS11.out.st).mono ?_
  rintro e z12 ⟨vT, rfl, hv, hb⟩
  obtain ⟨aT, kT, bT, gT, rfl, mT, AT, CT, _⟩ := hv.opened
  clear c0 c1 c2 o0 o1 o2 x0 x1 x2 AT CT
  have HS12 := Lib.hid (HS11.out.next hb)
  have HX12 := Lib.hid ((hb.block _ (heap_lt HX11.out)).trans HX11.out)
  have HO12 := Lib.hid (HO11.out.next hb)
  have HP12 := Lib.hid ((HP11.out.below hb).mono hb.size)
  have HQ12 := Lib.hid ((HQ11.out.below hb).mono hb.size)
  have HA12 := Lib.hid ((hb.block _ (heap_lt HA11.out)).trans HA11.out)
  have HB12 := Lib.hid ((hb.block _ (heap_lt HB11.out)).trans HB11.out)
  have HR12 := Lib.hid ((HR11.out.below hb).mono hb.size)
  have HT12 := Lib.hid (hv)
  clear HS11 HX11 HO11 HP11 HQ11 HA11 HB11 HR11 hb
  clear hv
  obtain ⟨c0, c1, c2⟩ := HS12.out.cells
  obtain ⟨o0, o1, o2⟩ := HO12.out.cells
  obtain ⟨x0, x1, x2⟩ := cell3 HX12.out
  go_wp2_with fail
  refine (Alike_u HAR.out HAE.out HXI.out HXJ.out HO12.out.st).mono ?_
  rintro e z13 ⟨rfl, hb⟩
  clear c0 c1 c2 o0 o1 o2 x0 x1 x2
  have HS13 := Lib.hid (HS12.out.next hb)
  have HX13 := Lib.hid ((hb.block _ (heap_lt HX12.out)).trans HX12.out)
  have HO13 := Lib.hid (HO12.out.next hb)
  have HP13 := Lib.hid ((HP12.out.below hb).mono hb.size)
  have HQ13 := Lib.hid ((HQ12.out.below hb).mono hb.size)
  have HA13 := Lib.hid ((hb.block _ (heap_lt HA12.out)).trans HA12.out)
  have HB13 := Lib.hid ((hb.block _ (heap_lt HB12.out)).trans HB12.out)
  have HR13 := Lib.hid ((HR12.out.below hb).mono hb.size)
  have HT13 := Lib.hid ((HT12.out.below hb).mono hb.size)
  clear HS12 HX12 HO12 HP12 HQ12 HA12 HB12 HR12 HT12 hb
  obtain ⟨c0, c1, c2⟩ := HS13.out.cells
  obtain ⟨o0, o1, o2⟩ := HO13.out.cells
  obtain ⟨x0, x1, x2⟩ := cell3 HX13.out
  go_wp2_with fail
  refine (rAlike_u HAR.out HAE.out HN1.out HS13.out.st).mono ?_
  rintro e z14 ⟨rfl, hb⟩
  clear c0 c1 c2 o0 o1 o2 x0 x1 x2
  have HS14 := Lib.hid (HS13.out.next hb)
  have HX14 := Lib.hid ((hb.block _ (heap_lt HX13.out)).trans HX13.out)
  have HO14 := Lib.hid (HO13.out.next hb)
  have HP14 := Lib.hid ((HP13.out.below hb).mono hb.size)
  have HQ14 := Lib.hid ((HQ13.out.below hb).mono hb.size)
  have HA14 := Lib.hid ((hb.block _ (heap_lt HA13.out)).trans HA13.out)
  have HB14 := Lib.hid ((hb.block _ (heap_lt HB13.out)).trans HB13.out)
  have HR14 := Lib.hid ((HR13.out.below hb).mono hb.size)
  have HT14 := Lib.hid ((HT13.out.below hb).mono hb.size)
  clear HS13 HX13 HO13 HP13 HQ13 HA13 HB13 HR13 HT13 hb
  obtain ⟨c0, c1, c2⟩ := HS14.out.cells
  obtain ⟨o0, o1, o2⟩ := HO14.out.cells
  obtain ⟨x0, x1, x2⟩ := cell3 HX14.out
  go_wp2_with fail
  refine (SameInts_to (same_true _) HR14.out HT14.out).mono ?_
  rintro e z15 ⟨rfl, hb⟩
  clear c0 c1 c2 o0 o1 o2 x0 x1 x2
  have HS15 := Lib.hid (HS14.out.next hb)
  have HX15 := Lib.hid ((hb.block _ (heap_lt HX14.out)).trans HX14.out)
  have HO15 := Lib.hid (HO14.out.next hb)
  have HP15 := Lib.hid ((HP14.out.below hb).mono hb.size)
  have HQ15 := Lib.hid ((HQ14.out.below hb).mono hb.size)
  have HA15 := Lib.hid ((hb.block _ (heap_lt HA14.out)).trans HA14.out)
  have HB15 := Lib.hid ((hb.block _ (heap_lt HB14.out)).trans HB14.out)
  have HR15 := Lib.hid ((HR14.out.below hb).mono hb.size)
  have HT15 := Lib.hid ((HT14.out.below hb).mono hb.size)
  clear HS14 HX14 HO14 HP14 HQ14 HA14 HB14 HR14 HT14 hb
  obtain ⟨c0, c1, c2⟩ := HS15.out.cells
  obtain ⟨o0, o1, o2⟩ := HO15.out.cells
  obtain ⟨x0, x1, x2⟩ := cell3 HX15.out
  go_wp2_with fail
  refine (Same_any _ _ C _ HO15.out.st HS15.out.st).mono ?_
  rintro e z16 ⟨rfl, hb⟩
  clear c0 c1 c2 o0 o1 o2 x0 x1 x2
  have HS16 := Lib.hid (HS15.out.next hb)
  have HX16 := Lib.hid ((hb.block _ (heap_lt HX15.out)).trans HX15.out)
  have HO16 := Lib.hid (HO15.out.next hb)
  have HP16 := Lib.hid ((HP15.out.below hb).mono hb.size)
  have HQ16 := Lib.hid ((HQ15.out.below hb).mono hb.size)
  have HA16 := Lib.hid ((hb.block _ (heap_lt HA15.out)).trans HA15.out)
  have HB16 := Lib.hid ((hb.block _ (heap_lt HB15.out)).trans HB15.out)
  have HR16 := Lib.hid ((HR15.out.below hb).mono hb.size)
  have HT16 := Lib.hid ((HT15.out.below hb).mono hb.size)
  clear HS15 HX15 HO15 HP15 HQ15 HA15 HB15 HR15 HT15 hb
  obtain ⟨c0, c1, c2⟩ := HS16.out.cells
  obtain ⟨o0, o1, o2⟩ := HO16.out.cells
  obtain ⟨x0, x1, x2⟩ := cell3 HX16.out
  go_wp2_with (go_at_call 14; refine (works_any _).mono ?_; rintro e wz ⟨rfl, hb⟩; have HBZ := Lib.hid (HS16.out.next hb).b; clear hb)
  go_ret
  exact ⟨rfl, HBZ.out⟩

end Go.Proofs.Ytgjikoebneiamaa
