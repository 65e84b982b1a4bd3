/-
  A law's body: each truth (P2.12).
-/
import Derived.Test.YthclinhikhinpaaLTrueM
import Derived.Test.YthclinhikhinpaaLCalls
import Derived.Test.YthclinhikhinpaaLWorks
import Derived.Deep.DeepCutAuto
namespace Go.Proofs.Ythclinhikhinpaa
open Go.RowKit

theorem box2t {w : World} {b : Nat} {v0 v1 : Value} {t : TypeId} (e : w.heap[b]? = some (.cells #[v0, v1] t)) : w.cell? ⟨b, 0, none⟩ = some v0 ∧ w.cell? ⟨b, 1, none⟩ = some v1 := by
  refine ⟨?_, ?_⟩ <;> simp [World.cell?, e]
theorem Found_to {v : Value} {xs : List Int} {x y : Int} {w : World} {B : Nat} (h : ixV xs x = y) (hx : IntsAt B w v xs) :
    Calls Try.prog 51 #[v, .int .i64 x] w fun e w' => e = .returned (.int .i64 y) ∧ w = w' := h ▸ Found_any v xs x w hx
theorem Alike_l {a a2 : Option Addr} {cap cap2 at_ ot : Nat} {C : Chain} {w : World} {y : Int} (hf : oneL (srt ((truthsP C).map (alikeOf C at_ ot))) = y) (ht : (truthsP C).length ≠ 0)
    (hx : ChainAt w.heap.size w (.agg #[.slice a C.deeds.length cap, .slice a2 C.sights.length cap2, .int .i64 C.wrong]) C) (hV : validB C = true) (hat : (at_ : Int) < lenTo C.deeds C.deeds.length) (hot : (ot : Int) < lenTo C.deeds C.deeds.length) :
    Calls Try.prog 38 #[.agg #[.slice a C.deeds.length cap, .slice a2 C.sights.length cap2, .int .i64 C.wrong], .int .i64 at_, .int .i64 ot] w fun e w' => e = .returned (.tuple #[.int .i64 y, .int .i64 0]) ∧ Below w.heap.size w w' := by
  have := Alike_ok a a2 cap cap2 C at_ ot w hx hV hat hot
  rwa [if_neg ht, hf, noneE, if_neg ht] at this

set_option maxRecDepth 100000 in
set_option maxHeartbeats 32000000 in
theorem LinksTrue_any (v u : Value) (C : Chain) (ends : List Int) (X0 X1 X2 : Int) (w : World) (hx : ChainAt w.heap.size w v C) (hu : IntsAt w.heap.size w u ends) (hX0 : I64 X0) (hX1 : I64 X1) (hX2 : I64 X2) :
    Calls Try.prog 6 #[v, u, .agg #[.int .i64 X0, .int .i64 X1, .int .i64 X2]] w fun e w' => e = .returned (.bool true) ∧ Below w.heap.size w w' := by
  have hx' := hx
  obtain ⟨a, cap, b, off, a2, cap2, b2, off2, rfl, hm, hm2, hcap, hcapm, HA, HC, HA2, HC2, HI, HI2⟩ := hx.opened
  have hu' := hu
  obtain ⟨ua, ucap, ub, uoff, rfl, hum, HUA, HUC, HUI⟩ := hu.opened
  have HS0 := Lib.hid ((LStat.first hx').next ((Below.refl _ _).alloc (Nat.le_refl _) (.cells #[.int .i64 X0, .int .i64 X1, .int .i64 X2] 40)))
  have HX0 := Lib.hid (heap_new1 w (.cells #[.slice a C.deeds.length cap, .slice a2 C.sights.length cap2, .int .i64 C.wrong] 25) (.cells #[.int .i64 X0, .int .i64 X1, .int .i64 X2] 40))
  have HU0 := Lib.hid ((hu'.below HS0.out.b).mono HS0.out.b.size)
  have HXI0 := Lib.hid hX0
  have HXI1 := Lib.hid hX1
  have HDD := Lib.hid (fun (h : 0 < C.deeds.length) => HA.out h)
  clear hx hx' hu hu' HA2 HC2 HI2 HI HUA HUC HUI hX0 hX1 hX2
  obtain ⟨c0, c1, c2⟩ := HS0.out.cells
  obtain ⟨x0, x1, x2⟩ := box3c HX0.out
  cases hr : readyB C
  case false =>
    have HR := Lib.hid hr
    clear hr HA HC
    go_enter Try.func6, Try.ntmps6
    go_wp2_with fail
    refine (ready_to HR.out HS0.out.st).mono ?_
    rintro e z1 ⟨rfl, hb⟩
    have HS1 := Lib.hid (HS0.out.next hb)
    clear hb c0 c1 c2 x0 x1 x2
    go_wp2_with (go_at_call 14; refine (works_any _).mono ?_; rintro e wz ⟨rfl, hb⟩; have HBZ := Lib.hid (HS1.out.next hb).b; clear hb)
    go_ret
    exact ⟨rfl, HBZ.out⟩
  obtain ⟨hV, hnd, hns⟩ := ready_is hr
  have hV' := valid_iff.1 hV
  have HR := Lib.hid hr
  have HV := Lib.hid hV
  have HV' := Lib.hid hV'
  have HN40 := Lib.hid (show C.deeds.length ≤ 40 by omega)
  clear hr hV hV'
  by_cases hlong : 40 < ends.length
  · have hlong' : (40 : Int) < (ends.length : Int) := by omega
    clear HA HC
    go_enter Try.func6, Try.ntmps6
    go_wp2_with fail
    refine (ready_to HR.out HS0.out.st).mono ?_
    rintro e z1 ⟨rfl, hb⟩
    have HS1 := Lib.hid (HS0.out.next hb)
    clear hb c0 c1 c2 x0 x1 x2
    go_wp2_with (go_at_call 14; refine (works_any _).mono ?_; rintro e wz ⟨rfl, hb⟩; have HBZ := Lib.hid (HS1.out.next hb).b; clear hb)
    go_ret
    exact ⟨rfl, HBZ.out⟩
  have hlong' : ¬ (40 : Int) < (ends.length : Int) := by omega
  cases ht : truthB C ends
  case false =>
    have HT := Lib.hid ht
    clear ht HA HC
    go_enter Try.func6, Try.ntmps6
    go_wp2_with fail
    refine (ready_to HR.out HS0.out.st).mono ?_
    rintro e z1 ⟨rfl, hb⟩
    clear c0 c1 c2 x0 x1 x2
    have HS1 := Lib.hid (HS0.out.next hb)
    have HX1 := Lib.hid ((hb.block _ (heap_lt HX0.out)).trans HX0.out)
    have HU1 := Lib.hid ((HU0.out.below hb).mono hb.size)
    clear HS0 HX0 HU0 hb
    obtain ⟨c0, c1, c2⟩ := HS1.out.cells
    obtain ⟨x0, x1, x2⟩ := box3c HX1.out
    go_wp2_with fail
    refine (IsTruth_to HT.out HV.out HS1.out.st HU1.out).mono ?_
    rintro e z2 ⟨rfl, hb⟩
    clear c0 c1 c2 x0 x1 x2
    have HS2 := Lib.hid (HS1.out.next hb)
    have HX2 := Lib.hid ((hb.block _ (heap_lt HX1.out)).trans HX1.out)
    have HU2 := Lib.hid ((HU1.out.below hb).mono hb.size)
    clear HS1 HX1 HU1 hb
    obtain ⟨c0, c1, c2⟩ := HS2.out.cells
    obtain ⟨x0, x1, x2⟩ := box3c HX2.out
    go_wp2_with (go_at_call 14; refine (works_any _).mono ?_; rintro e wz ⟨rfl, hb⟩; have HBZ := Lib.hid (HS2.out.next hb).b; clear hb)
    go_ret
    exact ⟨rfl, HBZ.out⟩
  have HT := Lib.hid ht
  clear ht
  cases hk : linkB C X2
  case false =>
    have HK := Lib.hid hk
    clear hk HA HC
    go_enter Try.func6, Try.ntmps6
    go_wp2_with fail
    refine (ready_to HR.out HS0.out.st).mono ?_
    rintro e z1 ⟨rfl, hb⟩
    clear c0 c1 c2 x0 x1 x2
    have HS1 := Lib.hid (HS0.out.next hb)
    have HX1 := Lib.hid ((hb.block _ (heap_lt HX0.out)).trans HX0.out)
    have HU1 := Lib.hid ((HU0.out.below hb).mono hb.size)
    clear HS0 HX0 HU0 hb
    obtain ⟨c0, c1, c2⟩ := HS1.out.cells
    obtain ⟨x0, x1, x2⟩ := box3c HX1.out
    go_wp2_with fail
    refine (IsTruth_to HT.out HV.out HS1.out.st HU1.out).mono ?_
    rintro e z2 ⟨rfl, hb⟩
    clear c0 c1 c2 x0 x1 x2
    have HS2 := Lib.hid (HS1.out.next hb)
    have HX2 := Lib.hid ((hb.block _ (heap_lt HX1.out)).trans HX1.out)
    have HU2 := Lib.hid ((HU1.out.below hb).mono hb.size)
    clear HS1 HX1 HU1 hb
    obtain ⟨c0, c1, c2⟩ := HS2.out.cells
    obtain ⟨x0, x1, x2⟩ := box3c HX2.out
    go_wp2_with fail
    refine (IsLink_to HK.out HN40.out HS2.out.st).mono ?_
    rintro e z3 ⟨rfl, hb⟩
    clear c0 c1 c2 x0 x1 x2
    have HS3 := Lib.hid (HS2.out.next hb)
    have HX3 := Lib.hid ((hb.block _ (heap_lt HX2.out)).trans HX2.out)
    have HU3 := Lib.hid ((HU2.out.below hb).mono hb.size)
    clear HS2 HX2 HU2 hb
    obtain ⟨c0, c1, c2⟩ := HS3.out.cells
    obtain ⟨x0, x1, x2⟩ := box3c HX3.out
    go_wp2_with (go_at_call 14; refine (works_any _).mono ?_; rintro e wz ⟨rfl, hb⟩; have HBZ := Lib.hid (HS3.out.next hb).b; clear hb)
    go_ret
    exact ⟨rfl, HBZ.out⟩
  have HK := Lib.hid hk
  obtain ⟨hmem, hlen⟩ := truth_of HV'.out HT.out
  have HMEM := Lib.hid hmem
  have HL := Lib.hid hlen
  have HNE := Lib.hid (some_truth hmem)
  have HE0 := Lib.hid (show ansE C (linkB C X2) = 0 by rw [hk]; exact ansE_ok hmem)
  -- Fewest
  obtain ⟨N, hN⟩ : ∃ N, fewV C = N := ⟨_, rfl⟩
  obtain ⟨R, hR⟩ : ∃ R, wrongs C ends = R := ⟨_, rfl⟩
  have hNR := fewV_le (C := C) (mem_pastsL.2 (mem_truthsP.1 hmem).1)
  have hNb := fewV_bound C
  rw [hN, hR] at hNR
  rw [hN] at hNb
  have HN := Lib.hid hN
  have HRR := Lib.hid hR
  -- Where
  obtain ⟨V, hVV⟩ : ∃ V, ansV C (linkB C X2) (placeOf C X2) = V := ⟨_, rfl⟩
  obtain ⟨FI, hFI⟩ : ∃ FI, ixV (story C.deeds ends C.deeds.length) X2 = FI := ⟨_, rfl⟩
  have HVV := Lib.hid hVV
  have HFI := Lib.hid hFI
  have HVin := Lib.hid (show inB V FI = true by rw [← hVV, ← hFI, hk]; exact ans_mem (f := placeOf C X2) hmem)
  have hV40 : V.length ≤ 40 := hVV ▸ ans_len HR.out _ _
  -- Proofs
  obtain ⟨L, hL⟩ : ∃ L, ansV C (linkB C X2) (timesOf C X2) = L := ⟨_, rfl⟩
  have HLL := Lib.hid hL
  obtain ⟨q0, hq0⟩ : ∃ q0, nth L 0 = q0 := ⟨_, rfl⟩
  obtain ⟨q1, hq1⟩ : ∃ q1, nth L (L.length - 1) = q1 := ⟨_, rfl⟩
  have HSP := Lib.hid (show spanL L = .agg #[.int .i64 q0, .int .i64 q1] from by rw [spanL, hq0, hq1])
  obtain ⟨PV, hPV⟩ : ∃ PV, provTo C.deeds ends X2 C.deeds.length = PV := ⟨_, rfl⟩
  have HPV := Lib.hid hPV
  have hts := ans_ends (f := timesOf C X2) hk hmem
  rw [hL, hq0, hq1, show timesOf C X2 ends = (PV.length : Int) by rw [← hPV, provTo_len]; rfl] at hts
  obtain ⟨hts0, hts1⟩ := hts
  have hPL := (provTo_le C.deeds ends X2 C.deeds.length).1
  have HPI := Lib.hid (fun y (hy : y ∈ PV) => show I64 y by have := (provTo_le C.deeds ends X2 C.deeds.length).2 y (by rw [hPV]; exact hy); unfold I64; omega)
  rw [hPV] at hPL
  -- Last
  obtain ⟨LS, hLS⟩ : ∃ LS, ansV C (linkB C X2) (lastOf C X2) = LS := ⟨_, rfl⟩
  obtain ⟨LT, hLT⟩ : ∃ LT, lastL PV = LT := ⟨_, rfl⟩
  have HLS := Lib.hid hLS
  have HLT := Lib.hid hLT
  have HLin := Lib.hid (show inB LS LT = true by
    rw [← hLS, ← hLT, hk, ← hPV, ← provTo_last]
    exact ans_mem (f := lastOf C X2) hmem)
  have hLS40 : LS.length ≤ 40 := hLS ▸ ans_len HR.out _ _
  -- the cable
  have hlenS := (story_ok (ends := ends) HV'.out.deed C.deeds.length (Nat.le_refl _)).1
  have hll := lenTo_le C.deeds C.deeds.length
  obtain ⟨M, hM⟩ : ∃ M, (story C.deeds ends C.deeds.length).length = M := ⟨_, rfl⟩
  rw [hM] at hlenS
  have HM := Lib.hid hM
  have HLEN := Lib.hid hlenS
  clear hk hmem hlen hN hR hVV hFI hL hq0 hq1 hPV hLS hLT hM hlenS hll
  go_enter Try.func6, Try.ntmps6
  go_wp2_with fail
  refine (ready_to HR.out HS0.out.st).mono ?_
  rintro e z1 ⟨rfl, hb⟩
  clear c0 c1 c2 x0 x1 x2
  have HS1 := Lib.hid (HS0.out.next hb)
  have HX1 := Lib.hid ((hb.block _ (heap_lt HX0.out)).trans HX0.out)
  have HU1 := Lib.hid ((HU0.out.below hb).mono hb.size)
  clear HS0 HX0 HU0 hb
  obtain ⟨c0, c1, c2⟩ := HS1.out.cells
  obtain ⟨x0, x1, x2⟩ := box3c HX1.out
  go_wp2_with fail
  refine (IsTruth_to HT.out HV.out HS1.out.st HU1.out).mono ?_
  rintro e z2 ⟨rfl, hb⟩
  clear c0 c1 c2 x0 x1 x2
  have HS2 := Lib.hid (HS1.out.next hb)
  have HX2 := Lib.hid ((hb.block _ (heap_lt HX1.out)).trans HX1.out)
  have HU2 := Lib.hid ((HU1.out.below hb).mono hb.size)
  clear HS1 HX1 HU1 hb
  obtain ⟨c0, c1, c2⟩ := HS2.out.cells
  obtain ⟨x0, x1, x2⟩ := box3c HX2.out
  go_wp2_with fail
  refine (IsLink_to HK.out HN40.out HS2.out.st).mono ?_
  rintro e z3 ⟨rfl, hb⟩
  clear c0 c1 c2 x0 x1 x2
  have HS3 := Lib.hid (HS2.out.next hb)
  have HX3 := Lib.hid ((hb.block _ (heap_lt HX2.out)).trans HX2.out)
  have HU3 := Lib.hid ((HU2.out.below hb).mono hb.size)
  clear HS2 HX2 HU2 hb
  obtain ⟨c0, c1, c2⟩ := HS3.out.cells
  obtain ⟨x0, x1, x2⟩ := box3c HX3.out
  go_wp2_with fail
  refine (Now_any _ _ C ends _ HV.out HL.out HS3.out.st HU3.out).mono ?_
  rintro e z4 ⟨nv, rfl, hrow, hb⟩
  obtain ⟨nA, nc, rfl, _⟩ := own_form hrow
  rw [HM.out] at hrow ⊢
  clear c0 c1 c2 x0 x1 x2
  have HS4 := Lib.hid (HS3.out.next hb)
  have HX4 := Lib.hid ((hb.block _ (heap_lt HX3.out)).trans HX3.out)
  have HU4 := Lib.hid ((HU3.out.below hb).mono hb.size)
  have HN4 := Lib.hid (hrow)
  clear HS3 HX3 HU3 hb
  obtain ⟨c0, c1, c2⟩ := HS4.out.cells
  obtain ⟨x0, x1, x2⟩ := box3c HX4.out
  clear hrow
  go_wp2_with fail
  refine (Fewest_l HN.out rfl rfl HS4.out.st HV.out).mono ?_
  rintro e z5 ⟨rfl, hb⟩
  clear c0 c1 c2 x0 x1 x2
  have HS5 := Lib.hid (HS4.out.next hb)
  have HX5 := Lib.hid ((hb.block _ (heap_lt HX4.out)).trans HX4.out)
  have HU5 := Lib.hid ((HU4.out.below hb).mono hb.size)
  have HN5 := Lib.hid (HN4.out.below hb)
  clear HS4 HX4 HU4 HN4 hb
  obtain ⟨c0, c1, c2⟩ := HS5.out.cells
  obtain ⟨x0, x1, x2⟩ := box3c HX5.out
  go_wp2_with fail
  refine (Where_v HVV.out HE0.out rfl rfl HS5.out.st HV.out).mono ?_
  rintro e z6 ⟨wv, rfl, hv, hb⟩
  obtain ⟨wa, wk, wb, wo, rfl, wm, WA, WC, _⟩ := hv.opened
  clear c0 c1 c2 x0 x1 x2
  have HS6 := Lib.hid (HS5.out.next hb)
  have HX6 := Lib.hid ((hb.block _ (heap_lt HX5.out)).trans HX5.out)
  have HU6 := Lib.hid ((HU5.out.below hb).mono hb.size)
  have HN6 := Lib.hid (HN5.out.below hb)
  have HW6 := Lib.hid (hv)
  clear HS5 HX5 HU5 HN5 hb
  obtain ⟨c0, c1, c2⟩ := HS6.out.cells
  obtain ⟨x0, x1, x2⟩ := box3c HX6.out
  clear hv WA WC
  go_wp2_with fail
  refine (Proofs_v HLL.out HE0.out rfl rfl HS6.out.st HV.out).mono ?_
  rintro e z7 ⟨rfl, hb⟩
  rw [HSP.out]
  clear c0 c1 c2 x0 x1 x2
  have HS7 := Lib.hid (HS6.out.next hb)
  have HX7 := Lib.hid ((hb.block _ (heap_lt HX6.out)).trans HX6.out)
  have HU7 := Lib.hid ((HU6.out.below hb).mono hb.size)
  have HN7 := Lib.hid (HN6.out.below hb)
  have HW7 := Lib.hid ((HW6.out.below hb).mono hb.size)
  clear HS6 HX6 HU6 HN6 HW6 hb
  obtain ⟨c0, c1, c2⟩ := HS7.out.cells
  obtain ⟨x0, x1, x2⟩ := box3c HX7.out
  have hb := (Below.refl _ z7).alloc (Nat.le_refl _) (.cells #[.int .i64 q0, .int .i64 q1] 42)
  have hpn := heap_new z7 (.cells #[.int .i64 q0, .int .i64 q1] 42)
  clear c0 c1 c2 x0 x1 x2
  have HS8 := Lib.hid (HS7.out.next hb)
  have HX8 := Lib.hid ((hb.block _ (heap_lt HX7.out)).trans HX7.out)
  have HU8 := Lib.hid ((HU7.out.below hb).mono hb.size)
  have HN8 := Lib.hid (HN7.out.below hb)
  have HW8 := Lib.hid ((HW7.out.below hb).mono hb.size)
  have HP8 := Lib.hid (hpn)
  clear HS7 HX7 HU7 HN7 HW7 hb
  clear hpn
  obtain ⟨c0, c1, c2⟩ := HS8.out.cells
  obtain ⟨x0, x1, x2⟩ := box3c HX8.out
  obtain ⟨s0, s1⟩ := box2t HP8.out
  go_wp2_with fail
  refine (Last_v HLS.out HE0.out rfl rfl HS8.out.st HV.out).mono ?_
  rintro e z9 ⟨lv, rfl, hv, hb⟩
  obtain ⟨la, lk, lb, lo, rfl, lm, LA, LC, _⟩ := hv.opened
  clear c0 c1 c2 x0 x1 x2 s0 s1
  have HS9 := Lib.hid (HS8.out.next hb)
  have HX9 := Lib.hid ((hb.block _ (heap_lt HX8.out)).trans HX8.out)
  have HU9 := Lib.hid ((HU8.out.below hb).mono hb.size)
  have HN9 := Lib.hid (HN8.out.below hb)
  have HW9 := Lib.hid ((HW8.out.below hb).mono hb.size)
  have HP9 := Lib.hid ((hb.block _ (heap_lt HP8.out)).trans HP8.out)
  have HL9 := Lib.hid (hv)
  clear HS8 HX8 HU8 HN8 HW8 HP8 hb
  obtain ⟨c0, c1, c2⟩ := HS9.out.cells
  obtain ⟨x0, x1, x2⟩ := box3c HX9.out
  obtain ⟨s0, s1⟩ := box2t HP9.out
  clear hv LA LC
  have hnew := heap_new z9 (.cells #[.slice wa V.length wk, .slice la LS.length lk] 33)
  go_wp2_with fail
  refine (small_any z9.heap.size 2 _ _ _ hnew (by omega) (fun i hi => by
    match i, hi with
    | 0, _ => exact ⟨_, _, _, rfl, hV40⟩
    | 1, _ => exact ⟨_, _, _, rfl, hLS40⟩)).mono ?_
  rintro e zz ⟨rfl, rfl⟩
  have hb := (Below.refl _ z9).alloc (Nat.le_refl _) (.cells #[.slice wa V.length wk, .slice la LS.length lk] 33)
  clear hnew c0 c1 c2 x0 x1 x2 s0 s1
  have HS10 := Lib.hid (HS9.out.next hb)
  have HX10 := Lib.hid ((hb.block _ (heap_lt HX9.out)).trans HX9.out)
  have HU10 := Lib.hid ((HU9.out.below hb).mono hb.size)
  have HN10 := Lib.hid (HN9.out.below hb)
  have HW10 := Lib.hid ((HW9.out.below hb).mono hb.size)
  have HP10 := Lib.hid ((hb.block _ (heap_lt HP9.out)).trans HP9.out)
  have HL10 := Lib.hid ((HL9.out.below hb).mono hb.size)
  clear HS9 HX9 HU9 HN9 HW9 HP9 HL9 hb
  obtain ⟨z10, hz10⟩ : ∃ z10, z9.alloc (.cells #[.slice wa V.length wk, .slice la LS.length lk] 33) = z10 := ⟨_, rfl⟩
  rw [hz10] at HS10 HX10 HU10 HN10 HW10 HP10 HL10 ⊢
  clear hz10
  obtain ⟨c0, c1, c2⟩ := HS10.out.cells
  obtain ⟨x0, x1, x2⟩ := box3c HX10.out
  obtain ⟨s0, s1⟩ := box2t HP10.out
  go_wp2_with fail
  refine (Wrongs_to HRR.out HV.out HL.out HS10.out.st HU10.out).mono ?_
  rintro e z11 ⟨rfl, hb⟩
  clear c0 c1 c2 x0 x1 x2 s0 s1
  have HS11 := Lib.hid (HS10.out.next hb)
  have HX11 := Lib.hid ((hb.block _ (heap_lt HX10.out)).trans HX10.out)
  have HU11 := Lib.hid ((HU10.out.below hb).mono hb.size)
  have HN11 := Lib.hid (HN10.out.below hb)
  have HW11 := Lib.hid ((HW10.out.below hb).mono hb.size)
  have HP11 := Lib.hid ((hb.block _ (heap_lt HP10.out)).trans HP10.out)
  have HL11 := Lib.hid ((HL10.out.below hb).mono hb.size)
  clear HS10 HX10 HU10 HN10 HW10 HP10 HL10 hb
  obtain ⟨c0, c1, c2⟩ := HS11.out.cells
  obtain ⟨x0, x1, x2⟩ := box3c HX11.out
  obtain ⟨s0, s1⟩ := box2t HP11.out
  have hNR2 : ¬ R < N := by omega
  have HNI := Lib.hid (HN11.out.ints (story_i64 HV'.out ends (Nat.le_refl _)))
  go_wp2_with (first | (go_at_call 51; refine (Found_to HFI.out HNI.out).mono ?_; rintro e w' ⟨rfl, rfl⟩) | (go_at_call 50; refine (in_to HVin.out HW11.out).mono ?_; rintro e w' ⟨rfl, rfl⟩))
  refine (Proved_any _ _ C ends X2 _ HV.out HL.out HS11.out.st HU11.out).mono ?_
  rintro e z12 ⟨pv, rfl, hrow, hb⟩
  rw [HPV.out] at hrow
  obtain ⟨pA, pc, rfl, _⟩ := own_form hrow
  clear c0 c1 c2 x0 x1 x2 s0 s1
  have HS12 := Lib.hid (HS11.out.next hb)
  have HX12 := Lib.hid ((hb.block _ (heap_lt HX11.out)).trans HX11.out)
  have HU12 := Lib.hid ((HU11.out.below hb).mono hb.size)
  have HN12 := Lib.hid (HN11.out.below hb)
  have HW12 := Lib.hid ((HW11.out.below hb).mono hb.size)
  have HP12 := Lib.hid ((hb.block _ (heap_lt HP11.out)).trans HP11.out)
  have HL12 := Lib.hid ((HL11.out.below hb).mono hb.size)
  have HQ12 := Lib.hid (hrow)
  clear HS11 HX11 HU11 HN11 HW11 HP11 HL11 hb
  clear hrow
  obtain ⟨c0, c1, c2⟩ := HS12.out.cells
  obtain ⟨x0, x1, x2⟩ := box3c HX12.out
  obtain ⟨s0, s1⟩ := box2t HP12.out
  obtain ⟨t1, t2⟩ : ¬ (PV.length : Int) < q0 ∧ ¬ q1 < (PV.length : Int) := by omega
  go_upto_if 125 with fail
  go_cut [17] (fun l wz => l = .int .i64 LT ∧ z12 = wz)
  case first =>
    by_cases hp0 : PV.length = 0
    · have hd : ¬ (0 : Int) < (PV.length : Int) := by omega
      have HE := Lib.hid (show LT = -1 by rw [← HLT.out, lastL, if_pos hp0])
      clear hp0
      go_wp2_with fail
      go_meet
      exact ⟨by rw [HE.out], rfl⟩
    · have hd : (0 : Int) < (PV.length : Int) := by omega
      have HE := Lib.hid (show nth PV (PV.length - 1) = LT by rw [← HLT.out, lastL, if_neg hp0])
      obtain ⟨pg, pc2, hpq, hpcell⟩ := HQ12.out.at (i := PV.length - 1) (by omega)
      injection hpq with hpq1 hpq2 hpq3
      subst hpq1 hpq3
      clear hpq2
      rw [HE.out] at hpcell
      have hp1 : ((PV.length : Int) - 1) = ((PV.length - 1 : Nat) : Int) := by omega
      have hp2 : (0 : Int) ≤ (PV.length : Int) - 1 := by omega
      have hp3 : (PV.length : Int) - 1 < (PV.length : Int) := by omega
      have hp4 : ((PV.length : Int) - 1).toNat = PV.length - 1 := by omega
      clear hp0 hp1
      go_wp2_with fail
      go_meet
      exact ⟨rfl, rfl⟩
  case rest =>
  obtain ⟨rfl, rfl⟩ := hcut
  cases hp : placeB C X0
  case false =>
    have HP0 := Lib.hid hp
    clear hp
    go_wp2_with (go_at_call 50; refine (in_to HLin.out HL12.out).mono ?_; rintro e w' ⟨rfl, rfl⟩)
    refine (IsPlace_to HP0.out HV.out HS12.out.st).mono ?_
    rintro e z13 ⟨rfl, hb⟩
    clear c0 c1 c2 x0 x1 x2 s0 s1
    have HS13 := Lib.hid (HS12.out.next hb)
    have HX13 := Lib.hid ((hb.block _ (heap_lt HX12.out)).trans HX12.out)
    have HU13 := Lib.hid ((HU12.out.below hb).mono hb.size)
    have HN13 := Lib.hid (HN12.out.below hb)
    have HW13 := Lib.hid ((HW12.out.below hb).mono hb.size)
    have HP13 := Lib.hid ((hb.block _ (heap_lt HP12.out)).trans HP12.out)
    have HL13 := Lib.hid ((HL12.out.below hb).mono hb.size)
    have HQ13 := Lib.hid (HQ12.out.below hb)
    clear HS12 HX12 HU12 HN12 HW12 HP12 HL12 HQ12 hb
    obtain ⟨c0, c1, c2⟩ := HS13.out.cells
    obtain ⟨x0, x1, x2⟩ := box3c HX13.out
    obtain ⟨s0, s1⟩ := box2t HP13.out
    go_wp2_with (go_at_call 14; refine (works_any _).mono ?_; rintro e wz ⟨rfl, hb⟩; have HBZ := Lib.hid (HS13.out.next hb).b; clear hb)
    go_ret
    exact ⟨rfl, HBZ.out⟩
  have hpw := wB_iff.1 hp
  obtain ⟨p, rfl⟩ := Int.eq_ofNat_of_zero_le hpw.1
  have HP0 := Lib.hid hp
  have HPL := Lib.hid (show (p : Int) < lenTo C.deeds C.deeds.length by omega)
  cases ho : placeB C X1
  case false =>
    have HO0 := Lib.hid ho
    clear hp ho hpw
    go_wp2_with (go_at_call 50; refine (in_to HLin.out HL12.out).mono ?_; rintro e w' ⟨rfl, rfl⟩)
    refine (IsPlace_to HP0.out HV.out HS12.out.st).mono ?_
    rintro e z13 ⟨rfl, hb⟩
    clear c0 c1 c2 x0 x1 x2 s0 s1
    have HS13 := Lib.hid (HS12.out.next hb)
    have HX13 := Lib.hid ((hb.block _ (heap_lt HX12.out)).trans HX12.out)
    have HU13 := Lib.hid ((HU12.out.below hb).mono hb.size)
    have HN13 := Lib.hid (HN12.out.below hb)
    have HW13 := Lib.hid ((HW12.out.below hb).mono hb.size)
    have HP13 := Lib.hid ((hb.block _ (heap_lt HP12.out)).trans HP12.out)
    have HL13 := Lib.hid ((HL12.out.below hb).mono hb.size)
    have HQ13 := Lib.hid (HQ12.out.below hb)
    clear HS12 HX12 HU12 HN12 HW12 HP12 HL12 HQ12 hb
    obtain ⟨c0, c1, c2⟩ := HS13.out.cells
    obtain ⟨x0, x1, x2⟩ := box3c HX13.out
    obtain ⟨s0, s1⟩ := box2t HP13.out
    go_wp2_with fail
    refine (IsPlace_to HO0.out HV.out HS13.out.st).mono ?_
    rintro e z14 ⟨rfl, hb⟩
    clear c0 c1 c2 x0 x1 x2 s0 s1
    have HS14 := Lib.hid (HS13.out.next hb)
    have HX14 := Lib.hid ((hb.block _ (heap_lt HX13.out)).trans HX13.out)
    have HU14 := Lib.hid ((HU13.out.below hb).mono hb.size)
    have HN14 := Lib.hid (HN13.out.below hb)
    have HW14 := Lib.hid ((HW13.out.below hb).mono hb.size)
    have HP14 := Lib.hid ((hb.block _ (heap_lt HP13.out)).trans HP13.out)
    have HL14 := Lib.hid ((HL13.out.below hb).mono hb.size)
    have HQ14 := Lib.hid (HQ13.out.below hb)
    clear HS13 HX13 HU13 HN13 HW13 HP13 HL13 HQ13 hb
    obtain ⟨c0, c1, c2⟩ := HS14.out.cells
    obtain ⟨x0, x1, x2⟩ := box3c HX14.out
    obtain ⟨s0, s1⟩ := box2t HP14.out
    go_wp2_with (go_at_call 14; refine (works_any _).mono ?_; rintro e wz ⟨rfl, hb⟩; have HBZ := Lib.hid (HS14.out.next hb).b; clear hb)
    go_ret
    exact ⟨rfl, HBZ.out⟩
  have how := wB_iff.1 ho
  obtain ⟨o, rfl⟩ := Int.eq_ofNat_of_zero_le how.1
  have HO0 := Lib.hid ho
  have HOL := Lib.hid (show (o : Int) < lenTo C.deeds C.deeds.length by omega)
  have hpM : p < M := by have := HLEN.out; omega
  have hoM : o < M := by have := HLEN.out; omega
  obtain ⟨q, hq, hqw⟩ := story_link HV'.out ends (Nat.le_refl _) (j := p) (by rw [HM.out]; exact hpM)
  obtain ⟨j, hj, hjn, hdj⟩ := weld_deed HV'.out hqw
  obtain ⟨d, hd⟩ : ∃ d, dnth (weldL C.deeds) q = d := ⟨_, rfl⟩
  rw [hd] at hdj
  obtain ⟨rfl, hbw⟩ := HDD.out (by omega)
  have HD0 := Lib.hid (show Five w b (off + j * 5) d.what d.at_ d.from_ d.bar d.smith from by have := HC.out j hjn; rwa [hdj] at this)
  have hEp : ansE C (placeB C (p : Int)) = 0 := by rw [hp]; exact ansE_ok HMEM.out
  have HEP := Lib.hid hEp
  obtain ⟨WL, hWL⟩ : ∃ WL, ansV C (placeB C (p : Int)) (linkAt C (p : Int).toNat) = WL := ⟨_, rfl⟩
  obtain ⟨BL, hBL⟩ : ∃ BL, ansV C (placeB C (p : Int)) (barOf C (p : Int).toNat) = BL := ⟨_, rfl⟩
  obtain ⟨SL, hSL⟩ : ∃ SL, ansV C (placeB C (p : Int)) (smithOf C (p : Int).toNat) = SL := ⟨_, rfl⟩
  have hWL40 : WL.length ≤ 40 := hWL ▸ ans_len HR.out _ _
  have hBL40 : BL.length ≤ 40 := hBL ▸ ans_len HR.out _ _
  have hSL40 : SL.length ≤ 40 := hSL ▸ ans_len HR.out _ _
  have hlk : linkAt C p ends = (q : Int) := hq
  have HWin := Lib.hid (show inB WL (q : Int) = true by rw [← hWL, hp, ← hlk, Int.toNat_natCast]; exact ans_mem (f := linkAt C p) HMEM.out)
  have HBin := Lib.hid (show inB BL d.bar = true by
    rw [← hBL, hp, Int.toNat_natCast, show d.bar = barOf C p ends by simp only [barOf, hlk, markD, Int.toNat_natCast, hd]]; exact ans_mem (f := barOf C p) HMEM.out)
  have HSin := Lib.hid (show inB SL d.smith = true by
    rw [← hSL, hp, Int.toNat_natCast, show d.smith = smithOf C p ends by simp only [smithOf, hlk, markD, Int.toNat_natCast, hd]]; exact ans_mem (f := smithOf C p) HMEM.out)
  obtain ⟨AV, hAV⟩ : ∃ AV, oneL (srt ((truthsP C).map (alikeOf C p o))) = AV := ⟨_, rfl⟩
  obtain ⟨BA, hBA⟩ : ∃ BA, barOf C p ends = BA := ⟨_, rfl⟩
  obtain ⟨BB, hBB⟩ : ∃ BB, barOf C o ends = BB := ⟨_, rfl⟩
  have hAs := alike_says HMEM.out p o
  rw [hAV, alikeOf, hBA, hBB] at hAs
  have hkq : linkB C (q : Int) = true := wB_iff.2 ⟨by omega, by omega⟩
  have HEQ := Lib.hid (show ansE C (linkB C (q : Int)) = 0 by rw [hkq]; exact ansE_ok HMEM.out)
  obtain ⟨AT, hAT⟩ : ∃ AT, ansV C (linkB C (q : Int)) (placeOf C (q : Int)) = AT := ⟨_, rfl⟩
  have hAT40 : AT.length ≤ 40 := hAT ▸ ans_len HR.out _ _
  have HAin := Lib.hid (show inB AT (p : Int) = true by
    have h1 := place_own HV'.out ends (p := p) (by rw [HM.out]; exact hpM)
    rw [hq] at h1
    rw [← hAT, hkq, ← h1]; exact ans_mem (f := placeOf C (q : Int)) HMEM.out)
  have HQ := Lib.hid hq
  have HJ := Lib.hid hj
  have HQW := Lib.hid hqw
  have HWL := Lib.hid hWL
  have HBL := Lib.hid hBL
  have HSL := Lib.hid hSL
  have HAV := Lib.hid hAV
  have HBA := Lib.hid hBA
  have HBB := Lib.hid hBB
  have HAT := Lib.hid hAT
  have HAS := Lib.hid hAs
  have hp64 : I64 (p : Int) := HXI0.out
  have HP64 := Lib.hid hp64
  obtain ⟨ng, nc2, hnq, hncell⟩ := HN12.out.at (i := p) (by rw [HM.out]; exact hpM)
  injection hnq with hnq1 hnq2 hnq3
  subst hnq1 hnq3
  clear hnq2
  rw [HQ.out] at hncell
  have HNC := Lib.hid hncell
  have hngl := block_lt_of_cell hncell
  have hjn0 : (0 : Int) ≤ (j : Nat) := by omega
  have hjn1 : ((j : Nat) : Int) < (C.deeds.length : Int) := by omega
  have hpn0 : (0 : Int) ≤ (p : Nat) := by omega
  have hpn1 : ((p : Nat) : Int) < (M : Int) := by omega
  clear hp ho hpw how hq hj hd hdj hEp hWL hBL hSL hlk hAV hBA hBB hAs hkq hAT hp64 hncell
  have HC12 := HNC
  have nc0 := HNC.out
  go_wp2_with (go_at_call 50; refine (in_to HLin.out HL12.out).mono ?_; rintro e w' ⟨rfl, rfl⟩)
  refine (IsPlace_to HP0.out HV.out HS12.out.st).mono ?_
  rintro e z13 ⟨rfl, hb⟩
  clear c0 c1 c2 x0 x1 x2 s0 s1 nc0
  have HS13 := Lib.hid (HS12.out.next hb)
  have HX13 := Lib.hid ((hb.block _ (heap_lt HX12.out)).trans HX12.out)
  have HU13 := Lib.hid ((HU12.out.below hb).mono hb.size)
  have HN13 := Lib.hid (HN12.out.below hb)
  have HW13 := Lib.hid ((HW12.out.below hb).mono hb.size)
  have HP13 := Lib.hid ((hb.block _ (heap_lt HP12.out)).trans HP12.out)
  have HL13 := Lib.hid ((HL12.out.below hb).mono hb.size)
  have HQ13 := Lib.hid (HQ12.out.below hb)
  have HC13 := Lib.hid ((hb.cell (block_lt_of_cell HC12.out)).trans HC12.out)
  clear HS12 HX12 HU12 HN12 HW12 HP12 HL12 HQ12 HC12 hb
  obtain ⟨c0, c1, c2⟩ := HS13.out.cells
  obtain ⟨x0, x1, x2⟩ := box3c HX13.out
  obtain ⟨s0, s1⟩ := box2t HP13.out
  have nc0 := HC13.out
  go_wp2_with fail
  refine (IsPlace_to HO0.out HV.out HS13.out.st).mono ?_
  rintro e z14 ⟨rfl, hb⟩
  clear c0 c1 c2 x0 x1 x2 s0 s1 nc0
  have HS14 := Lib.hid (HS13.out.next hb)
  have HX14 := Lib.hid ((hb.block _ (heap_lt HX13.out)).trans HX13.out)
  have HU14 := Lib.hid ((HU13.out.below hb).mono hb.size)
  have HN14 := Lib.hid (HN13.out.below hb)
  have HW14 := Lib.hid ((HW13.out.below hb).mono hb.size)
  have HP14 := Lib.hid ((hb.block _ (heap_lt HP13.out)).trans HP13.out)
  have HL14 := Lib.hid ((HL13.out.below hb).mono hb.size)
  have HQ14 := Lib.hid (HQ13.out.below hb)
  have HC14 := Lib.hid ((hb.cell (block_lt_of_cell HC13.out)).trans HC13.out)
  clear HS13 HX13 HU13 HN13 HW13 HP13 HL13 HQ13 HC13 hb
  obtain ⟨c0, c1, c2⟩ := HS14.out.cells
  obtain ⟨x0, x1, x2⟩ := box3c HX14.out
  obtain ⟨s0, s1⟩ := box2t HP14.out
  have nc0 := HC14.out
  go_wp2_with fail
  refine (Who_v HWL.out HEP.out rfl rfl HS14.out.st HV.out HP64.out).mono ?_
  rintro e z15 ⟨gv, rfl, hv, hb⟩
  obtain ⟨ga, gk, gb, go, rfl, gm, _, _, _⟩ := hv.opened
  clear c0 c1 c2 x0 x1 x2 s0 s1 nc0
  have HS15 := Lib.hid (HS14.out.next hb)
  have HX15 := Lib.hid ((hb.block _ (heap_lt HX14.out)).trans HX14.out)
  have HU15 := Lib.hid ((HU14.out.below hb).mono hb.size)
  have HN15 := Lib.hid (HN14.out.below hb)
  have HW15 := Lib.hid ((HW14.out.below hb).mono hb.size)
  have HP15 := Lib.hid ((hb.block _ (heap_lt HP14.out)).trans HP14.out)
  have HL15 := Lib.hid ((HL14.out.below hb).mono hb.size)
  have HQ15 := Lib.hid (HQ14.out.below hb)
  have HC15 := Lib.hid ((hb.cell (block_lt_of_cell HC14.out)).trans HC14.out)
  have HG15 := Lib.hid (hv)
  clear HS14 HX14 HU14 HN14 HW14 HP14 HL14 HQ14 HC14 hb
  obtain ⟨c0, c1, c2⟩ := HS15.out.cells
  obtain ⟨x0, x1, x2⟩ := box3c HX15.out
  obtain ⟨s0, s1⟩ := box2t HP15.out
  have nc0 := HC15.out
  clear hv
  go_wp2_with fail
  refine (Bars_v HBL.out HEP.out rfl rfl HS15.out.st HV.out HP64.out).mono ?_
  rintro e z16 ⟨bv, rfl, hv, hb⟩
  obtain ⟨ba, bk, bb, bo, rfl, bm, _, _, _⟩ := hv.opened
  clear c0 c1 c2 x0 x1 x2 s0 s1 nc0
  have HS16 := Lib.hid (HS15.out.next hb)
  have HX16 := Lib.hid ((hb.block _ (heap_lt HX15.out)).trans HX15.out)
  have HU16 := Lib.hid ((HU15.out.below hb).mono hb.size)
  have HN16 := Lib.hid (HN15.out.below hb)
  have HW16 := Lib.hid ((HW15.out.below hb).mono hb.size)
  have HP16 := Lib.hid ((hb.block _ (heap_lt HP15.out)).trans HP15.out)
  have HL16 := Lib.hid ((HL15.out.below hb).mono hb.size)
  have HQ16 := Lib.hid (HQ15.out.below hb)
  have HC16 := Lib.hid ((hb.cell (block_lt_of_cell HC15.out)).trans HC15.out)
  have HG16 := Lib.hid ((HG15.out.below hb).mono hb.size)
  have HB16 := Lib.hid (hv)
  clear HS15 HX15 HU15 HN15 HW15 HP15 HL15 HQ15 HC15 HG15 hb
  obtain ⟨c0, c1, c2⟩ := HS16.out.cells
  obtain ⟨x0, x1, x2⟩ := box3c HX16.out
  obtain ⟨s0, s1⟩ := box2t HP16.out
  have nc0 := HC16.out
  clear hv
  go_wp2_with fail
  refine (Smiths_v HSL.out HEP.out rfl rfl HS16.out.st HV.out HP64.out).mono ?_
  rintro e z17 ⟨kv, rfl, hv, hb⟩
  obtain ⟨ka, kk, kb, ko, rfl, km, _, _, _⟩ := hv.opened
  clear c0 c1 c2 x0 x1 x2 s0 s1 nc0
  have HS17 := Lib.hid (HS16.out.next hb)
  have HX17 := Lib.hid ((hb.block _ (heap_lt HX16.out)).trans HX16.out)
  have HU17 := Lib.hid ((HU16.out.below hb).mono hb.size)
  have HN17 := Lib.hid (HN16.out.below hb)
  have HW17 := Lib.hid ((HW16.out.below hb).mono hb.size)
  have HP17 := Lib.hid ((hb.block _ (heap_lt HP16.out)).trans HP16.out)
  have HL17 := Lib.hid ((HL16.out.below hb).mono hb.size)
  have HQ17 := Lib.hid (HQ16.out.below hb)
  have HC17 := Lib.hid ((hb.cell (block_lt_of_cell HC16.out)).trans HC16.out)
  have HG17 := Lib.hid ((HG16.out.below hb).mono hb.size)
  have HB17 := Lib.hid ((HB16.out.below hb).mono hb.size)
  have HK17 := Lib.hid (hv)
  clear HS16 HX16 HU16 HN16 HW16 HP16 HL16 HQ16 HC16 HG16 HB16 hb
  obtain ⟨c0, c1, c2⟩ := HS17.out.cells
  obtain ⟨x0, x1, x2⟩ := box3c HX17.out
  obtain ⟨s0, s1⟩ := box2t HP17.out
  have nc0 := HC17.out
  clear hv
  go_wp2_with fail
  refine (Alike_l HAV.out HNE.out HS17.out.st HV.out HPL.out HOL.out).mono ?_
  rintro e z18 ⟨rfl, hb⟩
  clear c0 c1 c2 x0 x1 x2 s0 s1 nc0
  have HS18 := Lib.hid (HS17.out.next hb)
  have HX18 := Lib.hid ((hb.block _ (heap_lt HX17.out)).trans HX17.out)
  have HU18 := Lib.hid ((HU17.out.below hb).mono hb.size)
  have HN18 := Lib.hid (HN17.out.below hb)
  have HW18 := Lib.hid ((HW17.out.below hb).mono hb.size)
  have HP18 := Lib.hid ((hb.block _ (heap_lt HP17.out)).trans HP17.out)
  have HL18 := Lib.hid ((HL17.out.below hb).mono hb.size)
  have HQ18 := Lib.hid (HQ17.out.below hb)
  have HC18 := Lib.hid ((hb.cell (block_lt_of_cell HC17.out)).trans HC17.out)
  have HG18 := Lib.hid ((HG17.out.below hb).mono hb.size)
  have HB18 := Lib.hid ((HB17.out.below hb).mono hb.size)
  have HK18 := Lib.hid ((HK17.out.below hb).mono hb.size)
  clear HS17 HX17 HU17 HN17 HW17 HP17 HL17 HQ17 HC17 HG17 HB17 HK17 hb
  obtain ⟨c0, c1, c2⟩ := HS18.out.cells
  obtain ⟨x0, x1, x2⟩ := box3c HX18.out
  obtain ⟨s0, s1⟩ := box2t HP18.out
  have nc0 := HC18.out
  clear c0 c1 c2 x0 x1 x2 s0 s1 nc0
  go_upto_region 22 with fail
  refine wp_region_facts _ 14 [193, 194, 195, 196, 197, 198, 199, 200, 201, 202, 203, 204, 205, 22] [isV (.pointer (some ⟨w.heap.size, 0, none⟩)), isV (.slice (some ⟨b, off, none⟩) C.deeds.length cap), isV (.agg #[.slice (some ⟨b, off, none⟩) C.deeds.length cap, .slice a2 C.sights.length cap2, .int .i64 C.wrong]), ⟨fun v W => OwnInts W v (weldIx C.deeds C.deeds.length), fun _ _ _ h hb => h.below hb⟩, isV (.slice (some ⟨ng, 0, none⟩) M nc), isV (.pointer (some ⟨w.heap.size + 1, 0, none⟩)), isV (.int .i64 (p : Int)), isV (.pointer (some ⟨ng, p, none⟩)), isV (.int .i64 (q : Int)), ⟨fun v W => ∃ g, v = .pointer (some ⟨g, q, none⟩) ∧ W.cell? ⟨g, q, none⟩ = some (.int .i64 (j : Int)), fun _ _ _ ⟨g, h1, h2⟩ hb => ⟨g, h1, (hb.cell (block_lt_of_cell h2)).trans h2⟩⟩, isV (.int .i64 (j : Int)), isV (.pointer (some ⟨b, off + j * 5, none⟩)), isV (.agg #[.int .i64 d.what, .int .i64 d.at_, .int .i64 d.from_, .int .i64 d.bar, .int .i64 d.smith]), ⟨fun v W => ∃ m, v = .pointer (some ⟨m, 0, none⟩) ∧ z18.heap.size ≤ m ∧ W.heap[m]? = some (.cells #[.int .i64 0, .int .i64 0, .int .i64 0, .int .i64 0, .int .i64 0] 55), fun _ _ _ ⟨m, h1, h2, h3⟩ hb => ⟨m, h1, h2, (hb.block m (heap_lt h3)).trans h3⟩⟩] (by kernel_rfl) (by kernel_rfl) (by kernel_rfl) rfl (by decide) (by decide) (by simp) ?step ?rest
  case step =>
    intro i ac W d hi hd hb hoff hdep
    have hs := HS18.out.next hb
    obtain ⟨c0, c1, c2⟩ := hs.cells
    obtain ⟨x0, x1, x2⟩ := box3c ((hb.block _ (heap_lt HX18.out)).trans HX18.out)
    obtain ⟨d0, d1, d2, d3, d4⟩ := HD0.out.below hs.b hbw
    have nc0 := (hb.cell (block_lt_of_cell HC18.out)).trans HC18.out
    have hi2 : i = 0 ∨ i = 1 ∨ i = 2 ∨ i = 3 ∨ i = 4 ∨ i = 5 ∨ i = 6 ∨ i = 7 ∨ i = 8 ∨ i = 9 ∨ i = 10 ∨ i = 11 ∨ i = 12 ∨ i = 13 := by omega
    rcases hi2 with rfl | rfl | rfl | rfl | rfl | rfl | rfl | rfl | rfl | rfl | rfl | rfl | rfl | rfl
    · obtain rfl : 193 = d := by simpa using hd
      have q3 : ac.tmps[3]?.getD undef = .pointer (some ⟨w.heap.size, 0, none⟩) := (eval_tmp _ _).symm.trans <| (hoff 3 (by decide)).trans rfl
      refine fact_value rfl rfl rfl (v := .pointer (some ⟨w.heap.size, 0, none⟩)) (W' := W) ?_ (Below.refl _ _) rfl
      simp only [execOp]
      go_simp
    · obtain rfl : 194 = d := by simpa using hd
      have q193 : ac.tmps[193]?.getD undef = .pointer (some ⟨w.heap.size, 0, none⟩) := (eval_tmp _ _).symm.trans (hdep 0 193 rfl rfl)
      refine fact_value rfl rfl rfl (v := .slice (some ⟨b, off, none⟩) C.deeds.length cap) (W' := W) ?_ (Below.refl _ _) rfl
      simp only [execOp]
      go_simp
    · obtain rfl : 195 = d := by simpa using hd
      have q3 : ac.tmps[3]?.getD undef = .pointer (some ⟨w.heap.size, 0, none⟩) := (eval_tmp _ _).symm.trans <| (hoff 3 (by decide)).trans rfl
      refine fact_value rfl rfl rfl (v := .agg #[.slice (some ⟨b, off, none⟩) C.deeds.length cap, .slice a2 C.sights.length cap2, .int .i64 C.wrong]) (W' := W) ?_ (Below.refl _ _) rfl
      simp only [execOp]
      go_simp
    · obtain rfl : 196 = d := by simpa using hd
      have q195 : ac.tmps[195]?.getD undef = .agg #[.slice (some ⟨b, off, none⟩) C.deeds.length cap, .slice a2 C.sights.length cap2, .int .i64 C.wrong] := (eval_tmp _ _).symm.trans (hdep 2 195 rfl rfl)
      refine fact_call rfl rfl rfl (f := 54) (args := #[.agg #[.slice (some ⟨b, off, none⟩) C.deeds.length cap, .slice a2 C.sights.length cap2, .int .i64 C.wrong]]) ?_ ?_
      · simp only [execOp]
        go_simp
      · refine (Welds_o _ C W HN40.out hs.st).mono ?_
        rintro e W' ⟨q, rfl, hls, hbk⟩
        exact ⟨q, rfl, hbk, hls⟩
    · obtain rfl : 197 = d := by simpa using hd
      have q7 : ac.tmps[7]?.getD undef = .slice (some ⟨ng, 0, none⟩) M nc := (eval_tmp _ _).symm.trans <| (hoff 7 (by decide)).trans rfl
      refine fact_value rfl rfl rfl (v := .slice (some ⟨ng, 0, none⟩) M nc) (W' := W) ?_ (Below.refl _ _) rfl
      simp only [execOp]
      go_simp
    · obtain rfl : 198 = d := by simpa using hd
      have q5 : ac.tmps[5]?.getD undef = .pointer (some ⟨w.heap.size + 1, 0, none⟩) := (eval_tmp _ _).symm.trans <| (hoff 5 (by decide)).trans rfl
      refine fact_value rfl rfl rfl (v := .pointer (some ⟨w.heap.size + 1, 0, none⟩)) (W' := W) ?_ (Below.refl _ _) rfl
      simp only [execOp]
      go_simp
    · obtain rfl : 199 = d := by simpa using hd
      have q198 : ac.tmps[198]?.getD undef = .pointer (some ⟨w.heap.size + 1, 0, none⟩) := (eval_tmp _ _).symm.trans (hdep 5 198 rfl rfl)
      refine fact_value rfl rfl rfl (v := .int .i64 (p : Int)) (W' := W) ?_ (Below.refl _ _) rfl
      simp only [execOp]
      go_simp
    · obtain rfl : 200 = d := by simpa using hd
      have q197 : ac.tmps[197]?.getD undef = .slice (some ⟨ng, 0, none⟩) M nc := (eval_tmp _ _).symm.trans (hdep 4 197 rfl rfl)
      have q199 : ac.tmps[199]?.getD undef = .int .i64 (p : Int) := (eval_tmp _ _).symm.trans (hdep 6 199 rfl rfl)
      refine fact_value rfl rfl rfl (v := .pointer (some ⟨ng, p, none⟩)) (W' := W) ?_ (Below.refl _ _) rfl
      simp only [execOp]
      go_simp
    · obtain rfl : 201 = d := by simpa using hd
      have q200 : ac.tmps[200]?.getD undef = .pointer (some ⟨ng, p, none⟩) := (eval_tmp _ _).symm.trans (hdep 7 200 rfl rfl)
      refine fact_value rfl rfl rfl (v := .int .i64 (q : Int)) (W' := W) ?_ (Below.refl _ _) rfl
      simp only [execOp]
      go_simp
    · obtain rfl : 202 = d := by simpa using hd
      have q196 : OwnInts W (ac.tmps[196]?.getD undef) (weldIx C.deeds C.deeds.length) := eval_tmp ac _ ▸ hdep 3 196 rfl rfl
      have q201 : ac.tmps[201]?.getD undef = .int .i64 (q : Int) := (eval_tmp _ _).symm.trans (hdep 8 201 rfl rfl)
      obtain ⟨g, c, hq, hcell⟩ := q196.at ((show q < (weldIx C.deeds C.deeds.length).length by rw [weldIx_len]; exact HQW.out))
      rw [HJ.out] at hcell
      have i1 : (0 : Int) ≤ (q : Nat) := by omega
      have i2 : ((q : Nat) : Int) < ((weldIx C.deeds C.deeds.length).length : Int) := by have := (show q < (weldIx C.deeds C.deeds.length).length by rw [weldIx_len]; exact HQW.out); omega
      refine fact_value rfl rfl rfl (v := .pointer (some ⟨g, q, none⟩)) (W' := W) ?_ (Below.refl _ _) ⟨g, rfl, hcell⟩
      simp only [execOp]
      go_simp
    · obtain rfl : 203 = d := by simpa using hd
      have q202 : ∃ g, (ac.tmps[202]?.getD undef) = .pointer (some ⟨g, q, none⟩) ∧ W.cell? ⟨g, q, none⟩ = some (.int .i64 (j : Int)) := eval_tmp ac _ ▸ hdep 9 202 rfl rfl
      obtain ⟨g, hq, hcell⟩ := q202
      refine fact_value rfl rfl rfl (v := .int .i64 (j : Int)) (W' := W) ?_ (Below.refl _ _) rfl
      simp only [execOp]
      go_simp
    · obtain rfl : 204 = d := by simpa using hd
      have q194 : ac.tmps[194]?.getD undef = .slice (some ⟨b, off, none⟩) C.deeds.length cap := (eval_tmp _ _).symm.trans (hdep 1 194 rfl rfl)
      have q203 : ac.tmps[203]?.getD undef = .int .i64 (j : Int) := (eval_tmp _ _).symm.trans (hdep 10 203 rfl rfl)
      refine fact_value rfl rfl rfl (v := .pointer (some ⟨b, off + j * 5, none⟩)) (W' := W) ?_ (Below.refl _ _) rfl
      simp only [execOp]
      go_simp
    · obtain rfl : 205 = d := by simpa using hd
      have q204 : ac.tmps[204]?.getD undef = .pointer (some ⟨b, off + j * 5, none⟩) := (eval_tmp _ _).symm.trans (hdep 11 204 rfl rfl)
      refine fact_value rfl rfl rfl (v := .agg #[.int .i64 d.what, .int .i64 d.at_, .int .i64 d.from_, .int .i64 d.bar, .int .i64 d.smith]) (W' := W) ?_ (Below.refl _ _) rfl
      simp only [execOp]
      go_simp
    · obtain rfl : 22 = d := by simpa using hd
      refine fact_value rfl rfl rfl (v := .pointer (some ⟨W.heap.size, 0, none⟩)) (W' := W.alloc (.cells #[.int .i64 0, .int .i64 0, .int .i64 0, .int .i64 0, .int .i64 0] 55)) ?_ ((Below.refl _ _).alloc (Nat.le_refl _) _) ⟨_, rfl, by have := hb.size; omega, heap_new _ _⟩
      simp only [execOp]
      go_simp
  case rest =>
    intro vs W2 hvl hbx hval
    obtain ⟨y0, y1, y2, y3, y4, y5, y6, y7, y8, y9, y10, y11, y12, y13, rfl⟩ : ∃ y0 y1 y2 y3 y4 y5 y6 y7 y8 y9 y10 y11 y12 y13, vs = [y0, y1, y2, y3, y4, y5, y6, y7, y8, y9, y10, y11, y12, y13] := by
      match vs, hvl with
      | [y0, y1, y2, y3, y4, y5, y6, y7, y8, y9, y10, y11, y12, y13], _ => exact ⟨y0, y1, y2, y3, y4, y5, y6, y7, y8, y9, y10, y11, y12, y13, rfl⟩
    obtain rfl : y0 = .pointer (some ⟨w.heap.size, 0, none⟩) := by obtain ⟨u, e, h⟩ := hval 0 (by omega); have e2 : some y0 = some u := e; injection e2 with e2; subst e2; exact h
    obtain rfl : y1 = .slice (some ⟨b, off, none⟩) C.deeds.length cap := by obtain ⟨u, e, h⟩ := hval 1 (by omega); have e2 : some y1 = some u := e; injection e2 with e2; subst e2; exact h
    obtain rfl : y2 = .agg #[.slice (some ⟨b, off, none⟩) C.deeds.length cap, .slice a2 C.sights.length cap2, .int .i64 C.wrong] := by obtain ⟨u, e, h⟩ := hval 2 (by omega); have e2 : some y2 = some u := e; injection e2 with e2; subst e2; exact h
    have k3 : OwnInts W2 y3 (weldIx C.deeds C.deeds.length) := by obtain ⟨u, e, h⟩ := hval 3 (by omega); have e2 : some y3 = some u := e; injection e2 with e2; subst e2; exact h
    obtain rfl : y4 = .slice (some ⟨ng, 0, none⟩) M nc := by obtain ⟨u, e, h⟩ := hval 4 (by omega); have e2 : some y4 = some u := e; injection e2 with e2; subst e2; exact h
    obtain rfl : y5 = .pointer (some ⟨w.heap.size + 1, 0, none⟩) := by obtain ⟨u, e, h⟩ := hval 5 (by omega); have e2 : some y5 = some u := e; injection e2 with e2; subst e2; exact h
    obtain rfl : y6 = .int .i64 (p : Int) := by obtain ⟨u, e, h⟩ := hval 6 (by omega); have e2 : some y6 = some u := e; injection e2 with e2; subst e2; exact h
    obtain rfl : y7 = .pointer (some ⟨ng, p, none⟩) := by obtain ⟨u, e, h⟩ := hval 7 (by omega); have e2 : some y7 = some u := e; injection e2 with e2; subst e2; exact h
    obtain rfl : y8 = .int .i64 (q : Int) := by obtain ⟨u, e, h⟩ := hval 8 (by omega); have e2 : some y8 = some u := e; injection e2 with e2; subst e2; exact h
    have k9 : ∃ g, y9 = .pointer (some ⟨g, q, none⟩) ∧ W2.cell? ⟨g, q, none⟩ = some (.int .i64 (j : Int)) := by obtain ⟨u, e, h⟩ := hval 9 (by omega); have e2 : some y9 = some u := e; injection e2 with e2; subst e2; exact h
    obtain rfl : y10 = .int .i64 (j : Int) := by obtain ⟨u, e, h⟩ := hval 10 (by omega); have e2 : some y10 = some u := e; injection e2 with e2; subst e2; exact h
    obtain rfl : y11 = .pointer (some ⟨b, off + j * 5, none⟩) := by obtain ⟨u, e, h⟩ := hval 11 (by omega); have e2 : some y11 = some u := e; injection e2 with e2; subst e2; exact h
    obtain rfl : y12 = .agg #[.int .i64 d.what, .int .i64 d.at_, .int .i64 d.from_, .int .i64 d.bar, .int .i64 d.smith] := by obtain ⟨u, e, h⟩ := hval 12 (by omega); have e2 : some y12 = some u := e; injection e2 with e2; subst e2; exact h
    have k13 : ∃ m, y13 = .pointer (some ⟨m, 0, none⟩) ∧ z18.heap.size ≤ m ∧ W2.heap[m]? = some (.cells #[.int .i64 0, .int .i64 0, .int .i64 0, .int .i64 0, .int .i64 0] 55) := by obtain ⟨u, e, h⟩ := hval 13 (by omega); have e2 : some y13 = some u := e; injection e2 with e2; subst e2; exact h
    clear hval hvl
    obtain ⟨dm, rfl, hml, hmb⟩ := k13
    obtain ⟨⟨m0, m1, m2, m3, m4⟩, mf⟩ := box5f_of hmb
    have mf0 := mf 0
    have mf1 := mf 1
    have mf2 := mf 2
    have mf3 := mf 3
    have mf4 := mf 4
    have HMB := Lib.hid hmb
    have HBX := Lib.hid hbx
    clear k3 k9 hbx mf hmb
    simp only [putL, Act.put, List.drop, List.setIfInBounds_toArray, List.set_cons_zero, List.set_cons_succ]
    go_upto_region 23 with fail
    obtain ⟨z19, hY⟩ : ∃ z19, z19 = put5 W2 dm (.int .i64 d.what) (.int .i64 d.at_) (.int .i64 d.from_) (.int .i64 d.bar) (.int .i64 d.smith) := ⟨_, rfl⟩
    have hYm : z19.heap[dm]? = some (.cells #[.int .i64 d.what, .int .i64 d.at_, .int .i64 d.from_, .int .i64 d.bar, .int .i64 d.smith] 55) := by rw [hY]; exact put5_heap HMB.out
    have hb : Below z18.heap.size z18 z19 := by rw [hY]; exact put5_below HBX.out hml
    unfold put5 at hY
    rw [← hY]
    clear hY m0 m1 m2 m3 m4 mf0 mf1 mf2 mf3 mf4
    have HS19 := Lib.hid (HS18.out.next hb)
    have HX19 := Lib.hid ((hb.block _ (heap_lt HX18.out)).trans HX18.out)
    have HU19 := Lib.hid ((HU18.out.below hb).mono hb.size)
    have HN19 := Lib.hid (HN18.out.below hb)
    have HW19 := Lib.hid ((HW18.out.below hb).mono hb.size)
    have HP19 := Lib.hid ((hb.block _ (heap_lt HP18.out)).trans HP18.out)
    have HL19 := Lib.hid ((HL18.out.below hb).mono hb.size)
    have HQ19 := Lib.hid (HQ18.out.below hb)
    have HC19 := Lib.hid ((hb.cell (block_lt_of_cell HC18.out)).trans HC18.out)
    have HG19 := Lib.hid ((HG18.out.below hb).mono hb.size)
    have HB19 := Lib.hid ((HB18.out.below hb).mono hb.size)
    have HK19 := Lib.hid ((HK18.out.below hb).mono hb.size)
    have HD19 := Lib.hid (hYm)
    clear HS18 HX18 HU18 HN18 HW18 HP18 HL18 HQ18 HC18 HG18 HB18 HK18 hb
    clear hYm
    obtain ⟨c0, c1, c2⟩ := HS19.out.cells
    obtain ⟨x0, x1, x2⟩ := box3c HX19.out
    obtain ⟨s0, s1⟩ := box2t HP19.out
    obtain ⟨m0, m1, m2, m3, m4⟩ := box5j HD19.out
    have nc0 := HC19.out
    have hnew := heap_new z19 (.cells #[.slice ga WL.length gk, .slice ba BL.length bk, .slice ka SL.length kk] 33)
    go_wp2_with fail
    refine (small_any z19.heap.size 3 _ _ _ hnew (by omega) (fun i hi => by
      match i, hi with
      | 0, _ => exact ⟨_, _, _, rfl, hWL40⟩
      | 1, _ => exact ⟨_, _, _, rfl, hBL40⟩
      | 2, _ => exact ⟨_, _, _, rfl, hSL40⟩)).mono ?_
    rintro e zz ⟨rfl, rfl⟩
    have hb := (Below.refl _ z19).alloc (Nat.le_refl _) (.cells #[.slice ga WL.length gk, .slice ba BL.length bk, .slice ka SL.length kk] 33)
    clear hnew c0 c1 c2 x0 x1 x2 s0 s1 m0 m1 m2 m3 m4 nc0
    have HS20 := Lib.hid (HS19.out.next hb)
    have HX20 := Lib.hid ((hb.block _ (heap_lt HX19.out)).trans HX19.out)
    have HU20 := Lib.hid ((HU19.out.below hb).mono hb.size)
    have HN20 := Lib.hid (HN19.out.below hb)
    have HW20 := Lib.hid ((HW19.out.below hb).mono hb.size)
    have HP20 := Lib.hid ((hb.block _ (heap_lt HP19.out)).trans HP19.out)
    have HL20 := Lib.hid ((HL19.out.below hb).mono hb.size)
    have HQ20 := Lib.hid (HQ19.out.below hb)
    have HC20 := Lib.hid ((hb.cell (block_lt_of_cell HC19.out)).trans HC19.out)
    have HG20 := Lib.hid ((HG19.out.below hb).mono hb.size)
    have HB20 := Lib.hid ((HB19.out.below hb).mono hb.size)
    have HK20 := Lib.hid ((HK19.out.below hb).mono hb.size)
    have HD20 := Lib.hid ((hb.block _ (heap_lt HD19.out)).trans HD19.out)
    clear HS19 HX19 HU19 HN19 HW19 HP19 HL19 HQ19 HC19 HG19 HB19 HK19 HD19 hb
    obtain ⟨z20, hz20⟩ : ∃ z20, z19.alloc (.cells #[.slice ga WL.length gk, .slice ba BL.length bk, .slice ka SL.length kk] 33) = z20 := ⟨_, rfl⟩
    rw [hz20] at HS20 HX20 HU20 HN20 HW20 HP20 HL20 HQ20 HC20 HG20 HB20 HK20 HD20 ⊢
    clear hz20
    obtain ⟨c0, c1, c2⟩ := HS20.out.cells
    obtain ⟨x0, x1, x2⟩ := box3c HX20.out
    obtain ⟨s0, s1⟩ := box2t HP20.out
    obtain ⟨m0, m1, m2, m3, m4⟩ := box5j HD20.out
    have nc0 := HC20.out
    go_upto_region 25 with (go_at_call 50; first | (refine (in_to HWin.out HG20.out).mono ?_; rintro e w' ⟨rfl, rfl⟩) | (refine (in_to HBin.out HB20.out).mono ?_; rintro e w' ⟨rfl, rfl⟩) | (refine (in_to HSin.out HK20.out).mono ?_; rintro e w' ⟨rfl, rfl⟩))
    clear c0 c1 c2 x0 x1 x2 s0 s1 m0 m1 m2 m3 m4 nc0
    refine wp_region_facts _ 12 [253, 254, 255, 256, 257, 258, 259, 252, 260, 261, 23, 24] [isV (.agg #[.slice (some ⟨b, off, none⟩) C.deeds.length cap, .slice a2 C.sights.length cap2, .int .i64 C.wrong]), isV (.slice (some ⟨ng, 0, none⟩) M nc), isV (.pointer (some ⟨w.heap.size + 1, 0, none⟩)), isV (.int .i64 (p : Int)), isV (.pointer (some ⟨ng, p, none⟩)), isV (.int .i64 (q : Int)), ⟨fun v W => ∃ v1, v = .tuple #[v1, .int .i64 0] ∧ IntsAt W.heap.size W v1 AT, fun _ _ _ ⟨v1, h1, h2⟩ hb => ⟨v1, h1, (h2.below hb).mono hb.size⟩⟩, ⟨fun v W => ∃ v1, v = .tuple #[v1, .int .i64 0] ∧ IntsAt W.heap.size W v1 AT, fun _ _ _ ⟨v1, h1, h2⟩ hb => ⟨v1, h1, (h2.below hb).mono hb.size⟩⟩, ⟨fun v W => IntsAt W.heap.size W v AT, fun _ _ _ h hb => (h.below hb).mono hb.size⟩, isV (.int .i64 0), ⟨fun v W => IntsAt W.heap.size W v AT, fun _ _ _ h hb => (h.below hb).mono hb.size⟩, isV (.int .i64 0)] (by kernel_rfl) (by kernel_rfl) (by kernel_rfl) rfl (by decide) (by decide) (by simp) ?step ?rest
    case step =>
      intro i ac W d hi hd hb hoff hdep
      have hs := HS20.out.next hb
      obtain ⟨c0, c1, c2⟩ := hs.cells
      obtain ⟨x0, x1, x2⟩ := box3c ((hb.block _ (heap_lt HX20.out)).trans HX20.out)
      have nc0 := (hb.cell (block_lt_of_cell HC20.out)).trans HC20.out
      have hi2 : i = 0 ∨ i = 1 ∨ i = 2 ∨ i = 3 ∨ i = 4 ∨ i = 5 ∨ i = 6 ∨ i = 7 ∨ i = 8 ∨ i = 9 ∨ i = 10 ∨ i = 11 := by omega
      rcases hi2 with rfl | rfl | rfl | rfl | rfl | rfl | rfl | rfl | rfl | rfl | rfl | rfl
      · obtain rfl : 253 = d := by simpa using hd
        have q3 : ac.tmps[3]?.getD undef = .pointer (some ⟨w.heap.size, 0, none⟩) := (eval_tmp _ _).symm.trans <| (hoff 3 (by decide)).trans rfl
        refine fact_value rfl rfl rfl (v := .agg #[.slice (some ⟨b, off, none⟩) C.deeds.length cap, .slice a2 C.sights.length cap2, .int .i64 C.wrong]) (W' := W) ?_ (Below.refl _ _) rfl
        simp only [execOp]
        go_simp
      · obtain rfl : 254 = d := by simpa using hd
        have q7 : ac.tmps[7]?.getD undef = .slice (some ⟨ng, 0, none⟩) M nc := (eval_tmp _ _).symm.trans <| (hoff 7 (by decide)).trans rfl
        refine fact_value rfl rfl rfl (v := .slice (some ⟨ng, 0, none⟩) M nc) (W' := W) ?_ (Below.refl _ _) rfl
        simp only [execOp]
        go_simp
      · obtain rfl : 255 = d := by simpa using hd
        have q5 : ac.tmps[5]?.getD undef = .pointer (some ⟨w.heap.size + 1, 0, none⟩) := (eval_tmp _ _).symm.trans <| (hoff 5 (by decide)).trans rfl
        refine fact_value rfl rfl rfl (v := .pointer (some ⟨w.heap.size + 1, 0, none⟩)) (W' := W) ?_ (Below.refl _ _) rfl
        simp only [execOp]
        go_simp
      · obtain rfl : 256 = d := by simpa using hd
        have q255 : ac.tmps[255]?.getD undef = .pointer (some ⟨w.heap.size + 1, 0, none⟩) := (eval_tmp _ _).symm.trans (hdep 2 255 rfl rfl)
        refine fact_value rfl rfl rfl (v := .int .i64 (p : Int)) (W' := W) ?_ (Below.refl _ _) rfl
        simp only [execOp]
        go_simp
      · obtain rfl : 257 = d := by simpa using hd
        have q254 : ac.tmps[254]?.getD undef = .slice (some ⟨ng, 0, none⟩) M nc := (eval_tmp _ _).symm.trans (hdep 1 254 rfl rfl)
        have q256 : ac.tmps[256]?.getD undef = .int .i64 (p : Int) := (eval_tmp _ _).symm.trans (hdep 3 256 rfl rfl)
        refine fact_value rfl rfl rfl (v := .pointer (some ⟨ng, p, none⟩)) (W' := W) ?_ (Below.refl _ _) rfl
        simp only [execOp]
        go_simp
      · obtain rfl : 258 = d := by simpa using hd
        have q257 : ac.tmps[257]?.getD undef = .pointer (some ⟨ng, p, none⟩) := (eval_tmp _ _).symm.trans (hdep 4 257 rfl rfl)
        refine fact_value rfl rfl rfl (v := .int .i64 (q : Int)) (W' := W) ?_ (Below.refl _ _) rfl
        simp only [execOp]
        go_simp
      · obtain rfl : 259 = d := by simpa using hd
        have q253 : ac.tmps[253]?.getD undef = .agg #[.slice (some ⟨b, off, none⟩) C.deeds.length cap, .slice a2 C.sights.length cap2, .int .i64 C.wrong] := (eval_tmp _ _).symm.trans (hdep 0 253 rfl rfl)
        have q258 : ac.tmps[258]?.getD undef = .int .i64 (q : Int) := (eval_tmp _ _).symm.trans (hdep 5 258 rfl rfl)
        refine fact_call rfl rfl rfl (f := 32) (args := #[.agg #[.slice (some ⟨b, off, none⟩) C.deeds.length cap, .slice a2 C.sights.length cap2, .int .i64 C.wrong], .int .i64 (q : Int)]) ?_ ?_
        · simp only [execOp]
          go_simp
        · refine (Where_v HAT.out HEQ.out rfl rfl hs.st HV.out).mono ?_
          rintro e W' ⟨v1, rfl, hv, hbk⟩
          exact ⟨_, rfl, hbk, v1, rfl, hv⟩
      · obtain rfl : 252 = d := by simpa using hd
        have q259 : ∃ v1, (ac.tmps[259]?.getD undef) = .tuple #[v1, .int .i64 0] ∧ IntsAt W.heap.size W v1 AT := eval_tmp ac _ ▸ hdep 6 259 rfl rfl
        refine fact_value rfl rfl rfl (v := _) (W' := W) ?_ (Below.refl _ _) q259
        simp only [execOp]
        go_simp
      · obtain rfl : 260 = d := by simpa using hd
        have q252 : ∃ v1, (ac.tmps[252]?.getD undef) = .tuple #[v1, .int .i64 0] ∧ IntsAt W.heap.size W v1 AT := eval_tmp ac _ ▸ hdep 7 252 rfl rfl
        obtain ⟨v1, h1, h2⟩ := q252
        refine fact_value rfl rfl rfl (v := v1) (W' := W) ?_ (Below.refl _ _) h2
        simp only [execOp]
        go_simp
      · obtain rfl : 261 = d := by simpa using hd
        have q252 : ∃ v1, (ac.tmps[252]?.getD undef) = .tuple #[v1, .int .i64 0] ∧ IntsAt W.heap.size W v1 AT := eval_tmp ac _ ▸ hdep 7 252 rfl rfl
        obtain ⟨v1, h1, h2⟩ := q252
        refine fact_value rfl rfl rfl (v := .int .i64 0) (W' := W) ?_ (Below.refl _ _) rfl
        simp only [execOp]
        go_simp
      · obtain rfl : 23 = d := by simpa using hd
        have q260 : IntsAt W.heap.size W (ac.tmps[260]?.getD undef) AT := eval_tmp ac _ ▸ hdep 8 260 rfl rfl
        refine fact_value rfl rfl rfl (v := _) (W' := W) ?_ (Below.refl _ _) q260
        simp only [execOp]
        go_simp
      · obtain rfl : 24 = d := by simpa using hd
        have q261 : ac.tmps[261]?.getD undef = .int .i64 0 := (eval_tmp _ _).symm.trans (hdep 9 261 rfl rfl)
        refine fact_value rfl rfl rfl (v := .int .i64 0) (W' := W) ?_ (Below.refl _ _) rfl
        simp only [execOp]
        go_simp
    case rest =>
      intro vs z21 hvl hb hval
      obtain ⟨y0, y1, y2, y3, y4, y5, y6, y7, y8, y9, y10, y11, rfl⟩ : ∃ y0 y1 y2 y3 y4 y5 y6 y7 y8 y9 y10 y11, vs = [y0, y1, y2, y3, y4, y5, y6, y7, y8, y9, y10, y11] := by
        match vs, hvl with
        | [y0, y1, y2, y3, y4, y5, y6, y7, y8, y9, y10, y11], _ => exact ⟨y0, y1, y2, y3, y4, y5, y6, y7, y8, y9, y10, y11, rfl⟩
      obtain rfl : y0 = .agg #[.slice (some ⟨b, off, none⟩) C.deeds.length cap, .slice a2 C.sights.length cap2, .int .i64 C.wrong] := by obtain ⟨u, e, h⟩ := hval 0 (by omega); have e2 : some y0 = some u := e; injection e2 with e2; subst e2; exact h
      obtain rfl : y1 = .slice (some ⟨ng, 0, none⟩) M nc := by obtain ⟨u, e, h⟩ := hval 1 (by omega); have e2 : some y1 = some u := e; injection e2 with e2; subst e2; exact h
      obtain rfl : y2 = .pointer (some ⟨w.heap.size + 1, 0, none⟩) := by obtain ⟨u, e, h⟩ := hval 2 (by omega); have e2 : some y2 = some u := e; injection e2 with e2; subst e2; exact h
      obtain rfl : y3 = .int .i64 (p : Int) := by obtain ⟨u, e, h⟩ := hval 3 (by omega); have e2 : some y3 = some u := e; injection e2 with e2; subst e2; exact h
      obtain rfl : y4 = .pointer (some ⟨ng, p, none⟩) := by obtain ⟨u, e, h⟩ := hval 4 (by omega); have e2 : some y4 = some u := e; injection e2 with e2; subst e2; exact h
      obtain rfl : y5 = .int .i64 (q : Int) := by obtain ⟨u, e, h⟩ := hval 5 (by omega); have e2 : some y5 = some u := e; injection e2 with e2; subst e2; exact h
      have k6 : ∃ v1, y6 = .tuple #[v1, .int .i64 0] ∧ IntsAt z21.heap.size z21 v1 AT := by obtain ⟨u, e, h⟩ := hval 6 (by omega); have e2 : some y6 = some u := e; injection e2 with e2; subst e2; exact h
      have k7 : ∃ v1, y7 = .tuple #[v1, .int .i64 0] ∧ IntsAt z21.heap.size z21 v1 AT := by obtain ⟨u, e, h⟩ := hval 7 (by omega); have e2 : some y7 = some u := e; injection e2 with e2; subst e2; exact h
      have k8 : IntsAt z21.heap.size z21 y8 AT := by obtain ⟨u, e, h⟩ := hval 8 (by omega); have e2 : some y8 = some u := e; injection e2 with e2; subst e2; exact h
      obtain rfl : y9 = .int .i64 0 := by obtain ⟨u, e, h⟩ := hval 9 (by omega); have e2 : some y9 = some u := e; injection e2 with e2; subst e2; exact h
      have k10 : IntsAt z21.heap.size z21 y10 AT := by obtain ⟨u, e, h⟩ := hval 10 (by omega); have e2 : some y10 = some u := e; injection e2 with e2; subst e2; exact h
      obtain rfl : y11 = .int .i64 0 := by obtain ⟨u, e, h⟩ := hval 11 (by omega); have e2 : some y11 = some u := e; injection e2 with e2; subst e2; exact h
      clear hval hvl
      obtain ⟨v1, rfl, _⟩ := k6
      obtain ⟨v2, hk7, _⟩ := k7
      subst hk7
      obtain ⟨ea, ek, eb, eo, rfl, em, _, _, _⟩ := k10.opened
      have hv := k10
      clear k8 k10
      simp only [putL, Act.put, List.drop, List.setIfInBounds_toArray, List.set_cons_zero, List.set_cons_succ]
      have HS21 := Lib.hid (HS20.out.next hb)
      have HX21 := Lib.hid ((hb.block _ (heap_lt HX20.out)).trans HX20.out)
      have HU21 := Lib.hid ((HU20.out.below hb).mono hb.size)
      have HN21 := Lib.hid (HN20.out.below hb)
      have HW21 := Lib.hid ((HW20.out.below hb).mono hb.size)
      have HP21 := Lib.hid ((hb.block _ (heap_lt HP20.out)).trans HP20.out)
      have HL21 := Lib.hid ((HL20.out.below hb).mono hb.size)
      have HQ21 := Lib.hid (HQ20.out.below hb)
      have HC21 := Lib.hid ((hb.cell (block_lt_of_cell HC20.out)).trans HC20.out)
      have HG21 := Lib.hid ((HG20.out.below hb).mono hb.size)
      have HB21 := Lib.hid ((HB20.out.below hb).mono hb.size)
      have HK21 := Lib.hid ((HK20.out.below hb).mono hb.size)
      have HD21 := Lib.hid ((hb.block _ (heap_lt HD20.out)).trans HD20.out)
      have HE21 := Lib.hid (hv)
      clear HS20 HX20 HU20 HN20 HW20 HP20 HL20 HQ20 HC20 HG20 HB20 HK20 HD20 hb
      clear hv
      go_upto_region 26 with fail
      refine wp_region_facts _ 12 [262, 263, 264, 265, 266, 267, 268, 269, 270, 271, 272, 25] [isV (.agg #[.slice (some ⟨b, off, none⟩) C.deeds.length cap, .slice a2 C.sights.length cap2, .int .i64 C.wrong]), isV (.slice ua ends.length ucap), isV (.pointer (some ⟨w.heap.size + 1, 0, none⟩)), isV (.int .i64 (p : Int)), isV (.int .i64 BA), isV (.agg #[.slice (some ⟨b, off, none⟩) C.deeds.length cap, .slice a2 C.sights.length cap2, .int .i64 C.wrong]), isV (.slice ua ends.length ucap), isV (.pointer (some ⟨w.heap.size + 1, 1, none⟩)), isV (.int .i64 (o : Int)), isV (.int .i64 BB), isV (.bool (BA == BB)), isV (.bool (BA == BB))] (by kernel_rfl) (by kernel_rfl) (by kernel_rfl) rfl (by decide) (by decide) (by simp) ?step ?rest
      case step =>
        intro i ac W d hi hd hb hoff hdep
        have hs := HS21.out.next hb
        obtain ⟨c0, c1, c2⟩ := hs.cells
        obtain ⟨x0, x1, x2⟩ := box3c ((hb.block _ (heap_lt HX21.out)).trans HX21.out)
        have hu := (HU21.out.below hb).mono hb.size
        have hi2 : i = 0 ∨ i = 1 ∨ i = 2 ∨ i = 3 ∨ i = 4 ∨ i = 5 ∨ i = 6 ∨ i = 7 ∨ i = 8 ∨ i = 9 ∨ i = 10 ∨ i = 11 := by omega
        rcases hi2 with rfl | rfl | rfl | rfl | rfl | rfl | rfl | rfl | rfl | rfl | rfl | rfl
        · obtain rfl : 262 = d := by simpa using hd
          have q3 : ac.tmps[3]?.getD undef = .pointer (some ⟨w.heap.size, 0, none⟩) := (eval_tmp _ _).symm.trans <| (hoff 3 (by decide)).trans rfl
          refine fact_value rfl rfl rfl (v := .agg #[.slice (some ⟨b, off, none⟩) C.deeds.length cap, .slice a2 C.sights.length cap2, .int .i64 C.wrong]) (W' := W) ?_ (Below.refl _ _) rfl
          simp only [execOp]
          go_simp
        · obtain rfl : 263 = d := by simpa using hd
          have q1 : ac.tmps[1]?.getD undef = .slice ua ends.length ucap := (eval_tmp _ _).symm.trans <| (hoff 1 (by decide)).trans rfl
          refine fact_value rfl rfl rfl (v := .slice ua ends.length ucap) (W' := W) ?_ (Below.refl _ _) rfl
          simp only [execOp]
          go_simp
        · obtain rfl : 264 = d := by simpa using hd
          have q5 : ac.tmps[5]?.getD undef = .pointer (some ⟨w.heap.size + 1, 0, none⟩) := (eval_tmp _ _).symm.trans <| (hoff 5 (by decide)).trans rfl
          refine fact_value rfl rfl rfl (v := .pointer (some ⟨w.heap.size + 1, 0, none⟩)) (W' := W) ?_ (Below.refl _ _) rfl
          simp only [execOp]
          go_simp
        · obtain rfl : 265 = d := by simpa using hd
          have q264 : ac.tmps[264]?.getD undef = .pointer (some ⟨w.heap.size + 1, 0, none⟩) := (eval_tmp _ _).symm.trans (hdep 2 264 rfl rfl)
          refine fact_value rfl rfl rfl (v := .int .i64 (p : Int)) (W' := W) ?_ (Below.refl _ _) rfl
          simp only [execOp]
          go_simp
        · obtain rfl : 266 = d := by simpa using hd
          have q262 : ac.tmps[262]?.getD undef = .agg #[.slice (some ⟨b, off, none⟩) C.deeds.length cap, .slice a2 C.sights.length cap2, .int .i64 C.wrong] := (eval_tmp _ _).symm.trans (hdep 0 262 rfl rfl)
          have q263 : ac.tmps[263]?.getD undef = .slice ua ends.length ucap := (eval_tmp _ _).symm.trans (hdep 1 263 rfl rfl)
          have q265 : ac.tmps[265]?.getD undef = .int .i64 (p : Int) := (eval_tmp _ _).symm.trans (hdep 3 265 rfl rfl)
          refine fact_call rfl rfl rfl (f := 55) (args := #[.agg #[.slice (some ⟨b, off, none⟩) C.deeds.length cap, .slice a2 C.sights.length cap2, .int .i64 C.wrong], .slice ua ends.length ucap, .int .i64 (p : Int)]) ?_ ?_
          · simp only [execOp]
            go_simp
          · refine (BarAt_to HBA.out HV.out HL.out HPL.out hs.st hu).mono ?_
            rintro e W' ⟨rfl, hbk⟩
            exact ⟨_, rfl, hbk, rfl⟩
        · obtain rfl : 267 = d := by simpa using hd
          have q3 : ac.tmps[3]?.getD undef = .pointer (some ⟨w.heap.size, 0, none⟩) := (eval_tmp _ _).symm.trans <| (hoff 3 (by decide)).trans rfl
          refine fact_value rfl rfl rfl (v := .agg #[.slice (some ⟨b, off, none⟩) C.deeds.length cap, .slice a2 C.sights.length cap2, .int .i64 C.wrong]) (W' := W) ?_ (Below.refl _ _) rfl
          simp only [execOp]
          go_simp
        · obtain rfl : 268 = d := by simpa using hd
          have q1 : ac.tmps[1]?.getD undef = .slice ua ends.length ucap := (eval_tmp _ _).symm.trans <| (hoff 1 (by decide)).trans rfl
          refine fact_value rfl rfl rfl (v := .slice ua ends.length ucap) (W' := W) ?_ (Below.refl _ _) rfl
          simp only [execOp]
          go_simp
        · obtain rfl : 269 = d := by simpa using hd
          have q5 : ac.tmps[5]?.getD undef = .pointer (some ⟨w.heap.size + 1, 0, none⟩) := (eval_tmp _ _).symm.trans <| (hoff 5 (by decide)).trans rfl
          refine fact_value rfl rfl rfl (v := .pointer (some ⟨w.heap.size + 1, 1, none⟩)) (W' := W) ?_ (Below.refl _ _) rfl
          simp only [execOp]
          go_simp
        · obtain rfl : 270 = d := by simpa using hd
          have q269 : ac.tmps[269]?.getD undef = .pointer (some ⟨w.heap.size + 1, 1, none⟩) := (eval_tmp _ _).symm.trans (hdep 7 269 rfl rfl)
          refine fact_value rfl rfl rfl (v := .int .i64 (o : Int)) (W' := W) ?_ (Below.refl _ _) rfl
          simp only [execOp]
          go_simp
        · obtain rfl : 271 = d := by simpa using hd
          have q267 : ac.tmps[267]?.getD undef = .agg #[.slice (some ⟨b, off, none⟩) C.deeds.length cap, .slice a2 C.sights.length cap2, .int .i64 C.wrong] := (eval_tmp _ _).symm.trans (hdep 5 267 rfl rfl)
          have q268 : ac.tmps[268]?.getD undef = .slice ua ends.length ucap := (eval_tmp _ _).symm.trans (hdep 6 268 rfl rfl)
          have q270 : ac.tmps[270]?.getD undef = .int .i64 (o : Int) := (eval_tmp _ _).symm.trans (hdep 8 270 rfl rfl)
          refine fact_call rfl rfl rfl (f := 55) (args := #[.agg #[.slice (some ⟨b, off, none⟩) C.deeds.length cap, .slice a2 C.sights.length cap2, .int .i64 C.wrong], .slice ua ends.length ucap, .int .i64 (o : Int)]) ?_ ?_
          · simp only [execOp]
            go_simp
          · refine (BarAt_to HBB.out HV.out HL.out HOL.out hs.st hu).mono ?_
            rintro e W' ⟨rfl, hbk⟩
            exact ⟨_, rfl, hbk, rfl⟩
        · obtain rfl : 272 = d := by simpa using hd
          have q266 : ac.tmps[266]?.getD undef = .int .i64 BA := (eval_tmp _ _).symm.trans (hdep 4 266 rfl rfl)
          have q271 : ac.tmps[271]?.getD undef = .int .i64 BB := (eval_tmp _ _).symm.trans (hdep 9 271 rfl rfl)
          refine fact_value rfl rfl rfl (v := .bool (BA == BB)) (W' := W) ?_ (Below.refl _ _) rfl
          simp only [execOp]
          go_simp
        · obtain rfl : 25 = d := by simpa using hd
          have q272 : ac.tmps[272]?.getD undef = .bool (BA == BB) := (eval_tmp _ _).symm.trans (hdep 10 272 rfl rfl)
          refine fact_value rfl rfl rfl (v := .bool (BA == BB)) (W' := W) ?_ (Below.refl _ _) rfl
          simp only [execOp]
          go_simp
      case rest =>
        intro vs z22 hvl hb hval
        obtain ⟨y0, y1, y2, y3, y4, y5, y6, y7, y8, y9, y10, y11, rfl⟩ : ∃ y0 y1 y2 y3 y4 y5 y6 y7 y8 y9 y10 y11, vs = [y0, y1, y2, y3, y4, y5, y6, y7, y8, y9, y10, y11] := by
          match vs, hvl with
          | [y0, y1, y2, y3, y4, y5, y6, y7, y8, y9, y10, y11], _ => exact ⟨y0, y1, y2, y3, y4, y5, y6, y7, y8, y9, y10, y11, rfl⟩
        obtain rfl : y0 = .agg #[.slice (some ⟨b, off, none⟩) C.deeds.length cap, .slice a2 C.sights.length cap2, .int .i64 C.wrong] := by obtain ⟨u, e, h⟩ := hval 0 (by omega); have e2 : some y0 = some u := e; injection e2 with e2; subst e2; exact h
        obtain rfl : y1 = .slice ua ends.length ucap := by obtain ⟨u, e, h⟩ := hval 1 (by omega); have e2 : some y1 = some u := e; injection e2 with e2; subst e2; exact h
        obtain rfl : y2 = .pointer (some ⟨w.heap.size + 1, 0, none⟩) := by obtain ⟨u, e, h⟩ := hval 2 (by omega); have e2 : some y2 = some u := e; injection e2 with e2; subst e2; exact h
        obtain rfl : y3 = .int .i64 (p : Int) := by obtain ⟨u, e, h⟩ := hval 3 (by omega); have e2 : some y3 = some u := e; injection e2 with e2; subst e2; exact h
        obtain rfl : y4 = .int .i64 BA := by obtain ⟨u, e, h⟩ := hval 4 (by omega); have e2 : some y4 = some u := e; injection e2 with e2; subst e2; exact h
        obtain rfl : y5 = .agg #[.slice (some ⟨b, off, none⟩) C.deeds.length cap, .slice a2 C.sights.length cap2, .int .i64 C.wrong] := by obtain ⟨u, e, h⟩ := hval 5 (by omega); have e2 : some y5 = some u := e; injection e2 with e2; subst e2; exact h
        obtain rfl : y6 = .slice ua ends.length ucap := by obtain ⟨u, e, h⟩ := hval 6 (by omega); have e2 : some y6 = some u := e; injection e2 with e2; subst e2; exact h
        obtain rfl : y7 = .pointer (some ⟨w.heap.size + 1, 1, none⟩) := by obtain ⟨u, e, h⟩ := hval 7 (by omega); have e2 : some y7 = some u := e; injection e2 with e2; subst e2; exact h
        obtain rfl : y8 = .int .i64 (o : Int) := by obtain ⟨u, e, h⟩ := hval 8 (by omega); have e2 : some y8 = some u := e; injection e2 with e2; subst e2; exact h
        obtain rfl : y9 = .int .i64 BB := by obtain ⟨u, e, h⟩ := hval 9 (by omega); have e2 : some y9 = some u := e; injection e2 with e2; subst e2; exact h
        obtain rfl : y10 = .bool (BA == BB) := by obtain ⟨u, e, h⟩ := hval 10 (by omega); have e2 : some y10 = some u := e; injection e2 with e2; subst e2; exact h
        obtain rfl : y11 = .bool (BA == BB) := by obtain ⟨u, e, h⟩ := hval 11 (by omega); have e2 : some y11 = some u := e; injection e2 with e2; subst e2; exact h
        clear hval hvl
        simp only [putL, Act.put, List.drop, List.setIfInBounds_toArray, List.set_cons_zero, List.set_cons_succ]
        have HS22 := Lib.hid (HS21.out.next hb)
        have HX22 := Lib.hid ((hb.block _ (heap_lt HX21.out)).trans HX21.out)
        have HU22 := Lib.hid ((HU21.out.below hb).mono hb.size)
        have HN22 := Lib.hid (HN21.out.below hb)
        have HW22 := Lib.hid ((HW21.out.below hb).mono hb.size)
        have HP22 := Lib.hid ((hb.block _ (heap_lt HP21.out)).trans HP21.out)
        have HL22 := Lib.hid ((HL21.out.below hb).mono hb.size)
        have HQ22 := Lib.hid (HQ21.out.below hb)
        have HC22 := Lib.hid ((hb.cell (block_lt_of_cell HC21.out)).trans HC21.out)
        have HG22 := Lib.hid ((HG21.out.below hb).mono hb.size)
        have HB22 := Lib.hid ((HB21.out.below hb).mono hb.size)
        have HK22 := Lib.hid ((HK21.out.below hb).mono hb.size)
        have HD22 := Lib.hid ((hb.block _ (heap_lt HD21.out)).trans HD21.out)
        have HE22 := Lib.hid ((HE21.out.below hb).mono hb.size)
        clear HS21 HX21 HU21 HN21 HW21 HP21 HL21 HQ21 HC21 HG21 HB21 HK21 HD21 HE21 hb
        rcases HAS.out with e | e
        · subst e
          obtain ⟨c0, c1, c2⟩ := HS22.out.cells
          obtain ⟨x0, x1, x2⟩ := box3c HX22.out
          obtain ⟨s0, s1⟩ := box2t HP22.out
          obtain ⟨m0, m1, m2, m3, m4⟩ := box5j HD22.out
          have nc0 := HC22.out
          have hnew := heap_new z22 (.cells #[.slice ea AT.length ek] 33)
          go_wp2_with fail
          refine (small_any z22.heap.size 1 _ _ _ hnew (by omega) (fun i hi => by
            match i, hi with
            | 0, _ => exact ⟨_, _, _, rfl, hAT40⟩)).mono ?_
          rintro e zz ⟨rfl, rfl⟩
          have hb := (Below.refl _ z22).alloc (Nat.le_refl _) (.cells #[.slice ea AT.length ek] 33)
          clear hnew c0 c1 c2 x0 x1 x2 s0 s1 m0 m1 m2 m3 m4 nc0
          have HS23 := Lib.hid (HS22.out.next hb)
          have HX23 := Lib.hid ((hb.block _ (heap_lt HX22.out)).trans HX22.out)
          have HU23 := Lib.hid ((HU22.out.below hb).mono hb.size)
          have HN23 := Lib.hid (HN22.out.below hb)
          have HW23 := Lib.hid ((HW22.out.below hb).mono hb.size)
          have HP23 := Lib.hid ((hb.block _ (heap_lt HP22.out)).trans HP22.out)
          have HL23 := Lib.hid ((HL22.out.below hb).mono hb.size)
          have HQ23 := Lib.hid (HQ22.out.below hb)
          have HC23 := Lib.hid ((hb.cell (block_lt_of_cell HC22.out)).trans HC22.out)
          have HG23 := Lib.hid ((HG22.out.below hb).mono hb.size)
          have HB23 := Lib.hid ((HB22.out.below hb).mono hb.size)
          have HK23 := Lib.hid ((HK22.out.below hb).mono hb.size)
          have HD23 := Lib.hid ((hb.block _ (heap_lt HD22.out)).trans HD22.out)
          have HE23 := Lib.hid ((HE22.out.below hb).mono hb.size)
          clear HS22 HX22 HU22 HN22 HW22 HP22 HL22 HQ22 HC22 HG22 HB22 HK22 HD22 HE22 hb
          obtain ⟨z23, hz23⟩ : ∃ z23, z22.alloc (.cells #[.slice ea AT.length ek] 33) = z23 := ⟨_, rfl⟩
          rw [hz23] at HS23 HX23 HU23 HN23 HW23 HP23 HL23 HQ23 HC23 HG23 HB23 HK23 HD23 HE23 ⊢
          clear hz23
          obtain ⟨c0, c1, c2⟩ := HS23.out.cells
          obtain ⟨x0, x1, x2⟩ := box3c HX23.out
          obtain ⟨s0, s1⟩ := box2t HP23.out
          obtain ⟨m0, m1, m2, m3, m4⟩ := box5j HD23.out
          have nc0 := HC23.out
          go_wp2_with (first | (go_at_call 50; refine (in_to HAin.out HE23.out).mono ?_; rintro e w' ⟨rfl, rfl⟩) | (go_at_call 14; refine (works_any _).mono ?_; rintro e wz ⟨rfl, hb⟩; have HBZ := Lib.hid (HS23.out.next hb).b; clear hb))
          go_ret
          exact ⟨rfl, HBZ.out⟩
        · by_cases hbb : BA = BB
          · obtain rfl : AV = 1 := by rw [e, if_pos hbb]
            have hbe : (BA == BB) = true := by simp [hbb]
            clear e hbb
            obtain ⟨c0, c1, c2⟩ := HS22.out.cells
            obtain ⟨x0, x1, x2⟩ := box3c HX22.out
            obtain ⟨s0, s1⟩ := box2t HP22.out
            obtain ⟨m0, m1, m2, m3, m4⟩ := box5j HD22.out
            have nc0 := HC22.out
            have hnew := heap_new z22 (.cells #[.slice ea AT.length ek] 33)
            go_wp2_with fail
            refine (small_any z22.heap.size 1 _ _ _ hnew (by omega) (fun i hi => by
              match i, hi with
              | 0, _ => exact ⟨_, _, _, rfl, hAT40⟩)).mono ?_
            rintro e zz ⟨rfl, rfl⟩
            have hb := (Below.refl _ z22).alloc (Nat.le_refl _) (.cells #[.slice ea AT.length ek] 33)
            clear hnew c0 c1 c2 x0 x1 x2 s0 s1 m0 m1 m2 m3 m4 nc0
            have HS23 := Lib.hid (HS22.out.next hb)
            have HX23 := Lib.hid ((hb.block _ (heap_lt HX22.out)).trans HX22.out)
            have HU23 := Lib.hid ((HU22.out.below hb).mono hb.size)
            have HN23 := Lib.hid (HN22.out.below hb)
            have HW23 := Lib.hid ((HW22.out.below hb).mono hb.size)
            have HP23 := Lib.hid ((hb.block _ (heap_lt HP22.out)).trans HP22.out)
            have HL23 := Lib.hid ((HL22.out.below hb).mono hb.size)
            have HQ23 := Lib.hid (HQ22.out.below hb)
            have HC23 := Lib.hid ((hb.cell (block_lt_of_cell HC22.out)).trans HC22.out)
            have HG23 := Lib.hid ((HG22.out.below hb).mono hb.size)
            have HB23 := Lib.hid ((HB22.out.below hb).mono hb.size)
            have HK23 := Lib.hid ((HK22.out.below hb).mono hb.size)
            have HD23 := Lib.hid ((hb.block _ (heap_lt HD22.out)).trans HD22.out)
            have HE23 := Lib.hid ((HE22.out.below hb).mono hb.size)
            clear HS22 HX22 HU22 HN22 HW22 HP22 HL22 HQ22 HC22 HG22 HB22 HK22 HD22 HE22 hb
            obtain ⟨z23, hz23⟩ : ∃ z23, z22.alloc (.cells #[.slice ea AT.length ek] 33) = z23 := ⟨_, rfl⟩
            rw [hz23] at HS23 HX23 HU23 HN23 HW23 HP23 HL23 HQ23 HC23 HG23 HB23 HK23 HD23 HE23 ⊢
            clear hz23
            obtain ⟨c0, c1, c2⟩ := HS23.out.cells
            obtain ⟨x0, x1, x2⟩ := box3c HX23.out
            obtain ⟨s0, s1⟩ := box2t HP23.out
            obtain ⟨m0, m1, m2, m3, m4⟩ := box5j HD23.out
            have nc0 := HC23.out
            go_wp2_with (first | (go_at_call 50; refine (in_to HAin.out HE23.out).mono ?_; rintro e w' ⟨rfl, rfl⟩) | (go_at_call 14; refine (works_any _).mono ?_; rintro e wz ⟨rfl, hb⟩; have HBZ := Lib.hid (HS23.out.next hb).b; clear hb))
            go_ret
            exact ⟨rfl, HBZ.out⟩
          · obtain rfl : AV = 2 := by rw [e, if_neg hbb]
            have hbe : (BA == BB) = false := by simpa using hbb
            clear e hbb
            obtain ⟨c0, c1, c2⟩ := HS22.out.cells
            obtain ⟨x0, x1, x2⟩ := box3c HX22.out
            obtain ⟨s0, s1⟩ := box2t HP22.out
            obtain ⟨m0, m1, m2, m3, m4⟩ := box5j HD22.out
            have nc0 := HC22.out
            have hnew := heap_new z22 (.cells #[.slice ea AT.length ek] 33)
            go_wp2_with fail
            refine (small_any z22.heap.size 1 _ _ _ hnew (by omega) (fun i hi => by
              match i, hi with
              | 0, _ => exact ⟨_, _, _, rfl, hAT40⟩)).mono ?_
            rintro e zz ⟨rfl, rfl⟩
            have hb := (Below.refl _ z22).alloc (Nat.le_refl _) (.cells #[.slice ea AT.length ek] 33)
            clear hnew c0 c1 c2 x0 x1 x2 s0 s1 m0 m1 m2 m3 m4 nc0
            have HS23 := Lib.hid (HS22.out.next hb)
            have HX23 := Lib.hid ((hb.block _ (heap_lt HX22.out)).trans HX22.out)
            have HU23 := Lib.hid ((HU22.out.below hb).mono hb.size)
            have HN23 := Lib.hid (HN22.out.below hb)
            have HW23 := Lib.hid ((HW22.out.below hb).mono hb.size)
            have HP23 := Lib.hid ((hb.block _ (heap_lt HP22.out)).trans HP22.out)
            have HL23 := Lib.hid ((HL22.out.below hb).mono hb.size)
            have HQ23 := Lib.hid (HQ22.out.below hb)
            have HC23 := Lib.hid ((hb.cell (block_lt_of_cell HC22.out)).trans HC22.out)
            have HG23 := Lib.hid ((HG22.out.below hb).mono hb.size)
            have HB23 := Lib.hid ((HB22.out.below hb).mono hb.size)
            have HK23 := Lib.hid ((HK22.out.below hb).mono hb.size)
            have HD23 := Lib.hid ((hb.block _ (heap_lt HD22.out)).trans HD22.out)
            have HE23 := Lib.hid ((HE22.out.below hb).mono hb.size)
            clear HS22 HX22 HU22 HN22 HW22 HP22 HL22 HQ22 HC22 HG22 HB22 HK22 HD22 HE22 hb
            obtain ⟨z23, hz23⟩ : ∃ z23, z22.alloc (.cells #[.slice ea AT.length ek] 33) = z23 := ⟨_, rfl⟩
            rw [hz23] at HS23 HX23 HU23 HN23 HW23 HP23 HL23 HQ23 HC23 HG23 HB23 HK23 HD23 HE23 ⊢
            clear hz23
            obtain ⟨c0, c1, c2⟩ := HS23.out.cells
            obtain ⟨x0, x1, x2⟩ := box3c HX23.out
            obtain ⟨s0, s1⟩ := box2t HP23.out
            obtain ⟨m0, m1, m2, m3, m4⟩ := box5j HD23.out
            have nc0 := HC23.out
            go_wp2_with (first | (go_at_call 50; refine (in_to HAin.out HE23.out).mono ?_; rintro e w' ⟨rfl, rfl⟩) | (go_at_call 14; refine (works_any _).mono ?_; rintro e wz ⟨rfl, hb⟩; have HBZ := Lib.hid (HS23.out.next hb).b; clear hb))
            go_ret
            exact ⟨rfl, HBZ.out⟩

end Go.Proofs.Ythclinhikhinpaa
