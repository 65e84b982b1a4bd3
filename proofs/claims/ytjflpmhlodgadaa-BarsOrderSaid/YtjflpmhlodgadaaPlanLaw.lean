/-
  A law's body: the plan (P1.11, P1.12).
-/
import Derived.Test.YtjflpmhlodgadaaLeastW
import Derived.Test.YtjflpmhlodgadaaSame
namespace Go.Proofs.Ytjflpmhlodgadaa
open Go.RowKit Go.Sort

theorem farB_few {S : Store} (h : farB S = false) : Few S := by
  simp only [farB, Bool.or_eq_false_iff, decide_eq_false_iff_not, Bool.not_eq_false'] at h
  obtain ⟨h3, h4, h5, _⟩ := h
  have hf := allTo_iff.1 h5
  exact ⟨by omega, by omega, fun i hi => by simpa using hf i hi⟩
theorem plan_truth {S : Store} (hV : Valid S) (h : (truthsL S).length ≠ 0) : truthB S (planS S) = true ∧ usedTo2 (planS S) S.bars.length = leastS S ∧ (planS S).length = S.pieces.length := by
  unfold leastS planS
  cases hp : planL (truthsL S) with
  | none => exact absurd (planL_none.1 hp) h
  | some p =>
    have hm : p ∈ truthsL S := by
      rcases foldl_mem _ _ hp with h1 | h1
      · exact h1
      · cases h1
    exact ⟨(mem_truths hV).1 hm, (usedS_truth hm).symm, (truths_ok hm).2⟩

set_option maxRecDepth 100000 in
set_option maxHeartbeats 8000000 in
theorem BarsPlan_any (v : Value) (S : Store) (w : World) (hx : StoreAt w.heap.size w v S) :
    Calls Try.prog 12 #[v] w fun e w' => e = .returned (.bool true) ∧ Below w.heap.size w w' := by
  have hx' := hx
  obtain ⟨a, cap1, b1, off, a2, cap2, b2, off2, rfl, hm, hm2, HA, HC, HA2, HC2⟩ := hx.opened
  have hs := Stat.first hx'
  obtain ⟨c0, c1, c2, c3⟩ := box4_of hs.blk
  have HS0 := Lib.hid hs
  clear hs hx hx' HA HC HA2 HC2
  cases hr : farB S
  case true =>
    have HR := Lib.hid hr
    clear hr
    go_enter Try.func12, Try.ntmps12
    go_wp2_with fail
    refine (Far_to HR.out HS0.out.st).mono ?_
    rintro e w1 ⟨rfl, hb⟩
    have hs := HS0.out.next hb
    clear hb c0 c1 c2 c3
    obtain ⟨c0, c1, c2, c3⟩ := box4_of hs.blk
    have HS1 := Lib.hid hs
    have hZ1 := hs.b.size
    clear hs
    go_wp2_with fail
    refine (works_any _).mono ?_
    rintro e wz ⟨rfl, hb⟩
    have HB := Lib.hid (HS1.out.next hb).b
    clear hb
    go_wp2
    go_ret
    exact ⟨rfl, HB.out⟩
  have hFew := farB_few hr
  have HR := Lib.hid hr
  have HFEW := Lib.hid hFew
  clear hr hFew
  go_enter Try.func12, Try.ntmps12
  go_wp2_with fail
  refine (Far_to HR.out HS0.out.st).mono ?_
  rintro e w1 ⟨rfl, hb⟩
  have hs := HS0.out.next hb
  clear hb c0 c1 c2 c3
  obtain ⟨c0, c1, c2, c3⟩ := box4_of hs.blk
  have HS1 := Lib.hid hs
  have hZ1 := hs.b.size
  clear hs
  go_wp2_with fail
  refine (Copy_any _ S _ HS1.out.st HFEW.out).mono ?_
  rintro e w2 ⟨u, rfl, hcp, hb⟩
  obtain ⟨bv, pv, hs, rfl, h1, h2, h3, h4, h5, h6, h7⟩ := hcp
  obtain ⟨bA, bcap, rfl, _⟩ := own_form h1
  obtain ⟨pA, pcap, rfl, _⟩ := own_form h2
  have HE2 := Lib.hid (Ed.first (CopyAt.of_parts h1 h2 h3 ⟨h4, h5, h6, h7⟩) hb)
  clear h1 h2 h3 h4 h5 h6 h7
  have hs := HS1.out.next hb
  clear hb c0 c1 c2 c3
  obtain ⟨c0, c1, c2, c3⟩ := box4_of hs.blk
  have HS2 := Lib.hid hs
  have hZ2 := hs.b.size
  clear hs
  go_wp2_with fail
  have hs := HS1.out.next HE2.out.b
  have ho := HE2.out.stat HS1.out.b
  generalize w2.alloc (.cells #[.slice bA S.bars.length bcap, .int .i64 S.kerf, .slice pA S.pieces.length pcap, .int .i64 S.wrong] 25) = W at hs ho ⊢
  clear c0 c1 c2 c3
  obtain ⟨c0, c1, c2, c3⟩ := box4_of hs.blk
  obtain ⟨o0, o1, o2, o3⟩ := box4_of ho.blk
  have HS3 := Lib.hid hs
  have HO3 := Lib.hid ho
  clear hs ho
  cases hval : validB S
  · have HVAL := Lib.hid hval
    clear hval
    refine (Least_bad _ S _ HO3.out.st HVAL.out).mono ?_
    rintro e w4 ⟨rfl, hb⟩
    have hs := HS3.out.next hb
    have ho := HO3.out.next hb
    clear hb c0 c1 c2 c3 o0 o1 o2 o3
    obtain ⟨c0, c1, c2, c3⟩ := box4_of hs.blk
    have HS4 := Lib.hid hs
    have hZ4 := hs.b.size
    clear hs
    obtain ⟨o0, o1, o2, o3⟩ := box4_of ho.blk
    have HO4 := Lib.hid ho
    clear ho
    go_wp2_with fail
    refine (rLeast_bad _ S _ HS4.out.st HVAL.out).mono ?_
    rintro e w5 ⟨rfl, hb⟩
    have hs := HS4.out.next hb
    have ho := HO4.out.next hb
    clear hb c0 c1 c2 c3 o0 o1 o2 o3
    obtain ⟨c0, c1, c2, c3⟩ := box4_of hs.blk
    have HS5 := Lib.hid hs
    have hZ5 := hs.b.size
    clear hs
    obtain ⟨o0, o1, o2, o3⟩ := box4_of ho.blk
    have HO5 := Lib.hid ho
    clear ho
    go_wp2_with fail
    refine (Plan_bad _ S _ HO5.out.st HVAL.out).mono ?_
    rintro e w6 ⟨rfl, hb⟩
    have hs := HS5.out.next hb
    have ho := HO5.out.next hb
    clear hb c0 c1 c2 c3 o0 o1 o2 o3
    obtain ⟨c0, c1, c2, c3⟩ := box4_of hs.blk
    have HS6 := Lib.hid hs
    have hZ6 := hs.b.size
    clear hs
    obtain ⟨o0, o1, o2, o3⟩ := box4_of ho.blk
    have HO6 := Lib.hid ho
    clear ho
    go_wp2_with fail
    refine (same_eq _ _ S _ HO6.out.st HS6.out.st).mono ?_
    rintro e w7 ⟨rfl, hb⟩
    have hs := HS6.out.next hb
    have ho := HO6.out.next hb
    clear hb c0 c1 c2 c3 o0 o1 o2 o3
    obtain ⟨c0, c1, c2, c3⟩ := box4_of hs.blk
    have HS7 := Lib.hid hs
    have hZ7 := hs.b.size
    clear hs
    obtain ⟨o0, o1, o2, o3⟩ := box4_of ho.blk
    have HO7 := Lib.hid ho
    clear ho
    go_wp2_with (go_at_call 15; refine (works_any _).mono ?_; rintro e wz ⟨rfl, hb⟩; have HB := Lib.hid (HS7.out.next hb).b; clear hb)
    go_ret
    exact ⟨rfl, HB.out⟩
  · have HV := Lib.hid (valid_iff.1 hval)
    clear hval
    by_cases h0 : (truthsL S).length = 0
    · have HZ := Lib.hid (show errN (truthsL S).length = 3 from by rw [h0]; rfl)
      have hpl : planS S = [] := by unfold planS; rw [planL_none.2 h0]; rfl
      have HPL := Lib.hid hpl
      clear hpl h0
      refine (Least_any _ S _ HO3.out.st HV.out).mono ?_
      rintro e w4 ⟨rfl, hb⟩
      rw [HZ.out]
      have hs := HS3.out.next hb
      have ho := HO3.out.next hb
      clear hb c0 c1 c2 c3 o0 o1 o2 o3
      obtain ⟨c0, c1, c2, c3⟩ := box4_of hs.blk
      have HS4 := Lib.hid hs
      have hZ4 := hs.b.size
      clear hs
      obtain ⟨o0, o1, o2, o3⟩ := box4_of ho.blk
      have HO4 := Lib.hid ho
      clear ho
      go_wp2_with fail
      refine (rLeast_any _ S _ HS4.out.st HV.out).mono ?_
      rintro e w5 ⟨rfl, hb⟩
      rw [HZ.out]
      have hs := HS4.out.next hb
      have ho := HO4.out.next hb
      clear hb c0 c1 c2 c3 o0 o1 o2 o3
      obtain ⟨c0, c1, c2, c3⟩ := box4_of hs.blk
      have HS5 := Lib.hid hs
      have hZ5 := hs.b.size
      clear hs
      obtain ⟨o0, o1, o2, o3⟩ := box4_of ho.blk
      have HO5 := Lib.hid ho
      clear ho
      go_wp2_with fail
      refine (Plan_any _ S _ HO5.out.st HV.out).mono ?_
      rintro e w6 ⟨u, rfl, hu, hb⟩
      rw [HPL.out] at hu
      obtain ⟨ua, ucap, _, _, rfl, _, _, _, _⟩ := hu.opened
      have HU := Lib.hid hu
      rw [HZ.out]
      have hs := HS5.out.next hb
      have ho := HO5.out.next hb
      clear hb c0 c1 c2 c3 o0 o1 o2 o3
      obtain ⟨c0, c1, c2, c3⟩ := box4_of hs.blk
      have HS6 := Lib.hid hs
      have hZ6 := hs.b.size
      clear hs
      obtain ⟨o0, o1, o2, o3⟩ := box4_of ho.blk
      have HO6 := Lib.hid ho
      clear ho
      clear hu
      go_wp2_with fail
      refine (same_eq _ _ S _ HO6.out.st HS6.out.st).mono ?_
      rintro e w7 ⟨rfl, hb⟩
      have hs := HS6.out.next hb
      have ho := HO6.out.next hb
      clear hb c0 c1 c2 c3 o0 o1 o2 o3
      obtain ⟨c0, c1, c2, c3⟩ := box4_of hs.blk
      have HS7 := Lib.hid hs
      have hZ7 := hs.b.size
      clear hs
      obtain ⟨o0, o1, o2, o3⟩ := box4_of ho.blk
      have HO7 := Lib.hid ho
      clear ho
      go_wp2_with (go_at_call 15; refine (works_any _).mono ?_; rintro e wz ⟨rfl, hb⟩; have HB := Lib.hid (HS7.out.next hb).b; clear hb)
      go_ret
      exact ⟨rfl, HB.out⟩
    · obtain ⟨p1, p2, p3⟩ := plan_truth HV.out h0
      have HZ := Lib.hid (show errN (truthsL S).length = 0 from errN_pos h0)
      have HP1 := Lib.hid p1
      have HP2 := Lib.hid p2
      have hl40 : (planS S).length ≤ 40 := by have := HV.out.np; omega
      clear p1 p2 p3 h0
      refine (Least_any _ S _ HO3.out.st HV.out).mono ?_
      rintro e w4 ⟨rfl, hb⟩
      rw [HZ.out]
      have hs := HS3.out.next hb
      have ho := HO3.out.next hb
      clear hb c0 c1 c2 c3 o0 o1 o2 o3
      obtain ⟨c0, c1, c2, c3⟩ := box4_of hs.blk
      have HS4 := Lib.hid hs
      have hZ4 := hs.b.size
      clear hs
      obtain ⟨o0, o1, o2, o3⟩ := box4_of ho.blk
      have HO4 := Lib.hid ho
      clear ho
      go_wp2_with fail
      refine (rLeast_any _ S _ HS4.out.st HV.out).mono ?_
      rintro e w5 ⟨rfl, hb⟩
      rw [HZ.out]
      have hs := HS4.out.next hb
      have ho := HO4.out.next hb
      clear hb c0 c1 c2 c3 o0 o1 o2 o3
      obtain ⟨c0, c1, c2, c3⟩ := box4_of hs.blk
      have HS5 := Lib.hid hs
      have hZ5 := hs.b.size
      clear hs
      obtain ⟨o0, o1, o2, o3⟩ := box4_of ho.blk
      have HO5 := Lib.hid ho
      clear ho
      go_wp2_with fail
      refine (Plan_any _ S _ HO5.out.st HV.out).mono ?_
      rintro e w6 ⟨u, rfl, hu, hb⟩
      obtain ⟨ua, ucap, _, _, rfl, _, _, _, _⟩ := hu.opened
      have HU := Lib.hid hu
      rw [HZ.out]
      have hs := HS5.out.next hb
      have ho := HO5.out.next hb
      clear hb c0 c1 c2 c3 o0 o1 o2 o3
      obtain ⟨c0, c1, c2, c3⟩ := box4_of hs.blk
      have HS6 := Lib.hid hs
      have hZ6 := hs.b.size
      clear hs
      obtain ⟨o0, o1, o2, o3⟩ := box4_of ho.blk
      have HO6 := Lib.hid ho
      clear ho
      clear hu
      go_wp2_with fail
      refine (same_eq _ _ S _ HO6.out.st HS6.out.st).mono ?_
      rintro e w7 ⟨rfl, hb⟩
      have HU := Lib.hid ((HU.out.below hb).mono hb.size)
      have hs := HS6.out.next hb
      have ho := HO6.out.next hb
      clear hb c0 c1 c2 c3 o0 o1 o2 o3
      obtain ⟨c0, c1, c2, c3⟩ := box4_of hs.blk
      have HS7 := Lib.hid hs
      have hZ7 := hs.b.size
      clear hs
      obtain ⟨o0, o1, o2, o3⟩ := box4_of ho.blk
      have HO7 := Lib.hid ho
      clear ho
      go_wp2_with fail
      refine (rIsTruth_to HP1.out HV.out HS7.out.st (Nat.le_refl _) HU.out).mono ?_
      rintro e w8 ⟨rfl, hb⟩
      have HU := Lib.hid ((HU.out.below hb).mono hb.size)
      have hs := HS7.out.next hb
      have ho := HO7.out.next hb
      clear hb c0 c1 c2 c3 o0 o1 o2 o3
      obtain ⟨c0, c1, c2, c3⟩ := box4_of hs.blk
      have HS8 := Lib.hid hs
      have hZ8 := hs.b.size
      clear hs
      obtain ⟨o0, o1, o2, o3⟩ := box4_of ho.blk
      have HO8 := Lib.hid ho
      clear ho
      go_wp2_with fail
      refine (rUsed_any _ _ S (planS S) _ HV.out.nb HS8.out.st (Nat.le_refl _) HU.out).mono ?_
      rintro e w9 ⟨rfl, hb⟩
      rw [HP2.out]
      have hs := HS8.out.next hb
      have ho := HO8.out.next hb
      clear hb c0 c1 c2 c3 o0 o1 o2 o3
      obtain ⟨c0, c1, c2, c3⟩ := box4_of hs.blk
      have HS9 := Lib.hid hs
      have hZ9 := hs.b.size
      clear hs
      obtain ⟨o0, o1, o2, o3⟩ := box4_of ho.blk
      have HO9 := Lib.hid ho
      clear ho
      go_wp2_with (go_at_call 15; refine (works_any _).mono ?_; rintro e wz ⟨rfl, hb⟩; have HB := Lib.hid (HS9.out.next hb).b; clear hb)
      go_ret
      exact ⟨rfl, HB.out⟩
end Go.Proofs.Ytjflpmhlodgadaa
