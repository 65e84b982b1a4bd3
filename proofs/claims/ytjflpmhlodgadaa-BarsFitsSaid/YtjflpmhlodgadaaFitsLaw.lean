/-
  A law's body: what fits (P1.1, P1.2, P1.3, P1.4).
-/
import Derived.Test.YtjflpmhlodgadaaFewW
import Derived.Test.YtjflpmhlodgadaaPlanLaw
namespace Go.Proofs.Ytjflpmhlodgadaa
open Go.RowKit Go.Sort

theorem check_chk {v : Value} {S : Store} {w : World} (hx : StoreAt w.heap.size w v S) : Calls Try.prog 41 #[v] w fun e w' => e = .returned (.int .i64 (chkS S)) ∧ Below w.heap.size w w' :=
  (check_any v S w hx).mono fun _ _ h => h

set_option maxRecDepth 100000 in
set_option maxHeartbeats 16000000 in
theorem BarsFits_any (v lv : Value) (S : Store) (L : List Int) (w : World) (hx : StoreAt w.heap.size w v S) (hL : IntsAt w.heap.size w lv L) :
    Calls Try.prog 9 #[v, lv] w fun e w' => e = .returned (.bool true) ∧ Below w.heap.size w w' := by
  have hx' := hx
  have hL' := hL
  obtain ⟨a, cap1, b1, off, a2, cap2, b2, off2, rfl, hm, hm2, HA, HC, HA2, HC2⟩ := hx.opened
  obtain ⟨lA, lcap, b3, off3, rfl, hm3, _, _, _⟩ := hL.opened
  obtain ⟨i0, hi, hz0, hz1, hz2⟩ := info_parts Try_infoInt
  have hs := Stat.first hx'
  obtain ⟨c0, c1, c2, c3⟩ := box4_of hs.blk
  have HS0 := Lib.hid hs
  have HL0 := Lib.hid (hL'.to hs.b)
  have HLI := Lib.hid (show ∀ x ∈ L, I64 x from by obtain ⟨_, _, _, _, _, _, _, _, _, h⟩ := hL'; exact h)
  clear hs hx hx' hL hL' HA HC HA2 HC2
  cases hr : farB S
  case true =>
    have HR := Lib.hid hr
    clear hr
    go_enter Try.func9, Try.ntmps9
    go_wp2_with fail
    refine (Far_to HR.out HS0.out.st).mono ?_
    rintro e w1 ⟨rfl, hb⟩
    have hs := HS0.out.next hb
    clear hb c0 c1 c2 c3
    obtain ⟨c0, c1, c2, c3⟩ := box4_of hs.blk
    have HS1 := Lib.hid hs
    have hZ1 := hs.b.size
    clear hs
    go_wp2_with fail
    refine (works_any _).mono ?_
    rintro e wz ⟨rfl, hb⟩
    have HB := Lib.hid (HS1.out.next hb).b
    clear hb
    go_wp2
    go_ret
    exact ⟨rfl, HB.out⟩
  have hFew := farB_few hr
  have HR := Lib.hid hr
  have HFEW := Lib.hid hFew
  clear hr hFew
  by_cases hl40 : L.length ≤ 40
  case neg =>
    have hd : 40 < L.length := by omega
    clear hl40
    go_enter Try.func9, Try.ntmps9
    go_wp2_with fail
    refine (Far_to HR.out HS0.out.st).mono ?_
    rintro e w1 ⟨rfl, hb⟩
    have hs := HS0.out.next hb
    clear hb c0 c1 c2 c3
    obtain ⟨c0, c1, c2, c3⟩ := box4_of hs.blk
    have HS1 := Lib.hid hs
    have hZ1 := hs.b.size
    clear hs
    go_wp2_with fail
    refine (works_any _).mono ?_
    rintro e wz ⟨rfl, hb⟩
    have HB := Lib.hid (HS1.out.next hb).b
    clear hb
    go_wp2
    go_ret
    exact ⟨rfl, HB.out⟩
  go_enter Try.func9, Try.ntmps9
  go_wp2_with fail
  refine (Far_to HR.out HS0.out.st).mono ?_
  rintro e w1 ⟨rfl, hb⟩
  have HL1 := Lib.hid (HL0.out.to hb)
  have hs := HS0.out.next hb
  clear hb c0 c1 c2 c3
  obtain ⟨c0, c1, c2, c3⟩ := box4_of hs.blk
  have HS1 := Lib.hid hs
  have hZ1 := hs.b.size
  clear hs
  go_wp2_with fail
  refine (Copy_any _ S _ HS1.out.st HFEW.out).mono ?_
  rintro e w2 ⟨u, rfl, hcp, hb⟩
  have HL2 := Lib.hid (HL1.out.to hb)
  have HB12 := Lib.hid hb
  obtain ⟨bv, pv, hs, rfl, h1, h2, h3, h4, h5, h6, h7⟩ := hcp
  obtain ⟨bA, bcap, rfl, _⟩ := own_form h1
  obtain ⟨pA, pcap, rfl, _⟩ := own_form h2
  have HC2 := Lib.hid (CopyAt.of_parts h1 h2 h3 ⟨h4, h5, h6, h7⟩)
  clear h1 h2 h3 h4 h5 h6 h7
  have hs := HS1.out.next hb
  clear hb c0 c1 c2 c3
  obtain ⟨c0, c1, c2, c3⟩ := box4_of hs.blk
  have HS2 := Lib.hid hs
  have hZ2 := hs.b.size
  clear hs
  go_wp2_with (at_builtin; refine wpList_onto (base := w2.heap.size) (v := .slice (some ⟨w2.heap.size, 0, none⟩) 0 0) (n := 0) (xs := []) (A := lA) (m := L.length) (c := lcap) (news := L.map (Value.int .i64)) rfl (.tmp 29) (.tmp 30) rfl Try.underlying26 hi hz0 hz1 hz2 rfl (by decide) rfl (World.ownsRow_made w2 #[] 0 (Nat.le_refl _) (by unfold maxLen; omega) rfl) rfl (from_ints (HL2.out.below ((Below.refl _ w2).alloc (Nat.le_refl _) _))) (map_one _) (by unfold maxLen; omega) (by omega) (by simp) ?_)
  intro qA qcap w3 hown hgrow _
  try rw [Nat.zero_add] at hown
  try rw [List.nil_append] at hown
  have hb3 : Below w2.heap.size w2 w3 := ((Below.refl _ w2).alloc (Nat.le_refl _) _).grown hgrow (by simp) (fun k e => by simp [Value.ownBlock] at e; omega)
  have HLO := Lib.hid (own_ints hown HLI.out)
  have HE3 := Lib.hid (Ed.first (HC2.out.below hb3) (HB12.out.trans (hb3.mono HB12.out.size)))
  have HL3 := Lib.hid (HL2.out.to hb3)
  have hb := hb3
  clear hb3 hown hgrow
  have hs := HS2.out.next hb
  clear hb c0 c1 c2 c3
  obtain ⟨c0, c1, c2, c3⟩ := box4_of hs.blk
  have HS3 := Lib.hid hs
  have hZ3 := hs.b.size
  clear hs
  go_wp2_with fail
  have hba := (Below.refl w3.heap.size w3).alloc (Nat.le_refl _) (.cells #[.slice bA S.bars.length bcap, .int .i64 S.kerf, .slice pA S.pieces.length pcap, .int .i64 S.wrong] 25)
  have hs := HS3.out.next hba
  have ho := HE3.out.stat HS1.out.b
  have HL4 := Lib.hid (HL3.out.to hba)
  have HM4 := Lib.hid (HLO.out.to hba)
  generalize w3.alloc (.cells #[.slice bA S.bars.length bcap, .int .i64 S.kerf, .slice pA S.pieces.length pcap, .int .i64 S.wrong] 25) = W at hs ho HL4 HM4 ⊢
  clear c0 c1 c2 c3 hba
  obtain ⟨c0, c1, c2, c3⟩ := box4_of hs.blk
  obtain ⟨o0, o1, o2, o3⟩ := box4_of ho.blk
  have HS4 := Lib.hid hs
  have HO4 := Lib.hid ho
  have q1 : ∀ d os, Calls Try.prog 41 #[.agg #[.slice bA S.bars.length bcap, .int .i64 S.kerf, .slice pA S.pieces.length pcap, .int .i64 S.wrong]] (grow (redrawn W d) os) fun e w'' => e = .returned (.int .i64 (chkS S)) ∧ ∃ p : Regrown, w'' = grow (redrawn W p.d) p.os := fun d os => Calls.regrown_of (check_chk (HO4.out.next (below_regrown W d os)).st)
  have q2 : ∀ d os, Calls Try.prog 42 #[.agg #[.slice a S.bars.length cap1, .int .i64 S.kerf, .slice a2 S.pieces.length cap2, .int .i64 S.wrong]] (grow (redrawn W d) os) fun e w'' => e = .returned (.int .i64 (chkS S)) ∧ ∃ p : Regrown, w'' = grow (redrawn W p.d) p.os := fun d os => Calls.regrown_of (rCheck_any _ S _ (HS4.out.next (below_regrown W d os)).st)
  have Q1 := Lib.hid q1
  have Q2 := Lib.hid q2
  have k0 := cell_regrown c0
  have k1 := cell_regrown c1
  have k2 := cell_regrown c2
  have k3 := cell_regrown c3
  have k4 := cell_regrown o0
  have k5 := cell_regrown o1
  have k6 := cell_regrown o2
  have k7 := cell_regrown o3
  clear q1 q2 c0 c1 c2 c3 o0 o1 o2 o3 hs ho
  refine wp_region_quiet_below (by kernel_rfl) (by kernel_rfl) ?_
  repeat (first | go_big_quiet_step (first | (go_at_call 41; exact Q1.out _ _) | (go_at_call 42; exact Q2.out _ _)) | quiet_step (first | (go_at_call 41; exact Q1.out _ _) | (go_at_call 42; exact Q2.out _ _)))
  refine wpQuiet_nil ?_
  intro _ hw'
  obtain ⟨⟨dq, osq⟩, hw''⟩ := hw'
  subst hw''
  have hb := below_regrown W dq osq
  generalize grow (redrawn W dq) osq = wq at hb ⊢
  have hs := HS4.out.next hb
  have ho := HO4.out.next hb
  have HL5 := Lib.hid (HL4.out.to hb)
  have HM5 := Lib.hid (HM4.out.to hb)
  clear hb k0 k1 k2 k3 k4 k5 k6 k7
  obtain ⟨c0, c1, c2, c3⟩ := box4_of hs.blk
  obtain ⟨o0, o1, o2, o3⟩ := box4_of ho.blk
  have HS5 := Lib.hid hs
  have HO5 := Lib.hid ho
  clear hs ho
  go_wp2_with fail
  refine (Fits_any _ _ S L _ HO5.out.st HM5.out).mono ?_
  rintro e w6 ⟨rfl, hb⟩
  have HL6 := Lib.hid (HL5.out.to hb)
  have HM6 := Lib.hid (HM5.out.to hb)
  have hs := HS5.out.next hb
  have ho := HO5.out.next hb
  clear hb c0 c1 c2 c3 o0 o1 o2 o3
  obtain ⟨c0, c1, c2, c3⟩ := box4_of hs.blk
  have HS6 := Lib.hid hs
  have hZ6 := hs.b.size
  clear hs
  obtain ⟨o0, o1, o2, o3⟩ := box4_of ho.blk
  have HO6 := Lib.hid ho
  clear ho
  go_wp2_with fail
  refine (rFits_any _ _ S L _ HS6.out.st HL6.out).mono ?_
  rintro e w7 ⟨rfl, hb⟩
  have HL7 := Lib.hid (HL6.out.to hb)
  have HM7 := Lib.hid (HM6.out.to hb)
  have hs := HS6.out.next hb
  have ho := HO6.out.next hb
  clear hb c0 c1 c2 c3 o0 o1 o2 o3
  obtain ⟨c0, c1, c2, c3⟩ := box4_of hs.blk
  have HS7 := Lib.hid hs
  have hZ7 := hs.b.size
  clear hs
  obtain ⟨o0, o1, o2, o3⟩ := box4_of ho.blk
  have HO7 := Lib.hid ho
  clear ho
  cases hval : validB S
  · have HVAL := Lib.hid hval
    clear hval
    go_wp2_with fail
    refine (Fewest_bad _ S _ HO7.out.st HVAL.out).mono ?_
    rintro e w8 ⟨rfl, hb⟩
    have HL8 := Lib.hid (HL7.out.to hb)
    have HM8 := Lib.hid (HM7.out.to hb)
    have hs := HS7.out.next hb
    have ho := HO7.out.next hb
    clear hb c0 c1 c2 c3 o0 o1 o2 o3
    obtain ⟨c0, c1, c2, c3⟩ := box4_of hs.blk
    have HS8 := Lib.hid hs
    have hZ8 := hs.b.size
    clear hs
    obtain ⟨o0, o1, o2, o3⟩ := box4_of ho.blk
    have HO8 := Lib.hid ho
    clear ho
    go_wp2_with fail
    refine (rFewest_bad _ S _ HS8.out.st HVAL.out).mono ?_
    rintro e w9 ⟨rfl, hb⟩
    have HL9 := Lib.hid (HL8.out.to hb)
    have HM9 := Lib.hid (HM8.out.to hb)
    have hs := HS8.out.next hb
    have ho := HO8.out.next hb
    clear hb c0 c1 c2 c3 o0 o1 o2 o3
    obtain ⟨c0, c1, c2, c3⟩ := box4_of hs.blk
    have HS9 := Lib.hid hs
    have hZ9 := hs.b.size
    clear hs
    obtain ⟨o0, o1, o2, o3⟩ := box4_of ho.blk
    have HO9 := Lib.hid ho
    clear ho
    go_wp2_with fail
    refine (Many_bad _ S _ HO9.out.st HVAL.out).mono ?_
    rintro e w10 ⟨rfl, hb⟩
    have HL10 := Lib.hid (HL9.out.to hb)
    have HM10 := Lib.hid (HM9.out.to hb)
    have hs := HS9.out.next hb
    have ho := HO9.out.next hb
    clear hb c0 c1 c2 c3 o0 o1 o2 o3
    obtain ⟨c0, c1, c2, c3⟩ := box4_of hs.blk
    have HS10 := Lib.hid hs
    have hZ10 := hs.b.size
    clear hs
    obtain ⟨o0, o1, o2, o3⟩ := box4_of ho.blk
    have HO10 := Lib.hid ho
    clear ho
    go_wp2_with fail
    refine (rMany_bad _ S _ HS10.out.st HVAL.out).mono ?_
    rintro e w11 ⟨rfl, hb⟩
    have HL11 := Lib.hid (HL10.out.to hb)
    have HM11 := Lib.hid (HM10.out.to hb)
    have hs := HS10.out.next hb
    have ho := HO10.out.next hb
    clear hb c0 c1 c2 c3 o0 o1 o2 o3
    obtain ⟨c0, c1, c2, c3⟩ := box4_of hs.blk
    have HS11 := Lib.hid hs
    have hZ11 := hs.b.size
    clear hs
    obtain ⟨o0, o1, o2, o3⟩ := box4_of ho.blk
    have HO11 := Lib.hid ho
    clear ho
    go_wp2_with fail
    refine (same_eq _ _ S _ HO11.out.st HS11.out.st).mono ?_
    rintro e w12 ⟨rfl, hb⟩
    have HL12 := Lib.hid (HL11.out.to hb)
    have HM12 := Lib.hid (HM11.out.to hb)
    have hs := HS11.out.next hb
    have ho := HO11.out.next hb
    clear hb c0 c1 c2 c3 o0 o1 o2 o3
    obtain ⟨c0, c1, c2, c3⟩ := box4_of hs.blk
    have HS12 := Lib.hid hs
    have hZ12 := hs.b.size
    clear hs
    obtain ⟨o0, o1, o2, o3⟩ := box4_of ho.blk
    have HO12 := Lib.hid ho
    clear ho
    go_wp2_with fail
    refine (SameInts_to (r := true) (by simp) HM12.out HL12.out).mono ?_
    rintro e w13 ⟨rfl, hb⟩
    have HL13 := Lib.hid (HL12.out.to hb)
    have HM13 := Lib.hid (HM12.out.to hb)
    have hs := HS12.out.next hb
    have ho := HO12.out.next hb
    clear hb c0 c1 c2 c3 o0 o1 o2 o3
    obtain ⟨c0, c1, c2, c3⟩ := box4_of hs.blk
    have HS13 := Lib.hid hs
    have hZ13 := hs.b.size
    clear hs
    obtain ⟨o0, o1, o2, o3⟩ := box4_of ho.blk
    have HO13 := Lib.hid ho
    clear ho
    go_wp2_with (go_at_call 15; refine (works_any _).mono ?_; rintro e wz ⟨rfl, hb⟩; have HB := Lib.hid (HS13.out.next hb).b; clear hb)
    go_ret
    exact ⟨rfl, HB.out⟩
  · have HV := Lib.hid (valid_iff.1 hval)
    clear hval
    go_wp2_with fail
    refine (Fewest_any _ S _ HO7.out.st HV.out).mono ?_
    rintro e w8 ⟨rfl, hb⟩
    have HL8 := Lib.hid (HL7.out.to hb)
    have HM8 := Lib.hid (HM7.out.to hb)
    have hs := HS7.out.next hb
    have ho := HO7.out.next hb
    clear hb c0 c1 c2 c3 o0 o1 o2 o3
    obtain ⟨c0, c1, c2, c3⟩ := box4_of hs.blk
    have HS8 := Lib.hid hs
    have hZ8 := hs.b.size
    clear hs
    obtain ⟨o0, o1, o2, o3⟩ := box4_of ho.blk
    have HO8 := Lib.hid ho
    clear ho
    go_wp2_with fail
    refine (rFewest_any _ S _ HS8.out.st HV.out).mono ?_
    rintro e w9 ⟨rfl, hb⟩
    have HL9 := Lib.hid (HL8.out.to hb)
    have HM9 := Lib.hid (HM8.out.to hb)
    have hs := HS8.out.next hb
    have ho := HO8.out.next hb
    clear hb c0 c1 c2 c3 o0 o1 o2 o3
    obtain ⟨c0, c1, c2, c3⟩ := box4_of hs.blk
    have HS9 := Lib.hid hs
    have hZ9 := hs.b.size
    clear hs
    obtain ⟨o0, o1, o2, o3⟩ := box4_of ho.blk
    have HO9 := Lib.hid ho
    clear ho
    go_wp2_with fail
    refine (Many_any _ S _ HO9.out.st HV.out).mono ?_
    rintro e w10 ⟨rfl, hb⟩
    have HL10 := Lib.hid (HL9.out.to hb)
    have HM10 := Lib.hid (HM9.out.to hb)
    have hs := HS9.out.next hb
    have ho := HO9.out.next hb
    clear hb c0 c1 c2 c3 o0 o1 o2 o3
    obtain ⟨c0, c1, c2, c3⟩ := box4_of hs.blk
    have HS10 := Lib.hid hs
    have hZ10 := hs.b.size
    clear hs
    obtain ⟨o0, o1, o2, o3⟩ := box4_of ho.blk
    have HO10 := Lib.hid ho
    clear ho
    go_wp2_with fail
    refine (rMany_any _ S _ HS10.out.st HV.out).mono ?_
    rintro e w11 ⟨rfl, hb⟩
    have HL11 := Lib.hid (HL10.out.to hb)
    have HM11 := Lib.hid (HM10.out.to hb)
    have hs := HS10.out.next hb
    have ho := HO10.out.next hb
    clear hb c0 c1 c2 c3 o0 o1 o2 o3
    obtain ⟨c0, c1, c2, c3⟩ := box4_of hs.blk
    have HS11 := Lib.hid hs
    have hZ11 := hs.b.size
    clear hs
    obtain ⟨o0, o1, o2, o3⟩ := box4_of ho.blk
    have HO11 := Lib.hid ho
    clear ho
    go_wp2_with fail
    refine (same_eq _ _ S _ HO11.out.st HS11.out.st).mono ?_
    rintro e w12 ⟨rfl, hb⟩
    have HL12 := Lib.hid (HL11.out.to hb)
    have HM12 := Lib.hid (HM11.out.to hb)
    have hs := HS11.out.next hb
    have ho := HO11.out.next hb
    clear hb c0 c1 c2 c3 o0 o1 o2 o3
    obtain ⟨c0, c1, c2, c3⟩ := box4_of hs.blk
    have HS12 := Lib.hid hs
    have hZ12 := hs.b.size
    clear hs
    obtain ⟨o0, o1, o2, o3⟩ := box4_of ho.blk
    have HO12 := Lib.hid ho
    clear ho
    go_wp2_with fail
    refine (SameInts_to (r := true) (by simp) HM12.out HL12.out).mono ?_
    rintro e w13 ⟨rfl, hb⟩
    have HL13 := Lib.hid (HL12.out.to hb)
    have HM13 := Lib.hid (HM12.out.to hb)
    have hs := HS12.out.next hb
    have ho := HO12.out.next hb
    clear hb c0 c1 c2 c3 o0 o1 o2 o3
    obtain ⟨c0, c1, c2, c3⟩ := box4_of hs.blk
    have HS13 := Lib.hid hs
    have hZ13 := hs.b.size
    clear hs
    obtain ⟨o0, o1, o2, o3⟩ := box4_of ho.blk
    have HO13 := Lib.hid ho
    clear ho
    go_wp2_with (go_at_call 15; refine (works_any _).mono ?_; rintro e wz ⟨rfl, hb⟩; have HB := Lib.hid (HS13.out.next hb).b; clear hb)
    go_ret
    exact ⟨rfl, HB.out⟩
end Go.Proofs.Ytjflpmhlodgadaa
