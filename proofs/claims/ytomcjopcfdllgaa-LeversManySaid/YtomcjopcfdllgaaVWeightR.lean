/-
  Levers, the law's reference: Weight and Until.
-/
import Derived.Test.YtomcjopcfdllgaaVPullR

namespace Go.Proofs.Ytomcjopcfdllgaa
open Go.RowKit Go.Shelf

theorem pulledN_iff (M : Mach) (weight minutes load : Int) : decide (pulledN M weight minutes load = (truthsM M).length) = allPull M weight minutes load := by
  rw [Bool.eq_iff_iff, decide_eq_true_eq, pulledN, List.length_filter_eq_length_iff, allPull, List.all_eq_true]
set_option maxRecDepth 100000 in
set_option maxHeartbeats 8000000 in
theorem rWeight_er {M : Mach} {minutes load er : Int} {b : Bool} (hb : ask3 0 minutes load = b) (her : er ≠ 0) (v : Value) (w : World) (hx : MachAt w.heap.size w v M)
    (ht : ∀ W, Below w.heap.size w W → Calls Try.prog 70 #[v, .bool b] W (GaveT [] er W)) :
    Calls Try.prog 51 #[v, .int .i64 minutes, .int .i64 load] w fun e w' => e = .returned (.tuple #[.int .i64 0, .int .i64 er]) ∧ Below w.heap.size w w' := by
  obtain ⟨a, cap, a2, cap2, rfl⟩ := hx.form
  obtain ⟨O, hO⟩ : ∃ O, O = Obj.cells #[.slice a M.levers.length cap, .int .i64 M.water, .int .i64 M.lkLo, .int .i64 M.lkHi, .slice a2 M.bals.length cap2, .int .i64 M.wrong] 27 := ⟨_, rfl⟩
  have HO := Lib.hid hO
  have HT := Lib.hid ht
  have HW0 := Lib.hid (show MStat w (w.alloc O) w.heap.size O from ⟨(Below.refl _ w).alloc (Nat.le_refl _) _, Nat.le_refl _, heap_new w O⟩)
  obtain ⟨c0, c1, c2, c3, c4, c5⟩ := mst_cells HW0.out.blk hO
  have hne : (er != 0) = true := by rw [bne_iff_ne]; exact her
  have HA := Lib.hid hb
  rw [hO] at c0 c1 c2 c3 c4 c5
  have HC := Lib.hid (show ∀ W', Below (w.alloc O).heap.size (w.alloc O) W' → W'.cell? ⟨w.heap.size, 0, none⟩ = some (.slice a M.levers.length cap) ∧ W'.cell? ⟨w.heap.size, 1, none⟩ = some (.int .i64 M.water) ∧ W'.cell? ⟨w.heap.size, 2, none⟩ = some (.int .i64 M.lkLo) ∧ W'.cell? ⟨w.heap.size, 3, none⟩ = some (.int .i64 M.lkHi) ∧ W'.cell? ⟨w.heap.size, 4, none⟩ = some (.slice a2 M.bals.length cap2) ∧ W'.cell? ⟨w.heap.size, 5, none⟩ = some (.int .i64 M.wrong) from fun W' hb => mst_cells (HW0.out.next hb).blk HO.out)
  clear hx ht hb hO
  go_enter Try.func51, Try.ntmps51
  go_wp2_with fail
  rw [← HO.out]
  go_region_held3 (fun W' => W'.cell? ⟨w.heap.size, 0, none⟩ = some (.slice a M.levers.length cap) ∧ W'.cell? ⟨w.heap.size, 1, none⟩ = some (.int .i64 M.water) ∧ W'.cell? ⟨w.heap.size, 2, none⟩ = some (.int .i64 M.lkLo) ∧ W'.cell? ⟨w.heap.size, 3, none⟩ = some (.int .i64 M.lkHi) ∧ W'.cell? ⟨w.heap.size, 4, none⟩ = some (.slice a2 M.bals.length cap2) ∧ W'.cell? ⟨w.heap.size, 5, none⟩ = some (.int .i64 M.wrong))
    (first
      | exact HC.out _ HB3.out
      | exact HC.out _ (by go_grown))
    (first
      | (go_at_call 33; refine (IsAsk_any _ _ _ _).mono ?_; rintro e w' ⟨rfl, rfl⟩; rw [HA.out])
      | (go_at_call 70; refine (HT.out _ (by go_grown)).mono ?_; rintro e w3 ⟨u, rfl, _, hb⟩; have HB3 := Lib.hid ((show Below (w.alloc O).heap.size (w.alloc O) _ by go_grown).trans (hb.mono (by simp))); clear hb))
  all_goals
    have HBZ := Lib.hid (HW0.out.b.trans (HB3.out.mono HW0.out.b.size))
    go_wp2
    go_ret2
    exact ⟨rfl, HBZ.out⟩
theorem allPull_no {M : Mach} (hV : ValidM M) {u v minutes load : Int} (h : u ≤ v) (hp : allPull M v minutes load = false) : allPull M u minutes load = false := by
  cases h1 : allPull M u minutes load
  · rfl
  · rw [allPull_up hV h h1] at hp; cases hp
set_option maxRecDepth 100000 in
set_option maxHeartbeats 8000000 in
theorem rWeight_ok {M : Mach} (hv : validMB M = true) {minutes load : Int} (ha : ask3 0 minutes load = true) (hne : truthsM M ≠ []) (v : Value) (w : World) (hx : MachAt w.heap.size w v M) :
    Calls Try.prog 51 #[v, .int .i64 minutes, .int .i64 load] w fun e w' => e = .returned (.tuple #[.int .i64 (weightA M minutes load).1, .int .i64 (weightA M minutes load).2]) ∧ Below w.heap.size w w' := by
  have hV := validM_iff.1 hv
  obtain ⟨_, hm, hl⟩ := ask3_iff.1 ha
  have HX := Lib.hid (fun W (hb : Below w.heap.size w W) => (hx.below hb).mono hb.size)
  obtain ⟨a, cap, a2, cap2, rfl⟩ := hx.form
  obtain ⟨O, hO⟩ : ∃ O, O = Obj.cells #[.slice a M.levers.length cap, .int .i64 M.water, .int .i64 M.lkLo, .int .i64 M.lkHi, .slice a2 M.bals.length cap2, .int .i64 M.wrong] 27 := ⟨_, rfl⟩
  have HO := Lib.hid hO
  have HT := Lib.hid (fun W hb => truths_ok hv _ W (HX.out W hb))
  rw [show noneE (truthsM M).length = 0 by rw [noneE, if_neg (fun h => hne (List.eq_nil_of_length_eq_zero h))]] at HT
  have HW0 := Lib.hid (show MStat w (w.alloc O) w.heap.size O from ⟨(Below.refl _ w).alloc (Nat.le_refl _) _, Nat.le_refl _, heap_new w O⟩)
  obtain ⟨c0, c1, c2, c3, c4, c5⟩ := mst_cells HW0.out.blk hO
  have HA := Lib.hid ha
  have HNE := Lib.hid hne
  have HV := Lib.hid hV
  rw [hO] at c0 c1 c2 c3 c4 c5
  have HC := Lib.hid (show ∀ W', Below (w.alloc O).heap.size (w.alloc O) W' → W'.cell? ⟨w.heap.size, 0, none⟩ = some (.slice a M.levers.length cap) ∧ W'.cell? ⟨w.heap.size, 1, none⟩ = some (.int .i64 M.water) ∧ W'.cell? ⟨w.heap.size, 2, none⟩ = some (.int .i64 M.lkLo) ∧ W'.cell? ⟨w.heap.size, 3, none⟩ = some (.int .i64 M.lkHi) ∧ W'.cell? ⟨w.heap.size, 4, none⟩ = some (.slice a2 M.bals.length cap2) ∧ W'.cell? ⟨w.heap.size, 5, none⟩ = some (.int .i64 M.wrong) from fun W' hb => mst_cells (HW0.out.next hb).blk HO.out)
  clear hx hO ha hne
  go_enter Try.func51, Try.ntmps51
  go_wp2_with fail
  rw [← HO.out]
  go_region_held3 (fun W' => W'.cell? ⟨w.heap.size, 0, none⟩ = some (.slice a M.levers.length cap) ∧ W'.cell? ⟨w.heap.size, 1, none⟩ = some (.int .i64 M.water) ∧ W'.cell? ⟨w.heap.size, 2, none⟩ = some (.int .i64 M.lkLo) ∧ W'.cell? ⟨w.heap.size, 3, none⟩ = some (.int .i64 M.lkHi) ∧ W'.cell? ⟨w.heap.size, 4, none⟩ = some (.slice a2 M.bals.length cap2) ∧ W'.cell? ⟨w.heap.size, 5, none⟩ = some (.int .i64 M.wrong))
    (first
      | exact HC.out _ HB3.out
      | exact HC.out _ (by go_grown))
    (first
      | (go_at_call 33; refine (IsAsk_any _ _ _ _).mono ?_; rintro e w' ⟨rfl, rfl⟩; rw [HA.out])
      | (go_at_call 70; refine (HT.out _ (by go_grown)).mono ?_; rintro e w3 ⟨u, rfl, hsu, hb⟩; have HSU := Lib.hid hsu; have HB3 := Lib.hid ((show Below (w.alloc O).heap.size (w.alloc O) _ by go_grown).trans (hb.mono (by simp))); clear hb hsu))
  obtain ⟨A, cl, rfl, _⟩ := own_form HSU.out.choose_spec.2.1
  have HS3 := Lib.hid (HW0.out.next HB3.out)
  clear c0 c1 c2 c3 c4 c5
  go_wp2
  go_loopw [10, 11] (fun lo hi wr => ∃ l h : Nat, l ≤ h ∧ h ≤ 10000 ∧ lo = .int .i64 l ∧ hi = .int .i64 h ∧ Hid (∀ u : Nat, u < l → allPull M u minutes load = false) ∧ Hid (h < 10000 → allPull M h minutes load = true) ∧ Hid (Below w3.heap.size w3 wr)) (fun lo hi _ => (intOf hi - intOf lo).toNat)
  case atStart => exact ⟨0, 10000, by omega, by omega, rfl, rfl, Lib.hid (fun u h => by omega), Lib.hid (fun h => by omega), Lib.hid (Below.refl _ _)⟩
  case round =>
    obtain ⟨l, h, hlh, hh, rfl, rfl, hno, hyes, hbw⟩ := hrel
    obtain ⟨c0, c1, c2, c3, c4, c5⟩ := mst_cells (HS3.out.next hbw.out).blk HO.out
    by_cases hlt : l < h
    · have hlt' : ((l : Nat) : Int) < (h : Int) := by omega
      obtain ⟨m, hm2⟩ : ∃ m : Nat, m = (l + h) / 2 := ⟨_, rfl⟩
      have hmm : Int.tdiv ((l : Int) + h) 2 = (m : Int) := by rw [Int.tdiv_eq_ediv_of_nonneg (by omega), hm2]; omega
      have hml : l ≤ m ∧ m < h := by omega
      have HPU := Lib.hid (pulled_any HV.out (weight := (m : Int)) (by omega) hm hl _ _ wr (HX.out wr ((HS3.out.next hbw.out).b)) (HSU.out.below hbw.out))
      have HPN := Lib.hid (pulledN_iff M m minutes load)
      obtain ⟨q, hq⟩ : ∃ q, allPull M m minutes load = q := ⟨_, rfl⟩
      rw [hq] at HPN
      have HQ := Lib.hid hq
      clear hm2 hq
      obtain ⟨PN, hPN⟩ : ∃ PN, pulledN M m minutes load = PN := ⟨_, rfl⟩
      obtain ⟨TL, hTL⟩ : ∃ TL, (truthsM M).length = TL := ⟨_, rfl⟩
      rw [hPN, hTL] at HPN
      rw [hPN, hTL] at HPU
      rw [hTL]
      have he : ((PN : Int) == (TL : Int)) = q := by rw [← HPN.out, Bool.eq_iff_iff, beq_iff_eq, decide_eq_true_eq]; omega
      clear hPN hTL
      go_wp2_with fail
      refine HPU.out.mono ?_
      rintro e w4 ⟨rfl, hb⟩
      have HB4 := Lib.hid (hbw.out.trans (hb.mono hbw.out.size))
      clear hb c0 c1 c2 c3 c4 c5
      obtain ⟨c0, c1, c2, c3, c4, c5⟩ := mst_cells (HS3.out.next HB4.out).blk HO.out
      cases q
      · go_wp2
        exact ⟨⟨m + 1, h, by omega, hh, by go_num, rfl, Lib.hid (fun u hu => allPull_no HV.out (by omega) HQ.out), hyes, HB4⟩, by simp [intOf]; omega⟩
      · go_wp2
        exact ⟨⟨l, m, by omega, by omega, rfl, rfl, hno, Lib.hid (fun _ => HQ.out), HB4⟩, by simp [intOf]; omega⟩
    · obtain rfl : l = h := by omega
      have hlw : leastW M minutes load = l := find_least hh hno.out hyes.out
      have HBZ := Lib.hid (HS3.out.b.trans (hbw.out.mono HS3.out.b.size))
      by_cases hg : 10000 ≤ l
      · have hwa : weightA M minutes load = (0, 3) := by rw [weightA, hlw, if_pos (.inr hg)]
        have HWA := Lib.hid hwa
        have hg' : (9999 : Int) < (l : Int) := by omega
        clear hwa hlw
        go_wp2
        go_ret2
        exact ⟨by rw [HWA.out]; rfl, HBZ.out⟩
      · have hwa : weightA M minutes load = ((l : Int), 0) := by rw [weightA, hlw, if_neg (by intro h; rcases h with h | h; exact HNE.out (List.isEmpty_iff.1 h); exact hg h)]
        have HWA := Lib.hid hwa
        have hg' : ¬ (9999 : Int) < (l : Int) := by omega
        clear hwa hlw
        go_wp2
        go_ret2
        exact ⟨by rw [HWA.out]; rfl, HBZ.out⟩
end Go.Proofs.Ytomcjopcfdllgaa
