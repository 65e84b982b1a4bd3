/-
  Levers, the law's reference: Pulled.
-/
import Derived.Test.YtomcjopcfdllgaaVBothL

namespace Go.Proofs.Ytomcjopcfdllgaa
open Go.RowKit Go.Shelf

set_option maxHeartbeats 400000 in
theorem rKnown_any (s m : Nat) (w : World) : Calls Try.prog 74 #[.int .i64 (s : Nat), .int .i64 (m : Nat)] w fun e w' => e = .returned (.int .i64 (knownI s m)) ∧ w = w' := by
  by_cases h1 : s = m
  · have e1 : ((s : Int) == (m : Int)) = true := by rw [beq_iff_eq]; omega
    have HK := Lib.hid (show knownI s m = 1 by rw [knownI, if_pos h1])
    go_enter Try.func74, Try.ntmps74
    go_wp2
    go_ret
    exact ⟨by rw [HK.out]; rfl, rfl⟩
  · have e1 : ((s : Int) == (m : Int)) = false := by rw [beq_eq_false_iff_ne]; omega
    by_cases h2 : s = 0
    · have e2 : ((s : Int) == 0) = true := by rw [beq_iff_eq]; omega
      have HK := Lib.hid (show knownI s m = 2 by rw [knownI, if_neg h1, if_pos h2])
      go_enter Try.func74, Try.ntmps74
      go_wp2
      go_ret
      exact ⟨by rw [HK.out]; rfl, rfl⟩
    · have e2 : ((s : Int) == 0) = false := by rw [beq_eq_false_iff_ne]; omega
      have HK := Lib.hid (show knownI s m = 3 by rw [knownI, if_neg h1, if_neg h2])
      go_enter Try.func74, Try.ntmps74
      go_wp2
      go_ret
      exact ⟨by rw [HK.out]; rfl, rfl⟩
set_option maxRecDepth 100000 in
set_option maxHeartbeats 8000000 in
theorem rPulled_er {M : Mach} {weight minutes load er : Int} {b : Bool} (hb : ask3 weight minutes load = b) (her : er ≠ 0) (v : Value) (w : World) (hx : MachAt w.heap.size w v M)
    (ht : ∀ W, Below w.heap.size w W → Calls Try.prog 70 #[v, .bool b] W (GaveT [] er W)) :
    Calls Try.prog 50 #[v, .int .i64 weight, .int .i64 minutes, .int .i64 load] w fun e w' => e = .returned (.tuple #[.int .i64 0, .int .i64 er]) ∧ Below w.heap.size w w' := by
  obtain ⟨a, cap, a2, cap2, rfl⟩ := hx.form
  obtain ⟨O, hO⟩ : ∃ O, O = Obj.cells #[.slice a M.levers.length cap, .int .i64 M.water, .int .i64 M.lkLo, .int .i64 M.lkHi, .slice a2 M.bals.length cap2, .int .i64 M.wrong] 27 := ⟨_, rfl⟩
  have HO := Lib.hid hO
  have HT := Lib.hid ht
  have HW0 := Lib.hid (show MStat w (w.alloc O) w.heap.size O from ⟨(Below.refl _ w).alloc (Nat.le_refl _) _, Nat.le_refl _, heap_new w O⟩)
  obtain ⟨c0, c1, c2, c3, c4, c5⟩ := mst_cells HW0.out.blk hO
  have hne : (er != 0) = true := by rw [bne_iff_ne]; exact her
  have HA := Lib.hid hb
  rw [hO] at c0 c1 c2 c3 c4 c5
  have HC := Lib.hid (show ∀ W', Below (w.alloc O).heap.size (w.alloc O) W' → W'.cell? ⟨w.heap.size, 0, none⟩ = some (.slice a M.levers.length cap) ∧ W'.cell? ⟨w.heap.size, 1, none⟩ = some (.int .i64 M.water) ∧ W'.cell? ⟨w.heap.size, 2, none⟩ = some (.int .i64 M.lkLo) ∧ W'.cell? ⟨w.heap.size, 3, none⟩ = some (.int .i64 M.lkHi) ∧ W'.cell? ⟨w.heap.size, 4, none⟩ = some (.slice a2 M.bals.length cap2) ∧ W'.cell? ⟨w.heap.size, 5, none⟩ = some (.int .i64 M.wrong) from fun W' hb => mst_cells (HW0.out.next hb).blk HO.out)
  clear hx ht hb hO
  go_enter Try.func50, Try.ntmps50
  go_wp2_with fail
  rw [← HO.out]
  go_region_held3 (fun W' => W'.cell? ⟨w.heap.size, 0, none⟩ = some (.slice a M.levers.length cap) ∧ W'.cell? ⟨w.heap.size, 1, none⟩ = some (.int .i64 M.water) ∧ W'.cell? ⟨w.heap.size, 2, none⟩ = some (.int .i64 M.lkLo) ∧ W'.cell? ⟨w.heap.size, 3, none⟩ = some (.int .i64 M.lkHi) ∧ W'.cell? ⟨w.heap.size, 4, none⟩ = some (.slice a2 M.bals.length cap2) ∧ W'.cell? ⟨w.heap.size, 5, none⟩ = some (.int .i64 M.wrong))
    (first
      | exact HC.out _ HB3.out
      | exact HC.out _ (by go_grown))
    (first
      | (go_at_call 33; refine (IsAsk_any _ _ _ _).mono ?_; rintro e w' ⟨rfl, rfl⟩; rw [HA.out])
      | (go_at_call 70; refine (HT.out _ (by go_grown)).mono ?_; rintro e w3 ⟨u, rfl, _, hb⟩; have HB3 := Lib.hid ((show Below (w.alloc O).heap.size (w.alloc O) _ by go_grown).trans (hb.mono (by simp))); clear hb))
  all_goals
    have HBZ := Lib.hid (HW0.out.b.trans (HB3.out.mono HW0.out.b.size))
    go_wp2
    go_ret2
    exact ⟨rfl, HBZ.out⟩
set_option maxRecDepth 100000 in
set_option maxHeartbeats 8000000 in
theorem rPulled_ok {M : Mach} (hv : validMB M = true) {weight minutes load : Int} (ha : ask3 weight minutes load = true) (hne : truthsM M ≠ []) (v : Value) (w : World) (hx : MachAt w.heap.size w v M) :
    Calls Try.prog 50 #[v, .int .i64 weight, .int .i64 minutes, .int .i64 load] w fun e w' => e = .returned (.tuple #[.int .i64 (pulledA M weight minutes load).1, .int .i64 (pulledA M weight minutes load).2]) ∧ Below w.heap.size w w' := by
  have hV := validM_iff.1 hv
  obtain ⟨hw, hm, hl⟩ := ask3_iff.1 ha
  have HX := Lib.hid (fun W (hb : Below w.heap.size w W) => (hx.below hb).mono hb.size)
  obtain ⟨a, cap, a2, cap2, rfl⟩ := hx.form
  obtain ⟨O, hO⟩ : ∃ O, O = Obj.cells #[.slice a M.levers.length cap, .int .i64 M.water, .int .i64 M.lkLo, .int .i64 M.lkHi, .slice a2 M.bals.length cap2, .int .i64 M.wrong] 27 := ⟨_, rfl⟩
  have HO := Lib.hid hO
  have HT := Lib.hid (fun W hb => truths_ok hv _ W (HX.out W hb))
  rw [show noneE (truthsM M).length = 0 by rw [noneE, if_neg (fun h => hne (List.eq_nil_of_length_eq_zero h))]] at HT
  have HW0 := Lib.hid (show MStat w (w.alloc O) w.heap.size O from ⟨(Below.refl _ w).alloc (Nat.le_refl _) _, Nat.le_refl _, heap_new w O⟩)
  obtain ⟨c0, c1, c2, c3, c4, c5⟩ := mst_cells HW0.out.blk hO
  have HA := Lib.hid ha
  have HNE := Lib.hid hne
  have HV := Lib.hid hV
  rw [hO] at c0 c1 c2 c3 c4 c5
  have HC := Lib.hid (show ∀ W', Below (w.alloc O).heap.size (w.alloc O) W' → W'.cell? ⟨w.heap.size, 0, none⟩ = some (.slice a M.levers.length cap) ∧ W'.cell? ⟨w.heap.size, 1, none⟩ = some (.int .i64 M.water) ∧ W'.cell? ⟨w.heap.size, 2, none⟩ = some (.int .i64 M.lkLo) ∧ W'.cell? ⟨w.heap.size, 3, none⟩ = some (.int .i64 M.lkHi) ∧ W'.cell? ⟨w.heap.size, 4, none⟩ = some (.slice a2 M.bals.length cap2) ∧ W'.cell? ⟨w.heap.size, 5, none⟩ = some (.int .i64 M.wrong) from fun W' hb => mst_cells (HW0.out.next hb).blk HO.out)
  clear hx hO ha hne
  go_enter Try.func50, Try.ntmps50
  go_wp2_with fail
  rw [← HO.out]
  go_region_held3 (fun W' => W'.cell? ⟨w.heap.size, 0, none⟩ = some (.slice a M.levers.length cap) ∧ W'.cell? ⟨w.heap.size, 1, none⟩ = some (.int .i64 M.water) ∧ W'.cell? ⟨w.heap.size, 2, none⟩ = some (.int .i64 M.lkLo) ∧ W'.cell? ⟨w.heap.size, 3, none⟩ = some (.int .i64 M.lkHi) ∧ W'.cell? ⟨w.heap.size, 4, none⟩ = some (.slice a2 M.bals.length cap2) ∧ W'.cell? ⟨w.heap.size, 5, none⟩ = some (.int .i64 M.wrong))
    (first
      | exact HC.out _ HB3.out
      | exact HC.out _ (by go_grown))
    (first
      | (go_at_call 33; refine (IsAsk_any _ _ _ _).mono ?_; rintro e w' ⟨rfl, rfl⟩; rw [HA.out])
      | (go_at_call 70; refine (HT.out _ (by go_grown)).mono ?_; rintro e w3 ⟨u, rfl, hsu, hb⟩; have HSU := Lib.hid hsu; have HB3 := Lib.hid ((show Below (w.alloc O).heap.size (w.alloc O) _ by go_grown).trans (hb.mono (by simp))); clear hb hsu))
  obtain ⟨A, cl, rfl, _⟩ := own_form HSU.out.choose_spec.2.1
  have HS3 := Lib.hid (HW0.out.next HB3.out)
  clear c0 c1 c2 c3 c4 c5
  obtain ⟨c0, c1, c2, c3, c4, c5⟩ := mst_cells HS3.out.blk HO.out
  have HPU := Lib.hid (fun W (hb : Below w3.heap.size w3 W) => pulled_any HV.out hw hm hl _ _ W (HX.out W ((HS3.out.next hb).b)) (HSU.out.below hb))
  have HKN := Lib.hid (fun W => rKnown_any (pulledN M weight minutes load) (truthsM M).length W)
  have HPA := Lib.hid (show pulledA M weight minutes load = (knownI (pulledN M weight minutes load) (truthsM M).length, 0) by rw [pulledA, if_neg HNE.out])
  obtain ⟨PN, hPN⟩ : ∃ PN, pulledN M weight minutes load = PN := ⟨_, rfl⟩
  obtain ⟨TL, hTL⟩ : ∃ TL, (truthsM M).length = TL := ⟨_, rfl⟩
  rw [hPN, hTL] at HKN HPA
  rw [hPN, hTL] at HPU
  rw [hTL]
  obtain ⟨KV, hKV⟩ : ∃ KV, knownI PN TL = KV := ⟨_, rfl⟩
  rw [hKV] at HKN HPA
  clear hPN hTL hKV
  go_wp2_with fail
  refine (HPU.out w3 (Below.refl _ _)).mono ?_
  rintro e w5 ⟨rfl, hb⟩
  have HB5 := Lib.hid hb
  clear hb c0 c1 c2 c3 c4 c5
  have HBZ := Lib.hid (HS3.out.b.trans (HB5.out.mono HS3.out.b.size))
  go_wp2_with fail
  refine (HKN.out w5).mono ?_
  rintro e w' ⟨rfl, rfl⟩
  go_wp2
  go_ret2
  exact ⟨by rw [HPA.out]; rfl, HBZ.out⟩
theorem Pulled_any2 (v : Value) (M : Mach) (weight minutes load : Int) (w : World) (hx : MachAt w.heap.size w v M) :
    Calls Try.prog 19 #[v, .int .i64 weight, .int .i64 minutes, .int .i64 load] w fun e w' => e = .returned (.tuple #[.int .i64 (anyA M (ask3 weight minutes load) (pulledA M weight minutes load)).1, .int .i64 (anyA M (ask3 weight minutes load) (pulledA M weight minutes load)).2]) ∧ Below w.heap.size w w' := by
  cases hv : validMB M
  · have h := Pulled_er (weight := weight) (minutes := minutes) (load := load) (.inl hv) w hx
    simpa only [anyA, hv, Bool.false_eq_true, ↓reduceIte] using h
  · cases ha : ask3 weight minutes load
    · have h := Pulled_er (weight := weight) (minutes := minutes) (load := load) (.inr ((ask_same weight minutes load).trans ha)) w hx
      simpa only [anyA, hv, Bool.false_eq_true, ↓reduceIte] using h
    · have h := Pulled_any v M weight minutes load w hx hv ((ask_same weight minutes load).trans ha)
      simpa only [anyA, hv, ↓reduceIte] using h
theorem uPulled_all (v : Value) (M : Mach) (weight minutes load : Int) (w : World) (hx : MachAt w.heap.size w v M) :
    Calls Try.prog 50 #[v, .int .i64 weight, .int .i64 minutes, .int .i64 load] w fun e w' => e = .returned (.tuple #[.int .i64 (anyA M (ask3 weight minutes load) (pulledA M weight minutes load)).1, .int .i64 (anyA M (ask3 weight minutes load) (pulledA M weight minutes load)).2]) ∧ Below w.heap.size w w' := by
  have HX := fun W (hb : Below w.heap.size w W) => (hx.below hb).mono hb.size
  cases hv : validMB M
  · have h := rPulled_er (weight := weight) (minutes := minutes) (load := load) rfl (show (30 : Int) ≠ 0 by decide) v w hx (fun W hb => truths_bad hv v _ W (HX W hb))
    simpa only [anyA, hv, Bool.false_eq_true, ↓reduceIte] using h
  · cases ha : ask3 weight minutes load
    · have h := rPulled_er ha (show (1 : Int) ≠ 0 by decide) v w hx (fun W hb => truths_arg hv v W (HX W hb))
      simpa only [anyA, hv, Bool.false_eq_true, ↓reduceIte] using h
    · by_cases hn : truthsM M = []
      · have h := rPulled_er ha (show (3 : Int) ≠ 0 by decide) v w hx (fun W hb => truths_none hv hn v W (HX W hb))
        have e : pulledA M weight minutes load = (0, 3) := by rw [pulledA, if_pos hn]
        simpa only [anyA, hv, ↓reduceIte, e] using h
      · have h := rPulled_ok hv ha hn v w hx
        simpa only [anyA, hv, ↓reduceIte] using h
end Go.Proofs.Ytomcjopcfdllgaa
