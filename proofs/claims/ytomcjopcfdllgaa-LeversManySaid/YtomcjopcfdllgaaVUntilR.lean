/-
  Levers, the law's reference: Until.
-/
import Derived.Test.YtomcjopcfdllgaaVWeightR

namespace Go.Proofs.Ytomcjopcfdllgaa
open Go.RowKit Go.Shelf

/-- What the reference knows after some minutes: the last of them at which all truths pull, else -1. -/
structure UTo (M : Mach) (weight load : Int) (k : Nat) (o : Int) : Prop where
  lo : -1 ≤ o
  hi : o < k
  is : 0 ≤ o → allPull M weight o load = true
  not : ∀ u : Nat, u < k → o < u → allPull M weight u load = false
theorem UTo.zero (M : Mach) (weight load : Int) : UTo M weight load 0 (-1) := ⟨by omega, by omega, fun h => by omega, fun u h => by omega⟩
theorem UTo.no {M : Mach} {weight load : Int} {k : Nat} {o : Int} (h : UTo M weight load k o) (hq : allPull M weight k load = false) : UTo M weight load (k + 1) o :=
  ⟨h.lo, by have := h.hi; omega, h.is, fun u hu ho => by
    by_cases e : u = k
    · rw [e]; exact hq
    · exact h.not u (by omega) ho⟩
theorem UTo.yes {M : Mach} {weight load : Int} {k : Nat} (_ : ValidM M) (hq : allPull M weight k load = true) : UTo M weight load (k + 1) (k : Int) :=
  ⟨by omega, by omega, fun _ => hq, fun u hu ho => by omega⟩
theorem UTo.all {M : Mach} {weight load : Int} {o : Int} (hne : truthsM M ≠ []) (h : UTo M weight load 100 o) : (o < 0 → untilA M weight load = (0, 3)) ∧ (¬ o < 0 → untilA M weight load = (o, 0)) := by
  have h1 := h.lo
  have h2 := h.hi
  have hl : lastU M weight load = (99 - o).toNat := find_least (by omega) (fun u hu => by
    have := h.not (99 - u) (by omega) (by omega)
    rwa [show ((99 - u : Nat) : Int) = 99 - (u : Int) by omega] at this) (fun hlt => by
    have := h.is (by omega)
    rwa [show o = 99 - (((99 - o).toNat : Nat) : Int) by omega] at this)
  have he : ¬ (truthsM M).isEmpty = true := fun h => hne (List.isEmpty_iff.1 h)
  refine ⟨fun h0 => ?_, fun h0 => ?_⟩
  · rw [untilA, hl, if_pos (.inr (by omega))]
  · rw [untilA, hl, if_neg (by intro h; rcases h with h | h; exact he h; omega)]
    congr 1
    omega
set_option maxRecDepth 100000 in
set_option maxHeartbeats 8000000 in
theorem rUntil_er {M : Mach} {weight load er : Int} {b : Bool} (hb : ask3 weight 0 load = b) (her : er ≠ 0) (v : Value) (w : World) (hx : MachAt w.heap.size w v M)
    (ht : ∀ W, Below w.heap.size w W → Calls Try.prog 70 #[v, .bool b] W (GaveT [] er W)) :
    Calls Try.prog 52 #[v, .int .i64 weight, .int .i64 load] w fun e w' => e = .returned (.tuple #[.int .i64 0, .int .i64 er]) ∧ Below w.heap.size w w' := by
  obtain ⟨a, cap, a2, cap2, rfl⟩ := hx.form
  obtain ⟨O, hO⟩ : ∃ O, O = Obj.cells #[.slice a M.levers.length cap, .int .i64 M.water, .int .i64 M.lkLo, .int .i64 M.lkHi, .slice a2 M.bals.length cap2, .int .i64 M.wrong] 27 := ⟨_, rfl⟩
  have HO := Lib.hid hO
  have HT := Lib.hid ht
  have HW0 := Lib.hid (show MStat w (w.alloc O) w.heap.size O from ⟨(Below.refl _ w).alloc (Nat.le_refl _) _, Nat.le_refl _, heap_new w O⟩)
  obtain ⟨c0, c1, c2, c3, c4, c5⟩ := mst_cells HW0.out.blk hO
  have hne : (er != 0) = true := by rw [bne_iff_ne]; exact her
  have HA := Lib.hid hb
  rw [hO] at c0 c1 c2 c3 c4 c5
  have HC := Lib.hid (show ∀ W', Below (w.alloc O).heap.size (w.alloc O) W' → W'.cell? ⟨w.heap.size, 0, none⟩ = some (.slice a M.levers.length cap) ∧ W'.cell? ⟨w.heap.size, 1, none⟩ = some (.int .i64 M.water) ∧ W'.cell? ⟨w.heap.size, 2, none⟩ = some (.int .i64 M.lkLo) ∧ W'.cell? ⟨w.heap.size, 3, none⟩ = some (.int .i64 M.lkHi) ∧ W'.cell? ⟨w.heap.size, 4, none⟩ = some (.slice a2 M.bals.length cap2) ∧ W'.cell? ⟨w.heap.size, 5, none⟩ = some (.int .i64 M.wrong) from fun W' hb => mst_cells (HW0.out.next hb).blk HO.out)
  clear hx ht hb hO
  go_enter Try.func52, Try.ntmps52
  go_wp2_with fail
  rw [← HO.out]
  go_region_held3 (fun W' => W'.cell? ⟨w.heap.size, 0, none⟩ = some (.slice a M.levers.length cap) ∧ W'.cell? ⟨w.heap.size, 1, none⟩ = some (.int .i64 M.water) ∧ W'.cell? ⟨w.heap.size, 2, none⟩ = some (.int .i64 M.lkLo) ∧ W'.cell? ⟨w.heap.size, 3, none⟩ = some (.int .i64 M.lkHi) ∧ W'.cell? ⟨w.heap.size, 4, none⟩ = some (.slice a2 M.bals.length cap2) ∧ W'.cell? ⟨w.heap.size, 5, none⟩ = some (.int .i64 M.wrong))
    (first
      | exact HC.out _ HB3.out
      | exact HC.out _ (by go_grown))
    (first
      | (go_at_call 33; refine (IsAsk_any _ _ _ _).mono ?_; rintro e w' ⟨rfl, rfl⟩; rw [HA.out])
      | (go_at_call 70; refine (HT.out _ (by go_grown)).mono ?_; rintro e w3 ⟨u, rfl, _, hb⟩; have HB3 := Lib.hid ((show Below (w.alloc O).heap.size (w.alloc O) _ by go_grown).trans (hb.mono (by simp))); clear hb))
  all_goals
    have HBZ := Lib.hid (HW0.out.b.trans (HB3.out.mono HW0.out.b.size))
    go_wp2
    go_ret2
    exact ⟨rfl, HBZ.out⟩
set_option maxRecDepth 100000 in
set_option maxHeartbeats 8000000 in
theorem rUntil_ok {M : Mach} (hv : validMB M = true) {weight load : Int} (ha : ask3 weight 0 load = true) (hne : truthsM M ≠ []) (v : Value) (w : World) (hx : MachAt w.heap.size w v M) :
    Calls Try.prog 52 #[v, .int .i64 weight, .int .i64 load] w fun e w' => e = .returned (.tuple #[.int .i64 (untilA M weight load).1, .int .i64 (untilA M weight load).2]) ∧ Below w.heap.size w w' := by
  have hV := validM_iff.1 hv
  obtain ⟨hm, _, hl⟩ := ask3_iff.1 ha
  have HX := Lib.hid (fun W (hb : Below w.heap.size w W) => (hx.below hb).mono hb.size)
  obtain ⟨a, cap, a2, cap2, rfl⟩ := hx.form
  obtain ⟨O, hO⟩ : ∃ O, O = Obj.cells #[.slice a M.levers.length cap, .int .i64 M.water, .int .i64 M.lkLo, .int .i64 M.lkHi, .slice a2 M.bals.length cap2, .int .i64 M.wrong] 27 := ⟨_, rfl⟩
  have HO := Lib.hid hO
  have HT := Lib.hid (fun W hb => truths_ok hv _ W (HX.out W hb))
  rw [show noneE (truthsM M).length = 0 by rw [noneE, if_neg (fun h => hne (List.eq_nil_of_length_eq_zero h))]] at HT
  have HW0 := Lib.hid (show MStat w (w.alloc O) w.heap.size O from ⟨(Below.refl _ w).alloc (Nat.le_refl _) _, Nat.le_refl _, heap_new w O⟩)
  obtain ⟨c0, c1, c2, c3, c4, c5⟩ := mst_cells HW0.out.blk hO
  have HA := Lib.hid ha
  have HNE := Lib.hid hne
  have HV := Lib.hid hV
  rw [hO] at c0 c1 c2 c3 c4 c5
  have HC := Lib.hid (show ∀ W', Below (w.alloc O).heap.size (w.alloc O) W' → W'.cell? ⟨w.heap.size, 0, none⟩ = some (.slice a M.levers.length cap) ∧ W'.cell? ⟨w.heap.size, 1, none⟩ = some (.int .i64 M.water) ∧ W'.cell? ⟨w.heap.size, 2, none⟩ = some (.int .i64 M.lkLo) ∧ W'.cell? ⟨w.heap.size, 3, none⟩ = some (.int .i64 M.lkHi) ∧ W'.cell? ⟨w.heap.size, 4, none⟩ = some (.slice a2 M.bals.length cap2) ∧ W'.cell? ⟨w.heap.size, 5, none⟩ = some (.int .i64 M.wrong) from fun W' hb => mst_cells (HW0.out.next hb).blk HO.out)
  clear hx hO ha hne
  go_enter Try.func52, Try.ntmps52
  go_wp2_with fail
  rw [← HO.out]
  go_region_held3 (fun W' => W'.cell? ⟨w.heap.size, 0, none⟩ = some (.slice a M.levers.length cap) ∧ W'.cell? ⟨w.heap.size, 1, none⟩ = some (.int .i64 M.water) ∧ W'.cell? ⟨w.heap.size, 2, none⟩ = some (.int .i64 M.lkLo) ∧ W'.cell? ⟨w.heap.size, 3, none⟩ = some (.int .i64 M.lkHi) ∧ W'.cell? ⟨w.heap.size, 4, none⟩ = some (.slice a2 M.bals.length cap2) ∧ W'.cell? ⟨w.heap.size, 5, none⟩ = some (.int .i64 M.wrong))
    (first
      | exact HC.out _ HB3.out
      | exact HC.out _ (by go_grown))
    (first
      | (go_at_call 33; refine (IsAsk_any _ _ _ _).mono ?_; rintro e w' ⟨rfl, rfl⟩; rw [HA.out])
      | (go_at_call 70; refine (HT.out _ (by go_grown)).mono ?_; rintro e w3 ⟨u, rfl, hsu, hb⟩; have HSU := Lib.hid hsu; have HB3 := Lib.hid ((show Below (w.alloc O).heap.size (w.alloc O) _ by go_grown).trans (hb.mono (by simp))); clear hb hsu))
  obtain ⟨A, cl, rfl, _⟩ := own_form HSU.out.choose_spec.2.1
  have HS3 := Lib.hid (HW0.out.next HB3.out)
  clear c0 c1 c2 c3 c4 c5
  go_wp2
  go_loopw [10, 11] (fun out mi wr => ∃ (k : Nat) (o : Int), k ≤ 100 ∧ out = .int .i64 o ∧ mi = .int .i64 k ∧ Hid (UTo M weight load k o) ∧ Hid (Below w3.heap.size w3 wr)) (fun _ mi _ => 100 - (intOf mi).toNat)
  case atStart => exact ⟨0, -1, by omega, rfl, rfl, Lib.hid (UTo.zero M weight load), Lib.hid (Below.refl _ _)⟩
  case round =>
    obtain ⟨k, o, hk, rfl, rfl, hto, hbw⟩ := hrel
    obtain ⟨c0, c1, c2, c3, c4, c5⟩ := mst_cells (HS3.out.next hbw.out).blk HO.out
    by_cases hlt : k < 100
    · have hlt' : ((k : Nat) : Int) ≤ 99 := by omega
      have HPU := Lib.hid (pulled_any HV.out (minutes := (k : Int)) hm (by omega) hl _ _ wr (HX.out wr ((HS3.out.next hbw.out).b)) (HSU.out.below hbw.out))
      have HPN := Lib.hid (pulledN_iff M weight k load)
      obtain ⟨q, hq⟩ : ∃ q, allPull M weight k load = q := ⟨_, rfl⟩
      rw [hq] at HPN
      have HQ := Lib.hid hq
      clear hq
      obtain ⟨PN, hPN⟩ : ∃ PN, pulledN M weight k load = PN := ⟨_, rfl⟩
      obtain ⟨TL, hTL⟩ : ∃ TL, (truthsM M).length = TL := ⟨_, rfl⟩
      rw [hPN, hTL] at HPN
      rw [hPN, hTL] at HPU
      rw [hTL]
      have he : ((PN : Int) == (TL : Int)) = q := by rw [← HPN.out, Bool.eq_iff_iff, beq_iff_eq, decide_eq_true_eq]; omega
      clear hPN hTL
      go_wp2_with fail
      refine HPU.out.mono ?_
      rintro e w4 ⟨rfl, hb⟩
      have HB4 := Lib.hid (hbw.out.trans (hb.mono hbw.out.size))
      clear hb c0 c1 c2 c3 c4 c5
      obtain ⟨c0, c1, c2, c3, c4, c5⟩ := mst_cells (HS3.out.next HB4.out).blk HO.out
      cases q
      · go_wp2
        exact ⟨⟨k + 1, o, by omega, rfl, by go_num, Lib.hid (hto.out.no HQ.out), HB4⟩, by simp [intOf]; omega⟩
      · go_wp2
        exact ⟨⟨k + 1, (k : Int), by omega, rfl, by go_num, Lib.hid (UTo.yes HV.out HQ.out), HB4⟩, by simp [intOf]; omega⟩
    · obtain rfl : k = 100 := by omega
      have HBZ := Lib.hid (HS3.out.b.trans (hbw.out.mono HS3.out.b.size))
      have hua := UTo.all HNE.out hto.out
      by_cases hg : o < 0
      · have HWA := Lib.hid (hua.1 hg)
        clear hua
        go_wp2
        go_ret2
        exact ⟨by rw [HWA.out]; rfl, HBZ.out⟩
      · have HWA := Lib.hid (hua.2 hg)
        clear hua
        go_wp2
        go_ret2
        exact ⟨by rw [HWA.out]; rfl, HBZ.out⟩
end Go.Proofs.Ytomcjopcfdllgaa
