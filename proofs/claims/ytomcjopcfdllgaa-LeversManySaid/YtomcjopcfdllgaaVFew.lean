/-
  Levers, walks: the least number of balances that are not right.
-/
import Derived.Test.YtomcjopcfdllgaaVLoad
import Derived.Test.YtomcjopcfdllgaaVAns

namespace Go.Proofs.Ytomcjopcfdllgaa
open Go.RowKit Go.Shelf

attribute [local go_sem] Oper.semAt_some
attribute [local go_sem high] run_mn2a run_mx2a

/-- What Fewest answers. -/
def fewestM (M : Mach) : Nat := ((setsM M).map (fun s => wrongsP M s.2 (prodL s.1))).foldl min M.bals.length
def gFew (M : Mach) (l : List Grp) : Nat := (l.map (fun g => wrongsP M g.leak (g.lo M 0))).foldl min M.bals.length
theorem gFew_snoc (M : Mach) (l : List Grp) (g : Grp) : gFew M (l ++ [g]) = min (gFew M l) (wrongsP M g.leak (g.lo M 0)) := by simp [gFew]
theorem gFew_le (M : Mach) (l : List Grp) : gFew M l ≤ M.bals.length := (foldl_min_le _ _).1
theorem gFew_all {M : Mach} (hV : ValidM M) : gFew M (grpL M 0) = fewestM M := few_grp hV (by decide)
theorem min_cast (a b : Nat) : min (a : Int) (b : Int) = ((min a b : Nat) : Int) := by omega

set_option maxRecDepth 100000 in
set_option maxHeartbeats 4000000 in
theorem Fewest_in (F : Fence) (hF : Hid (F = Fence.wide)) (hd : F.depth = none) (hro : F.round = none) (hfn : ∀ f, F.fn f) (n : Nat) (hn : 9 ≤ n) (v : Value) (M : Mach) (w : World) (hx : MachAt w.heap.size w v M) (hV : validMB M = true) :
    CallsIn F n Try.prog 21 #[v] w fun e w' => e = .returned (.tuple #[.int .i64 (fewestM M : Nat), .int .i64 0]) ∧ Below w.heap.size w w' := by
  have hV' := validM_iff.1 hV
  have hall := gFew_all hV'
  have HX := Lib.hid (fun W (hb : Below w.heap.size w W) => (hx.below hb).mono hb.size)
  obtain ⟨a, cap, a2, cap2, rfl⟩ := hx.form
  have HV := Lib.hid hV
  have HV' := Lib.hid hV'
  have HALL := Lib.hid hall
  clear hx hV hV' hall
  refine callsIn_of_wp_marks Try.func21 rfl (hfn _) ?_ hro
  simp only [Try.ntmps21, List.size_toArray, List.length_cons, List.length_nil, Nat.reduceAdd, Nat.reduceSub, Array.replicate_succ, Array.replicate_zero, List.push_toArray, List.append_toArray, List.nil_append, List.cons_append]
  gi_wp2_with fail
  refine (inF hF (open_ok _ M _ _ _ _ (HX.out _ (by go_grown)) HV.out (by decide))).mono ?_
  rintro e w1 ⟨pb, rfl, hwk, hb1⟩
  have hsz := hb1.size
  simp only [World.size_alloc] at hsz
  have hbw : Below w.heap.size w w1 := (((Below.refl _ w).alloc (Nat.le_refl _) _)).trans (hb1.mono (by simp))
  have HWK := Lib.hid hwk
  have HBW := Lib.hid hbw
  obtain ⟨_, _, bv, c4, hbals⟩ := hwk.three
  obtain ⟨a4, cap4, bb4, off4, rfl, _⟩ := hbals
  have hpb : pb < w1.heap.size := hwk.1
  have c4a := (World.cell?_of_block (w := w1) (a := ⟨pb, 4, none⟩) (Below.heap_alloc w1 (.cells #[.pointer (some ⟨pb, 0, none⟩)] 77) pb hpb)).trans c4
  clear hb1 hwk hbw c4
  gi_wp2_with fail
  obtain ⟨w2, hw2⟩ : ∃ w2, w2 = (w1.alloc (.cells #[.pointer (some ⟨pb, 0, none⟩)] 77)).alloc (.cells #[.int .i64 M.bals.length] 3) := ⟨_, rfl⟩
  have hs2 : w2.heap.size = w1.heap.size + 2 := by rw [hw2]; simp
  have hb2 : Below w1.heap.size w1 w2 := by rw [hw2]; exact ((Below.refl _ w1).alloc (Nat.le_refl _) _).alloc (by simp) _
  have hp2 : w2.heap[w1.heap.size]? = some (.cells #[.pointer (some ⟨pb, 0, none⟩)] 77) := by rw [hw2]; exact heap_old1 _ _ _
  have hv2 : w2.heap[w1.heap.size + 1]? = some (.cells #[.int .i64 (gFew M [] : Nat)] 3) := by rw [hw2]; exact heap_new1 _ _ _
  rw [← hw2]
  clear hw2 c4a
  have HB2 := Lib.hid hb2
  have HP2 := Lib.hid hp2
  have hwk2 := HWK.out.below hb2
  obtain ⟨b1, hb1e⟩ : ∃ b1, w1.heap.size = b1 := ⟨_, rfl⟩
  have hbsz := HBW.out.size
  rw [hb1e] at hs2 hsz hb2 hp2 hv2 HB2 HP2 hwk2 hbsz ⊢
  have HE := Lib.hid hb1e
  clear hb1e
  refine wpIn_groups F hF hd hro hfn (by omega) M HV'.out 0 (by omega) pb b1 rfl hwk2 (by omega) rfl (fun k => k = b1 + 1) (fun k hk => by omega)
    (fun pre W => W.heap[b1 + 1]? = some (.cells #[.int .i64 (gFew M pre : Nat)] 3)) (fun _ _ _ => False)
    (fun s A A' h2 hk => (hk.block _ (heap_lt h2) (by omega)).trans h2) (fun _ _ _ _ h _ => h) hv2
    (fun tm W g => { tmps := (tm.setIfInBounds 24 (grpV M 0 g)).setIfInBounds 7 (.pointer (some ⟨W.heap.size, 0, none⟩)), defers := [] }) ?assign ?body ?done ?stop
  case assign =>
    intro l x W K hK
    rw [grpV_eq] at hK ⊢
    obtain ⟨x0, x1, x2, y0, y1, y2, lk, gm, hgc⟩ : ∃ x0 x1 x2 y0 y1 y2 lk gm, grpC M 0 x = nine x0 x1 x2 lk y0 y1 y2 gm := ⟨_, _, _, _, _, _, _, _, rfl⟩
    rw [hgc] at hK ⊢
    unfold nine at hK ⊢
    gi_wp2
    exact hK
  case body =>
    intro l pre x V U hpre hI hkb hV2 hVU hgb hwU
    have hxg : x ∈ grpL M 0 := hpre.subset (by simp)
    obtain ⟨x0, x1, x2, y0, y1, y2, hgc, hx012, hy012, hxlo, hhi, hl0, hl20⟩ := grp_form HV'.out (by decide) hxg
    rw [grpV_eq]
    have hsl := gFew_snoc M pre x
    have hfl := gFew_le M pre
    have hnb := HV'.out.nb
    obtain ⟨lk, hlk⟩ : ∃ lk, x.leak = lk := ⟨_, rfl⟩
    obtain ⟨gm, hgm⟩ : ∃ gm, x.many = gm := ⟨_, rfl⟩
    obtain ⟨LP, hLP⟩ : ∃ LP, x.lo M 0 = LP := ⟨_, rfl⟩
    obtain ⟨FW, hFW⟩ : ∃ FW, gFew M pre = FW := ⟨_, rfl⟩
    rw [hgc, hlk, hgm] at hgb ⊢
    unfold nine at hgb ⊢
    rw [hlk, hLP, hFW] at hsl
    rw [hlk] at hl0 hl20
    rw [hLP] at hxlo
    rw [hFW] at hfl
    have hbo : U.heap[b1 + 1]? = some (.cells #[.int .i64 (FW : Nat)] 3) := by rw [← hFW]; exact hI
    obtain ⟨t1, t12, bv, t4, tb⟩ := hwU.three
    have hpb := hwU.1
    have hUs := hkb.size
    have HNR := Lib.hid (fun m (W : World) (hW : Below U.heap.size U W) => CallsIn.inRound l (inF hF (n := m) (notRight_any M HV'.out pb x0 x1 x2 lk bv W (by have := hW.size; omega) ⟨hl0, hl20⟩ hx012.1 hx012.2.1 hx012.2.2 ((hW.cell (p := ⟨pb, 1, none⟩) (by show pb < U.heap.size; omega)).trans t1) ((hW.cell (p := ⟨pb, 4, none⟩) (by show pb < U.heap.size; omega)).trans t4) ((hW.cell (p := ⟨pb, 12, none⟩) (by show pb < U.heap.size; omega)).trans t12) (((tb.mono (B' := U.heap.size) (by omega)).below hW).mono hW.size))))
    rw [hxlo] at HNR
    obtain ⟨WR, hWR⟩ : ∃ WR, wrongsP M lk LP = WR := ⟨_, rfl⟩
    rw [hWR] at HNR hsl
    have hmc := min_cast FW WR
    have hxp := (hkb.block b1 (by omega) (by omega)).trans HP2.out
    obtain ⟨GB, hGB⟩ : ∃ GB, V.heap.size = GB := ⟨_, rfl⟩
    rw [hGB] at hV2 hVU hgb ⊢
    have HGB := Lib.hid hgb
    have HBO := Lib.hid hbo
    have HXP := Lib.hid hxp
    have HSL := Lib.hid hsl
    have HMC := Lib.hid hmc
    have hd0 : (F.inRound l).depth = none := hd
    have hl0 : (⟨b1 + 1, 0, none⟩ : Addr).block < U.heap.size := heap_lt HBO.out
    have hgl : GB < U.heap.size := heap_lt HGB.out
    have hpl : b1 < U.heap.size := heap_lt HXP.out
    have HD0 := Lib.hid (cell1_of HBO.out).1
    have HDP := Lib.hid (cell1_of HXP.out).1
    clear hgb hxp t1 t12 t4 tb hkb hpre hlk hgm hhi hGB hgc hxg hwU hwk2 hb2 hp2 hv2 hI hbo hsl hWR hLP hFW hxlo hx012 hy012 hmc hnb hfl
    gi_wp2_with fail
    refine wpIn_region_factsA _ 6 [25, 26, 27, 28, 29, 30] [isV (.int .i64 (FW : Nat)), isV (.pointer (some ⟨pb, 0, none⟩)), isV (.pointer (some ⟨GB, 0, none⟩)), isV (.agg #[.int .i64 x0, .int .i64 x1, .int .i64 x2, .int .i64 lk]), ⟨fun v W => v = .int .i64 (WR : Nat), fun _ _ _ h _ => h⟩, isV (.int .i64 (min (FW : Int) (WR : Int)))] (by kernel_rfl) (by kernel_rfl) rfl (by decide) (by decide) (by simp) ?step ?rest
    case step =>
      intro i ac W d hi hd hb hoff hdep
      have z0 := (hb.cell hl0).trans HD0.out
      have zp := (hb.cell (p := ⟨b1, 0, none⟩) hpl).trans HDP.out
      obtain ⟨g0, g1, g2, g3, g4, g5, g6, g7, g8⟩ := cells9 ((hb.block GB hgl).trans HGB.out)
      have hi2 : i = 0 ∨ i = 1 ∨ i = 2 ∨ i = 3 ∨ i = 4 ∨ i = 5 := by omega
      rcases hi2 with rfl | rfl | rfl | rfl | rfl | rfl
      · obtain rfl : 25 = d := by simpa using hd
        have q6 : ac.tmps[6]?.getD undef = .pointer (some ⟨b1 + 1, 0, none⟩) := (eval_tmp _ _).symm.trans <| (hoff 6 (by decide)).trans rfl
        refine fact_valueIn (fun f => hfn f) rfl (by intro c h; cases h) rfl rfl (v := .int .i64 (FW : Nat)) (W' := W) ?_ (Below.refl _ _) rfl
        simp only [execOp]
        go_simp
      · obtain rfl : 26 = d := by simpa using hd
        have q4 : ac.tmps[4]?.getD undef = .pointer (some ⟨b1, 0, none⟩) := (eval_tmp _ _).symm.trans <| (hoff 4 (by decide)).trans rfl
        refine fact_valueIn (fun f => hfn f) rfl (by intro c h; cases h) rfl rfl (v := .pointer (some ⟨pb, 0, none⟩)) (W' := W) ?_ (Below.refl _ _) rfl
        simp only [execOp]
        go_simp
      · obtain rfl : 27 = d := by simpa using hd
        have q7 : ac.tmps[7]?.getD undef = .pointer (some ⟨GB, 0, none⟩) := (eval_tmp _ _).symm.trans <| (hoff 7 (by decide)).trans rfl
        refine fact_valueIn (fun f => hfn f) rfl (by intro c h; cases h) rfl rfl (v := .pointer (some ⟨GB, 0, none⟩)) (W' := W) ?_ (Below.refl _ _) rfl
        simp only [execOp]
        go_simp
      · obtain rfl : 28 = d := by simpa using hd
        have q27 : ac.tmps[27]?.getD undef = .pointer (some ⟨GB, 0, none⟩) := (eval_tmp _ _).symm.trans (hdep 2 27 rfl rfl)
        refine fact_valueIn (fun f => hfn f) rfl (by intro c h; cases h) rfl rfl (v := .agg #[.int .i64 x0, .int .i64 x1, .int .i64 x2, .int .i64 lk]) (W' := W) ?_ (Below.refl _ _) rfl
        simp only [execOp]
        go_simp
      · obtain rfl : 29 = d := by simpa using hd
        have q26 : ac.tmps[26]?.getD undef = .pointer (some ⟨pb, 0, none⟩) := (eval_tmp _ _).symm.trans (hdep 1 26 rfl rfl)
        have q28 : ac.tmps[28]?.getD undef = .agg #[.int .i64 x0, .int .i64 x1, .int .i64 x2, .int .i64 lk] := (eval_tmp _ _).symm.trans (hdep 3 28 rfl rfl)
        refine fact_callIn (fun f => hfn f) hd0 rfl (by intro c h; cases h) rfl rfl (f := 69) (args := #[.pointer (some ⟨pb, 0, none⟩), .agg #[.int .i64 x0, .int .i64 x1, .int .i64 x2, .int .i64 lk]]) ?_ ?_
        · simp only [execOp]
          go_simp
        · refine (HNR.out _ W hb).mono ?_
          rintro e w' ⟨rfl, hb2⟩
          exact ⟨_, rfl, hb2, rfl⟩
      · obtain rfl : 30 = d := by simpa using hd
        have q25 : ac.tmps[25]?.getD undef = .int .i64 (FW : Nat) := (eval_tmp _ _).symm.trans (hdep 0 25 rfl rfl)
        have q29 : (ac.tmps[29]?.getD undef) = .int .i64 (WR : Nat) := eval_tmp ac _ ▸ hdep 4 29 rfl rfl
        refine fact_valueIn (fun f => hfn f) rfl (by intro c h; cases h) rfl rfl (v := .int .i64 (min (FW : Int) (WR : Int))) (W' := W) ?_ (Below.refl _ _) rfl
        simp only [execOp]
        go_simp
    case rest =>
      intro vs W hvl hb hval
      obtain ⟨v0, v1, v2, v3, v4, v5, rfl⟩ : ∃ v0 v1 v2 v3 v4 v5, vs = [v0, v1, v2, v3, v4, v5] := by
        match vs, hvl with
        | [v0, v1, v2, v3, v4, v5], _ => exact ⟨v0, v1, v2, v3, v4, v5, rfl⟩
      obtain rfl : v0 = .int .i64 (FW : Nat) := by obtain ⟨u, e, h⟩ := hval 0 (by omega); have e2 : some v0 = some u := e; injection e2 with e2; subst e2; exact h
      obtain rfl : v1 = .pointer (some ⟨pb, 0, none⟩) := by obtain ⟨u, e, h⟩ := hval 1 (by omega); have e2 : some v1 = some u := e; injection e2 with e2; subst e2; exact h
      obtain rfl : v2 = .pointer (some ⟨GB, 0, none⟩) := by obtain ⟨u, e, h⟩ := hval 2 (by omega); have e2 : some v2 = some u := e; injection e2 with e2; subst e2; exact h
      obtain rfl : v3 = .agg #[.int .i64 x0, .int .i64 x1, .int .i64 x2, .int .i64 lk] := by obtain ⟨u, e, h⟩ := hval 3 (by omega); have e2 : some v3 = some u := e; injection e2 with e2; subst e2; exact h
      have k4 : v4 = .int .i64 (WR : Nat) := by obtain ⟨u, e, h⟩ := hval 4 (by omega); have e2 : some v4 = some u := e; injection e2 with e2; subst e2; exact h
      obtain rfl : v5 = .int .i64 (min (FW : Int) (WR : Int)) := by obtain ⟨u, e, h⟩ := hval 5 (by omega); have e2 : some v5 = some u := e; injection e2 with e2; subst e2; exact h
      clear hval hvl
      simp only [putL, Act.put, List.setIfInBounds_toArray, List.set_cons_zero, List.set_cons_succ]
      obtain ⟨d0, d1⟩ := cell1_of ((hb.block (b1 + 1) hl0).trans HBO.out)
      have HBW8 := Lib.hid hb
      clear hb k4
      refine wpAnyIn_ready (rs := [6]) (by kernel_rfl) (by simp) ?_
      refine AllReadyIn.cons rfl (fun K hK => ?_) AllReadyIn.nil
      go_simp
      refine hK _ _ ?_
      clear hK K
      refine wpAnyIn_done (by kernel_rfl) ?_ _
      gi_wp2_with fail
      have hb9 := HBW8.out
      refine ⟨(KeptBut.of_below hb9).trans (KeptBut.setCell _ _ _ rfl), ?_⟩
      show (W.setCell ⟨b1 + 1, 0, none⟩ (.int .i64 (min (FW : Int) (WR : Int)))).heap[b1 + 1]? = some (.cells #[.int .i64 (gFew M (pre ++ [x]) : Nat)] 3)
      rw [HSL.out, HMC.out]
      exact set_box _ ((hb9.block (b1 + 1) hl0).trans HBO.out)
  case done =>
    rintro D W hD hkb hI hK
    have hfin : Below w.heap.size w (W.putObj D (.deferred none)) := ((HBW.out.trans (HB2.out.mono hbsz)).trans (hkb.below (by omega) (fun k hk => by omega))).trans (putObj_below _ _ (by omega))
    obtain ⟨d1, d2⟩ := cell1_of hI
    rw [HALL.out] at d1
    obtain ⟨T, hT⟩ : ∃ T, fewestM M = T := ⟨_, rfl⟩
    rw [hT] at d1
    have HT := Lib.hid hT
    clear hT hI hwk2 hb2 hp2 hv2 hs2 hD hkb
    gi_wp2
    refine ⟨by simp, .inl ⟨_, _, rfl, run_takeDeferred hK, ?_⟩⟩
    exact ⟨_, results_tmp2 rfl _ _ _, by rw [HT.out]; rfl, hfin⟩
  case stop =>
    rintro D c pre W _ _ _ h _
    exact h.elim
theorem Fewest_any (v : Value) (M : Mach) (w : World) (hx : MachAt w.heap.size w v M) (hV : validMB M = true) :
    Calls Try.prog 21 #[v] w fun e w' => e = .returned (.tuple #[.int .i64 (fewestM M : Nat), .int .i64 0]) ∧ Below w.heap.size w w' :=
  wide_calls (Fewest_in Fence.wide rfl rfl rfl (fun _ => trivial) 9 (by omega) v M w hx hV)
end Go.Proofs.Ytomcjopcfdllgaa
