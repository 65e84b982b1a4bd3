/-
  Levers, walks: the bounds of the load.
-/
import Derived.Test.YtomcjopcfdllgaaVWeightsM
import Derived.Test.YtomcjopcfdllgaaVWeight

namespace Go.Proofs.Ytomcjopcfdllgaa
open Go.RowKit Go.Shelf

attribute [local go_sem] Oper.semAt_some

theorem run_mn2a {P : Program} (w : World) (ts : Array TypeId) (t : TypeId) (x y : Int) : (Builtin.min_ ts t #[.int .i64 x, .int .i64 y]).run P w = .ok (.int .i64 (min x y)) w := run_mn2 w ts t x y
theorem run_mx2a {P : Program} (w : World) (ts : Array TypeId) (t : TypeId) (x y : Int) : (Builtin.max_ ts t #[.int .i64 x, .int .i64 y]).run P w = .ok (.int .i64 (max x y)) w := by
  have e : (if x < y then y else x) = max x y := by split <;> omega
  simp [Builtin.max_, Builtin.max2, e]
attribute [local go_sem high] run_mn2a run_mx2a

/-- What Load answers. -/
def loadA (M : Mach) (weight minutes : Int) : (Int × Int) × Int := if (truthsM M).isEmpty = true then ((0, 0), 3) else ((loadLo M weight minutes, loadHi M weight minutes), 0)

set_option maxRecDepth 100000 in
set_option maxHeartbeats 4000000 in
theorem Load_in (F : Fence) (hF : Hid (F = Fence.wide)) (hd : F.depth = none) (hro : F.round = none) (hfn : ∀ f, F.fn f) (n : Nat) (hn : 9 ≤ n) (v : Value) (M : Mach) (weight minutes : Int) (w : World) (hx : MachAt w.heap.size w v M) (hV : validMB M = true) (ha : askB weight minutes 0 0 = true) :
    CallsIn F n Try.prog 18 #[v, .int .i64 weight, .int .i64 minutes] w fun e w' => e = .returned (.tuple #[.agg #[.int .i64 (loadA M weight minutes).1.1, .int .i64 (loadA M weight minutes).1.2], .int .i64 (loadA M weight minutes).2]) ∧ Below w.heap.size w w' := by
  have hV' := validM_iff.1 hV
  have hwt := (askB_iff.1 ha).1
  have hmn := (askB_iff.1 ha).2.1
  have HX := Lib.hid (fun W (hb : Below w.heap.size w W) => (hx.below hb).mono hb.size)
  obtain ⟨a, cap, a2, cap2, rfl⟩ := hx.form
  have HV := Lib.hid hV
  have HV' := Lib.hid hV'
  have HA := Lib.hid ha
  clear hx hV hV' ha
  refine callsIn_of_wp_marks Try.func18 rfl (hfn _) ?_ hro
  simp only [Try.ntmps18, List.size_toArray, List.length_cons, List.length_nil, Nat.reduceAdd, Nat.reduceSub, Array.replicate_succ, Array.replicate_zero, List.push_toArray, List.append_toArray, List.nil_append, List.cons_append]
  gi_wp2_with fail
  obtain ⟨wy, hwy⟩ : ∃ wy, wy = ((w.alloc (.cells #[.slice a M.levers.length cap, .int .i64 M.water, .int .i64 M.lkLo, .int .i64 M.lkHi, .slice a2 M.bals.length cap2, .int .i64 M.wrong] 27)).alloc (.cells #[.int .i64 weight] 3)).alloc (.cells #[.int .i64 minutes] 3) := ⟨_, rfl⟩
  have hszy : wy.heap.size = w.heap.size + 3 := by rw [hwy]; simp
  have hby : Below w.heap.size w wy := by rw [hwy]; exact (((Below.refl _ w).alloc (Nat.le_refl _) _).alloc (by simp) _).alloc (by simp; omega) _
  have hy1 : wy.heap[w.heap.size + 1]? = some (.cells #[.int .i64 weight] 3) := by rw [hwy]; exact (Below.heap_alloc _ _ _ (by simp)).trans (heap_new1 _ _ _)
  have hy2 : wy.heap[w.heap.size + 2]? = some (.cells #[.int .i64 minutes] 3) := by
    rw [hwy]
    have := World.alloc_heap_new ((w.alloc (.cells #[.slice a M.levers.length cap, .int .i64 M.water, .int .i64 M.lkLo, .int .i64 M.lkHi, .slice a2 M.bals.length cap2, .int .i64 M.wrong] 27)).alloc (.cells #[.int .i64 weight] 3)) (.cells #[.int .i64 minutes] 3)
    simpa using this
  rw [← hwy]
  clear hwy
  obtain ⟨wz, hwz⟩ : ∃ wz, wz = wy.alloc (.cells #[.int .i64 0, .int .i64 0] 24) := ⟨_, rfl⟩
  have hsz0 : wz.heap.size = w.heap.size + 4 := by rw [hwz]; simp; omega
  have hbz : Below w.heap.size w wz := by rw [hwz]; exact hby.alloc (by omega) _
  have hz1 : wz.heap[w.heap.size + 1]? = some (.cells #[.int .i64 weight] 3) := by rw [hwz]; exact (Below.heap_alloc _ _ _ (by omega)).trans hy1
  have hz2 : wz.heap[w.heap.size + 2]? = some (.cells #[.int .i64 minutes] 3) := by rw [hwz]; exact (Below.heap_alloc _ _ _ (by omega)).trans hy2
  have hz3 : wz.heap[w.heap.size + 3]? = some (.cells #[.int .i64 0, .int .i64 0] 24) := by rw [hwz, ← hszy]; exact heap_new _ _
  rw [← hwz]
  clear hwz hy1 hy2 hby hszy
  refine (inF hF (open_ok _ M _ _ _ _ (HX.out _ hbz) HV.out HA.out)).mono ?_
  rintro e w1 ⟨pb, rfl, hwk, hb1⟩
  have hsz := hb1.size
  have HBW := Lib.hid (hbz.trans (hb1.mono hbz.size))
  have HM1 := Lib.hid ((hb1.block (w.heap.size + 1) (by omega)).trans hz1)
  have HL1 := Lib.hid ((hb1.block (w.heap.size + 2) (by omega)).trans hz2)
  have HR1 := Lib.hid ((hb1.block (w.heap.size + 3) (by omega)).trans hz3)
  have HWK := Lib.hid hwk
  clear hb1 hwk hbz hz1 hz2 hz3
  gi_wp2_with fail
  obtain ⟨w2, hw2⟩ : ∃ w2, w2 = (w1.alloc (.cells #[.pointer (some ⟨pb, 0, none⟩)] 77)).alloc (.cells #[.int .i64 9223372036854775807, .int .i64 (-1)] 24) := ⟨_, rfl⟩
  have hs2 : w2.heap.size = w1.heap.size + 2 := by rw [hw2]; simp
  have hb2 : Below w1.heap.size w1 w2 := by rw [hw2]; exact ((Below.refl _ w1).alloc (Nat.le_refl _) _).alloc (by simp) _
  have hp2 : w2.heap[w1.heap.size]? = some (.cells #[.pointer (some ⟨pb, 0, none⟩)] 77) := by rw [hw2]; exact heap_old1 _ _ _
  have hv2 : w2.heap[w1.heap.size + 1]? = some (.cells #[.int .i64 (gLo M weight minutes []), .int .i64 (gHi M weight minutes [])] 24) := by rw [hw2]; exact heap_new1 _ _ _
  rw [← hw2]
  clear hw2
  have HB2 := Lib.hid hb2
  have HP2 := Lib.hid hp2
  have hwk2 := HWK.out.below hb2
  obtain ⟨b1, hb1e⟩ : ∃ b1, w1.heap.size = b1 := ⟨_, rfl⟩
  have hbsz := HBW.out.size
  rw [hb1e] at hs2 hsz hb2 hp2 hv2 HB2 HP2 hwk2 hbsz ⊢
  have HE := Lib.hid hb1e
  clear hb1e
  refine wpIn_truths F hF hd hro hfn (by omega) M HV'.out 0 (by omega) pb b1 rfl hwk2 (by omega) rfl (fun k => k = b1 + 1) (fun k hk => by omega)
    (fun pre W => W.heap[b1 + 1]? = some (.cells #[.int .i64 (gLo M weight minutes pre), .int .i64 (gHi M weight minutes pre)] 24)) (fun _ _ _ => False)
    (fun s A A' h2 hk => (hk.block _ (heap_lt h2) (by omega)).trans h2) (fun _ _ _ _ h _ => h) hv2
    (fun tm W g => { tmps := (tm.setIfInBounds 27 (grpV M 0 g)).setIfInBounds 11 (.pointer (some ⟨W.heap.size, 0, none⟩)), defers := [] }) ?assign ?body ?done ?stop
  case assign =>
    intro l x W K hK
    rw [grpV_eq] at hK ⊢
    obtain ⟨x0, x1, x2, y0, y1, y2, lk, gm, hgc⟩ : ∃ x0 x1 x2 y0 y1 y2 lk gm, grpC M 0 x = nine x0 x1 x2 lk y0 y1 y2 gm := ⟨_, _, _, _, _, _, _, _, rfl⟩
    rw [hgc] at hK ⊢
    unfold nine at hK ⊢
    gi_wp2
    exact hK
  case body =>
    intro l pre x V U hpre hI hkb hV2 hVU hgb hwU
    have hpg : ∀ g ∈ pre ++ [x], g ∈ grpL M 0 := fun g hg => (List.mem_filter.1 (hpre.subset hg)).1
    have hxg := hpg x (by simp)
    have hgl1 := gLo_ok M HV'.out hwt hmn.1 pre (fun g hg => hpg g (List.mem_append_left _ hg))
    have hgh1 := gHi_ok M HV'.out hwt hmn.1 pre (fun g hg => hpg g (List.mem_append_left _ hg))
    have hlo := lo_ok HV'.out hxg
    obtain ⟨x0, x1, x2, y0, y1, y2, hgc, hx012, hy012, hxlo, hhi, hl0, hl20⟩ := grp_form HV'.out (by decide) hxg
    rw [grpV_eq]
    have hsl := gLo_snoc M weight minutes pre x
    have hsh := gHi_snoc M weight minutes pre x
    have hfo := force_ok HV'.out hwt hmn.1 hl0
    obtain ⟨lk, hlk⟩ : ∃ lk, x.leak = lk := ⟨_, rfl⟩
    obtain ⟨gm, hgm⟩ : ∃ gm, x.many = gm := ⟨_, rfl⟩
    obtain ⟨HP, hHP⟩ : ∃ HP, x.hi M 0 = HP := ⟨_, rfl⟩
    obtain ⟨LP, hLP⟩ : ∃ LP, x.lo M 0 = LP := ⟨_, rfl⟩
    obtain ⟨LO, hLO⟩ : ∃ LO, gLo M weight minutes pre = LO := ⟨_, rfl⟩
    obtain ⟨HI, hHI⟩ : ∃ HI, gHi M weight minutes pre = HI := ⟨_, rfl⟩
    rw [hgc, hlk, hgm] at hgb ⊢
    unfold nine at hgb ⊢
    rw [hlk] at hsl hsh hfo hl0 hl20
    rw [hHP] at hsl hhi hlo
    rw [hLP] at hsh hxlo hlo
    rw [hLO] at hsl hgl1
    rw [hHI] at hsh hgh1
    have hbo : U.heap[b1 + 1]? = some (.cells #[.int .i64 LO, .int .i64 HI] 24) := by rw [← hLO, ← hHI]; exact hI
    obtain ⟨t1, t12, _⟩ := hwU.three
    have hpb := hwU.1
    have hUs := hkb.size
    have HFC := Lib.hid (fun m => CallsIn.inRound l (inF hF (n := m) (force_any M HV'.out pb weight minutes lk U hwt hmn ⟨hl0, hl20⟩ t1 t12)))
    obtain ⟨FV, hFV⟩ : ∃ FV, force M weight minutes lk = FV := ⟨_, rfl⟩
    rw [hFV] at HFC hsl hsh hfo
    have hq0 : ¬ HP = 0 := by omega
    have hq1 : FV.tdiv HP = FV / HP := Int.tdiv_eq_ediv_of_nonneg hfo.1
    have hq2 : 0 ≤ FV / HP := Int.ediv_nonneg hfo.1 (by omega)
    have hq3 : FV / HP ≤ FV := Int.ediv_le_self _ hfo.1
    obtain ⟨QQ, hQQ⟩ : ∃ QQ, FV / HP = QQ := ⟨_, rfl⟩
    obtain ⟨UU, hUU⟩ : ∃ UU, upD FV LP = UU := ⟨_, rfl⟩
    rw [hQQ] at hq1 hq2 hq3 hsl
    rw [hUU] at hsh
    have hq4 : IntKind.i64.wrap QQ = QQ := IntWalk.i64_in _ (by omega)
    have HPY := Lib.hid (fun m W => CallsIn.inRound l (inF hF (n := m) (product_any y0 y1 y2 lk W hy012.1 hy012.2.1 hy012.2.2)))
    have HPX := Lib.hid (fun m W => CallsIn.inRound l (inF hF (n := m) (product_any x0 x1 x2 lk W hx012.1 hx012.2.1 hx012.2.2)))
    have HRU := Lib.hid (fun m W => CallsIn.inRound l (inF hF (n := m) (roundedUp_any FV LP W (by omega) (by omega))))
    rw [hhi] at HPY
    rw [hxlo] at HPX
    rw [hUU] at HRU
    have hxp := (hkb.block b1 (by omega) (by omega)).trans HP2.out
    have hxm := ((hkb.block (w.heap.size + 1) (by omega) (by omega)).trans (HB2.out.block (w.heap.size + 1) (by omega))).trans HM1.out
    have hxl := ((hkb.block (w.heap.size + 2) (by omega) (by omega)).trans (HB2.out.block (w.heap.size + 2) (by omega))).trans HL1.out
    have e8 := (cell1_of hxp).1
    have e4 := (cell1_of hxm).1
    have e5 := (cell1_of hxl).1
    obtain ⟨GB, hGB⟩ : ∃ GB, V.heap.size = GB := ⟨_, rfl⟩
    rw [hGB] at hV2 hVU hgb ⊢
    obtain ⟨g0, g1, g2, g3, g4, g5, g6, g7, g8⟩ := cells9 hgb
    have HGB := Lib.hid hgb
    have HBO := Lib.hid hbo
    have HSL := Lib.hid hsl
    have HSH := Lib.hid hsh
    have hd0 : (F.inRound l).depth = none := hd
    have HI0 := Lib.hid (trivial : True)
    clear hgb hxp hxm hxl t1 t12 hkb hpre hlk hgm hhi hGB hgc hxg hwU hwk2 hb2 hp2 hv2 hpg hI hbo hsl hsh hFV hQQ hUU hHP hLP hLO hHI hxlo hx012 hy012 HI0
    gi_wp2_with fail
    refine (HFC.out _).mono ?_
    rintro e w4 ⟨rfl, rfl⟩
    clear e4 e5 e8 g0 g1 g2 g3 g4 g5 g6 g7 g8
    gi_wp2_with fail
    have hl0 : (⟨b1 + 1, 0, none⟩ : Addr).block < U.heap.size := heap_lt HBO.out
    have hl1 : (⟨b1 + 1, 1, none⟩ : Addr).block < U.heap.size := heap_lt HBO.out
    have hgl : GB < U.heap.size := heap_lt HGB.out
    have HD0 := Lib.hid (cell2_of HBO.out).1
    have HD1 := Lib.hid (cell2_of HBO.out).2
    have HGBB := HGB
    have HBB := HBO
    refine wpIn_region_factsA _ 9 [35, 36, 37, 38, 39, 40, 41, 42, 43] [isV (.pointer (some ⟨b1 + 1, 0, none⟩)), isV (.int .i64 (LO)), isV (.int .i64 (FV)), isV (.pointer (some ⟨GB, 4, none⟩)), isV (.agg #[.int .i64 y0, .int .i64 y1, .int .i64 y2, .int .i64 lk]), ⟨fun v W => v = .int .i64 (HP), fun _ _ _ h _ => h⟩, isV (.int .i64 (QQ)), isV (.int .i64 (min LO QQ)), isV (.pointer (some ⟨b1 + 1, 0, none⟩))] (by kernel_rfl) (by kernel_rfl) rfl (by decide) (by decide) (by simp) ?step ?rest
    case step =>
      intro i ac W d hi hd hb hoff hdep
      have z0 := (hb.cell hl0).trans HD0.out
      have z1 := (hb.cell hl1).trans HD1.out
      obtain ⟨g0, g1, g2, g3, g4, g5, g6, g7, g8⟩ := cells9 ((hb.block GB hgl).trans HGBB.out)
      have hi2 : i = 0 ∨ i = 1 ∨ i = 2 ∨ i = 3 ∨ i = 4 ∨ i = 5 ∨ i = 6 ∨ i = 7 ∨ i = 8 := by omega
      rcases hi2 with rfl | rfl | rfl | rfl | rfl | rfl | rfl | rfl | rfl
      · obtain rfl : 35 = d := by simpa using hd
        have q10 : ac.tmps[10]?.getD undef = .pointer (some ⟨b1 + 1, 0, none⟩) := (eval_tmp _ _).symm.trans <| (hoff 10 (by decide)).trans rfl
        refine fact_valueIn (fun f => hfn f) rfl (by intro c h; cases h) rfl rfl (v := .pointer (some ⟨b1 + 1, 0, none⟩)) (W' := W) ?_ (Below.refl _ _) rfl
        simp only [execOp]
        go_simp
      · obtain rfl : 36 = d := by simpa using hd
        have q35 : ac.tmps[35]?.getD undef = .pointer (some ⟨b1 + 1, 0, none⟩) := (eval_tmp _ _).symm.trans (hdep 0 35 rfl rfl)
        refine fact_valueIn (fun f => hfn f) rfl (by intro c h; cases h) rfl rfl (v := .int .i64 (LO)) (W' := W) ?_ (Below.refl _ _) rfl
        simp only [execOp]
        go_simp
      · obtain rfl : 37 = d := by simpa using hd
        have q12 : ac.tmps[12]?.getD undef = .int .i64 (FV) := (eval_tmp _ _).symm.trans <| (hoff 12 (by decide)).trans rfl
        refine fact_valueIn (fun f => hfn f) rfl (by intro c h; cases h) rfl rfl (v := .int .i64 (FV)) (W' := W) ?_ (Below.refl _ _) rfl
        simp only [execOp]
        go_simp
      · obtain rfl : 38 = d := by simpa using hd
        have q11 : ac.tmps[11]?.getD undef = .pointer (some ⟨GB, 0, none⟩) := (eval_tmp _ _).symm.trans <| (hoff 11 (by decide)).trans rfl
        refine fact_valueIn (fun f => hfn f) rfl (by intro c h; cases h) rfl rfl (v := .pointer (some ⟨GB, 4, none⟩)) (W' := W) ?_ (Below.refl _ _) rfl
        simp only [execOp]
        go_simp
      · obtain rfl : 39 = d := by simpa using hd
        have q38 : ac.tmps[38]?.getD undef = .pointer (some ⟨GB, 4, none⟩) := (eval_tmp _ _).symm.trans (hdep 3 38 rfl rfl)
        refine fact_valueIn (fun f => hfn f) rfl (by intro c h; cases h) rfl rfl (v := .agg #[.int .i64 y0, .int .i64 y1, .int .i64 y2, .int .i64 lk]) (W' := W) ?_ (Below.refl _ _) rfl
        simp only [execOp]
        go_simp
      · obtain rfl : 40 = d := by simpa using hd
        have q39 : ac.tmps[39]?.getD undef = .agg #[.int .i64 y0, .int .i64 y1, .int .i64 y2, .int .i64 lk] := (eval_tmp _ _).symm.trans (hdep 4 39 rfl rfl)
        refine fact_callIn (fun f => hfn f) hd0 rfl (by intro c h; cases h) rfl rfl (f := 62) (args := #[.agg #[.int .i64 y0, .int .i64 y1, .int .i64 y2, .int .i64 lk]]) ?_ ?_
        · simp only [execOp]
          go_simp
        · refine (HPY.out _ W).mono ?_
          rintro e w' ⟨rfl, hb2⟩
          exact ⟨_, rfl, hb2, rfl⟩
      · obtain rfl : 41 = d := by simpa using hd
        have q37 : ac.tmps[37]?.getD undef = .int .i64 (FV) := (eval_tmp _ _).symm.trans (hdep 2 37 rfl rfl)
        have q40 : (ac.tmps[40]?.getD undef) = .int .i64 (HP) := eval_tmp ac _ ▸ hdep 5 40 rfl rfl
        refine fact_valueIn (fun f => hfn f) rfl (by intro c h; cases h) rfl rfl (v := .int .i64 (QQ)) (W' := W) ?_ (Below.refl _ _) rfl
        simp only [execOp]
        go_simp
      · obtain rfl : 42 = d := by simpa using hd
        have q36 : ac.tmps[36]?.getD undef = .int .i64 (LO) := (eval_tmp _ _).symm.trans (hdep 1 36 rfl rfl)
        have q41 : ac.tmps[41]?.getD undef = .int .i64 (QQ) := (eval_tmp _ _).symm.trans (hdep 6 41 rfl rfl)
        refine fact_valueIn (fun f => hfn f) rfl (by intro c h; cases h) rfl rfl (v := .int .i64 (min LO QQ)) (W' := W) ?_ (Below.refl _ _) rfl
        simp only [execOp]
        go_simp
      · obtain rfl : 43 = d := by simpa using hd
        have q10 : ac.tmps[10]?.getD undef = .pointer (some ⟨b1 + 1, 0, none⟩) := (eval_tmp _ _).symm.trans <| (hoff 10 (by decide)).trans rfl
        refine fact_valueIn (fun f => hfn f) rfl (by intro c h; cases h) rfl rfl (v := .pointer (some ⟨b1 + 1, 0, none⟩)) (W' := W) ?_ (Below.refl _ _) rfl
        simp only [execOp]
        go_simp
    case rest =>
      intro vs W hvl hb hval
      obtain ⟨v0, v1, v2, v3, v4, v5, v6, v7, v8, rfl⟩ : ∃ v0 v1 v2 v3 v4 v5 v6 v7 v8, vs = [v0, v1, v2, v3, v4, v5, v6, v7, v8] := by
        match vs, hvl with
        | [v0, v1, v2, v3, v4, v5, v6, v7, v8], _ => exact ⟨v0, v1, v2, v3, v4, v5, v6, v7, v8, rfl⟩
      obtain rfl : v0 = .pointer (some ⟨b1 + 1, 0, none⟩) := by obtain ⟨u, e, h⟩ := hval 0 (by omega); have e2 : some v0 = some u := e; injection e2 with e2; subst e2; exact h
      obtain rfl : v1 = .int .i64 (LO) := by obtain ⟨u, e, h⟩ := hval 1 (by omega); have e2 : some v1 = some u := e; injection e2 with e2; subst e2; exact h
      obtain rfl : v2 = .int .i64 (FV) := by obtain ⟨u, e, h⟩ := hval 2 (by omega); have e2 : some v2 = some u := e; injection e2 with e2; subst e2; exact h
      obtain rfl : v3 = .pointer (some ⟨GB, 4, none⟩) := by obtain ⟨u, e, h⟩ := hval 3 (by omega); have e2 : some v3 = some u := e; injection e2 with e2; subst e2; exact h
      obtain rfl : v4 = .agg #[.int .i64 y0, .int .i64 y1, .int .i64 y2, .int .i64 lk] := by obtain ⟨u, e, h⟩ := hval 4 (by omega); have e2 : some v4 = some u := e; injection e2 with e2; subst e2; exact h
      have k5 : v5 = .int .i64 (HP) := by obtain ⟨u, e, h⟩ := hval 5 (by omega); have e2 : some v5 = some u := e; injection e2 with e2; subst e2; exact h
      obtain rfl : v6 = .int .i64 (QQ) := by obtain ⟨u, e, h⟩ := hval 6 (by omega); have e2 : some v6 = some u := e; injection e2 with e2; subst e2; exact h
      obtain rfl : v7 = .int .i64 (min LO QQ) := by obtain ⟨u, e, h⟩ := hval 7 (by omega); have e2 : some v7 = some u := e; injection e2 with e2; subst e2; exact h
      obtain rfl : v8 = .pointer (some ⟨b1 + 1, 0, none⟩) := by obtain ⟨u, e, h⟩ := hval 8 (by omega); have e2 : some v8 = some u := e; injection e2 with e2; subst e2; exact h
      clear hval hvl
      simp only [putL, Act.put, List.setIfInBounds_toArray, List.set_cons_zero, List.set_cons_succ]
      obtain ⟨d0, d1⟩ := cell2_of ((hb.block (b1 + 1) hl0).trans HBB.out)
      have df := froz ((hb.block (b1 + 1) hl0).trans HBB.out)
      have HBW8 := Lib.hid hb
      clear hb k5
      refine wpAnyIn_ready (rs := [9]) (by kernel_rfl) (by simp) ?_
      refine AllReadyIn.cons rfl (fun K hK => ?_) AllReadyIn.nil
      go_simp
      refine hK _ _ ?_
      clear hK K
      refine wpAnyIn_done (by kernel_rfl) ?_ _
      have hb8 := HBW8.out
      have hbn := heap_setCell_same (o := 0) (v := .int .i64 (min LO QQ)) ((hb8.block (b1 + 1) hl0).trans HBO.out)
      have hgn := (heap_setCell_other (W := W) (b := b1 + 1) (o := 0) (v := .int .i64 (min LO QQ)) (k := GB) (by omega)).trans ((hb8.block GB hgl).trans HGB.out)
      have hkn : KeptBut (fun k => k = b1 + 1) U (W.setCell ⟨b1 + 1, 0, none⟩ (.int .i64 (min LO QQ))) := (KeptBut.of_below hb8).trans (KeptBut.setCell _ _ _ rfl)
      obtain ⟨U2, hU2⟩ : ∃ U2, W.setCell ⟨b1 + 1, 0, none⟩ (.int .i64 (min LO QQ)) = U2 := ⟨_, rfl⟩
      rw [hU2] at hbn hgn hkn ⊢
      have HBO2 := Lib.hid (show U2.heap[b1 + 1]? = some (.cells #[.int .i64 (min LO QQ), .int .i64 HI] 24) from hbn)
      have HK2 := Lib.hid hkn
      have HGBB := Lib.hid hgn
      clear hb8 hbn hgn hkn hU2 d0 d1 df HBW8 HGB HBO HBB HD0 HD1
      have hl0 : (⟨b1 + 1, 0, none⟩ : Addr).block < U2.heap.size := heap_lt HBO2.out
      have hl1 : (⟨b1 + 1, 1, none⟩ : Addr).block < U2.heap.size := heap_lt HBO2.out
      have hgl : GB < U2.heap.size := heap_lt HGBB.out
      have HD0 := Lib.hid (cell2_of HBO2.out).1
      have HD1 := Lib.hid (cell2_of HBO2.out).2
      have HBB := HBO2
      gi_wp2_with fail
      refine wpIn_region_factsA _ 9 [44, 45, 46, 47, 48, 49, 50, 51, 52] [isV (.pointer (some ⟨b1 + 1, 1, none⟩)), isV (.int .i64 (HI)), isV (.int .i64 (FV)), isV (.pointer (some ⟨GB, 0, none⟩)), isV (.agg #[.int .i64 x0, .int .i64 x1, .int .i64 x2, .int .i64 lk]), ⟨fun v W => v = .int .i64 (LP), fun _ _ _ h _ => h⟩, ⟨fun v W => v = .int .i64 (UU), fun _ _ _ h _ => h⟩, isV (.int .i64 (max HI UU)), isV (.pointer (some ⟨b1 + 1, 1, none⟩))] (by kernel_rfl) (by kernel_rfl) rfl (by decide) (by decide) (by simp) ?step ?rest
      case step =>
        intro i ac W d hi hd hb hoff hdep
        have z0 := (hb.cell hl0).trans HD0.out
        have z1 := (hb.cell hl1).trans HD1.out
        obtain ⟨g0, g1, g2, g3, g4, g5, g6, g7, g8⟩ := cells9 ((hb.block GB hgl).trans HGBB.out)
        have hi2 : i = 0 ∨ i = 1 ∨ i = 2 ∨ i = 3 ∨ i = 4 ∨ i = 5 ∨ i = 6 ∨ i = 7 ∨ i = 8 := by omega
        rcases hi2 with rfl | rfl | rfl | rfl | rfl | rfl | rfl | rfl | rfl
        · obtain rfl : 44 = d := by simpa using hd
          have q10 : ac.tmps[10]?.getD undef = .pointer (some ⟨b1 + 1, 0, none⟩) := (eval_tmp _ _).symm.trans <| (hoff 10 (by decide)).trans rfl
          refine fact_valueIn (fun f => hfn f) rfl (by intro c h; cases h) rfl rfl (v := .pointer (some ⟨b1 + 1, 1, none⟩)) (W' := W) ?_ (Below.refl _ _) rfl
          simp only [execOp]
          go_simp
        · obtain rfl : 45 = d := by simpa using hd
          have q44 : ac.tmps[44]?.getD undef = .pointer (some ⟨b1 + 1, 1, none⟩) := (eval_tmp _ _).symm.trans (hdep 0 44 rfl rfl)
          refine fact_valueIn (fun f => hfn f) rfl (by intro c h; cases h) rfl rfl (v := .int .i64 (HI)) (W' := W) ?_ (Below.refl _ _) rfl
          simp only [execOp]
          go_simp
        · obtain rfl : 46 = d := by simpa using hd
          have q12 : ac.tmps[12]?.getD undef = .int .i64 (FV) := (eval_tmp _ _).symm.trans <| (hoff 12 (by decide)).trans rfl
          refine fact_valueIn (fun f => hfn f) rfl (by intro c h; cases h) rfl rfl (v := .int .i64 (FV)) (W' := W) ?_ (Below.refl _ _) rfl
          simp only [execOp]
          go_simp
        · obtain rfl : 47 = d := by simpa using hd
          have q11 : ac.tmps[11]?.getD undef = .pointer (some ⟨GB, 0, none⟩) := (eval_tmp _ _).symm.trans <| (hoff 11 (by decide)).trans rfl
          refine fact_valueIn (fun f => hfn f) rfl (by intro c h; cases h) rfl rfl (v := .pointer (some ⟨GB, 0, none⟩)) (W' := W) ?_ (Below.refl _ _) rfl
          simp only [execOp]
          go_simp
        · obtain rfl : 48 = d := by simpa using hd
          have q47 : ac.tmps[47]?.getD undef = .pointer (some ⟨GB, 0, none⟩) := (eval_tmp _ _).symm.trans (hdep 3 47 rfl rfl)
          refine fact_valueIn (fun f => hfn f) rfl (by intro c h; cases h) rfl rfl (v := .agg #[.int .i64 x0, .int .i64 x1, .int .i64 x2, .int .i64 lk]) (W' := W) ?_ (Below.refl _ _) rfl
          simp only [execOp]
          go_simp
        · obtain rfl : 49 = d := by simpa using hd
          have q48 : ac.tmps[48]?.getD undef = .agg #[.int .i64 x0, .int .i64 x1, .int .i64 x2, .int .i64 lk] := (eval_tmp _ _).symm.trans (hdep 4 48 rfl rfl)
          refine fact_callIn (fun f => hfn f) hd0 rfl (by intro c h; cases h) rfl rfl (f := 62) (args := #[.agg #[.int .i64 x0, .int .i64 x1, .int .i64 x2, .int .i64 lk]]) ?_ ?_
          · simp only [execOp]
            go_simp
          · refine (HPX.out _ W).mono ?_
            rintro e w' ⟨rfl, hb2⟩
            exact ⟨_, rfl, hb2, rfl⟩
        · obtain rfl : 50 = d := by simpa using hd
          have q46 : ac.tmps[46]?.getD undef = .int .i64 (FV) := (eval_tmp _ _).symm.trans (hdep 2 46 rfl rfl)
          have q49 : (ac.tmps[49]?.getD undef) = .int .i64 (LP) := eval_tmp ac _ ▸ hdep 5 49 rfl rfl
          refine fact_callIn (fun f => hfn f) hd0 rfl (by intro c h; cases h) rfl rfl (f := 63) (args := #[.int .i64 (FV), .int .i64 (LP)]) ?_ ?_
          · simp only [execOp]
            go_simp
          · refine (HRU.out _ W).mono ?_
            rintro e w' ⟨rfl, rfl⟩
            exact ⟨_, rfl, Below.refl _ _, rfl⟩
        · obtain rfl : 51 = d := by simpa using hd
          have q45 : ac.tmps[45]?.getD undef = .int .i64 (HI) := (eval_tmp _ _).symm.trans (hdep 1 45 rfl rfl)
          have q50 : (ac.tmps[50]?.getD undef) = .int .i64 (UU) := eval_tmp ac _ ▸ hdep 6 50 rfl rfl
          refine fact_valueIn (fun f => hfn f) rfl (by intro c h; cases h) rfl rfl (v := .int .i64 (max HI UU)) (W' := W) ?_ (Below.refl _ _) rfl
          simp only [execOp]
          go_simp
        · obtain rfl : 52 = d := by simpa using hd
          have q10 : ac.tmps[10]?.getD undef = .pointer (some ⟨b1 + 1, 0, none⟩) := (eval_tmp _ _).symm.trans <| (hoff 10 (by decide)).trans rfl
          refine fact_valueIn (fun f => hfn f) rfl (by intro c h; cases h) rfl rfl (v := .pointer (some ⟨b1 + 1, 1, none⟩)) (W' := W) ?_ (Below.refl _ _) rfl
          simp only [execOp]
          go_simp
      case rest =>
        intro vs W hvl hb hval
        obtain ⟨v0, v1, v2, v3, v4, v5, v6, v7, v8, rfl⟩ : ∃ v0 v1 v2 v3 v4 v5 v6 v7 v8, vs = [v0, v1, v2, v3, v4, v5, v6, v7, v8] := by
          match vs, hvl with
          | [v0, v1, v2, v3, v4, v5, v6, v7, v8], _ => exact ⟨v0, v1, v2, v3, v4, v5, v6, v7, v8, rfl⟩
        obtain rfl : v0 = .pointer (some ⟨b1 + 1, 1, none⟩) := by obtain ⟨u, e, h⟩ := hval 0 (by omega); have e2 : some v0 = some u := e; injection e2 with e2; subst e2; exact h
        obtain rfl : v1 = .int .i64 (HI) := by obtain ⟨u, e, h⟩ := hval 1 (by omega); have e2 : some v1 = some u := e; injection e2 with e2; subst e2; exact h
        obtain rfl : v2 = .int .i64 (FV) := by obtain ⟨u, e, h⟩ := hval 2 (by omega); have e2 : some v2 = some u := e; injection e2 with e2; subst e2; exact h
        obtain rfl : v3 = .pointer (some ⟨GB, 0, none⟩) := by obtain ⟨u, e, h⟩ := hval 3 (by omega); have e2 : some v3 = some u := e; injection e2 with e2; subst e2; exact h
        obtain rfl : v4 = .agg #[.int .i64 x0, .int .i64 x1, .int .i64 x2, .int .i64 lk] := by obtain ⟨u, e, h⟩ := hval 4 (by omega); have e2 : some v4 = some u := e; injection e2 with e2; subst e2; exact h
        have k5 : v5 = .int .i64 (LP) := by obtain ⟨u, e, h⟩ := hval 5 (by omega); have e2 : some v5 = some u := e; injection e2 with e2; subst e2; exact h
        have k6 : v6 = .int .i64 (UU) := by obtain ⟨u, e, h⟩ := hval 6 (by omega); have e2 : some v6 = some u := e; injection e2 with e2; subst e2; exact h
        obtain rfl : v7 = .int .i64 (max HI UU) := by obtain ⟨u, e, h⟩ := hval 7 (by omega); have e2 : some v7 = some u := e; injection e2 with e2; subst e2; exact h
        obtain rfl : v8 = .pointer (some ⟨b1 + 1, 1, none⟩) := by obtain ⟨u, e, h⟩ := hval 8 (by omega); have e2 : some v8 = some u := e; injection e2 with e2; subst e2; exact h
        clear hval hvl
        simp only [putL, Act.put, List.setIfInBounds_toArray, List.set_cons_zero, List.set_cons_succ]
        obtain ⟨d0, d1⟩ := cell2_of ((hb.block (b1 + 1) hl0).trans HBB.out)
        have df := froz ((hb.block (b1 + 1) hl0).trans HBB.out)
        have HBW8 := Lib.hid hb
        clear hb k5 k6
        refine wpAnyIn_ready (rs := [9]) (by kernel_rfl) (by simp) ?_
        refine AllReadyIn.cons rfl (fun K hK => ?_) AllReadyIn.nil
        go_simp
        refine hK _ _ ?_
        clear hK K
        refine wpAnyIn_done (by kernel_rfl) ?_ _
        gi_wp2_with fail
        have hb9 := HBW8.out
        refine ⟨HK2.out.trans ((KeptBut.of_below hb9).trans (KeptBut.setCell _ _ _ rfl)), ?_⟩
        show (W.setCell ⟨b1 + 1, 1, none⟩ (.int .i64 (max HI UU))).heap[b1 + 1]? = some (.cells #[.int .i64 (gLo M weight minutes (pre ++ [x])), .int .i64 (gHi M weight minutes (pre ++ [x]))] 24)
        rw [HSL.out, HSH.out]
        exact heap_setCell_same ((hb9.block (b1 + 1) hl0).trans HBO2.out)
  case done =>
    rintro D W hD hkb hI hK
    have hkB : Below w.heap.size w W := (HBW.out.trans (HB2.out.mono hbsz)).trans (hkb.below (by omega) (fun k hk => by omega))
    have hres := ((hkb.block (w.heap.size + 3) (by omega) (by omega)).trans (HB2.out.block (w.heap.size + 3) (by omega))).trans HR1.out
    obtain ⟨x0, x1⟩ := cell2_of hres
    have xf := froz hres
    obtain ⟨d0, d1⟩ := cell2_of hI
    have hlo := gLo_all HV'.out hwt hmn.1
    have hhi := gHi_all HV'.out hwt hmn.1
    have hgn := grpT_none HV'.out (lev := 0) (by decide)
    have hgh1 := (gHi_ok M HV'.out hwt hmn.1 (grpT M 0) (fun g hg => (List.mem_filter.1 hg).1)).2.2
    rw [hlo, hhi] at hI
    rw [hlo] at d0
    rw [hhi] at d1 hgh1
    have hDn : w.heap.size + 3 ≠ D := by omega
    have HPUT := Lib.hid (fun (v0 v1 : Value) => show (((W.setCell ⟨w.heap.size + 3, 0, none⟩ v0).setCell ⟨w.heap.size + 3, 1, none⟩ v1).putObj D (.deferred none)).heap[w.heap.size + 3]? = some (.cells #[v0, v1] 24) from (World.putObj_heap_other (by omega)).trans (heap_setCell_same (heap_setCell_same hres)))
    have HDK := Lib.hid (fun (v0 v1 : Value) => show ((W.setCell ⟨w.heap.size + 3, 0, none⟩ v0).setCell ⟨w.heap.size + 3, 1, none⟩ v1).heap[D]? = some (.deferred (some [])) from (heap_setCell_other hDn).trans ((heap_setCell_other hDn).trans hK))
    have HFB := Lib.hid (fun (v0 v1 : Value) => show Below w.heap.size w (((W.setCell ⟨w.heap.size + 3, 0, none⟩ v0).setCell ⟨w.heap.size + 3, 1, none⟩ v1).putObj D (.deferred none)) from (below_setCell (below_setCell hkB (by omega)) (by omega)).trans (putObj_below _ _ (by omega)))
    obtain ⟨LO, hLO⟩ : ∃ LO, loadLo M weight minutes = LO := ⟨_, rfl⟩
    obtain ⟨HI, hHI⟩ : ∃ HI, loadHi M weight minutes = HI := ⟨_, rfl⟩
    have hla : loadA M weight minutes = if (truthsM M).isEmpty = true then ((0, 0), 3) else ((LO, HI), 0) := by unfold loadA; rw [hLO, hHI]
    rw [hLO] at d0
    rw [hHI] at d1 hgh1
    have HLA := Lib.hid hla
    by_cases he : (truthsM M).isEmpty = true
    · have hge : grpT M 0 = [] := List.isEmpty_iff.1 (hgn.trans he)
      have hH1 : HI = -1 := by rw [← hHI, ← hhi, hge]; rfl
      subst hH1
      rw [if_pos he] at HLA
      clear hla hLO hHI hgn hgh1 hlo hhi hI hres hkb hkB hK hge he hs2 hD hwk2 hb2 hp2 hv2
      gi_wp2
      refine ⟨by simp, .inl ⟨_, _, rfl, run_takeDeferred (HDK.out _ _), ?_⟩⟩
      obtain ⟨s0, s1⟩ := cell2_of (show (((W.setCell ⟨w.heap.size + 1 + 1 + 1, 0, none⟩ (.int .i64 0)).setCell ⟨w.heap.size + 1 + 1 + 1, 1, none⟩ (.int .i64 0)).putObj D (.deferred none)).heap[w.heap.size + 1 + 1 + 1]? = some (.cells #[.int .i64 0, .int .i64 0] 24) from HPUT.out (.int .i64 0) (.int .i64 0))
      exact ⟨.tuple #[.agg #[.int .i64 0, .int .i64 0], .int .i64 3], by simp [results, Try.results18, go_sem, s0, s1], by rw [HLA.out], HFB.out _ _⟩
    · have hH0 : 0 ≤ HI := hgh1 (fun h => he (hgn.symm.trans (by rw [h]; rfl)))
      have hH1 : (HI == -1) = false := by simp; omega
      rw [if_neg he] at HLA
      clear hla hLO hHI hgn hgh1 hlo hhi hI hres hkb hkB hK he hs2 hD hwk2 hb2 hp2 hv2
      gi_wp2
      refine ⟨by simp, .inl ⟨_, _, rfl, run_takeDeferred (HDK.out _ _), ?_⟩⟩
      obtain ⟨s0, s1⟩ := cell2_of (show (((W.setCell ⟨w.heap.size + 1 + 1 + 1, 0, none⟩ (.int .i64 LO)).setCell ⟨w.heap.size + 1 + 1 + 1, 1, none⟩ (.int .i64 HI)).putObj D (.deferred none)).heap[w.heap.size + 1 + 1 + 1]? = some (.cells #[.int .i64 LO, .int .i64 HI] 24) from HPUT.out (.int .i64 LO) (.int .i64 HI))
      exact ⟨.tuple #[.agg #[.int .i64 LO, .int .i64 HI], .int .i64 0], by simp [results, Try.results18, go_sem, s0, s1], by rw [HLA.out], HFB.out _ _⟩
  case stop =>
    rintro D c pre W _ _ _ h _
    exact h.elim
theorem Load_any (v : Value) (M : Mach) (weight minutes : Int) (w : World) (hx : MachAt w.heap.size w v M) (hV : validMB M = true) (ha : askB weight minutes 0 0 = true) :
    Calls Try.prog 18 #[v, .int .i64 weight, .int .i64 minutes] w fun e w' => e = .returned (.tuple #[.agg #[.int .i64 (loadA M weight minutes).1.1, .int .i64 (loadA M weight minutes).1.2], .int .i64 (loadA M weight minutes).2]) ∧ Below w.heap.size w w' :=
  wide_calls (Load_in Fence.wide rfl rfl rfl (fun _ => trivial) 9 (by omega) v M weight minutes w hx hV ha)
end Go.Proofs.Ytomcjopcfdllgaa
