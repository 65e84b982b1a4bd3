/-
  Levers: the iterator 'groups'.
-/
import Derived.Test.YtomcjopcfdllgaaVGrpF
import Derived.Deep.DeepCutAuto
import Derived.OwnWalk
import Derived.Test.YtomcjopcfdllgaaVFactsI

namespace Go.Proofs.Ytomcjopcfdllgaa
open Go.RowKit Go.Shelf

attribute [local go_sem] Oper.semAt_some

theorem short_if (M : Mach) {lev : Nat} (hl : lev < 3) : shortOf M.levers lev = if lev = 0 then shortOf M.levers 0 else if lev = 1 then shortOf M.levers 1 else shortOf M.levers 2 := by
  have : lev = 0 ∨ lev = 1 ∨ lev = 2 := by omega
  rcases this with rfl | rfl | rfl <;> rfl
set_option maxRecDepth 100000 in
set_option maxHeartbeats 8000000 in
theorem groups_seq (F : Fence) (hF : Hid (F = Fence.wide)) (hd : F.depth = none) (hro : F.round = none) (hfn : ∀ f, F.fn f) (n : Nat) (M : Mach) (hV : ValidM M) (lev : Nat) (hl : lev < 3) (pb B : Nat) (w0 : World) (hx : WorkAt B w0 pb M lev) (hB : B ≤ w0.heap.size) :
    SeqB F n Try.prog 68 #[.pointer (some ⟨pb, 0, none⟩)] #[] [] 0 (fun _ g => grpV M lev g) (fun _ _ _ => True) (grpL M lev) (fun k => k < B) w0 := by
  intro l own J Jx U hb hown hJ hJx hY h0
  have hBW : B ≤ U.heap.size := Nat.le_trans hB hb.size
  have hx1 : WorkAt B U pb M lev := hx.below (hb.mono hB)
  have HY := Lib.hid (fun m pre x W1 (h1 : pre ++ [x] <+: grpL M lev) (h2 : J pre W1) => yield_free hd m (hY pre x W1 h1 h2 (fun c hc => by cases hc) trivial))
  have HJ := Lib.hid (fun s A A' (h : J s A) (hk : Below A.heap.size A A') => hJ s A A' h (KeptBut.of_below hk))
  have HJX := Lib.hid (fun s A A' (h : Jx s A) (hk : Below A.heap.size A A') => hJx s A A' h (KeptBut.of_below hk))
  have HX := Lib.hid hx1
  have H0 := Lib.hid h0
  have HOWN := Lib.hid hown
  have hlk := hV.leak
  have hsl := short_ok hV lev
  obtain ⟨hpb, lv, bv, av, mv, sv, hblk, _⟩ := hx1
  have hsc := short_cells hblk hl (short_if M hl)
  obtain ⟨c0, c1, c2, c3⟩ := cells20 hblk
  have hlo := c0.2.2.1
  have hhi := c0.2.2.2.1
  have hlev := c2.2.1
  obtain ⟨hs0, hs1⟩ := hsc
  have HLO := Lib.hid hlo
  have HHI := Lib.hid hhi
  obtain ⟨al, hal⟩ : ∃ x, (shortOf M.levers lev).1 = x := ⟨_, rfl⟩
  obtain ⟨ah, hah⟩ : ∃ x, (shortOf M.levers lev).2 = x := ⟨_, rfl⟩
  rw [hal] at hs0 hsl
  rw [hah] at hs1 hsl
  have HAL := Lib.hid hal
  have HAH := Lib.hid hah
  have hlev0 : (0 : Int) ≤ (lev : Nat) := by omega
  have hlev3 : ((lev : Nat) : Int) < 3 := by omega
  clear hal hah hx hb hY hJ hJx h0 hown c0 c1 c2 c3 hblk
  have hpW : pb < U.heap.size := by omega
  have hpl13 : (⟨pb, 13, none⟩ : Addr).block < U.heap.size := hpW
  have hpls : (⟨pb, 6 + lev * 2, none⟩ : Addr).block < U.heap.size := hpW
  have hpls1 : (⟨pb, 6 + lev * 2 + 1, none⟩ : Addr).block < U.heap.size := hpW
  have HLEV := Lib.hid hlev
  have HS0 := Lib.hid hs0
  have HS1 := Lib.hid hs1
  clear hlev hs0 hs1 hlo hhi
  show CallsIn F n Try.prog 68 #[.pointer (some ⟨pb, 0, none⟩), .func (.yield l) #[] #[]] U _
  refine callsIn_of_wp Try.func68 rfl (hfn _) ?_ hro
  simp only [Try.ntmps68, List.size_toArray, List.length_cons, List.length_nil, Nat.reduceAdd, Nat.reduceSub, Array.replicate_succ, Array.replicate_zero, List.push_toArray, List.append_toArray, List.nil_append, List.cons_append]
  gi_wp2_with fail
  --R0--
  refine wpIn_region_factsA _ 10 [10, 11, 12, 13, 14, 15, 16, 17, 18, 4] [isV (.pointer (some ⟨pb, 0, none⟩)), isV (.pointer (some ⟨pb, 0, none⟩)), isV (.pointer (some ⟨pb, 0, none⟩)), isV (.pointer (some ⟨pb, 13, none⟩)), isV (.int .i64 (lev : Nat)), isV (.pointer (some ⟨pb, 0, none⟩)), isV (.pointer (some ⟨pb, 6, none⟩)), isV (.pointer (some ⟨pb, 6 + lev * 2, none⟩)), isV (.agg #[.int .i64 al, .int .i64 ah]), ⟨fun v W => ∃ m, v = .pointer (some ⟨m, 0, none⟩) ∧ U.heap.size ≤ m ∧ W.heap[m]? = some (.cells #[.int .i64 0, .int .i64 0] 24), fun _ _ _ ⟨m, h1, h2, h3⟩ hb => ⟨m, h1, h2, (hb.block m (heap_lt h3)).trans h3⟩⟩] (by kernel_rfl) (by kernel_rfl) rfl (by decide) (by decide) (by simp) ?step ?rest
  case step =>
    intro i ac W d hi hd hb hoff hdep
    have z0 := (hb.cell hpl13).trans HLEV.out
    have z1 := (hb.cell hpls).trans HS0.out
    have z2 := (hb.cell hpls1).trans HS1.out
    have hi2 : i = 0 ∨ i = 1 ∨ i = 2 ∨ i = 3 ∨ i = 4 ∨ i = 5 ∨ i = 6 ∨ i = 7 ∨ i = 8 ∨ i = 9 := by omega
    rcases hi2 with rfl | rfl | rfl | rfl | rfl | rfl | rfl | rfl | rfl | rfl
    · obtain rfl : 10 = d := by simpa using hd
      have q0 : ac.tmps[0]?.getD undef = .pointer (some ⟨pb, 0, none⟩) := (eval_tmp _ _).symm.trans <| (hoff 0 (by decide)).trans rfl
      refine fact_valueIn (fun f => hfn f) rfl (by intro c h; cases h) rfl rfl (v := .pointer (some ⟨pb, 0, none⟩)) (W' := W) ?_ (Below.refl _ _) rfl
      simp only [execOp]
      go_simp
    · obtain rfl : 11 = d := by simpa using hd
      have q0 : ac.tmps[0]?.getD undef = .pointer (some ⟨pb, 0, none⟩) := (eval_tmp _ _).symm.trans <| (hoff 0 (by decide)).trans rfl
      refine fact_valueIn (fun f => hfn f) rfl (by intro c h; cases h) rfl rfl (v := .pointer (some ⟨pb, 0, none⟩)) (W' := W) ?_ (Below.refl _ _) rfl
      simp only [execOp]
      go_simp
    · obtain rfl : 12 = d := by simpa using hd
      have q11 : ac.tmps[11]?.getD undef = .pointer (some ⟨pb, 0, none⟩) := (eval_tmp _ _).symm.trans (hdep 1 11 rfl rfl)
      refine fact_valueIn (fun f => hfn f) rfl (by intro c h; cases h) rfl rfl (v := .pointer (some ⟨pb, 0, none⟩)) (W' := W) ?_ (Below.refl _ _) rfl
      simp only [execOp]
      go_simp
    · obtain rfl : 13 = d := by simpa using hd
      have q12 : ac.tmps[12]?.getD undef = .pointer (some ⟨pb, 0, none⟩) := (eval_tmp _ _).symm.trans (hdep 2 12 rfl rfl)
      refine fact_valueIn (fun f => hfn f) rfl (by intro c h; cases h) rfl rfl (v := .pointer (some ⟨pb, 13, none⟩)) (W' := W) ?_ (Below.refl _ _) rfl
      simp only [execOp]
      go_simp
    · obtain rfl : 14 = d := by simpa using hd
      have q13 : ac.tmps[13]?.getD undef = .pointer (some ⟨pb, 13, none⟩) := (eval_tmp _ _).symm.trans (hdep 3 13 rfl rfl)
      refine fact_valueIn (fun f => hfn f) rfl (by intro c h; cases h) rfl rfl (v := .int .i64 (lev : Nat)) (W' := W) ?_ (Below.refl _ _) rfl
      simp only [execOp]
      go_simp
    · obtain rfl : 15 = d := by simpa using hd
      have q10 : ac.tmps[10]?.getD undef = .pointer (some ⟨pb, 0, none⟩) := (eval_tmp _ _).symm.trans (hdep 0 10 rfl rfl)
      refine fact_valueIn (fun f => hfn f) rfl (by intro c h; cases h) rfl rfl (v := .pointer (some ⟨pb, 0, none⟩)) (W' := W) ?_ (Below.refl _ _) rfl
      simp only [execOp]
      go_simp
    · obtain rfl : 16 = d := by simpa using hd
      have q15 : ac.tmps[15]?.getD undef = .pointer (some ⟨pb, 0, none⟩) := (eval_tmp _ _).symm.trans (hdep 5 15 rfl rfl)
      refine fact_valueIn (fun f => hfn f) rfl (by intro c h; cases h) rfl rfl (v := .pointer (some ⟨pb, 6, none⟩)) (W' := W) ?_ (Below.refl _ _) rfl
      simp only [execOp]
      go_simp
    · obtain rfl : 17 = d := by simpa using hd
      have q16 : ac.tmps[16]?.getD undef = .pointer (some ⟨pb, 6, none⟩) := (eval_tmp _ _).symm.trans (hdep 6 16 rfl rfl)
      have q14 : ac.tmps[14]?.getD undef = .int .i64 (lev : Nat) := (eval_tmp _ _).symm.trans (hdep 4 14 rfl rfl)
      refine fact_valueIn (fun f => hfn f) rfl (by intro c h; cases h) rfl rfl (v := .pointer (some ⟨pb, 6 + lev * 2, none⟩)) (W' := W) ?_ (Below.refl _ _) rfl
      simp only [execOp]
      go_simp
    · obtain rfl : 18 = d := by simpa using hd
      have q17 : ac.tmps[17]?.getD undef = .pointer (some ⟨pb, 6 + lev * 2, none⟩) := (eval_tmp _ _).symm.trans (hdep 7 17 rfl rfl)
      refine fact_valueIn (fun f => hfn f) rfl (by intro c h; cases h) rfl rfl (v := .agg #[.int .i64 al, .int .i64 ah]) (W' := W) ?_ (Below.refl _ _) rfl
      simp only [execOp]
      go_simp
    · obtain rfl : 4 = d := by simpa using hd
      refine fact_valueIn (fun f => hfn f) rfl (by intro c h; cases h) rfl rfl (v := .pointer (some ⟨W.heap.size, 0, none⟩)) (W' := W.alloc (.cells #[.int .i64 0, .int .i64 0] 24)) ?_ ((Below.refl _ _).alloc (Nat.le_refl _) _) ⟨_, rfl, by have := hb.size; omega, heap_new _ _⟩
      simp only [execOp]
      go_simp
  case rest =>
    intro vs W hvl hb hval
    obtain ⟨v0, v1, v2, v3, v4, v5, v6, v7, v8, v9, rfl⟩ : ∃ v0 v1 v2 v3 v4 v5 v6 v7 v8 v9, vs = [v0, v1, v2, v3, v4, v5, v6, v7, v8, v9] := by
      match vs, hvl with
      | [v0, v1, v2, v3, v4, v5, v6, v7, v8, v9], _ => exact ⟨v0, v1, v2, v3, v4, v5, v6, v7, v8, v9, rfl⟩
    obtain rfl : v0 = .pointer (some ⟨pb, 0, none⟩) := by obtain ⟨u, e, h⟩ := hval 0 (by omega); have e2 : some v0 = some u := e; injection e2 with e2; subst e2; exact h
    obtain rfl : v1 = .pointer (some ⟨pb, 0, none⟩) := by obtain ⟨u, e, h⟩ := hval 1 (by omega); have e2 : some v1 = some u := e; injection e2 with e2; subst e2; exact h
    obtain rfl : v2 = .pointer (some ⟨pb, 0, none⟩) := by obtain ⟨u, e, h⟩ := hval 2 (by omega); have e2 : some v2 = some u := e; injection e2 with e2; subst e2; exact h
    obtain rfl : v3 = .pointer (some ⟨pb, 13, none⟩) := by obtain ⟨u, e, h⟩ := hval 3 (by omega); have e2 : some v3 = some u := e; injection e2 with e2; subst e2; exact h
    obtain rfl : v4 = .int .i64 (lev : Nat) := by obtain ⟨u, e, h⟩ := hval 4 (by omega); have e2 : some v4 = some u := e; injection e2 with e2; subst e2; exact h
    obtain rfl : v5 = .pointer (some ⟨pb, 0, none⟩) := by obtain ⟨u, e, h⟩ := hval 5 (by omega); have e2 : some v5 = some u := e; injection e2 with e2; subst e2; exact h
    obtain rfl : v6 = .pointer (some ⟨pb, 6, none⟩) := by obtain ⟨u, e, h⟩ := hval 6 (by omega); have e2 : some v6 = some u := e; injection e2 with e2; subst e2; exact h
    obtain rfl : v7 = .pointer (some ⟨pb, 6 + lev * 2, none⟩) := by obtain ⟨u, e, h⟩ := hval 7 (by omega); have e2 : some v7 = some u := e; injection e2 with e2; subst e2; exact h
    obtain rfl : v8 = .agg #[.int .i64 al, .int .i64 ah] := by obtain ⟨u, e, h⟩ := hval 8 (by omega); have e2 : some v8 = some u := e; injection e2 with e2; subst e2; exact h
    have k9 : ∃ m, v9 = .pointer (some ⟨m, 0, none⟩) ∧ U.heap.size ≤ m ∧ W.heap[m]? = some (.cells #[.int .i64 0, .int .i64 0] 24) := by obtain ⟨u, e, h⟩ := hval 9 (by omega); have e2 : some v9 = some u := e; injection e2 with e2; subst e2; exact h
    clear hval hvl
    simp only [putL, Act.put, List.setIfInBounds_toArray, List.set_cons_zero, List.set_cons_succ]
    obtain ⟨b4, rfl, hb4, hbk4⟩ := k9
    have HBK4 := Lib.hid hbk4
    have HB1 := Lib.hid hb
    clear hbk4
    refine wpAnyIn_ready (rs := [10]) (by kernel_rfl) (by simp) ?_
    refine AllReadyIn.cons rfl (fun K hK => ?_) AllReadyIn.nil
    obtain ⟨e0, e1⟩ := cell2_of HBK4.out
    have ef := froz HBK4.out
    go_simp
    refine hK _ _ ?_
    clear hK K
    refine wpAnyIn_done (by kernel_rfl) ?_ _
    have hbV := heap_setCell_same (heap_setCell_same HBK4.out (v := .int .i64 al) (o := 0)) (v := .int .i64 ah) (o := 1)
    have hB2 := below_setCell (below_setCell (v := .int .i64 al) (o := 0) HB1.out hb4) (v := .int .i64 ah) (o := 1) hb4
    obtain ⟨V, hVV⟩ : ∃ V, ((W.setCell ⟨b4, 0, none⟩ (.int .i64 al)).setCell ⟨b4, 1, none⟩ (.int .i64 ah)) = V := ⟨_, rfl⟩
    rw [hVV] at hbV hB2 ⊢
    have HBV := Lib.hid (show V.heap[b4]? = some (.cells #[.int .i64 al, .int .i64 ah] 24) from hbV)
    have HB2 := Lib.hid hB2
    have hlo2 := (hB2.cell (p := ⟨pb, 2, none⟩) hpW).trans HLO.out
    have hszV := hB2.size
    clear e0 e1 ef hbV hB2 hVV HBK4 HB1
    gi_wp2_with fail
    clear hlo2
    have hj0 := HJ.out _ _ _ H0.out HB2.out
    have HJ0 := Lib.hid hj0
    clear hj0 H0
    have hNO := fun k (h : own k) => (show k < U.heap.size ∧ B ≤ k from ⟨(HOWN.out k h).1, by have := (HOWN.out k h).2; omega⟩)
    have HNO := Lib.hid hNO
    clear hNO HOWN
    gi_loopw [5] (fun lk wr => ∃ i : Nat, i ≤ leaksN M ∧ lk = .int .i64 (M.lkLo + i) ∧ Hid (J (G1 M lev i) wr) ∧ Hid (KeptBut own V wr)) (fun lk _ => leaksN M - (intOf lk - M.lkLo).toNat)
    case atStart => exact ⟨0, by omega, by simp, HJ0, Lib.hid (KeptBut.refl _ _)⟩
    case round =>
      clear HJ0
      obtain ⟨i, hi, rfl, hj, hkb⟩ := hrel
      have hszr := hkb.out.size
      have hwk : WorkAt B wr pb M lev := (HX.out.below (HB2.out.mono hBW)).below (hkb.out.below (by omega) (fun k hk => (HNO.out k hk).2))
      have hhi2 := ((hkb.out.block pb (by omega) (fun h => by have := (HNO.out _ h).2; omega)).trans (HB2.out.block pb hpW))
      have hcel := (World.cell?_of_block (w := U) (a := ⟨pb, 3, none⟩) hhi2).trans HHI.out
      have hbb4 := (hkb.out.block b4 (heap_lt HBV.out) (fun h => by have := (HNO.out _ h).1; omega)).trans HBV.out
      have HB4 := Lib.hid hbb4
      have HWK := Lib.hid hwk
      clear hhi2 hbb4 hwk
      by_cases hlt : i < leaksN M
      · have hle := leaks_in hlt
        have HALC := Lib.hid (fun m => inF hF (n := m) (alike_any M hV lev pb (M.lkLo + i) wr (HWK.out.mono (by omega)) (by omega)))
        obtain ⟨k, hk⟩ : ∃ k, M.lkLo + (i : Int) = k := ⟨_, rfl⟩
        rw [hk] at hle HALC ⊢
        have HK := Lib.hid hk
        have hkr : 0 ≤ k ∧ k ≤ 20 := by omega
        clear hk
        gi_wp2_with fail
        refine (HALC.out _).mono ?_
        rintro e w1 ⟨v, rfl, harm, hb1⟩
        obtain ⟨A5, cap5, b5, off5, rfl, hcap5, hmax5, HA5, HC5⟩ := harm
        have hA5 := Lib.hid HA5
        have hC5 := Lib.hid HC5
        have hB1 := Lib.hid hb1
        have hsz1 := hb1.size
        have hj1 := HJ.out _ _ _ hj.out hb1
        have HJ1 := Lib.hid (show J (G1 M lev i ++ G2 M lev k 0) w1 by rw [show G2 M lev k 0 = [] from rfl, List.append_nil]; exact hj1)
        have HK1 := Lib.hid (show KeptBut own V w1 from hkb.out.trans (KeptBut.of_below hb1))
        have HWK1 := Lib.hid (HWK.out.below (hb1.mono (show B ≤ wr.heap.size by omega)))
        have HB41 := Lib.hid ((hb1.block b4 (heap_lt HB4.out)).trans HB4.out)
        have hmx : (alikeL M k).length ≤ 9223372036854775807 := by unfold maxLen at hmax5; omega
        obtain ⟨nS, hnS⟩ : ∃ x, (alikeL M k).length = x := ⟨_, rfl⟩
        rw [hnS] at hmx hcap5 hA5 hC5 ⊢
        have HNS := Lib.hid hnS
        clear hnS HA5 HC5 hb1 hj1 HALC hcel hj hkb HWK HB4
        gi_wp2_with fail
        obtain ⟨wo, hwo⟩ : ∃ wo, wo = wr := ⟨_, rfl⟩
        subst hwo
        gi_loopw [39] (fun ix wr => ∃ j : Nat, j ≤ nS ∧ ix = .int .i64 j ∧ Hid (J (G1 M lev i ++ G2 M lev k j) wr) ∧ Hid (KeptBut own V wr) ∧ Hid (KeptBut own w1 wr)) (fun ix _ => nS - (intOf ix).toNat)
        case atStart => exact ⟨0, by omega, rfl, HJ1, HK1, Lib.hid (KeptBut.refl _ _)⟩
        case round =>
          clear HJ1 HK1
          obtain ⟨j, hj2, rfl, hj, hkV, hk1⟩ := hrel
          have hszr2 := hk1.out.size
          have hwk := HWK1.out.below (hk1.out.below (show B ≤ w1.heap.size by omega) (fun k hk => (HNO.out k hk).2))
          have hbb4 := (hk1.out.block b4 (heap_lt HB41.out) (fun h => by have := (HNO.out _ h).1; omega)).trans HB41.out
          have HB4 := Lib.hid hbb4
          have HWK := Lib.hid hwk
          clear hbb4 hwk
          by_cases hlt2 : j < nS
          · obtain ⟨rfl, hb5l, hb5⟩ := hA5.out (by omega)
            obtain ⟨d0, d1⟩ := hC5.out j hlt2
            have hbk5 := hk1.out.block b5 hb5 (fun h => by have := (HNO.out _ h).1; omega)
            have z0 := (World.cell?_of_block (w := w1) (a := ⟨b5, off5 + j * 2, none⟩) hbk5).trans d0
            have z1 := (World.cell?_of_block (w := w1) (a := ⟨b5, off5 + j * 2 + 1, none⟩) hbk5).trans d1
            have hsp := span_in hV (k := k) (j := j) (by rw [HNS.out]; exact hlt2)
            have hpp : (alikeL M k).getD j (0, 0) = spanAt M k j := rfl
            rw [hpp] at z0 z1
            obtain ⟨⟨p1, p2⟩, hsa⟩ : ∃ x, spanAt M k j = x := ⟨_, rfl⟩
            rw [hsa] at z0 z1 hsp
            dsimp only at z0 z1 hsp
            have HSA := Lib.hid hsa
            have HHW := Lib.hid (heap_new wr (.cells #[.int .i64 p1, .int .i64 p2] 24))
            have HBW := Lib.hid ((Below.refl _ wr).alloc (Nat.le_refl _) (.cells #[.int .i64 p1, .int .i64 p2] 24))
            have f0 := (HBW.out.cell (p := ⟨b4, 0, none⟩) (heap_lt HB4.out)).trans (cell2_of HB4.out).1
            clear hsa hpp d0 d1 hbk5
            gi_wp2_with fail
            obtain ⟨w2, hw2⟩ : ∃ w2, wr.alloc (.cells #[.int .i64 p1, .int .i64 p2] 24) = w2 := ⟨_, rfl⟩
            rw [hw2] at HHW HBW ⊢
            clear hw2 f0 z0 z1
            have hsz2 := HBW.out.size
            have hw2l := heap_lt HHW.out
            have hj2' := HJ.out _ _ _ hj.out HBW.out
            have HJ2 := Lib.hid (show J (G1 M lev i ++ (G2 M lev k j ++ G3 M lev k (p1, p2) 0)) w2 by rw [show G3 M lev k (p1, p2) 0 = [] from rfl, List.append_nil]; exact hj2')
            have HKV2 := Lib.hid (hkV.out.trans (KeptBut.of_below HBW.out))
            have HK12 := Lib.hid (hk1.out.trans (KeptBut.of_below HBW.out))
            have HWK2 := Lib.hid (HWK.out.below (HBW.out.mono (show B ≤ wr.heap.size by omega)))
            have HB42 := Lib.hid ((HBW.out.block b4 (heap_lt HB4.out)).trans HB4.out)
            clear hj2' hj hkV hk1 HWK HB4
            obtain ⟨wp, hwp⟩ : ∃ wp, wp = wr := ⟨_, rfl⟩
            subst hwp
            gi_loopw [8] (fun ax wr => ∃ t : Nat, t ≤ armsN M lev ∧ ax = .int .i64 (al + t) ∧ Hid (J (G1 M lev i ++ (G2 M lev k j ++ G3 M lev k (p1, p2) t)) wr) ∧ Hid (KeptBut own V wr) ∧ Hid (KeptBut own w1 wr) ∧ Hid (KeptBut own w2 wr)) (fun ax _ => armsN M lev - (intOf ax - al).toNat)
            case atStart => exact ⟨0, by omega, by simp, HJ2, HKV2, HK12, Lib.hid (KeptBut.refl _ _)⟩
            case round =>
              clear HJ2 HKV2 HK12
              obtain ⟨t, ht, rfl, hj, hkV, hk1, hk2⟩ := hrel
              have hszr3 := hk2.out.size
              have hwk := HWK2.out.below (hk2.out.below (show B ≤ w2.heap.size by omega) (fun k hk => (HNO.out k hk).2))
              have hbb4 := (hk2.out.block b4 (heap_lt HB42.out) (fun h => by have := (HNO.out _ h).1; omega)).trans HB42.out
              have hbb7 := (hk2.out.block wp.heap.size hw2l (fun h => by have := (HNO.out _ h).1; omega)).trans HHW.out
              obtain ⟨y0, y1⟩ := cell2_of hbb4
              obtain ⟨z0, z1⟩ := cell2_of hbb7
              have HB4 := Lib.hid hbb4
              have HWK := Lib.hid hwk
              clear hbb4 hbb7 hwk
              by_cases hlt3 : t < armsN M lev
              · have hai := arms_in hlt3
                rw [HAL.out, HAH.out] at hai
                have HGC := Lib.hid (fun m => inF hF (n := m) (group_any M hV lev hl pb k (al + t) (p1, p2) wr (HWK.out.mono (by omega)) hsp (by rw [HAL.out, HAH.out]; exact hai)))
                have hgp : G1 M lev i ++ (G2 M lev k j ++ (G3 M lev k (p1, p2) t ++ g1 M lev k (p1, p2) (al + t))) <+: grpL M lev := by
                  have := G_pre (M := M) (lev := lev) (i := i) (j := j) (t := t) hlt (by rw [HK.out, HNS.out]; exact hlt2) hlt3
                  rw [HK.out, HSA.out, HAL.out] at this
                  exact this
                have hgs := G3_succ (M := M) (lev := lev) (k := k) (p := (p1, p2)) hlt3
                rw [HAL.out] at hgs
                have HGP := Lib.hid hgp
                have HGS := Lib.hid hgs
                clear hgp hgs
                obtain ⟨a, ha⟩ : ∃ a, al + (t : Int) = a := ⟨_, rfl⟩
                rw [ha] at HGC HGP HGS hai ⊢
                have HA := Lib.hid ha
                have hta : (intOf (.int .i64 a) - al).toNat = t := by simp [intOf]; omega
                clear ha
                gi_wp2_with fail
                refine (HGC.out _).mono ?_
                rintro e w3 ⟨v, rfl, hyes, hno, hb3⟩
                by_cases hg : 0 < groupN (shortOf M.levers ((lev + 1) % 3)) (shortOf M.levers ((lev + 2) % 3)) a (p1, p2)
                · obtain rfl := hyes hg
                  have hg1 : g1 M lev k (p1, p2) a = [grpAt (shortOf M.levers ((lev + 1) % 3)) (shortOf M.levers ((lev + 2) % 3)) k (p1, p2) a] := by unfold g1; exact if_pos hg
                  rw [hg1] at HGP HGS
                  obtain ⟨g, hgE⟩ : ∃ g, grpAt (shortOf M.levers ((lev + 1) % 3)) (shortOf M.levers ((lev + 2) % 3)) k (p1, p2) a = g := ⟨_, rfl⟩
                  have hgm : 0 < g.many := by rw [← hgE]; exact hg
                  rw [hgE] at HGP HGS ⊢
                  obtain ⟨x0, x1, x2, x3, x4, x5, x6, x7, hgv⟩ : ∃ x0 x1 x2 x3 x4 x5 x6 x7, grpV M lev g = .agg #[.int .i64 x0, .int .i64 x1, .int .i64 x2, .int .i64 x3, .int .i64 x4, .int .i64 x5, .int .i64 x6, .int .i64 x7, .int .i64 (g.many : Nat)] := ⟨_, _, _, _, _, _, _, _, rfl⟩
                  obtain ⟨gn, hgn⟩ : ∃ gn, g.many = gn := ⟨_, rfl⟩
                  rw [hgn] at hgv hgm
                  have hgm2 : (0 : Int) < (gn : Nat) := by omega
                  have hb4' := hb3.alloc hb3.size (.cells #[.int .i64 x0, .int .i64 x1, .int .i64 x2, .int .i64 x3, .int .i64 x4, .int .i64 x5, .int .i64 x6, .int .i64 x7, .int .i64 (gn : Nat)] 88)
                  obtain ⟨m0, m1, m2, m3, m4, m5, m6, m7, m8⟩ := cells9 (heap_new w3 (.cells #[.int .i64 x0, .int .i64 x1, .int .i64 x2, .int .i64 x3, .int .i64 x4, .int .i64 x5, .int .i64 x6, .int .i64 x7, .int .i64 (gn : Nat)] 88))
                  have hy : YieldAt F (n - 1) Try.prog l #[grpV M lev g] _ _ := HY.out (n - 1) _ g _ (by rw [List.append_assoc, List.append_assoc]; exact HGP.out) (HJ.out _ _ _ hj.out hb4')
                  rw [hgv] at hy ⊢
                  obtain ⟨fn, tmps, assign, body, hyy, hR⟩ := hy
                  have HR := Lib.hid hR
                  have HB5 := Lib.hid hb4'
                  have HGE := Lib.hid hgE
                  clear hR hb4' hb3 hgE hgn hgv hyes hno hg hg1 HGC y0 y1 z0 z1
                  gi_wp2_with fail
                  refine HR.out.mono ?_
                  rintro e w5 (⟨rfl, h1, h2⟩ | ⟨rfl, h1, h2⟩)
                  · rw [List.append_assoc, List.append_assoc, ← HGS.out] at h1
                    have H1 := Lib.hid h1
                    have hk5 := (KeptBut.of_below HB5.out).trans h2
                    have HKV5 := Lib.hid (hkV.out.trans hk5)
                    have HK15 := Lib.hid (hk1.out.trans hk5)
                    have HK25 := Lib.hid (hk2.out.trans hk5)
                    clear h1 h2 hk5 m0 m1 m2 m3 m4 m5 m6 m7 m8
                    gi_wp2_with fail
                    exact ⟨⟨t + 1, by omega, congrArg (Value.int .i64) (by have := HA.out; omega), H1, HKV5, HK15, HK25⟩, by have := HA.out; simp [intOf]; omega⟩
                  · have hk5 := (KeptBut.of_below HB5.out).trans h2
                    have H1 := Lib.hid h1
                    have HKU5 := Lib.hid ((KeptBut.of_below HB2.out).trans (hkV.out.trans hk5))
                    clear h1 h2 hk5 m0 m1 m2 m3 m4 m5 m6 m7 m8
                    gi_wp2_with fail
                    refine bodyPost_ret (results_none rfl _ _ _) rfl ?_
                    exact ⟨⟨_, rfl⟩, HKU5.out, .inr ⟨_, (by rw [List.append_assoc, List.append_assoc]; exact HGP.out), H1.out⟩⟩
                · have hg0 : groupN (shortOf M.levers ((lev + 1) % 3)) (shortOf M.levers ((lev + 2) % 3)) a (p1, p2) = 0 := by omega
                  obtain rfl := hno hg0
                  have hg1 : g1 M lev k (p1, p2) a = [] := by unfold g1; exact if_neg hg
                  rw [hg1, List.append_nil] at HGS
                  unfold zeroG
                  obtain ⟨m0, m1, m2, m3, m4, m5, m6, m7, m8⟩ := cells9 (heap_new w3 (.cells #[.int .i64 0, .int .i64 0, .int .i64 0, .int .i64 0, .int .i64 0, .int .i64 0, .int .i64 0, .int .i64 0, .int .i64 0] 88))
                  have hb4' := hb3.alloc hb3.size (.cells #[.int .i64 0, .int .i64 0, .int .i64 0, .int .i64 0, .int .i64 0, .int .i64 0, .int .i64 0, .int .i64 0, .int .i64 0] 88)
                  have hj4 := HJ.out _ _ _ hj.out hb4'
                  have H1 := Lib.hid (show J (G1 M lev i ++ (G2 M lev k j ++ G3 M lev k (p1, p2) (t + 1))) _ by rw [HGS.out]; exact hj4)
                  have hk5 : KeptBut own wr _ := KeptBut.of_below hb4'
                  have HKV5 := Lib.hid (hkV.out.trans hk5)
                  have HK15 := Lib.hid (hk1.out.trans hk5)
                  have HK25 := Lib.hid (hk2.out.trans hk5)
                  clear hb4' hb3 hj4 hk5 hyes hno hg hg0 hg1 HGC y0 y1 z0 z1
                  gi_wp2_with fail
                  exact ⟨⟨t + 1, by omega, congrArg (Value.int .i64) (by have := HA.out; omega), H1, HKV5, HK15, HK25⟩, by have := HA.out; simp [intOf]; omega⟩
              · have hao := arms_out hlt3
                rw [HAL.out, HAH.out] at hao
                have hte : t = armsN M lev := by omega
                subst hte
                have HG2 := Lib.hid (show J (G1 M lev i ++ G2 M lev k (j + 1)) wr by rw [G2_succ (by rw [HNS.out]; exact hlt2), HSA.out]; exact hj.out)
                gi_wp2_with fail
                exact ⟨⟨j + 1, by omega, by go_num, HG2, hkV, hk1⟩, by simp [intOf]; omega⟩
          · have hje : j = nS := by omega
            subst hje
            have HG1 := Lib.hid (show J (G1 M lev (i + 1)) wr by rw [G1_succ hlt, HK.out, HNS.out]; exact hj.out)
            gi_wp2_with fail
            exact ⟨⟨i + 1, by omega, congrArg (Value.int .i64) (by have := HK.out; omega), HG1, hkV⟩, by have := HK.out; simp [intOf]; omega⟩
      · have hle := leaks_out hlt
        have hie : i = leaksN M := by omega
        subst hie
        gi_wp2_with fail
        go_end0
        exact ⟨⟨_, rfl⟩, (KeptBut.of_below HB2.out).trans hkb.out, .inl (by have := hj.out; rwa [G1_all] at this)⟩
end Go.Proofs.Ytomcjopcfdllgaa
