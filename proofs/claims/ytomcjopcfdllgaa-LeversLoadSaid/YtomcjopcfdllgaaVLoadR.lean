/-
  Levers, the law's reference: Load.
-/
import Derived.Test.YtomcjopcfdllgaaVBothL
import Derived.Test.YtomcjopcfdllgaaVLoad

namespace Go.Proofs.Ytomcjopcfdllgaa
open Go.RowKit Go.Shelf

set_option maxHeartbeats 400000 in
theorem up_any (n b : Int) (hn : 0 ≤ n ∧ n ≤ 19998 * 1000000000) (hb : 1 ≤ b ∧ b ≤ 1000000000) (w : World) : Calls Try.prog 73 #[.int .i64 n, .int .i64 b] w fun e w' => e = .returned (.int .i64 (upD n b)) ∧ w = w' := by
  have hq2 : (n + b - 1).tdiv b = upD n b := Int.tdiv_eq_ediv_of_nonneg (by omega)
  have hb0 : b ≠ 0 := by omega
  have HQ := Lib.hid hq2
  have e1 : 0 ≤ upD n b ∧ upD n b ≤ 20000000000000 := by
    constructor
    · exact Int.ediv_nonneg (by omega) (by omega)
    · refine Int.le_trans (Int.ediv_le_self _ (by omega)) (by omega)
  obtain ⟨U, hU⟩ : ∃ U, upD n b = U := ⟨_, rfl⟩
  rw [hU] at hq2 e1 ⊢
  clear hU HQ
  go_enter Try.func73, Try.ntmps73
  go_wp2
  go_ret
  exact ⟨rfl, rfl⟩
/-- What a load is at least, and at most, in a setting. -/
def qS (M : Mach) (weight minutes : Int) (s : List Int × Int) : Int := force M weight minutes s.2 / prodL s.1
def uS (M : Mach) (weight minutes : Int) (s : List Int × Int) : Int := upD (force M weight minutes s.2) (prodL s.1)
/-- The span of the first settings. -/
def spanK (M : Mach) (weight minutes : Int) (xs : List (List Int × Int)) (k : Nat) : Int × Int :=
  if k = 0 then (0, 0) else (((xs.take k).map (qS M weight minutes)).foldl min 9223372036854775807, ((xs.take k).map (uS M weight minutes)).foldl max (-1))
theorem spanK_step {M : Mach} {weight minutes : Int} {xs : List (List Int × Int)} {k : Nat} (h : k < xs.length) (h0 : k ≠ 0) : spanK M weight minutes xs (k + 1) = (min (spanK M weight minutes xs k).1 (qS M weight minutes (snth xs k)), max (spanK M weight minutes xs k).2 (uS M weight minutes (snth xs k))) := by
  rw [spanK, spanK, if_neg (by omega), if_neg h0, List.take_succ_eq_append_getElem h, List.map_append, List.map_append, List.foldl_append, List.foldl_append, snth_lt h]
  rfl
theorem spanK_one {M : Mach} {weight minutes : Int} {xs : List (List Int × Int)} (h : 0 < xs.length) (h1 : qS M weight minutes (snth xs 0) ≤ 9223372036854775807) (h2 : 0 ≤ uS M weight minutes (snth xs 0)) : spanK M weight minutes xs 1 = (qS M weight minutes (snth xs 0), uS M weight minutes (snth xs 0)) := by
  rw [spanK, if_neg (by omega), List.take_succ_eq_append_getElem h, ← snth_lt h]
  simp only [List.take_zero, List.nil_append, List.map_cons, List.map_nil, List.foldl_cons, List.foldl_nil]
  congr 1 <;> omega
set_option maxRecDepth 100000 in
set_option maxHeartbeats 16000000 in
theorem rLoad_gen {M : Mach} {weight minutes er : Int} {b : Bool} {xs : List (List Int × Int)} (hb : ask3 weight minutes 0 = b) (hxs : xs ≠ [] → ValidM M ∧ (0 ≤ weight ∧ weight ≤ 9999) ∧ (0 ≤ minutes ∧ minutes ≤ 99)) (hin : ∀ s ∈ xs, InSet M s.1 s.2) (hsl : xs.length ≤ 21000000000) (v : Value) (w : World) (hx : MachAt w.heap.size w v M)
    (ht : ∀ W, Below w.heap.size w W → Calls Try.prog 70 #[v, .bool b] W (GaveT xs er W)) :
    Calls Try.prog 49 #[v, .int .i64 weight, .int .i64 minutes] w fun e w' => e = .returned (.tuple #[.agg #[.int .i64 (spanK M weight minutes xs xs.length).1, .int .i64 (spanK M weight minutes xs xs.length).2], .int .i64 er]) ∧ Below w.heap.size w w' := by
  have HX := Lib.hid (fun W (hb : Below w.heap.size w W) => (hx.below hb).mono hb.size)
  obtain ⟨a, cap, a2, cap2, rfl⟩ := hx.form
  obtain ⟨O, hO⟩ : ∃ O, O = Obj.cells #[.slice a M.levers.length cap, .int .i64 M.water, .int .i64 M.lkLo, .int .i64 M.lkHi, .slice a2 M.bals.length cap2, .int .i64 M.wrong] 27 := ⟨_, rfl⟩
  have HO := Lib.hid hO
  have HT := Lib.hid ht
  have HA := Lib.hid hb
  have HXS := Lib.hid hxs
  have HIN := Lib.hid hin
  obtain ⟨W0, hW⟩ : ∃ W, W = (w.alloc O).alloc (.cells #[.int .i64 0, .int .i64 0] 24) := ⟨_, rfl⟩
  have HT0 := Lib.hid (show TSt w W0 O (.cells #[.int .i64 0, .int .i64 0] 24) from by
    rw [hW]
    have h1 : MStat w (w.alloc O) w.heap.size O := ⟨(Below.refl _ w).alloc (Nat.le_refl _) _, Nat.le_refl _, heap_new w O⟩
    exact ⟨h1.alloc _, ⟨(h1.alloc _).b, Nat.le_succ _, heap_new1 w O _⟩⟩)
  have HC := Lib.hid (show ∀ W', Below W0.heap.size W0 W' → W'.cell? ⟨w.heap.size, 0, none⟩ = some (.slice a M.levers.length cap) ∧ W'.cell? ⟨w.heap.size, 1, none⟩ = some (.int .i64 M.water) ∧ W'.cell? ⟨w.heap.size, 2, none⟩ = some (.int .i64 M.lkLo) ∧ W'.cell? ⟨w.heap.size, 3, none⟩ = some (.int .i64 M.lkHi) ∧ W'.cell? ⟨w.heap.size, 4, none⟩ = some (.slice a2 M.bals.length cap2) ∧ W'.cell? ⟨w.heap.size, 5, none⟩ = some (.int .i64 M.wrong) from fun W' hb => mst_cells (HT0.out.next hb).m.blk HO.out)
  obtain ⟨c0, c1, c2, c3, c4, c5⟩ := HC.out W0 (Below.refl _ _)
  clear hx ht hb hxs hin
  rw [hO] at hW
  clear hO
  go_enter Try.func49, Try.ntmps49
  go_upto_region 1 with fail
  rw [← hW]
  clear hW
  go_region_held3 (fun W' => W'.cell? ⟨w.heap.size, 0, none⟩ = some (.slice a M.levers.length cap) ∧ W'.cell? ⟨w.heap.size, 1, none⟩ = some (.int .i64 M.water) ∧ W'.cell? ⟨w.heap.size, 2, none⟩ = some (.int .i64 M.lkLo) ∧ W'.cell? ⟨w.heap.size, 3, none⟩ = some (.int .i64 M.lkHi) ∧ W'.cell? ⟨w.heap.size, 4, none⟩ = some (.slice a2 M.bals.length cap2) ∧ W'.cell? ⟨w.heap.size, 5, none⟩ = some (.int .i64 M.wrong))
    (first
      | exact HC.out _ HB3.out
      | exact HC.out _ (by go_grown))
    (first
      | (go_at_call 33; refine (IsAsk_any _ _ _ _).mono ?_; rintro e w' ⟨rfl, rfl⟩; rw [HA.out])
      | (go_at_call 70; refine (HT.out _ (by have := HT0.out.m.b; go_grown)).mono ?_; rintro e w3 ⟨u, rfl, hsu, hb⟩; have HSU := Lib.hid hsu; have HB3 := Lib.hid ((show Below W0.heap.size W0 _ by go_grown).trans (hb.mono (by simp))); clear hb hsu))
  obtain ⟨A, cl, rfl, _⟩ := own_form HSU.out.choose_spec.2.1
  have HT3 := Lib.hid (HT0.out.next HB3.out)
  clear c0 c1 c2 c3 c4 c5
  have HW3 := Lib.hid (heap_new w3 (.cells #[.int .i64 0, .int .i64 0] 24))
  obtain ⟨w4, hw4⟩ : ∃ W, W = w3.alloc (.cells #[.int .i64 0, .int .i64 0] 24) := ⟨_, rfl⟩
  have HB4 := Lib.hid (show Below w3.heap.size w3 w4 by rw [hw4]; exact (Below.refl _ w3).alloc (Nat.le_refl _) _)
  rw [← hw4] at HW3
  go_wp2
  rw [← hw4]
  clear hw4
  go_loopw [11] (fun i wr => ∃ k : Nat, k ≤ xs.length ∧ i = .int .i64 k ∧ Hid (wr.heap[w3.heap.size]? = some (.cells #[.int .i64 (spanK M weight minutes xs k).1, .int .i64 (spanK M weight minutes xs k).2] 24)) ∧ Hid (Below w3.heap.size w3 wr)) (fun i _ => xs.length - (intOf i).toNat)
  case atStart => exact ⟨0, Nat.zero_le _, rfl, HW3, HB4⟩
  case round =>
    obtain ⟨k, hk, rfl, hsp, hbw⟩ := hrel
    have HTW := Lib.hid (HT3.out.next hbw.out)
    obtain ⟨c0, c1, c2, c3, c4, c5⟩ := mst_cells HTW.out.m.blk HO.out
    obtain ⟨s0, s1⟩ := cells2S hsp.out
    obtain ⟨N, hN⟩ : ∃ N, xs.length = N := ⟨_, rfl⟩
    have HN := Lib.hid hN
    have hwz := heap_lt hsp.out
    rw [hN] at hk hsl ⊢
    by_cases hlt : k < N
    · obtain ⟨g, c, v, e0, hg0, hg1, hga, hgb, hgv⟩ := HSU.out.get (show k < xs.length by omega)
      rw [hN] at e0
      injection e0 with e1 e2 e3
      subst e1 e3
      clear hN
      have HGA := Lib.hid hga
      have HGB := Lib.hid hgb
      have hmem := snth_mem (show k < xs.length by have := HN.out; omega)
      have HIN1 := Lib.hid (HIN.out _ hmem)
      obtain ⟨hV, hwt, hmn⟩ := HXS.out (fun h => by rw [h] at hmem; cases hmem)
      have HSS := Lib.hid (fun h0 : k ≠ 0 => spanK_step (M := M) (weight := weight) (minutes := minutes) (show k < xs.length by have := HN.out; omega) h0)
      have HSO := Lib.hid (fun h0 : k = 0 => spanK_one (M := M) (weight := weight) (minutes := minutes) (xs := xs) (by have := HN.out; omega))
      have HGV := Lib.hid (hgv.below hbw.out)
      have hfv := force_ok hV hwt hmn.1 HIN1.out.2.2.1
      have hpv := prod_three hV HIN1.out (snth xs k).1.length (Nat.le_refl _)
      rw [List.take_length] at hpv
      obtain ⟨X, hX⟩ : ∃ X, snth xs k = X := ⟨_, rfl⟩
      have HXK := Lib.hid hX
      rw [hX] at HGB HIN1 HGV hfv hpv HSS
      have HLO := Lib.hid (fun W (hb : Below wr.heap.size wr W) => LoadOf_any _ M v X.1 X.2 weight minutes W (HX.out W (HTW.out.m.b.trans (hb.mono HTW.out.m.b.size))) hV ((HGV.out.below hb).ints (inSet_i64 HIN1.out)) HIN1.out hwt hmn)
      have HQS := Lib.hid (show qS M weight minutes X = force M weight minutes X.2 / prodL X.1 from rfl)
      have HUS := Lib.hid (show uS M weight minutes X = upD (force M weight minutes X.2) (prodL X.1) from rfl)
      obtain ⟨FV, hFV⟩ : ∃ FV, force M weight minutes X.2 = FV := ⟨_, rfl⟩
      obtain ⟨PV, hPV⟩ : ∃ PV, prodL X.1 = PV := ⟨_, rfl⟩
      rw [hFV, hPV] at HLO HQS HUS
      rw [hFV] at hfv
      rw [hPV] at hpv
      have HC8 := Lib.hid (show ∀ W', Below wr.heap.size wr W' → ((W'.cell? ⟨w.heap.size, 0, none⟩ = some (.slice a M.levers.length cap) ∧ W'.cell? ⟨w.heap.size, 1, none⟩ = some (.int .i64 M.water) ∧ W'.cell? ⟨w.heap.size, 2, none⟩ = some (.int .i64 M.lkLo) ∧ W'.cell? ⟨w.heap.size, 3, none⟩ = some (.int .i64 M.lkHi) ∧ W'.cell? ⟨w.heap.size, 4, none⟩ = some (.slice a2 M.bals.length cap2) ∧ W'.cell? ⟨w.heap.size, 5, none⟩ = some (.int .i64 M.wrong)) ∧ W'.cell? ⟨g, k * 2, none⟩ = some v ∧ W'.cell? ⟨g, k * 2 + 1, none⟩ = some (.int .i64 X.2)) from fun W' hb => ⟨mst_cells (HTW.out.next hb).m.blk HO.out, ((hbw.out.trans (hb.mono hbw.out.size)).cell (p := ⟨g, k * 2, none⟩) hg1).trans HGA.out, ((hbw.out.trans (hb.mono hbw.out.size)).cell (p := ⟨g, k * 2 + 1, none⟩) hg1).trans HGB.out⟩)
      have hkn : ((k : Nat) : Int) < (N : Int) := by omega
      have HLT := Lib.hid hlt
      obtain ⟨L0, hL0⟩ : ∃ L, (spanK M weight minutes xs k).1 = L := ⟨_, rfl⟩
      obtain ⟨H0, hH0⟩ : ∃ L, (spanK M weight minutes xs k).2 = L := ⟨_, rfl⟩
      rw [hL0, hH0] at hsp HSS
      have hq1 : FV.tdiv PV = FV / PV := Int.tdiv_eq_ediv_of_nonneg hfv.1
      have hq2 : 0 ≤ FV / PV ∧ FV / PV ≤ 20000000000000 := ⟨Int.ediv_nonneg hfv.1 (by omega), Int.le_trans (Int.ediv_le_self _ hfv.1) (by omega)⟩
      obtain ⟨QV, hQV⟩ : ∃ QV, FV / PV = QV := ⟨_, rfl⟩
      have HUP := Lib.hid (fun W => up_any FV PV hfv (by omega) W)
      have hu2 : 0 ≤ upD FV PV := Int.ediv_nonneg (by omega) (by omega)
      obtain ⟨UV, hUV⟩ : ∃ UV, upD FV PV = UV := ⟨_, rfl⟩
      rw [hQV] at hq1 hq2 HQS
      rw [hUV] at HUP HUS hu2
      have hp0 : PV ≠ 0 := by omega
      have hq3 : IntKind.i64.wrap QV = QV := IntWalk.i64_in _ (by omega)
      clear hga hgb hmem hgv hX c0 c1 c2 c3 c4 c5 s0 s1 hFV hPV hL0 hH0 hQV hUV
      obtain ⟨⟨c0, c1, c2, c3, c4, c5⟩, y0, y1⟩ := HC8.out wr (Below.refl _ _)
      go_wp2_with fail
      go_region_held3 (fun W' => (W'.cell? ⟨w.heap.size, 0, none⟩ = some (.slice a M.levers.length cap) ∧ W'.cell? ⟨w.heap.size, 1, none⟩ = some (.int .i64 M.water) ∧ W'.cell? ⟨w.heap.size, 2, none⟩ = some (.int .i64 M.lkLo) ∧ W'.cell? ⟨w.heap.size, 3, none⟩ = some (.int .i64 M.lkHi) ∧ W'.cell? ⟨w.heap.size, 4, none⟩ = some (.slice a2 M.bals.length cap2) ∧ W'.cell? ⟨w.heap.size, 5, none⟩ = some (.int .i64 M.wrong)) ∧ W'.cell? ⟨g, k * 2, none⟩ = some v ∧ W'.cell? ⟨g, k * 2 + 1, none⟩ = some (.int .i64 X.2))
        (first
          | exact HC8.out _ HB5.out
          | exact HC8.out _ (by go_grown))
        (first | (go_at_call 25; refine (HLO.out _ (by go_grown)).mono ?_; rintro e w5 ⟨rfl, hb⟩; have HB5 := Lib.hid ((show Below wr.heap.size wr _ by go_grown).trans (hb.mono (by simp))); clear hb))
      have HBW5 := Lib.hid (hbw.out.trans (HB5.out.mono hbw.out.size))
      have HSP5 := Lib.hid ((HB5.out.block w3.heap.size hwz).trans hsp.out)
      clear c0 c1 c2 c3 c4 c5 y0 y1
      obtain ⟨s0, s1⟩ := cells2S HSP5.out
      have HSD := Lib.hid (fun p => (show _ ∧ _ from cells2S ((((drewN_below (Below.refl _ w5) p)).block w3.heap.size (heap_lt HSP5.out)).trans HSP5.out)))
      by_cases h0 : k = 0
      · subst h0
        have e0 : (((0 : Nat) : Int) == 0) = true := rfl
        have HE := Lib.hid (HSO.out rfl)
        rw [HXK.out, HQS.out, HUS.out] at HE
        have hmm : min QV QV = QV := by omega
        have hmx : max UV UV = UV := by omega
        go_upto_region 8 with fail
        refine wp_region_facts _ 7 [41, 42, 43, 44, 45, 46, 47] [isV (.int .i64 FV), isV (.int .i64 PV), isV (.int .i64 QV), isV (.int .i64 FV), isV (.int .i64 PV), ⟨fun v W => v = .int .i64 UV, fun _ _ _ h _ => h⟩, isV (.agg #[.int .i64 QV, .int .i64 UV])] (by kernel_rfl) (by kernel_rfl) (by kernel_rfl) rfl (by decide) (by decide) (by simp) ?step ?rest
        case step =>
          intro i ac W d hi hd hb hoff hdep
          obtain ⟨s0, s1⟩ := cells2S ((hb.block w3.heap.size (heap_lt HSP5.out)).trans HSP5.out)
          have hi2 : i = 0 ∨ i = 1 ∨ i = 2 ∨ i = 3 ∨ i = 4 ∨ i = 5 ∨ i = 6 := by omega
          rcases hi2 with rfl | rfl | rfl | rfl | rfl | rfl | rfl
          · obtain rfl : 41 = d := by simpa using hd
            have q12 : ac.tmps[12]?.getD undef = .int .i64 FV := (eval_tmp _ _).symm.trans <| (hoff 12 (by decide)).trans rfl
            refine fact_value rfl rfl rfl (v := .int .i64 FV) (W' := W) ?_ (Below.refl _ _) rfl
            simp only [execOp]
            go_simp
          · obtain rfl : 42 = d := by simpa using hd
            have q13 : ac.tmps[13]?.getD undef = .int .i64 PV := (eval_tmp _ _).symm.trans <| (hoff 13 (by decide)).trans rfl
            refine fact_value rfl rfl rfl (v := .int .i64 PV) (W' := W) ?_ (Below.refl _ _) rfl
            simp only [execOp]
            go_simp
          · obtain rfl : 43 = d := by simpa using hd
            have q41 : ac.tmps[41]?.getD undef = .int .i64 FV := (eval_tmp _ _).symm.trans (hdep 0 41 rfl rfl)
            have q42 : ac.tmps[42]?.getD undef = .int .i64 PV := (eval_tmp _ _).symm.trans (hdep 1 42 rfl rfl)
            refine fact_value rfl rfl rfl (v := .int .i64 QV) (W' := W) ?_ (Below.refl _ _) rfl
            simp only [execOp]
            go_simp
          · obtain rfl : 44 = d := by simpa using hd
            have q12 : ac.tmps[12]?.getD undef = .int .i64 FV := (eval_tmp _ _).symm.trans <| (hoff 12 (by decide)).trans rfl
            refine fact_value rfl rfl rfl (v := .int .i64 FV) (W' := W) ?_ (Below.refl _ _) rfl
            simp only [execOp]
            go_simp
          · obtain rfl : 45 = d := by simpa using hd
            have q13 : ac.tmps[13]?.getD undef = .int .i64 PV := (eval_tmp _ _).symm.trans <| (hoff 13 (by decide)).trans rfl
            refine fact_value rfl rfl rfl (v := .int .i64 PV) (W' := W) ?_ (Below.refl _ _) rfl
            simp only [execOp]
            go_simp
          · obtain rfl : 46 = d := by simpa using hd
            have q44 : ac.tmps[44]?.getD undef = .int .i64 FV := (eval_tmp _ _).symm.trans (hdep 3 44 rfl rfl)
            have q45 : ac.tmps[45]?.getD undef = .int .i64 PV := (eval_tmp _ _).symm.trans (hdep 4 45 rfl rfl)
            refine fact_call rfl rfl rfl (f := 73) (args := #[.int .i64 FV, .int .i64 PV]) ?_ ?_
            · simp only [execOp]
              go_simp
            · refine (HUP.out W).mono ?_
              rintro e w' ⟨rfl, rfl⟩
              exact ⟨_, rfl, Below.refl _ _, rfl⟩
          · obtain rfl : 47 = d := by simpa using hd
            have q43 : ac.tmps[43]?.getD undef = .int .i64 QV := (eval_tmp _ _).symm.trans (hdep 2 43 rfl rfl)
            have q46 : (ac.tmps[46]?.getD undef) = .int .i64 UV := eval_tmp ac _ ▸ hdep 5 46 rfl rfl
            refine fact_value rfl rfl rfl (v := .agg #[.int .i64 QV, .int .i64 UV]) (W' := W) ?_ (Below.refl _ _) rfl
            simp only [execOp]
            go_simp
        case rest =>
          intro vs w6 hvl hb hval
          obtain ⟨v0, v1, v2, v3, v4, v5, v6, rfl⟩ : ∃ v0 v1 v2 v3 v4 v5 v6, vs = [v0, v1, v2, v3, v4, v5, v6] := by
            match vs, hvl with
            | [v0, v1, v2, v3, v4, v5, v6], _ => exact ⟨v0, v1, v2, v3, v4, v5, v6, rfl⟩
          obtain rfl : v0 = .int .i64 FV := by obtain ⟨u, e, h⟩ := hval 0 (by omega); have e2 : some v0 = some u := e; injection e2 with e2; subst e2; exact h
          obtain rfl : v1 = .int .i64 PV := by obtain ⟨u, e, h⟩ := hval 1 (by omega); have e2 : some v1 = some u := e; injection e2 with e2; subst e2; exact h
          obtain rfl : v2 = .int .i64 QV := by obtain ⟨u, e, h⟩ := hval 2 (by omega); have e2 : some v2 = some u := e; injection e2 with e2; subst e2; exact h
          obtain rfl : v3 = .int .i64 FV := by obtain ⟨u, e, h⟩ := hval 3 (by omega); have e2 : some v3 = some u := e; injection e2 with e2; subst e2; exact h
          obtain rfl : v4 = .int .i64 PV := by obtain ⟨u, e, h⟩ := hval 4 (by omega); have e2 : some v4 = some u := e; injection e2 with e2; subst e2; exact h
          have k5 : v5 = .int .i64 UV := by obtain ⟨u, e, h⟩ := hval 5 (by omega); have e2 : some v5 = some u := e; injection e2 with e2; subst e2; exact h
          obtain rfl : v6 = .agg #[.int .i64 QV, .int .i64 UV] := by obtain ⟨u, e, h⟩ := hval 6 (by omega); have e2 : some v6 = some u := e; injection e2 with e2; subst e2; exact h
          clear hval hvl
          simp only [putL, Act.put, List.drop, List.setIfInBounds_toArray, List.set_cons_zero, List.set_cons_succ]

          subst k5
          have HSQ6 := Lib.hid ((hb.block w3.heap.size (heap_lt HSP5.out)).trans HSP5.out)
          have HBW6 := Lib.hid (HBW5.out.trans (hb.mono HBW5.out.size))
          have HSP7 := Lib.hid (show ((w6.setCell ⟨w3.heap.size, 0, none⟩ (.int .i64 QV)).setCell ⟨w3.heap.size, 1, none⟩ (.int .i64 UV)).heap[w3.heap.size]? = some (.cells #[.int .i64 QV, .int .i64 UV] 24) from heap_setCell_same (heap_setCell_same HSQ6.out))
          have HBW7 := Lib.hid (show Below w3.heap.size w3 ((w6.setCell ⟨w3.heap.size, 0, none⟩ (.int .i64 QV)).setCell ⟨w3.heap.size, 1, none⟩ (.int .i64 UV)) from below_setCell (below_setCell HBW6.out (Nat.le_refl _)) (Nat.le_refl _))
          obtain ⟨s0, s1⟩ := cells2S HSQ6.out
          have z0 := froz HSQ6.out 0
          have z1 := froz HSQ6.out 1
          clear hb
          go_wp2_with fail
          obtain ⟨w7, hw7⟩ : ∃ w7, (w6.setCell ⟨w3.heap.size, 0, none⟩ (.int .i64 QV)).setCell ⟨w3.heap.size, 1, none⟩ (.int .i64 UV) = w7 := ⟨_, rfl⟩
          rw [hw7] at HSP7 HBW7 ⊢
          clear hw7
          refine wp_region_facts _ 13 [48, 49, 50, 51, 52, 53, 54, 55, 56, 57, 58, 59, 60] [isV (.pointer (some ⟨w3.heap.size, 0, none⟩)), isV (.int .i64 QV), isV (.int .i64 FV), isV (.int .i64 PV), isV (.int .i64 QV), isV (.int .i64 QV), isV (.pointer (some ⟨w3.heap.size, 1, none⟩)), isV (.int .i64 UV), isV (.int .i64 FV), isV (.int .i64 PV), ⟨fun v W => v = .int .i64 UV, fun _ _ _ h _ => h⟩, isV (.int .i64 UV), isV (.agg #[.int .i64 QV, .int .i64 UV])] (by kernel_rfl) (by kernel_rfl) (by kernel_rfl) rfl (by decide) (by decide) (by simp) ?step ?rest
          case step =>
            intro i ac W d hi hd hb hoff hdep
            obtain ⟨s0, s1⟩ := cells2S ((hb.block w3.heap.size (heap_lt HSP7.out)).trans HSP7.out)
            have hi2 : i = 0 ∨ i = 1 ∨ i = 2 ∨ i = 3 ∨ i = 4 ∨ i = 5 ∨ i = 6 ∨ i = 7 ∨ i = 8 ∨ i = 9 ∨ i = 10 ∨ i = 11 ∨ i = 12 := by omega
            rcases hi2 with rfl | rfl | rfl | rfl | rfl | rfl | rfl | rfl | rfl | rfl | rfl | rfl | rfl
            · obtain rfl : 48 = d := by simpa using hd
              have q10 : ac.tmps[10]?.getD undef = .pointer (some ⟨w3.heap.size, 0, none⟩) := (eval_tmp _ _).symm.trans <| (hoff 10 (by decide)).trans rfl
              refine fact_value rfl rfl rfl (v := .pointer (some ⟨w3.heap.size, 0, none⟩)) (W' := W) ?_ (Below.refl _ _) rfl
              simp only [execOp]
              go_simp
            · obtain rfl : 49 = d := by simpa using hd
              have q48 : ac.tmps[48]?.getD undef = .pointer (some ⟨w3.heap.size, 0, none⟩) := (eval_tmp _ _).symm.trans (hdep 0 48 rfl rfl)
              refine fact_value rfl rfl rfl (v := .int .i64 QV) (W' := W) ?_ (Below.refl _ _) rfl
              simp only [execOp]
              go_simp
            · obtain rfl : 50 = d := by simpa using hd
              have q12 : ac.tmps[12]?.getD undef = .int .i64 FV := (eval_tmp _ _).symm.trans <| (hoff 12 (by decide)).trans rfl
              refine fact_value rfl rfl rfl (v := .int .i64 FV) (W' := W) ?_ (Below.refl _ _) rfl
              simp only [execOp]
              go_simp
            · obtain rfl : 51 = d := by simpa using hd
              have q13 : ac.tmps[13]?.getD undef = .int .i64 PV := (eval_tmp _ _).symm.trans <| (hoff 13 (by decide)).trans rfl
              refine fact_value rfl rfl rfl (v := .int .i64 PV) (W' := W) ?_ (Below.refl _ _) rfl
              simp only [execOp]
              go_simp
            · obtain rfl : 52 = d := by simpa using hd
              have q50 : ac.tmps[50]?.getD undef = .int .i64 FV := (eval_tmp _ _).symm.trans (hdep 2 50 rfl rfl)
              have q51 : ac.tmps[51]?.getD undef = .int .i64 PV := (eval_tmp _ _).symm.trans (hdep 3 51 rfl rfl)
              refine fact_value rfl rfl rfl (v := .int .i64 QV) (W' := W) ?_ (Below.refl _ _) rfl
              simp only [execOp]
              go_simp
            · obtain rfl : 53 = d := by simpa using hd
              have q49 : ac.tmps[49]?.getD undef = .int .i64 QV := (eval_tmp _ _).symm.trans (hdep 1 49 rfl rfl)
              have q52 : ac.tmps[52]?.getD undef = .int .i64 QV := (eval_tmp _ _).symm.trans (hdep 4 52 rfl rfl)
              refine fact_value rfl rfl rfl (v := .int .i64 QV) (W' := W) ?_ (Below.refl _ _) rfl
              simp only [execOp]
              go_simp
            · obtain rfl : 54 = d := by simpa using hd
              have q10 : ac.tmps[10]?.getD undef = .pointer (some ⟨w3.heap.size, 0, none⟩) := (eval_tmp _ _).symm.trans <| (hoff 10 (by decide)).trans rfl
              refine fact_value rfl rfl rfl (v := .pointer (some ⟨w3.heap.size, 1, none⟩)) (W' := W) ?_ (Below.refl _ _) rfl
              simp only [execOp]
              go_simp
            · obtain rfl : 55 = d := by simpa using hd
              have q54 : ac.tmps[54]?.getD undef = .pointer (some ⟨w3.heap.size, 1, none⟩) := (eval_tmp _ _).symm.trans (hdep 6 54 rfl rfl)
              refine fact_value rfl rfl rfl (v := .int .i64 UV) (W' := W) ?_ (Below.refl _ _) rfl
              simp only [execOp]
              go_simp
            · obtain rfl : 56 = d := by simpa using hd
              have q12 : ac.tmps[12]?.getD undef = .int .i64 FV := (eval_tmp _ _).symm.trans <| (hoff 12 (by decide)).trans rfl
              refine fact_value rfl rfl rfl (v := .int .i64 FV) (W' := W) ?_ (Below.refl _ _) rfl
              simp only [execOp]
              go_simp
            · obtain rfl : 57 = d := by simpa using hd
              have q13 : ac.tmps[13]?.getD undef = .int .i64 PV := (eval_tmp _ _).symm.trans <| (hoff 13 (by decide)).trans rfl
              refine fact_value rfl rfl rfl (v := .int .i64 PV) (W' := W) ?_ (Below.refl _ _) rfl
              simp only [execOp]
              go_simp
            · obtain rfl : 58 = d := by simpa using hd
              have q56 : ac.tmps[56]?.getD undef = .int .i64 FV := (eval_tmp _ _).symm.trans (hdep 8 56 rfl rfl)
              have q57 : ac.tmps[57]?.getD undef = .int .i64 PV := (eval_tmp _ _).symm.trans (hdep 9 57 rfl rfl)
              refine fact_call rfl rfl rfl (f := 73) (args := #[.int .i64 FV, .int .i64 PV]) ?_ ?_
              · simp only [execOp]
                go_simp
              · refine (HUP.out W).mono ?_
                rintro e w' ⟨rfl, rfl⟩
                exact ⟨_, rfl, Below.refl _ _, rfl⟩
            · obtain rfl : 59 = d := by simpa using hd
              have q55 : ac.tmps[55]?.getD undef = .int .i64 UV := (eval_tmp _ _).symm.trans (hdep 7 55 rfl rfl)
              have q58 : (ac.tmps[58]?.getD undef) = .int .i64 UV := eval_tmp ac _ ▸ hdep 10 58 rfl rfl
              refine fact_value rfl rfl rfl (v := .int .i64 UV) (W' := W) ?_ (Below.refl _ _) rfl
              simp only [execOp]
              go_simp
            · obtain rfl : 60 = d := by simpa using hd
              have q53 : ac.tmps[53]?.getD undef = .int .i64 QV := (eval_tmp _ _).symm.trans (hdep 5 53 rfl rfl)
              have q59 : ac.tmps[59]?.getD undef = .int .i64 UV := (eval_tmp _ _).symm.trans (hdep 11 59 rfl rfl)
              refine fact_value rfl rfl rfl (v := .agg #[.int .i64 QV, .int .i64 UV]) (W' := W) ?_ (Below.refl _ _) rfl
              simp only [execOp]
              go_simp
          case rest =>
            intro vs w8 hvl hb hval
            obtain ⟨v0, v1, v2, v3, v4, v5, v6, v7, v8, v9, v10, v11, v12, rfl⟩ : ∃ v0 v1 v2 v3 v4 v5 v6 v7 v8 v9 v10 v11 v12, vs = [v0, v1, v2, v3, v4, v5, v6, v7, v8, v9, v10, v11, v12] := by
              match vs, hvl with
              | [v0, v1, v2, v3, v4, v5, v6, v7, v8, v9, v10, v11, v12], _ => exact ⟨v0, v1, v2, v3, v4, v5, v6, v7, v8, v9, v10, v11, v12, rfl⟩
            obtain rfl : v0 = .pointer (some ⟨w3.heap.size, 0, none⟩) := by obtain ⟨u, e, h⟩ := hval 0 (by omega); have e2 : some v0 = some u := e; injection e2 with e2; subst e2; exact h
            obtain rfl : v1 = .int .i64 QV := by obtain ⟨u, e, h⟩ := hval 1 (by omega); have e2 : some v1 = some u := e; injection e2 with e2; subst e2; exact h
            obtain rfl : v2 = .int .i64 FV := by obtain ⟨u, e, h⟩ := hval 2 (by omega); have e2 : some v2 = some u := e; injection e2 with e2; subst e2; exact h
            obtain rfl : v3 = .int .i64 PV := by obtain ⟨u, e, h⟩ := hval 3 (by omega); have e2 : some v3 = some u := e; injection e2 with e2; subst e2; exact h
            obtain rfl : v4 = .int .i64 QV := by obtain ⟨u, e, h⟩ := hval 4 (by omega); have e2 : some v4 = some u := e; injection e2 with e2; subst e2; exact h
            obtain rfl : v5 = .int .i64 QV := by obtain ⟨u, e, h⟩ := hval 5 (by omega); have e2 : some v5 = some u := e; injection e2 with e2; subst e2; exact h
            obtain rfl : v6 = .pointer (some ⟨w3.heap.size, 1, none⟩) := by obtain ⟨u, e, h⟩ := hval 6 (by omega); have e2 : some v6 = some u := e; injection e2 with e2; subst e2; exact h
            obtain rfl : v7 = .int .i64 UV := by obtain ⟨u, e, h⟩ := hval 7 (by omega); have e2 : some v7 = some u := e; injection e2 with e2; subst e2; exact h
            obtain rfl : v8 = .int .i64 FV := by obtain ⟨u, e, h⟩ := hval 8 (by omega); have e2 : some v8 = some u := e; injection e2 with e2; subst e2; exact h
            obtain rfl : v9 = .int .i64 PV := by obtain ⟨u, e, h⟩ := hval 9 (by omega); have e2 : some v9 = some u := e; injection e2 with e2; subst e2; exact h
            have k10 : v10 = .int .i64 UV := by obtain ⟨u, e, h⟩ := hval 10 (by omega); have e2 : some v10 = some u := e; injection e2 with e2; subst e2; exact h
            obtain rfl : v11 = .int .i64 UV := by obtain ⟨u, e, h⟩ := hval 11 (by omega); have e2 : some v11 = some u := e; injection e2 with e2; subst e2; exact h
            obtain rfl : v12 = .agg #[.int .i64 QV, .int .i64 UV] := by obtain ⟨u, e, h⟩ := hval 12 (by omega); have e2 : some v12 = some u := e; injection e2 with e2; subst e2; exact h
            clear hval hvl
            simp only [putL, Act.put, List.drop, List.setIfInBounds_toArray, List.set_cons_zero, List.set_cons_succ]

            subst k10
            have HSQ8 := Lib.hid ((hb.block w3.heap.size (heap_lt HSP7.out)).trans HSP7.out)
            have HBW8 := Lib.hid (HBW7.out.trans (hb.mono HBW7.out.size))
            have HSP9 := Lib.hid (show ((w8.setCell ⟨w3.heap.size, 0, none⟩ (.int .i64 QV)).setCell ⟨w3.heap.size, 1, none⟩ (.int .i64 UV)).heap[w3.heap.size]? = some (.cells #[.int .i64 QV, .int .i64 UV] 24) from heap_setCell_same (heap_setCell_same HSQ8.out))
            have HBW9 := Lib.hid (show Below w3.heap.size w3 ((w8.setCell ⟨w3.heap.size, 0, none⟩ (.int .i64 QV)).setCell ⟨w3.heap.size, 1, none⟩ (.int .i64 UV)) from below_setCell (below_setCell HBW8.out (Nat.le_refl _)) (Nat.le_refl _))
            obtain ⟨s0, s1⟩ := cells2S HSQ8.out
            have z0 := froz HSQ8.out 0
            have z1 := froz HSQ8.out 1
            clear hb
            go_wp2
            exact ⟨⟨0 + 1, by have := HLT.out; omega, by go_num, Lib.hid (by rw [Nat.zero_add, HE.out (by omega) hu2]; exact HSP9.out), HBW9⟩, by simp [intOf]; have := HLT.out; omega⟩
      · have e0 : ((k : Int) == 0) = false := by rw [beq_eq_false_iff_ne]; omega
        have HE := Lib.hid (HSS.out h0)
        rw [HQS.out, HUS.out] at HE
        obtain ⟨A1, hA1⟩ : ∃ A1, min L0 QV = A1 := ⟨_, rfl⟩
        obtain ⟨A2, hA2⟩ : ∃ A2, max H0 UV = A2 := ⟨_, rfl⟩
        rw [hA1, hA2] at HE
        go_upto_region 9 with fail
        refine wp_region_facts _ 13 [48, 49, 50, 51, 52, 53, 54, 55, 56, 57, 58, 59, 60] [isV (.pointer (some ⟨w3.heap.size, 0, none⟩)), isV (.int .i64 L0), isV (.int .i64 FV), isV (.int .i64 PV), isV (.int .i64 QV), isV (.int .i64 A1), isV (.pointer (some ⟨w3.heap.size, 1, none⟩)), isV (.int .i64 H0), isV (.int .i64 FV), isV (.int .i64 PV), ⟨fun v W => v = .int .i64 UV, fun _ _ _ h _ => h⟩, isV (.int .i64 A2), isV (.agg #[.int .i64 A1, .int .i64 A2])] (by kernel_rfl) (by kernel_rfl) (by kernel_rfl) rfl (by decide) (by decide) (by simp) ?step ?rest
        case step =>
          intro i ac W d hi hd hb hoff hdep
          obtain ⟨s0, s1⟩ := cells2S ((hb.block w3.heap.size (heap_lt HSP5.out)).trans HSP5.out)
          have hi2 : i = 0 ∨ i = 1 ∨ i = 2 ∨ i = 3 ∨ i = 4 ∨ i = 5 ∨ i = 6 ∨ i = 7 ∨ i = 8 ∨ i = 9 ∨ i = 10 ∨ i = 11 ∨ i = 12 := by omega
          rcases hi2 with rfl | rfl | rfl | rfl | rfl | rfl | rfl | rfl | rfl | rfl | rfl | rfl | rfl
          · obtain rfl : 48 = d := by simpa using hd
            have q10 : ac.tmps[10]?.getD undef = .pointer (some ⟨w3.heap.size, 0, none⟩) := (eval_tmp _ _).symm.trans <| (hoff 10 (by decide)).trans rfl
            refine fact_value rfl rfl rfl (v := .pointer (some ⟨w3.heap.size, 0, none⟩)) (W' := W) ?_ (Below.refl _ _) rfl
            simp only [execOp]
            go_simp
          · obtain rfl : 49 = d := by simpa using hd
            have q48 : ac.tmps[48]?.getD undef = .pointer (some ⟨w3.heap.size, 0, none⟩) := (eval_tmp _ _).symm.trans (hdep 0 48 rfl rfl)
            refine fact_value rfl rfl rfl (v := .int .i64 L0) (W' := W) ?_ (Below.refl _ _) rfl
            simp only [execOp]
            go_simp
          · obtain rfl : 50 = d := by simpa using hd
            have q12 : ac.tmps[12]?.getD undef = .int .i64 FV := (eval_tmp _ _).symm.trans <| (hoff 12 (by decide)).trans rfl
            refine fact_value rfl rfl rfl (v := .int .i64 FV) (W' := W) ?_ (Below.refl _ _) rfl
            simp only [execOp]
            go_simp
          · obtain rfl : 51 = d := by simpa using hd
            have q13 : ac.tmps[13]?.getD undef = .int .i64 PV := (eval_tmp _ _).symm.trans <| (hoff 13 (by decide)).trans rfl
            refine fact_value rfl rfl rfl (v := .int .i64 PV) (W' := W) ?_ (Below.refl _ _) rfl
            simp only [execOp]
            go_simp
          · obtain rfl : 52 = d := by simpa using hd
            have q50 : ac.tmps[50]?.getD undef = .int .i64 FV := (eval_tmp _ _).symm.trans (hdep 2 50 rfl rfl)
            have q51 : ac.tmps[51]?.getD undef = .int .i64 PV := (eval_tmp _ _).symm.trans (hdep 3 51 rfl rfl)
            refine fact_value rfl rfl rfl (v := .int .i64 QV) (W' := W) ?_ (Below.refl _ _) rfl
            simp only [execOp]
            go_simp
          · obtain rfl : 53 = d := by simpa using hd
            have q49 : ac.tmps[49]?.getD undef = .int .i64 L0 := (eval_tmp _ _).symm.trans (hdep 1 49 rfl rfl)
            have q52 : ac.tmps[52]?.getD undef = .int .i64 QV := (eval_tmp _ _).symm.trans (hdep 4 52 rfl rfl)
            refine fact_value rfl rfl rfl (v := .int .i64 A1) (W' := W) ?_ (Below.refl _ _) rfl
            simp only [execOp]
            go_simp
          · obtain rfl : 54 = d := by simpa using hd
            have q10 : ac.tmps[10]?.getD undef = .pointer (some ⟨w3.heap.size, 0, none⟩) := (eval_tmp _ _).symm.trans <| (hoff 10 (by decide)).trans rfl
            refine fact_value rfl rfl rfl (v := .pointer (some ⟨w3.heap.size, 1, none⟩)) (W' := W) ?_ (Below.refl _ _) rfl
            simp only [execOp]
            go_simp
          · obtain rfl : 55 = d := by simpa using hd
            have q54 : ac.tmps[54]?.getD undef = .pointer (some ⟨w3.heap.size, 1, none⟩) := (eval_tmp _ _).symm.trans (hdep 6 54 rfl rfl)
            refine fact_value rfl rfl rfl (v := .int .i64 H0) (W' := W) ?_ (Below.refl _ _) rfl
            simp only [execOp]
            go_simp
          · obtain rfl : 56 = d := by simpa using hd
            have q12 : ac.tmps[12]?.getD undef = .int .i64 FV := (eval_tmp _ _).symm.trans <| (hoff 12 (by decide)).trans rfl
            refine fact_value rfl rfl rfl (v := .int .i64 FV) (W' := W) ?_ (Below.refl _ _) rfl
            simp only [execOp]
            go_simp
          · obtain rfl : 57 = d := by simpa using hd
            have q13 : ac.tmps[13]?.getD undef = .int .i64 PV := (eval_tmp _ _).symm.trans <| (hoff 13 (by decide)).trans rfl
            refine fact_value rfl rfl rfl (v := .int .i64 PV) (W' := W) ?_ (Below.refl _ _) rfl
            simp only [execOp]
            go_simp
          · obtain rfl : 58 = d := by simpa using hd
            have q56 : ac.tmps[56]?.getD undef = .int .i64 FV := (eval_tmp _ _).symm.trans (hdep 8 56 rfl rfl)
            have q57 : ac.tmps[57]?.getD undef = .int .i64 PV := (eval_tmp _ _).symm.trans (hdep 9 57 rfl rfl)
            refine fact_call rfl rfl rfl (f := 73) (args := #[.int .i64 FV, .int .i64 PV]) ?_ ?_
            · simp only [execOp]
              go_simp
            · refine (HUP.out W).mono ?_
              rintro e w' ⟨rfl, rfl⟩
              exact ⟨_, rfl, Below.refl _ _, rfl⟩
          · obtain rfl : 59 = d := by simpa using hd
            have q55 : ac.tmps[55]?.getD undef = .int .i64 H0 := (eval_tmp _ _).symm.trans (hdep 7 55 rfl rfl)
            have q58 : (ac.tmps[58]?.getD undef) = .int .i64 UV := eval_tmp ac _ ▸ hdep 10 58 rfl rfl
            refine fact_value rfl rfl rfl (v := .int .i64 A2) (W' := W) ?_ (Below.refl _ _) rfl
            simp only [execOp]
            go_simp
          · obtain rfl : 60 = d := by simpa using hd
            have q53 : ac.tmps[53]?.getD undef = .int .i64 A1 := (eval_tmp _ _).symm.trans (hdep 5 53 rfl rfl)
            have q59 : ac.tmps[59]?.getD undef = .int .i64 A2 := (eval_tmp _ _).symm.trans (hdep 11 59 rfl rfl)
            refine fact_value rfl rfl rfl (v := .agg #[.int .i64 A1, .int .i64 A2]) (W' := W) ?_ (Below.refl _ _) rfl
            simp only [execOp]
            go_simp
        case rest =>
          intro vs w6 hvl hb hval
          obtain ⟨v0, v1, v2, v3, v4, v5, v6, v7, v8, v9, v10, v11, v12, rfl⟩ : ∃ v0 v1 v2 v3 v4 v5 v6 v7 v8 v9 v10 v11 v12, vs = [v0, v1, v2, v3, v4, v5, v6, v7, v8, v9, v10, v11, v12] := by
            match vs, hvl with
            | [v0, v1, v2, v3, v4, v5, v6, v7, v8, v9, v10, v11, v12], _ => exact ⟨v0, v1, v2, v3, v4, v5, v6, v7, v8, v9, v10, v11, v12, rfl⟩
          obtain rfl : v0 = .pointer (some ⟨w3.heap.size, 0, none⟩) := by obtain ⟨u, e, h⟩ := hval 0 (by omega); have e2 : some v0 = some u := e; injection e2 with e2; subst e2; exact h
          obtain rfl : v1 = .int .i64 L0 := by obtain ⟨u, e, h⟩ := hval 1 (by omega); have e2 : some v1 = some u := e; injection e2 with e2; subst e2; exact h
          obtain rfl : v2 = .int .i64 FV := by obtain ⟨u, e, h⟩ := hval 2 (by omega); have e2 : some v2 = some u := e; injection e2 with e2; subst e2; exact h
          obtain rfl : v3 = .int .i64 PV := by obtain ⟨u, e, h⟩ := hval 3 (by omega); have e2 : some v3 = some u := e; injection e2 with e2; subst e2; exact h
          obtain rfl : v4 = .int .i64 QV := by obtain ⟨u, e, h⟩ := hval 4 (by omega); have e2 : some v4 = some u := e; injection e2 with e2; subst e2; exact h
          obtain rfl : v5 = .int .i64 A1 := by obtain ⟨u, e, h⟩ := hval 5 (by omega); have e2 : some v5 = some u := e; injection e2 with e2; subst e2; exact h
          obtain rfl : v6 = .pointer (some ⟨w3.heap.size, 1, none⟩) := by obtain ⟨u, e, h⟩ := hval 6 (by omega); have e2 : some v6 = some u := e; injection e2 with e2; subst e2; exact h
          obtain rfl : v7 = .int .i64 H0 := by obtain ⟨u, e, h⟩ := hval 7 (by omega); have e2 : some v7 = some u := e; injection e2 with e2; subst e2; exact h
          obtain rfl : v8 = .int .i64 FV := by obtain ⟨u, e, h⟩ := hval 8 (by omega); have e2 : some v8 = some u := e; injection e2 with e2; subst e2; exact h
          obtain rfl : v9 = .int .i64 PV := by obtain ⟨u, e, h⟩ := hval 9 (by omega); have e2 : some v9 = some u := e; injection e2 with e2; subst e2; exact h
          have k10 : v10 = .int .i64 UV := by obtain ⟨u, e, h⟩ := hval 10 (by omega); have e2 : some v10 = some u := e; injection e2 with e2; subst e2; exact h
          obtain rfl : v11 = .int .i64 A2 := by obtain ⟨u, e, h⟩ := hval 11 (by omega); have e2 : some v11 = some u := e; injection e2 with e2; subst e2; exact h
          obtain rfl : v12 = .agg #[.int .i64 A1, .int .i64 A2] := by obtain ⟨u, e, h⟩ := hval 12 (by omega); have e2 : some v12 = some u := e; injection e2 with e2; subst e2; exact h
          clear hval hvl
          simp only [putL, Act.put, List.drop, List.setIfInBounds_toArray, List.set_cons_zero, List.set_cons_succ]

          subst k10
          have HSQ6 := Lib.hid ((hb.block w3.heap.size (heap_lt HSP5.out)).trans HSP5.out)
          have HBW6 := Lib.hid (HBW5.out.trans (hb.mono HBW5.out.size))
          have HSP7 := Lib.hid (show ((w6.setCell ⟨w3.heap.size, 0, none⟩ (.int .i64 A1)).setCell ⟨w3.heap.size, 1, none⟩ (.int .i64 A2)).heap[w3.heap.size]? = some (.cells #[.int .i64 A1, .int .i64 A2] 24) from heap_setCell_same (heap_setCell_same HSQ6.out))
          have HBW7 := Lib.hid (show Below w3.heap.size w3 ((w6.setCell ⟨w3.heap.size, 0, none⟩ (.int .i64 A1)).setCell ⟨w3.heap.size, 1, none⟩ (.int .i64 A2)) from below_setCell (below_setCell HBW6.out (Nat.le_refl _)) (Nat.le_refl _))
          obtain ⟨s0, s1⟩ := cells2S HSQ6.out
          have z0 := froz HSQ6.out 0
          have z1 := froz HSQ6.out 1
          clear hb
          go_wp2
          exact ⟨⟨k + 1, by have := HLT.out; omega, by go_num, Lib.hid (by rw [HE.out]; exact HSP7.out), HBW7⟩, by simp [intOf]; have := HLT.out; omega⟩
    · obtain rfl : k = N := by omega
      have HRS := Lib.hid HTW.out.s.blk
      obtain ⟨g0, g1⟩ := cells2S HRS.out
      have g2 := froz HRS.out 0
      have g3 := froz HRS.out 1
      rw [← HN.out]
      rw [← HN.out] at hsp s0 s1
      obtain ⟨L0, hL0⟩ : ∃ L, (spanK M weight minutes xs xs.length).1 = L := ⟨_, rfl⟩
      obtain ⟨H0, hH0⟩ : ∃ L, (spanK M weight minutes xs xs.length).2 = L := ⟨_, rfl⟩
      have HL := Lib.hid hL0
      have HH := Lib.hid hH0
      rw [hL0] at s0
      rw [hH0] at s1
      have HFB := Lib.hid (show Below w.heap.size w ((wr.setCell ⟨w.heap.size + 1, 0, none⟩ (.int .i64 L0)).setCell ⟨w.heap.size + 1, 1, none⟩ (.int .i64 H0)) from below_setCell (below_setCell HTW.out.m.b (Nat.le_succ _)) (Nat.le_succ _))
      clear hL0 hH0
      go_wp2
      obtain ⟨y0, y1⟩ := cells2S (heap_setCell_same (o := 1) (v := .int .i64 H0) (heap_setCell_same (o := 0) (v := .int .i64 L0) HRS.out))
      refine bodyPost_ret (v := .tuple #[.agg #[.int .i64 L0, .int .i64 H0], .int .i64 er]) (by simp [results, Try.results49, go_sem, y0, y1]) rfl ⟨by rw [HL.out, HH.out], HFB.out⟩
end Go.Proofs.Ytomcjopcfdllgaa
