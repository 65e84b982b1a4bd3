/-
  Levers, the law's reference: Strange.
-/
import Derived.Test.YtomcjopcfdllgaaVPullR
import Derived.Test.YtomcjopcfdllgaaVStrange

namespace Go.Proofs.Ytomcjopcfdllgaa
open Go.RowKit Go.Shelf

theorem any_take {α : Type} {f : α → Bool} {l : List α} {j : Nat} (h : j < l.length) : (l.take (j + 1)).any f = ((l.take j).any f || f l[j]) := by
  rw [List.take_succ_eq_append_getElem h, List.any_append, List.any_cons, List.any_nil, Bool.or_false]
set_option maxRecDepth 100000 in
set_option maxHeartbeats 16000000 in
theorem rStrange_ok {M : Mach} (hv : validMB M = true) (hne : truthsM M ≠ []) (v : Value) (w : World) (hx : MachAt w.heap.size w v M) :
    Calls Try.prog 46 #[v] w fun e w' => (∃ q, e = .returned (.tuple #[q, .int .i64 0]) ∧ IntsAt w'.heap.size w' q (strM M)) ∧ Below w.heap.size w w' := by
  have hV := validM_iff.1 hv
  have HX := Lib.hid (fun W (hb : Below w.heap.size w W) => (hx.below hb).mono hb.size)
  obtain ⟨a, cap, a2, cap2, rfl⟩ := hx.form
  obtain ⟨O, hO⟩ : ∃ O, O = Obj.cells #[.slice a M.levers.length cap, .int .i64 M.water, .int .i64 M.lkLo, .int .i64 M.lkHi, .slice a2 M.bals.length cap2, .int .i64 M.wrong] 27 := ⟨_, rfl⟩
  have HO := Lib.hid hO
  have HT := Lib.hid (fun W hb => truths_ok hv _ W (HX.out W hb))
  rw [show noneE (truthsM M).length = 0 by rw [noneE, if_neg (fun h => hne (List.eq_nil_of_length_eq_zero h))]] at HT
  have HW0 := Lib.hid (show MStat w (w.alloc O) w.heap.size O from ⟨(Below.refl _ w).alloc (Nat.le_refl _) _, Nat.le_refl _, heap_new w O⟩)
  obtain ⟨c0, c1, c2, c3, c4, c5⟩ := mst_cells HW0.out.blk hO
  obtain ⟨i0, hi, hz0, hz1, hz2⟩ := info_parts Try_infoN
  have htl := truths_len hV
  have hnb := hV.nb
  have HIN := Lib.hid (fun s (hs : s ∈ truthsM M) => inSet_of hV (truth_set hs))
  have HSR := Lib.hid (fun k => show someR M k = (truthsM M).any (fun s => rightP M s.2 (prodL s.1) (bnth M.bals k)) from rfl)
  obtain ⟨TS, hTS⟩ : ∃ TS, truthsM M = TS := ⟨_, rfl⟩
  rw [hTS] at HT htl HIN HSR
  rw [hO] at c0 c1 c2 c3 c4 c5
  clear hx hO hne hTS
  go_enter Try.func46, Try.ntmps46
  go_upto_region 4 with (go_at_call 70; refine (HT.out _ (by go_grown)).mono ?_; rintro e w3 ⟨u, rfl, hsu, hb⟩; rw [← HO.out] at hb; have hst1 := HW0.out.next hb; have HS3 := Lib.hid hst1; have HSU := Lib.hid hsu; clear c0 c1 c2 c3 c4 c5; obtain ⟨c0, c1, c2, c3, c4, c5⟩ := mst_cells hst1.blk HO.out; clear hb hst1 hsu)
  obtain ⟨A, cl, rfl, _⟩ := own_form HSU.out.choose_spec.2.1
  go_wp2_with fail
  go_loopw [6, 7] (fun out nn wr => ∃ k : Nat, k ≤ M.bals.length ∧ nn = .int .i64 k ∧ Hid (wr.ownsRow w3.heap.size 3 1 out (strTo M k).length ((strTo M k).map (Value.int .i64))) ∧ Hid (Below w3.heap.size w3 wr)) (fun _ nn _ => M.bals.length - (intOf nn).toNat)
  case atStart => exact ⟨0, Nat.zero_le _, rfl, Lib.hid (World.ownsRow_nil _ _ _ _), Lib.hid (Below.refl _ _)⟩
  case round =>
    obtain ⟨k, hk, rfl, hown, hbw⟩ := hrel
    have HS := Lib.hid (HS3.out.next hbw.out)
    clear c0 c1 c2 c3 c4 c5
    obtain ⟨c0, c1, c2, c3, c4, c5⟩ := mst_cells HS.out.blk HO.out
    obtain ⟨oA, oc, rfl, _⟩ := own_form hown.out
    have hpl := strTo_len M k
    by_cases hlt : k < M.bals.length
    · obtain ⟨b2, off2, rfl, hbb, hcl⟩ := bals_cells (HX.out wr HS.out.b) (by omega)
      have HBL := Lib.hid (hcl k hlt)
      have HBM := Lib.hid (show bnth M.bals k ∈ M.bals by rw [bnth_lt hlt]; exact List.getElem_mem hlt)
      have HNX := Lib.hid (strTo_succ M k)
      have HSK := Lib.hid (HSR.out k)
      have hkb : ((k : Nat) : Int) < (M.bals.length : Int) := by omega
      obtain ⟨P, hP⟩ : ∃ P, strTo M k = P := ⟨_, rfl⟩
      rw [hP] at hown hpl HNX ⊢
      obtain ⟨ln, hln⟩ : ∃ ln, P.length = ln := ⟨_, rfl⟩
      have HLN := Lib.hid hln
      rw [hln] at hown hpl ⊢
      clear hP hln hcl
      have hbv : bV (bnth M.bals k) = .agg #[.int .i64 (bnth M.bals k).weight, .int .i64 (bnth M.bals k).minutes, .int .i64 (bnth M.bals k).load, .int .i64 (bnth M.bals k).off] := rfl
      obtain ⟨V0, hV0⟩ : ∃ x, (bnth M.bals k).weight = x := ⟨_, rfl⟩
      obtain ⟨V1, hV1⟩ : ∃ x, (bnth M.bals k).minutes = x := ⟨_, rfl⟩
      obtain ⟨V2, hV2⟩ : ∃ x, (bnth M.bals k).load = x := ⟨_, rfl⟩
      obtain ⟨V3, hV3⟩ : ∃ x, (bnth M.bals k).off = x := ⟨_, rfl⟩
      rw [hV0, hV1, hV2, hV3] at hbv HBL
      have HBV := Lib.hid hbv
      clear hV0 hV1 hV2 hV3 hbv
      go_wp2_with fail
      obtain ⟨w4, rfl⟩ : ∃ W, W = wr := ⟨_, rfl⟩
      go_loopw [8, 9] (fun r i W => ∃ j : Nat, j ≤ TS.length ∧ i = .int .i64 j ∧ r = .bool ((TS.take j).any (fun s => rightP M s.2 (prodL s.1) (bnth M.bals k))) ∧ Hid (Below w4.heap.size w4 W)) (fun _ i _ => TS.length - (intOf i).toNat)
      case atStart => exact ⟨0, Nat.zero_le _, rfl, rfl, Lib.hid (Below.refl _ _)⟩
      case round =>
        obtain ⟨j, hj, rfl, rfl, hbi⟩ := hrel
        have HSI := Lib.hid (HS.out.next hbi.out)
        have HBI := Lib.hid (hbw.out.trans (hbi.out.mono hbw.out.size))
        clear c0 c1 c2 c3 c4 c5
        obtain ⟨c0, c1, c2, c3, c4, c5⟩ := mst_cells HSI.out.blk HO.out
        by_cases hjl : j < TS.length
        · obtain ⟨g, c, v, e0, hg0, hg1, hga, hgb, hgv⟩ := HSU.out.get hjl
          injection e0 with e1 e2 e3
          subst e1 e3
          have hkn : ((j : Nat) : Int) < (TS.length : Int) := by omega
          have hmem := snth_mem hjl
          have HIN1 := Lib.hid (HIN.out _ hmem)
          have HAT := Lib.hid (any_take (f := fun s => rightP M s.2 (prodL s.1) (bnth M.bals k)) hjl)
          rw [← snth_lt hjl] at HAT
          have HGV := Lib.hid (hgv.below HBI.out)
          obtain ⟨X, hX⟩ : ∃ X, snth TS j = X := ⟨_, rfl⟩
          rw [hX] at hgb HGV HIN1 HAT
          have HJL := Lib.hid hjl
          obtain ⟨r, hr⟩ : ∃ r, (TS.take j).any (fun s => rightP M s.2 (prodL s.1) (bnth M.bals k)) = r := ⟨_, rfl⟩
          rw [hr] at HAT ⊢
          have HDR := Lib.hid (show ∀ p, Below w4.heap.size w4 (wr.drewN p) from fun p => drewN_below hbi.out p)
          have HCA := Lib.hid (show ∀ W', Below wr.heap.size wr W' → (W'.cell? ⟨w.heap.size, 0, none⟩ = some (.slice a M.levers.length cap) ∧ W'.cell? ⟨w.heap.size, 1, none⟩ = some (.int .i64 M.water) ∧ W'.cell? ⟨w.heap.size, 2, none⟩ = some (.int .i64 M.lkLo) ∧ W'.cell? ⟨w.heap.size, 3, none⟩ = some (.int .i64 M.lkHi) ∧ W'.cell? ⟨w.heap.size, 4, none⟩ = some (.slice (some ⟨b2, off2, none⟩) M.bals.length cap2) ∧ W'.cell? ⟨w.heap.size, 5, none⟩ = some (.int .i64 M.wrong)) ∧ (W'.cell? ⟨g, j * 2, none⟩ = some v ∧ W'.cell? ⟨g, j * 2 + 1, none⟩ = some (.int .i64 X.2)) ∧ W'.cell? ⟨b2, off2 + k * 4, none⟩ = some (.int .i64 V0) ∧ W'.cell? ⟨b2, off2 + k * 4 + 1, none⟩ = some (.int .i64 V1) ∧ W'.cell? ⟨b2, off2 + k * 4 + 2, none⟩ = some (.int .i64 V2) ∧ W'.cell? ⟨b2, off2 + k * 4 + 3, none⟩ = some (.int .i64 V3) from fun W' hb => ⟨mst_cells (HSI.out.next hb).blk HO.out, ⟨((HBI.out.trans (hb.mono HBI.out.size)).cell (p := ⟨g, j * 2, none⟩) hg1).trans hga, ((HBI.out.trans (hb.mono HBI.out.size)).cell (p := ⟨g, j * 2 + 1, none⟩) hg1).trans hgb⟩, HBL.out.below (hbi.out.trans (hb.mono hbi.out.size)) hbb⟩)
          have HRR := Lib.hid (fun W (hb : Below wr.heap.size wr W) => uIsRight_any _ M v X.1 X.2 (bnth M.bals k) W (HX.out W (HSI.out.b.trans (hb.mono HSI.out.b.size))) hV ((HGV.out.below hb).ints (inSet_i64 HIN1.out)) HIN1.out HBM.out)
          rw [HBV.out] at HRR
          obtain ⟨q, hq⟩ : ∃ q, rightP M X.2 (prodL X.1) (bnth M.bals k) = q := ⟨_, rfl⟩
          rw [hq] at HRR HAT
          clear c0 c1 c2 c3 c4 c5 hga hgb hgv hmem hX hr hq
          obtain ⟨⟨c0, c1, c2, c3, c4, c5⟩, ⟨s0, s1⟩, f0, f1, f2, f3⟩ := HCA.out wr (Below.refl _ _)
          cases r
          · go_wp2_with fail
            go_region_held3 (fun W' => (W'.cell? ⟨w.heap.size, 0, none⟩ = some (.slice a M.levers.length cap) ∧ W'.cell? ⟨w.heap.size, 1, none⟩ = some (.int .i64 M.water) ∧ W'.cell? ⟨w.heap.size, 2, none⟩ = some (.int .i64 M.lkLo) ∧ W'.cell? ⟨w.heap.size, 3, none⟩ = some (.int .i64 M.lkHi) ∧ W'.cell? ⟨w.heap.size, 4, none⟩ = some (.slice (some ⟨b2, off2, none⟩) M.bals.length cap2) ∧ W'.cell? ⟨w.heap.size, 5, none⟩ = some (.int .i64 M.wrong)) ∧ (W'.cell? ⟨g, j * 2, none⟩ = some v ∧ W'.cell? ⟨g, j * 2 + 1, none⟩ = some (.int .i64 X.2)) ∧ W'.cell? ⟨b2, off2 + k * 4, none⟩ = some (.int .i64 V0) ∧ W'.cell? ⟨b2, off2 + k * 4 + 1, none⟩ = some (.int .i64 V1) ∧ W'.cell? ⟨b2, off2 + k * 4 + 2, none⟩ = some (.int .i64 V2) ∧ W'.cell? ⟨b2, off2 + k * 4 + 3, none⟩ = some (.int .i64 V3))
              (first
                | exact HCA.out _ HB5.out
                | exact HCA.out _ (by go_grown))
              (first | (go_at_call 24; refine (HRR.out _ (by go_grown)).mono ?_; rintro e w5 ⟨rfl, hb⟩; have HB5 := Lib.hid ((show Below wr.heap.size wr _ by go_grown).trans (hb.mono (by simp))); clear hb))
            all_goals
              have HBZ := Lib.hid (hbi.out.trans (HB5.out.mono hbi.out.size))
              go_wp2
              exact ⟨⟨j + 1, by have := HJL.out; omega, by go_num, by rw [HAT.out]; simp, HBZ⟩, by simp [intOf]; have := HJL.out; omega⟩
          · go_wp2_with fail
            go_quiet (fail)
            go_wp2
            exact ⟨⟨j + 1, by have := HJL.out; omega, by go_num, by rw [HAT.out]; rfl, HDR.out _⟩, by simp [intOf]; have := HJL.out; omega⟩
        · obtain rfl : TS.length = j := by omega
          have HSK2 := Lib.hid (show (TS.take TS.length).any (fun s => rightP M s.2 (prodL s.1) (bnth M.bals k)) = someR M k by rw [List.take_length, HSK.out])
          rw [HSK2.out]
          have HOW := Lib.hid (own_below hown.out hbi.out)
          cases hs : someR M k
          · have HNY := Lib.hid (HNX.out.trans (by rw [hs, if_neg (by simp)]))
            go_wp2_with (at_builtin; refine wpList_onto (base := w3.heap.size) (v := .slice oA ln oc) (n := ln) (xs := P.map (Value.int .i64)) (A := some ⟨wr.heap.size, 0, none⟩) (m := 1) (c := 1) (news := [.int .i64 (k : Nat)]) rfl (.tmp 47) (.tmp 49) rfl Try.underlying28 hi hz0 hz1 hz2 rfl (by decide) rfl (HOW.out.alloc _) rfl (from_oneN _ _ _) (by simp [Value.oneCell']) (by unfold maxLen; omega) (by omega) (by have := HBI.out.size; simp; omega) ?_; intro A9 c9 w9 hown9 hgrow9 hat9; have HOWN9 := Lib.hid hown9; have HB9 := Lib.hid ((HBI.out.alloc HBI.out.size (.cells #[.int .i64 (k : Nat)] 3)).grown hgrow9 (by have := HBI.out.size; simp; omega) (fun j e => (hown.out.lt j e).1)); clear hown9 hgrow9 hat9)
            refine ⟨⟨k + 1, by omega, by go_num, Lib.hid ?_, HB9⟩, by simp [intOf]; omega⟩
            rw [HNY.out, List.length_append, HLN.out, List.map_append]
            exact HOWN9.out
          · have HNY := Lib.hid (HNX.out.trans (by rw [hs, if_pos rfl, List.append_nil]))
            go_wp2
            refine ⟨⟨k + 1, by omega, by go_num, Lib.hid ?_, HBI⟩, by simp [intOf]; omega⟩
            rw [HNY.out, HLN.out]
            exact HOW.out
    · obtain rfl : k = M.bals.length := by omega
      have HBZ := Lib.hid (HS.out.b)
      go_wp2
      go_ret2
      refine ⟨⟨_, rfl, ?_⟩, HBZ.out⟩
      refine ints_of_own hown.out (fun x hx => ?_)
      obtain ⟨y, hy, rfl⟩ := List.mem_map.1 hx
      have := List.mem_range.1 (List.mem_filter.1 hy).1
      unfold I64
      show (-9223372036854775808 : Int) ≤ (y : Int) ∧ (y : Int) ≤ 9223372036854775807
      omega
end Go.Proofs.Ytomcjopcfdllgaa
