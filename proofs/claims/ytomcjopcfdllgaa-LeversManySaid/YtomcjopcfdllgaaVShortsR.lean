/-
  Levers, the law's reference: Shorts.
-/
import Derived.Test.YtomcjopcfdllgaaVLeaksR

namespace Go.Proofs.Ytomcjopcfdllgaa
open Go.RowKit Go.Shelf

set_option maxRecDepth 100000 in
set_option maxHeartbeats 16000000 in
theorem rShorts_ok {M : Mach} (hv : validMB M = true) (hne : truthsM M ≠ []) {lev : Nat} (hlev : lev < M.levers.length) (v : Value) (w : World) (hx : MachAt w.heap.size w v M) :
    Calls Try.prog 44 #[v, .int .i64 (lev : Nat)] w fun e w' => (∃ q, e = .returned (.tuple #[q, .int .i64 0]) ∧ IntsAt w'.heap.size w' q (shortsM M lev)) ∧ Below w.heap.size w w' := by
  have hV := validM_iff.1 hv
  have HX := Lib.hid (fun W (hb : Below w.heap.size w W) => (hx.below hb).mono hb.size)
  obtain ⟨a, cap, b, off, a2, cap2, b2, off2, rfl, hm, hm2, HA, HC, HA2, HC2, HI, HI2, HW⟩ := hx.opened
  obtain ⟨rfl, hbw0⟩ := HA.out (by omega)
  have hT := HC.out lev hlev
  have HLV := Lib.hid (show ∀ W, Below w.heap.size w W → Three W b (off + lev * 3) (lnth M.levers lev).long (lnth M.levers lev).lo (lnth M.levers lev).hi from fun W hb => hT.below hb hbw0)
  have hlv := hV.lev (lnth M.levers lev) (by rw [lnth_lt hlev]; exact List.getElem_mem hlev)
  have HSM := Lib.hid (show shortsM M lev = (rangeL (lnth M.levers lev).lo (lnth M.levers lev).hi).filter (fun y => (truthsM M).any (fun s => nth s.1 lev == y)) from rfl)
  obtain ⟨LO, hLO⟩ : ∃ x, (lnth M.levers lev).lo = x := ⟨_, rfl⟩
  obtain ⟨HH, hHH⟩ : ∃ x, (lnth M.levers lev).hi = x := ⟨_, rfl⟩
  rw [hLO, hHH] at HLV hlv HSM
  have hlim : 0 ≤ LO ∧ LO ≤ HH ∧ HH ≤ 1000 := by omega
  have hlev' : ((lev : Nat) : Int) < (M.levers.length : Int) := by omega
  have HLE := Lib.hid hlev
  clear hT hLO hHH HA HC HA2 HC2 HI HI2 HW
  obtain ⟨O, hO⟩ : ∃ O, O = Obj.cells #[.slice (some ⟨b, off, none⟩) M.levers.length cap, .int .i64 M.water, .int .i64 M.lkLo, .int .i64 M.lkHi, .slice a2 M.bals.length cap2, .int .i64 M.wrong] 27 := ⟨_, rfl⟩
  have HO := Lib.hid hO
  have HT := Lib.hid (fun W hb => truths_ok hv _ W (HX.out W hb))
  rw [show noneE (truthsM M).length = 0 by rw [noneE, if_neg (fun h => hne (List.eq_nil_of_length_eq_zero h))]] at HT
  have HW0 := Lib.hid (show MStat w (w.alloc O) w.heap.size O from ⟨(Below.refl _ w).alloc (Nat.le_refl _) _, Nat.le_refl _, heap_new w O⟩)
  obtain ⟨c0, c1, c2, c3, c4, c5⟩ := mst_cells HW0.out.blk hO
  obtain ⟨i0, hi, hz0, hz1, hz2⟩ := info_parts Try_infoN
  have htl := truths_len hV
  have HIN := Lib.hid (fun s (hs : s ∈ truthsM M) => inSet_of hV (truth_set hs))
  obtain ⟨TS, hTS⟩ : ∃ TS, truthsM M = TS := ⟨_, rfl⟩
  rw [hTS] at HT htl HIN
  rw [hTS] at HSM
  rw [hO] at c0 c1 c2 c3 c4 c5
  clear hx hO hne hTS
  have HQ := Lib.hid (show ∀ W', Below (w.alloc O).heap.size (w.alloc O) W' → W'.cell? ⟨w.heap.size, 0, none⟩ = some (.slice (some ⟨b, off, none⟩) M.levers.length cap) ∧ W'.cell? ⟨w.heap.size, 1, none⟩ = some (.int .i64 M.water) ∧ W'.cell? ⟨w.heap.size, 2, none⟩ = some (.int .i64 M.lkLo) ∧ W'.cell? ⟨w.heap.size, 3, none⟩ = some (.int .i64 M.lkHi) ∧ W'.cell? ⟨w.heap.size, 4, none⟩ = some (.slice a2 M.bals.length cap2) ∧ W'.cell? ⟨w.heap.size, 5, none⟩ = some (.int .i64 M.wrong) from fun W' hb => mst_cells (HW0.out.next hb).blk HO.out)
  have hwi : wB (lev : Int) 0 ((M.levers.length : Int) - 1) = true := wB_iff.2 ⟨by omega, by omega⟩
  have hw65 : IntKind.i64.wrap ((M.levers.length : Int) - 1) = (M.levers.length : Int) - 1 := IntWalk.i64_in _ (by omega)
  have HWI := Lib.hid (fun W => uwithin_to hwi W)
  have hw64 : wrap64 ((M.levers.length : Int) - 1) = (M.levers.length : Int) - 1 := wrap_in (by omega)
  go_enter Try.func44, Try.ntmps44
  go_wp2_with fail
  rw [← HO.out]
  go_region_held3 (fun W' => W'.cell? ⟨w.heap.size, 0, none⟩ = some (.slice (some ⟨b, off, none⟩) M.levers.length cap) ∧ W'.cell? ⟨w.heap.size, 1, none⟩ = some (.int .i64 M.water) ∧ W'.cell? ⟨w.heap.size, 2, none⟩ = some (.int .i64 M.lkLo) ∧ W'.cell? ⟨w.heap.size, 3, none⟩ = some (.int .i64 M.lkHi) ∧ W'.cell? ⟨w.heap.size, 4, none⟩ = some (.slice a2 M.bals.length cap2) ∧ W'.cell? ⟨w.heap.size, 5, none⟩ = some (.int .i64 M.wrong))
    (first
      | exact HQ.out _ HB3.out
      | exact HQ.out _ (by go_grown))
    (first
      | (go_at_call 53; refine (HWI.out _).mono ?_; rintro e w' ⟨rfl, rfl⟩)
      | (go_at_call 70; refine (HT.out _ (by go_grown)).mono ?_; rintro e w3 ⟨u, rfl, hsu, hb⟩; have HSU := Lib.hid hsu; have HB3 := Lib.hid ((show Below (w.alloc O).heap.size (w.alloc O) _ by go_grown).trans (hb.mono (by simp))); clear hb hsu))
  have HS3 := Lib.hid (HW0.out.next HB3.out)
  clear c0 c1 c2 c3 c4 c5
  obtain ⟨c0, c1, c2, c3, c4, c5⟩ := mst_cells HS3.out.blk HO.out
  obtain ⟨l0, l1, l2⟩ := HLV.out w3 HS3.out.b
  obtain ⟨A, cl, rfl, _⟩ := own_form HSU.out.choose_spec.2.1
  go_wp2_with fail
  go_loopw [8, 9] (fun out nn wr => ∃ n : Int, (LO ≤ n ∧ n ≤ HH + 1) ∧ nn = .int .i64 n ∧ Hid (wr.ownsRow w3.heap.size 3 1 out ((rangeL LO (n - 1)).filter (fun y => TS.any (fun s => nth (s).1 lev == y))).length (((rangeL LO (n - 1)).filter (fun y => TS.any (fun s => nth (s).1 lev == y))).map (Value.int .i64))) ∧ Hid (Below w3.heap.size w3 wr)) (fun _ nn _ => (HH + 1 - intOf nn).toNat)
  case atStart => exact ⟨LO, by omega, rfl, Lib.hid (by rw [range_none]; exact World.ownsRow_nil _ _ _ _), Lib.hid (Below.refl _ _)⟩
  case round =>
    obtain ⟨n, hn, rfl, hown, hbw⟩ := hrel
    have HS := Lib.hid (HS3.out.next hbw.out)
    clear c0 c1 c2 c3 c4 c5 l0 l1 l2
    obtain ⟨c0, c1, c2, c3, c4, c5⟩ := mst_cells HS.out.blk HO.out
    obtain ⟨l0, l1, l2⟩ := HLV.out wr HS.out.b
    obtain ⟨oA, oc, rfl, _⟩ := own_form hown.out
    obtain ⟨P, hP⟩ : ∃ P, (rangeL LO (n - 1)).filter (fun y => TS.any (fun s => nth (s).1 lev == y)) = P := ⟨_, rfl⟩
    have HP := Lib.hid hP
    have hpl : P.length ≤ 1001 := by
      rw [← hP]
      refine Nat.le_trans (List.length_filter_le _ _) ?_
      rw [range_len]
      omega
    rw [hP] at hown ⊢
    obtain ⟨ln, hln⟩ : ∃ ln, P.length = ln := ⟨_, rfl⟩
    have HLN := Lib.hid hln
    rw [hln] at hown hpl ⊢
    clear hP hln
    by_cases hlt : n ≤ HH
    · have HNX := Lib.hid (show (rangeL LO (n + 1 - 1)).filter (fun y => TS.any (fun s => nth (s).1 lev == y)) = P ++ (if TS.any (fun s => nth (s).1 lev == n) = true then [n] else []) by rw [show n + 1 - 1 = n by omega, range_snocS (by omega), List.filter_append, HP.out]; congr 1; simp only [List.filter_cons, List.filter_nil])
      go_wp2_with fail
      go_loop [8, 10] (fun o i => ∃ k : Nat, k ≤ TS.length ∧ i = .int .i64 k ∧ o = .slice oA ln oc ∧ Hid (∀ s ∈ TS.take k, nth (s).1 lev ≠ n)) (fun _ i => TS.length - (intOf i).toNat)
      case atStart => exact ⟨0, Nat.zero_le _, rfl, rfl, Lib.hid (fun s hs => by simp at hs)⟩
      case round =>
        obtain ⟨k, hk, rfl, rfl, hno⟩ := hrel
        by_cases hkl : k < TS.length
        · obtain ⟨g, c, v, e0, hg0, hg1, hga, hgb, hgv⟩ := HSU.out.get hkl
          injection e0 with e1 e2 e3
          subst e1 e3
          have hkn : ((k : Nat) : Int) < (TS.length : Int) := by omega
          have hmem := snth_mem hkl
          have y0 := (hbw.out.cell (p := ⟨g, k * 2, none⟩) hg1).trans hga
          have y1 := (hbw.out.cell (p := ⟨g, k * 2 + 1, none⟩) hg1).trans hgb
          have HTK := Lib.hid (show TS.take (k + 1) = TS.take k ++ [snth TS k] by rw [List.take_succ_eq_append_getElem hkl, snth_lt hkl])
          have HIN1 := Lib.hid (HIN.out _ hmem)
          have HMEM := Lib.hid hmem
          obtain ⟨X, hX⟩ : ∃ X, snth TS k = X := ⟨_, rfl⟩
          rw [hX] at y1 hgv HTK HIN1 HMEM
          have hxl : X.1.length = M.levers.length := HIN1.out.1
          obtain ⟨sa, sc, rfl, _⟩ := own_form hgv
          have hgi := (hgv.below hbw.out).ints (inSet_i64 HIN1.out)
          obtain ⟨sb, so, rfl, hsb, hcs⟩ := ints_cells hgi (by have := HLE.out; omega)
          have y2 := hcs lev (by have := HLE.out; omega)
          rw [hxl] at y0
          obtain ⟨V, hV0⟩ : ∃ V, nth X.1 lev = V := ⟨_, rfl⟩
          rw [hV0] at y2
          have HV0 := Lib.hid hV0
          clear hga hgb hgv hmem hX y1 hV0 hgi hcs hxl
          by_cases he : V = n
          · have he' : (V == n) = true := by rw [beq_iff_eq]; exact he
            have HY := Lib.hid (show TS.any (fun s => nth (s).1 lev == n) = true from List.any_eq_true.2 ⟨X, HMEM.out, by rw [HV0.out]; exact he'⟩)
            have HNY := Lib.hid (HNX.out.trans (by rw [if_pos HY.out]))
            go_wp2_with (at_builtin; refine wpList_onto (base := w3.heap.size) (v := .slice oA ln oc) (n := ln) (xs := P.map (Value.int .i64)) (A := some ⟨wr.heap.size, 0, none⟩) (m := 1) (c := 1) (news := [.int .i64 n]) rfl (.tmp 59) (.tmp 61) rfl Try.underlying28 hi hz0 hz1 hz2 rfl (by decide) rfl (hown.out.alloc _) rfl (from_oneN _ _ _) (by simp [Value.oneCell']) (by unfold maxLen; omega) (by omega) (by have := hbw.out.size; simp; omega) ?_; intro A9 c9 w9 hown9 hgrow9 hat9; have HOWN9 := Lib.hid hown9; have HB9 := Lib.hid ((hbw.out.alloc hbw.out.size (.cells #[.int .i64 n] 3)).grown hgrow9 (by have := hbw.out.size; simp; omega) (fun j e => (hown.out.lt j e).1)); clear hown9 hgrow9 hat9)
            refine ⟨⟨n + 1, by omega, by go_num, Lib.hid ?_, HB9⟩, by simp [intOf]; omega⟩
            rw [HNY.out, List.length_append, HLN.out, List.map_append]
            exact HOWN9.out
          · have he' : (V == n) = false := by rw [beq_eq_false_iff_ne]; exact he
            have HNO := Lib.hid (show ∀ s ∈ TS.take (k + 1), nth (s).1 lev ≠ n from fun s hs => by
              rw [HTK.out] at hs
              rcases List.mem_append.1 hs with hs | hs
              · exact hno.out s hs
              · rw [List.mem_singleton.1 hs, HV0.out]; exact he)
            go_wp2
            exact ⟨⟨k + 1, by omega, by go_num, rfl, HNO⟩, by simp [intOf]; omega⟩
        · obtain rfl : TS.length = k := by omega
          have HY := Lib.hid (show TS.any (fun s => nth (s).1 lev == n) = false from List.any_eq_false.2 (fun s hs => by have := hno.out s (by rw [List.take_length]; exact hs); simpa using this))
          have HNY := Lib.hid (HNX.out.trans (by rw [if_neg (by rw [HY.out]; simp), List.append_nil]))
          go_wp2
          refine ⟨⟨n + 1, by omega, by go_num, Lib.hid ?_, hbw⟩, by simp [intOf]; omega⟩
          rw [HNY.out, HLN.out]
          exact hown.out
    · obtain rfl : n = HH + 1 := by omega
      have HBZ := Lib.hid (HS.out.b)
      have HE := Lib.hid (show shortsM M lev = P by rw [HSM.out, ← HP.out, show HH + 1 - 1 = HH by omega])
      go_wp2
      go_ret2
      refine ⟨⟨_, rfl, ?_⟩, HBZ.out⟩
      rw [HE.out]
      have h2 := hown.out
      rw [← HLN.out] at h2 ⊢
      refine ints_of_own h2 (fun x hx => ?_)
      rw [← HE.out, HSM.out] at hx
      have := mem_range.1 (List.mem_filter.1 hx).1
      unfold I64
      omega
end Go.Proofs.Ytomcjopcfdllgaa
