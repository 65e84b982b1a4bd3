/-
  Levers, the law's reference: Leaks and Shorts.
-/
import Derived.Test.YtomcjopcfdllgaaVPullR

namespace Go.Proofs.Ytomcjopcfdllgaa
open Go.RowKit Go.Shelf

/-- All leaks that there can be. -/
def leaksM (M : Mach) : List Int := (rangeL M.lkLo M.lkHi).filter (fun y => (truthsM M).any (fun s => s.2 == y))
/-- All short arms that a lever can have. -/
def shortsM (M : Mach) (lev : Nat) : List Int := (rangeL (lnth M.levers lev).lo (lnth M.levers lev).hi).filter (fun y => (truthsM M).any (fun s => nth s.1 lev == y))
set_option maxRecDepth 100000 in
set_option maxHeartbeats 16000000 in
theorem rLeaks_ok {M : Mach} (hv : validMB M = true) (hne : truthsM M ≠ []) (v : Value) (w : World) (hx : MachAt w.heap.size w v M) :
    Calls Try.prog 45 #[v] w fun e w' => (∃ q, e = .returned (.tuple #[q, .int .i64 0]) ∧ IntsAt w'.heap.size w' q (leaksM M)) ∧ Below w.heap.size w w' := by
  have hV := validM_iff.1 hv
  have HX := Lib.hid (fun W (hb : Below w.heap.size w W) => (hx.below hb).mono hb.size)
  obtain ⟨a, cap, a2, cap2, rfl⟩ := hx.form
  have hlk := hV.leak
  have hlim : 0 ≤ M.lkLo ∧ M.lkLo ≤ M.lkHi ∧ M.lkHi ≤ 1000 := by omega
  obtain ⟨O, hO⟩ : ∃ O, O = Obj.cells #[.slice a M.levers.length cap, .int .i64 M.water, .int .i64 M.lkLo, .int .i64 M.lkHi, .slice a2 M.bals.length cap2, .int .i64 M.wrong] 27 := ⟨_, rfl⟩
  have HO := Lib.hid hO
  have HT := Lib.hid (fun W hb => truths_ok hv _ W (HX.out W hb))
  rw [show noneE (truthsM M).length = 0 by rw [noneE, if_neg (fun h => hne (List.eq_nil_of_length_eq_zero h))]] at HT
  have HW0 := Lib.hid (show MStat w (w.alloc O) w.heap.size O from ⟨(Below.refl _ w).alloc (Nat.le_refl _) _, Nat.le_refl _, heap_new w O⟩)
  obtain ⟨c0, c1, c2, c3, c4, c5⟩ := mst_cells HW0.out.blk hO
  obtain ⟨i0, hi, hz0, hz1, hz2⟩ := info_parts Try_infoN
  have htl := truths_len hV
  have HIN := Lib.hid (fun s (hs : s ∈ truthsM M) => inSet_of hV (truth_set hs))
  obtain ⟨TS, hTS⟩ : ∃ TS, truthsM M = TS := ⟨_, rfl⟩
  rw [hTS] at HT htl HIN
  have HLM := Lib.hid (show leaksM M = (rangeL M.lkLo M.lkHi).filter (fun y => TS.any (fun s => s.2 == y)) by rw [← hTS]; rfl)
  rw [hO] at c0 c1 c2 c3 c4 c5
  clear hx hO hne hTS
  go_enter Try.func45, Try.ntmps45
  go_upto_region 4 with (go_at_call 70; refine (HT.out _ (by go_grown)).mono ?_; rintro e w3 ⟨u, rfl, hsu, hb⟩; rw [← HO.out] at hb; have hst1 := HW0.out.next hb; have HS3 := Lib.hid hst1; have HSU := Lib.hid hsu; clear c0 c1 c2 c3 c4 c5; obtain ⟨c0, c1, c2, c3, c4, c5⟩ := mst_cells hst1.blk HO.out; clear hb hst1 hsu)
  obtain ⟨A, cl, rfl, _⟩ := own_form HSU.out.choose_spec.2.1
  go_wp2_with fail
  go_loopw [6, 7] (fun out nn wr => ∃ n : Int, (M.lkLo ≤ n ∧ n ≤ M.lkHi + 1) ∧ nn = .int .i64 n ∧ Hid (wr.ownsRow w3.heap.size 3 1 out ((rangeL M.lkLo (n - 1)).filter (fun y => TS.any (fun s => (s).2 == y))).length (((rangeL M.lkLo (n - 1)).filter (fun y => TS.any (fun s => (s).2 == y))).map (Value.int .i64))) ∧ Hid (Below w3.heap.size w3 wr)) (fun _ nn _ => (M.lkHi + 1 - intOf nn).toNat)
  case atStart => exact ⟨M.lkLo, by omega, rfl, Lib.hid (by rw [range_none]; exact World.ownsRow_nil _ _ _ _), Lib.hid (Below.refl _ _)⟩
  case round =>
    obtain ⟨n, hn, rfl, hown, hbw⟩ := hrel
    have HS := Lib.hid (HS3.out.next hbw.out)
    clear c0 c1 c2 c3 c4 c5
    obtain ⟨c0, c1, c2, c3, c4, c5⟩ := mst_cells HS.out.blk HO.out
    obtain ⟨oA, oc, rfl, _⟩ := own_form hown.out
    obtain ⟨P, hP⟩ : ∃ P, (rangeL M.lkLo (n - 1)).filter (fun y => TS.any (fun s => (s).2 == y)) = P := ⟨_, rfl⟩
    have HP := Lib.hid hP
    have hpl : P.length ≤ 1001 := by
      rw [← hP]
      refine Nat.le_trans (List.length_filter_le _ _) ?_
      rw [range_len]
      omega
    rw [hP] at hown ⊢
    obtain ⟨ln, hln⟩ : ∃ ln, P.length = ln := ⟨_, rfl⟩
    have HLN := Lib.hid hln
    rw [hln] at hown hpl ⊢
    clear hP hln
    by_cases hlt : n ≤ M.lkHi
    · have HNX := Lib.hid (show (rangeL M.lkLo (n + 1 - 1)).filter (fun y => TS.any (fun s => (s).2 == y)) = P ++ (if TS.any (fun s => (s).2 == n) = true then [n] else []) by rw [show n + 1 - 1 = n by omega, range_snocS (by omega), List.filter_append, HP.out]; congr 1; simp only [List.filter_cons, List.filter_nil])
      go_wp2_with fail
      go_loop [6, 8] (fun o i => ∃ k : Nat, k ≤ TS.length ∧ i = .int .i64 k ∧ o = .slice oA ln oc ∧ Hid (∀ s ∈ TS.take k, (s).2 ≠ n)) (fun _ i => TS.length - (intOf i).toNat)
      case atStart => exact ⟨0, Nat.zero_le _, rfl, rfl, Lib.hid (fun s hs => by simp at hs)⟩
      case round =>
        obtain ⟨k, hk, rfl, rfl, hno⟩ := hrel
        by_cases hkl : k < TS.length
        · obtain ⟨g, c, v, e0, hg0, hg1, hga, hgb, hgv⟩ := HSU.out.get hkl
          injection e0 with e1 e2 e3
          subst e1 e3
          have hkn : ((k : Nat) : Int) < (TS.length : Int) := by omega
          have hmem := snth_mem hkl
          have y0 := (hbw.out.cell (p := ⟨g, k * 2, none⟩) hg1).trans hga
          have y1 := (hbw.out.cell (p := ⟨g, k * 2 + 1, none⟩) hg1).trans hgb
          have HTK := Lib.hid (show TS.take (k + 1) = TS.take k ++ [snth TS k] by rw [List.take_succ_eq_append_getElem hkl, snth_lt hkl])
          have HIN1 := Lib.hid (HIN.out _ hmem)
          have HMEM := Lib.hid hmem
          obtain ⟨X, hX⟩ : ∃ X, snth TS k = X := ⟨_, rfl⟩
          rw [hX] at y1 hgv HTK HIN1 HMEM
          obtain ⟨V, hV0⟩ : ∃ V, X.2 = V := ⟨_, rfl⟩
          rw [hV0] at y1
          have HV0 := Lib.hid hV0
          clear hga hgb hgv hmem hX y0 hV0
          by_cases he : V = n
          · have he' : (V == n) = true := by rw [beq_iff_eq]; exact he
            have HY := Lib.hid (show TS.any (fun s => (s).2 == n) = true from List.any_eq_true.2 ⟨X, HMEM.out, by rw [HV0.out]; exact he'⟩)
            have HNY := Lib.hid (HNX.out.trans (by rw [if_pos HY.out]))
            go_wp2_with (at_builtin; refine wpList_onto (base := w3.heap.size) (v := .slice oA ln oc) (n := ln) (xs := P.map (Value.int .i64)) (A := some ⟨wr.heap.size, 0, none⟩) (m := 1) (c := 1) (news := [.int .i64 n]) rfl (.tmp 40) (.tmp 42) rfl Try.underlying28 hi hz0 hz1 hz2 rfl (by decide) rfl (hown.out.alloc _) rfl (from_oneN _ _ _) (by simp [Value.oneCell']) (by unfold maxLen; omega) (by omega) (by have := hbw.out.size; simp; omega) ?_; intro A9 c9 w9 hown9 hgrow9 hat9; have HOWN9 := Lib.hid hown9; have HB9 := Lib.hid ((hbw.out.alloc hbw.out.size (.cells #[.int .i64 n] 3)).grown hgrow9 (by have := hbw.out.size; simp; omega) (fun j e => (hown.out.lt j e).1)); clear hown9 hgrow9 hat9)
            refine ⟨⟨n + 1, by omega, by go_num, Lib.hid ?_, HB9⟩, by simp [intOf]; omega⟩
            rw [HNY.out, List.length_append, HLN.out, List.map_append]
            exact HOWN9.out
          · have he' : (V == n) = false := by rw [beq_eq_false_iff_ne]; exact he
            have HNO := Lib.hid (show ∀ s ∈ TS.take (k + 1), (s).2 ≠ n from fun s hs => by
              rw [HTK.out] at hs
              rcases List.mem_append.1 hs with hs | hs
              · exact hno.out s hs
              · rw [List.mem_singleton.1 hs, HV0.out]; exact he)
            go_wp2
            exact ⟨⟨k + 1, by omega, by go_num, rfl, HNO⟩, by simp [intOf]; omega⟩
        · obtain rfl : TS.length = k := by omega
          have HY := Lib.hid (show TS.any (fun s => (s).2 == n) = false from List.any_eq_false.2 (fun s hs => by have := hno.out s (by rw [List.take_length]; exact hs); simpa using this))
          have HNY := Lib.hid (HNX.out.trans (by rw [if_neg (by rw [HY.out]; simp), List.append_nil]))
          go_wp2
          refine ⟨⟨n + 1, by omega, by go_num, Lib.hid ?_, hbw⟩, by simp [intOf]; omega⟩
          rw [HNY.out, HLN.out]
          exact hown.out
    · obtain rfl : n = M.lkHi + 1 := by omega
      have HBZ := Lib.hid (HS.out.b)
      have HE := Lib.hid (show leaksM M = P by rw [HLM.out, ← HP.out, show M.lkHi + 1 - 1 = M.lkHi by omega])
      go_wp2
      go_ret2
      refine ⟨⟨_, rfl, ?_⟩, HBZ.out⟩
      rw [HE.out]
      have h2 := hown.out
      rw [← HLN.out] at h2 ⊢
      refine ints_of_own h2 (fun x hx => ?_)
      rw [← HE.out, HLM.out] at hx
      have := mem_range.1 (List.mem_filter.1 hx).1
      unfold I64
      omega
end Go.Proofs.Ytomcjopcfdllgaa
