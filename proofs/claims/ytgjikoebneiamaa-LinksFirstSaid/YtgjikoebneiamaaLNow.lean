/-
  Links, the law's reference: the cable in the end.
-/
import Derived.Test.YtgjikoebneiamaaLVals
import Derived.Test.YtgjikoebneiamaaLStory

namespace Go.Proofs.Ytgjikoebneiamaa
open Go.RowKit Go.Shelf

set_option maxRecDepth 100000 in
set_option maxHeartbeats 4000000 in
theorem Now_any (v u : Value) (C : Chain) (ends : List Int) (w : World) (hV : validB C = true) (hl : ends.length = C.deeds.length) (hx : ChainAt w.heap.size w v C) (hu : IntsAt w.heap.size w u ends) :
    Calls Try.prog 47 #[v, u] w fun e w' => ∃ q, e = .returned q ∧ OwnInts w' q (story C.deeds ends C.deeds.length) ∧ Below w.heap.size w w' := by
  have hx' := hx
  obtain ⟨a, cap, b, off, a2, cap2, b2, off2, rfl, hm, hm2, hcap, hcapm, HA, HC, HA2, HC2, HI, HI2⟩ := hx.opened
  have hu' := hu
  obtain ⟨ua, ucap, ub, uoff, rfl, hum, HUA, HUC, HUI⟩ := hu.opened
  have HS0 := Lib.hid (LStat.first hx')
  have HU := Lib.hid hu'
  have HL := Lib.hid hl
  have HV := Lib.hid hV
  have hnd := (valid_iff.1 hV).nd
  clear hx hx' HA2 HC2 HI HI2 hu hu' hV hl HA HC HUA HUC HUI
  go_enter Try.func47, Try.ntmps47
  go_upto_region 1 with fail
  refine wp_region_facts _ 9 [5, 6, 7, 8, 9, 10, 11, 12, 4] [isV (.agg #[.slice a C.deeds.length cap, .slice a2 C.sights.length cap2, .int .i64 C.wrong]), isV (.slice ua ends.length ucap), ⟨fun v W => ListsAt W 0 v (storiesTo C.deeds ends C.deeds.length), fun _ _ _ h hb => h.below hb⟩, isV (.pointer (some ⟨w.heap.size, 0, none⟩)), isV (.slice a C.deeds.length cap), isV (.int .i64 (C.deeds.length : Int)), ⟨fun v W => ∃ g x, v = .pointer (some ⟨g, C.deeds.length, none⟩) ∧ W.cell? ⟨g, C.deeds.length, none⟩ = some x ∧ OwnInts W x (story C.deeds ends C.deeds.length), fun _ _ _ ⟨g, x, h1, h2, h3⟩ hb => ⟨g, x, h1, (hb.cell (block_lt_of_cell h2)).trans h2, h3.below hb⟩⟩, ⟨fun v W => OwnInts W v (story C.deeds ends C.deeds.length), fun _ _ _ h hb => h.below hb⟩, ⟨fun v W => OwnInts W v (story C.deeds ends C.deeds.length), fun _ _ _ h hb => h.below hb⟩] (by kernel_rfl) (by kernel_rfl) (by kernel_rfl) rfl (by decide) (by decide) (by simp) ?step ?rest
  case step =>
    intro i ac W d hi hd hb hoff hdep
    have hs := HS0.out.next hb
    obtain ⟨c0, c1, c2⟩ := hs.cells
    have hi2 : i = 0 ∨ i = 1 ∨ i = 2 ∨ i = 3 ∨ i = 4 ∨ i = 5 ∨ i = 6 ∨ i = 7 ∨ i = 8 := by omega
    rcases hi2 with rfl | rfl | rfl | rfl | rfl | rfl | rfl | rfl | rfl
    · obtain rfl : 5 = d := by simpa using hd
      have q2 : ac.tmps[2]?.getD undef = .pointer (some ⟨w.heap.size, 0, none⟩) := (eval_tmp _ _).symm.trans <| (hoff 2 (by decide)).trans rfl
      refine fact_value rfl rfl rfl (v := .agg #[.slice a C.deeds.length cap, .slice a2 C.sights.length cap2, .int .i64 C.wrong]) (W' := W) ?_ (Below.refl _ _) rfl
      simp only [execOp]
      go_simp
    · obtain rfl : 6 = d := by simpa using hd
      have q1 : ac.tmps[1]?.getD undef = .slice ua ends.length ucap := (eval_tmp _ _).symm.trans <| (hoff 1 (by decide)).trans rfl
      refine fact_value rfl rfl rfl (v := .slice ua ends.length ucap) (W' := W) ?_ (Below.refl _ _) rfl
      simp only [execOp]
      go_simp
    · obtain rfl : 7 = d := by simpa using hd
      have q5 : ac.tmps[5]?.getD undef = .agg #[.slice a C.deeds.length cap, .slice a2 C.sights.length cap2, .int .i64 C.wrong] := (eval_tmp _ _).symm.trans (hdep 0 5 rfl rfl)
      have q6 : ac.tmps[6]?.getD undef = .slice ua ends.length ucap := (eval_tmp _ _).symm.trans (hdep 1 6 rfl rfl)
      refine fact_call rfl rfl rfl (f := 96) (args := #[.agg #[.slice a C.deeds.length cap, .slice a2 C.sights.length cap2, .int .i64 C.wrong], .slice ua ends.length ucap]) ?_ ?_
      · simp only [execOp]
        go_simp
      · refine (Story_any _ _ C ends W HV.out HL.out hs.st ((HU.out.below hs.b).mono hs.b.size)).mono ?_
        rintro e W' ⟨q, rfl, hls, hbk⟩
        exact ⟨q, rfl, hbk, hls.lower (Nat.zero_le _)⟩
    · obtain rfl : 8 = d := by simpa using hd
      have q2 : ac.tmps[2]?.getD undef = .pointer (some ⟨w.heap.size, 0, none⟩) := (eval_tmp _ _).symm.trans <| (hoff 2 (by decide)).trans rfl
      refine fact_value rfl rfl rfl (v := .pointer (some ⟨w.heap.size, 0, none⟩)) (W' := W) ?_ (Below.refl _ _) rfl
      simp only [execOp]
      go_simp
    · obtain rfl : 9 = d := by simpa using hd
      have q8 : ac.tmps[8]?.getD undef = .pointer (some ⟨w.heap.size, 0, none⟩) := (eval_tmp _ _).symm.trans (hdep 3 8 rfl rfl)
      refine fact_value rfl rfl rfl (v := .slice a C.deeds.length cap) (W' := W) ?_ (Below.refl _ _) rfl
      simp only [execOp]
      go_simp
    · obtain rfl : 10 = d := by simpa using hd
      have q9 : ac.tmps[9]?.getD undef = .slice a C.deeds.length cap := (eval_tmp _ _).symm.trans (hdep 4 9 rfl rfl)
      refine fact_value rfl rfl rfl (v := .int .i64 (C.deeds.length : Int)) (W' := W) ?_ (Below.refl _ _) rfl
      simp only [execOp]
      go_simp
    · obtain rfl : 11 = d := by simpa using hd
      have q7 : ListsAt W 0 (ac.tmps[7]?.getD undef) (storiesTo C.deeds ends C.deeds.length) := eval_tmp ac _ ▸ hdep 2 7 rfl rfl
      have q10 : ac.tmps[10]?.getD undef = .int .i64 (C.deeds.length : Int) := (eval_tmp _ _).symm.trans (hdep 5 10 rfl rfl)
      obtain ⟨g, c, x, hq, hcell, hown⟩ := q7.get (i := C.deeds.length) (by rw [storiesTo_len]; omega)
      rw [storiesTo_nth _ _ (Nat.le_refl _)] at hown
      rw [storiesTo_len] at hq
      have i1 : (0 : Int) ≤ (C.deeds.length : Nat) := by omega
      have i2 : ((C.deeds.length : Nat) : Int) < (C.deeds.length : Int) + 1 := by omega
      refine fact_value rfl rfl rfl (v := .pointer (some ⟨g, C.deeds.length, none⟩)) (W' := W) ?_ (Below.refl _ _) ⟨g, x, rfl, hcell, hown⟩
      simp only [execOp]
      go_simp
    · obtain rfl : 12 = d := by simpa using hd
      have q11 : ∃ g x, (ac.tmps[11]?.getD undef) = .pointer (some ⟨g, C.deeds.length, none⟩) ∧ W.cell? ⟨g, C.deeds.length, none⟩ = some x ∧ OwnInts W x (story C.deeds ends C.deeds.length) := eval_tmp ac _ ▸ hdep 6 11 rfl rfl
      obtain ⟨g, x, hq, hcell, hown⟩ := q11
      refine fact_value rfl rfl rfl (v := x) (W' := W) ?_ (Below.refl _ _) hown
      simp only [execOp]
      go_simp
    · obtain rfl : 4 = d := by simpa using hd
      have q12 : OwnInts W (ac.tmps[12]?.getD undef) (story C.deeds ends C.deeds.length) := eval_tmp ac _ ▸ hdep 7 12 rfl rfl
      refine fact_value rfl rfl rfl (v := _) (W' := W) ?_ (Below.refl _ _) q12
      simp only [execOp]
      go_simp
  case rest =>
    intro vs W hvl hb hval
    obtain ⟨v0, v1, v2, v3, v4, v5, v6, v7, v8, rfl⟩ : ∃ v0 v1 v2 v3 v4 v5 v6 v7 v8, vs = [v0, v1, v2, v3, v4, v5, v6, v7, v8] := by
      match vs, hvl with
      | [v0, v1, v2, v3, v4, v5, v6, v7, v8], _ => exact ⟨v0, v1, v2, v3, v4, v5, v6, v7, v8, rfl⟩
    obtain rfl : v0 = .agg #[.slice a C.deeds.length cap, .slice a2 C.sights.length cap2, .int .i64 C.wrong] := by obtain ⟨u, e, h⟩ := hval 0 (by omega); have e2 : some v0 = some u := e; injection e2 with e2; subst e2; exact h
    obtain rfl : v1 = .slice ua ends.length ucap := by obtain ⟨u, e, h⟩ := hval 1 (by omega); have e2 : some v1 = some u := e; injection e2 with e2; subst e2; exact h
    have k2 : ListsAt W 0 v2 (storiesTo C.deeds ends C.deeds.length) := by obtain ⟨u, e, h⟩ := hval 2 (by omega); have e2 : some v2 = some u := e; injection e2 with e2; subst e2; exact h
    obtain rfl : v3 = .pointer (some ⟨w.heap.size, 0, none⟩) := by obtain ⟨u, e, h⟩ := hval 3 (by omega); have e2 : some v3 = some u := e; injection e2 with e2; subst e2; exact h
    obtain rfl : v4 = .slice a C.deeds.length cap := by obtain ⟨u, e, h⟩ := hval 4 (by omega); have e2 : some v4 = some u := e; injection e2 with e2; subst e2; exact h
    obtain rfl : v5 = .int .i64 (C.deeds.length : Int) := by obtain ⟨u, e, h⟩ := hval 5 (by omega); have e2 : some v5 = some u := e; injection e2 with e2; subst e2; exact h
    have k6 : ∃ g x, v6 = .pointer (some ⟨g, C.deeds.length, none⟩) ∧ W.cell? ⟨g, C.deeds.length, none⟩ = some x ∧ OwnInts W x (story C.deeds ends C.deeds.length) := by obtain ⟨u, e, h⟩ := hval 6 (by omega); have e2 : some v6 = some u := e; injection e2 with e2; subst e2; exact h
    have k7 : OwnInts W v7 (story C.deeds ends C.deeds.length) := by obtain ⟨u, e, h⟩ := hval 7 (by omega); have e2 : some v7 = some u := e; injection e2 with e2; subst e2; exact h
    have k8 : OwnInts W v8 (story C.deeds ends C.deeds.length) := by obtain ⟨u, e, h⟩ := hval 8 (by omega); have e2 : some v8 = some u := e; injection e2 with e2; subst e2; exact h
    clear hval hvl
    have hs := HS0.out.next hb
    have HB := Lib.hid hs.b
    have HK := Lib.hid k8
    clear hs hb k2 k6 k7 k8
    simp only [putL, Act.put, List.drop, List.setIfInBounds_toArray, List.set_cons_zero, List.set_cons_succ]
    go_wp2
    go_ret
    exact ⟨_, rfl, HK.out, HB.out⟩

end Go.Proofs.Ytgjikoebneiamaa
