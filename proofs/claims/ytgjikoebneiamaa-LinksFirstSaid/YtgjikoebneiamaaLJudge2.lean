/-
  Links, the law's reference: how many sights are not right, whether ends are a truth, the bar of the link at a place.
-/
import Derived.Test.YtgjikoebneiamaaLJudge
import Derived.Test.YtgjikoebneiamaaLBars

namespace Go.Proofs.Ytgjikoebneiamaa
open Go.RowKit Go.Shelf

theorem Right_to {v u : Value} {C : Chain} {s : Sight} {ends : List Int} {w : World} {r : Bool} (h : rightB C.deeds ends s = r) (hV : validB C = true) (hl : ends.length = C.deeds.length) (hsr : sightAll C.deeds s = true) (hx : ChainAt w.heap.size w v C) (hu : IntsAt w.heap.size w u ends) :
    Calls Try.prog 97 #[v, sV s, u] w fun e w' => e = .returned (.bool r) ∧ Below w.heap.size w w' := h ▸ Right_any v u C s ends w hV hl hsr hx hu
theorem wrongs_right {C : Chain} {ends : List Int} {k : Nat} (h : rightB C.deeds ends (snth C.sights k) = true) : wrongsTo C ends (k + 1) = wrongsTo C ends k := by simp only [wrongsTo, h, if_true]; omega
theorem wrongs_not {C : Chain} {ends : List Int} {k : Nat} (h : rightB C.deeds ends (snth C.sights k) = false) : wrongsTo C ends (k + 1) = wrongsTo C ends k + 1 := by simp [wrongsTo, h]

set_option maxRecDepth 100000 in
set_option maxHeartbeats 8000000 in
theorem Wrongs_any (v u : Value) (C : Chain) (ends : List Int) (w : World) (hV : validB C = true) (hl : ends.length = C.deeds.length) (hx : ChainAt w.heap.size w v C) (hu : IntsAt w.heap.size w u ends) :
    Calls Try.prog 49 #[v, u] w fun e w' => e = .returned (.int .i64 (wrongs C ends)) ∧ Below w.heap.size w w' := by
  have hx' := hx
  obtain ⟨a, cap, b, off, a2, cap2, b2, off2, rfl, hm, hm2, hcap, hcapm, HA, HC, HA2, HC2, HI, HI2⟩ := hx.opened
  have hu' := hu
  obtain ⟨ua, ucap, ub, uoff, rfl, hum, HUA, HUC, HUI⟩ := hu.opened
  have hV' := valid_iff.1 hV
  have hnd := hV'.nd
  have hns := hV'.ns
  have HS0 := Lib.hid (LStat.first hx')
  have HU := Lib.hid hu'
  have HL := Lib.hid hl
  have HV := Lib.hid hV
  have HV' := Lib.hid hV'
  have HN40 := Lib.hid (show C.deeds.length ≤ 40 by omega)
  obtain ⟨c0, c1, c2⟩ := HS0.out.cells
  clear hx hx' HI HI2 hu hu' hV hV' hl HA HC HUA HUC HUI
  go_enter Try.func49, Try.ntmps49
  go_wp2
  go_loopw [5, 6] (fun n i wr => ∃ k : Nat, k ≤ C.sights.length ∧ i = .int .i64 k ∧ n = .int .i64 (wrongsTo C ends k) ∧ Hid (Below (w.heap.size + 1) (w.alloc (.cells #[.slice a C.deeds.length cap, .slice a2 C.sights.length cap2, .int .i64 C.wrong] 25)) wr)) (fun _ i _ => C.sights.length - (intOf i).toNat)
  case atStart => exact ⟨0, Nat.zero_le _, rfl, rfl, Below.refl _ _⟩
  case round =>
    obtain ⟨k, hk, rfl, rfl, hbl⟩ := hrel
    clear c0 c1 c2
    have hw1 := hbl.out.mono (Nat.le_refl (w.heap.size + 1))
    have HSR := Lib.hid (HS0.out.next (by rw [World.size_alloc]; exact hbl.out))
    obtain ⟨c0, c1, c2⟩ := HSR.out.cells
    have hwt := wrongsTo_le C ends k
    by_cases hlt : k < C.sights.length
    · obtain ⟨rfl, hb2⟩ := HA2.out (by omega)
      have HSI := Lib.hid ((HC2.out k hlt).below HSR.out.b hb2)
      have HSO := Lib.hid (HV'.out.sight k hlt)
      obtain ⟨s, hs⟩ : ∃ s, snth C.sights k = s := ⟨_, rfl⟩
      obtain ⟨r, hr⟩ : ∃ r, rightB C.deeds ends (snth C.sights k) = r := ⟨_, rfl⟩
      have HR := Lib.hid hr
      rw [hs] at hr HSI HSO
      have HRS := Lib.hid hr
      have hb2r : b2 < wr.heap.size := by have := HSR.out.b.size; omega
      have hk0 : (0 : Int) ≤ (k : Nat) := by omega
      have hk1 : ((k : Nat) : Int) < (C.sights.length : Int) := by omega
      clear hr hs hw1
      go_upto_region 5 with fail
      clear c0 c1 c2
      refine wp_region_facts _ 9 [14, 15, 16, 17, 18, 19, 20, 21, 22] [isV (.agg #[.slice a C.deeds.length cap, .slice (some ⟨b2, off2, none⟩) C.sights.length cap2, .int .i64 C.wrong]), isV (.pointer (some ⟨w.heap.size, 1, none⟩)), isV (.slice (some ⟨b2, off2, none⟩) C.sights.length cap2), isV (.int .i64 (k : Int)), isV (.pointer (some ⟨b2, off2 + k * 5, none⟩)), isV (.agg #[.int .i64 s.after, .int .i64 s.at_, .int .i64 s.from_, .int .i64 s.bar, .int .i64 s.smith]), isV (.slice ua ends.length ucap), isV (.bool r), isV (.bool (!r))] (by kernel_rfl) (by kernel_rfl) (by kernel_rfl) rfl (by decide) (by decide) (by simp) ?step ?rest
      case step =>
        intro i ac W d hi hd hb hoff hdep
        have hs := HSR.out.next hb
        obtain ⟨c0, c1, c2⟩ := hs.cells
        obtain ⟨s0, s1, s2, s3, s4⟩ := HSI.out.below hb hb2r
        have hi2 : i = 0 ∨ i = 1 ∨ i = 2 ∨ i = 3 ∨ i = 4 ∨ i = 5 ∨ i = 6 ∨ i = 7 ∨ i = 8 := by omega
        rcases hi2 with rfl | rfl | rfl | rfl | rfl | rfl | rfl | rfl | rfl
        · obtain rfl : 14 = d := by simpa using hd
          have q2 : ac.tmps[2]?.getD undef = .pointer (some ⟨w.heap.size, 0, none⟩) := (eval_tmp _ _).symm.trans <| (hoff 2 (by decide)).trans rfl
          refine fact_value rfl rfl rfl (v := .agg #[.slice a C.deeds.length cap, .slice (some ⟨b2, off2, none⟩) C.sights.length cap2, .int .i64 C.wrong]) (W' := W) ?_ (Below.refl _ _) rfl
          simp only [execOp]
          go_simp
        · obtain rfl : 15 = d := by simpa using hd
          have q2 : ac.tmps[2]?.getD undef = .pointer (some ⟨w.heap.size, 0, none⟩) := (eval_tmp _ _).symm.trans <| (hoff 2 (by decide)).trans rfl
          refine fact_value rfl rfl rfl (v := .pointer (some ⟨w.heap.size, 1, none⟩)) (W' := W) ?_ (Below.refl _ _) rfl
          simp only [execOp]
          go_simp
        · obtain rfl : 16 = d := by simpa using hd
          have q15 : ac.tmps[15]?.getD undef = .pointer (some ⟨w.heap.size, 1, none⟩) := (eval_tmp _ _).symm.trans (hdep 1 15 rfl rfl)
          refine fact_value rfl rfl rfl (v := .slice (some ⟨b2, off2, none⟩) C.sights.length cap2) (W' := W) ?_ (Below.refl _ _) rfl
          simp only [execOp]
          go_simp
        · obtain rfl : 17 = d := by simpa using hd
          have q6 : ac.tmps[6]?.getD undef = .int .i64 (k : Int) := (eval_tmp _ _).symm.trans <| (hoff 6 (by decide)).trans rfl
          refine fact_value rfl rfl rfl (v := .int .i64 (k : Int)) (W' := W) ?_ (Below.refl _ _) rfl
          simp only [execOp]
          go_simp
        · obtain rfl : 18 = d := by simpa using hd
          have q16 : ac.tmps[16]?.getD undef = .slice (some ⟨b2, off2, none⟩) C.sights.length cap2 := (eval_tmp _ _).symm.trans (hdep 2 16 rfl rfl)
          have q17 : ac.tmps[17]?.getD undef = .int .i64 (k : Int) := (eval_tmp _ _).symm.trans (hdep 3 17 rfl rfl)
          refine fact_value rfl rfl rfl (v := .pointer (some ⟨b2, off2 + k * 5, none⟩)) (W' := W) ?_ (Below.refl _ _) rfl
          simp only [execOp]
          go_simp
        · obtain rfl : 19 = d := by simpa using hd
          have q18 : ac.tmps[18]?.getD undef = .pointer (some ⟨b2, off2 + k * 5, none⟩) := (eval_tmp _ _).symm.trans (hdep 4 18 rfl rfl)
          refine fact_value rfl rfl rfl (v := .agg #[.int .i64 s.after, .int .i64 s.at_, .int .i64 s.from_, .int .i64 s.bar, .int .i64 s.smith]) (W' := W) ?_ (Below.refl _ _) rfl
          simp only [execOp]
          go_simp
        · obtain rfl : 20 = d := by simpa using hd
          have q1 : ac.tmps[1]?.getD undef = .slice ua ends.length ucap := (eval_tmp _ _).symm.trans <| (hoff 1 (by decide)).trans rfl
          refine fact_value rfl rfl rfl (v := .slice ua ends.length ucap) (W' := W) ?_ (Below.refl _ _) rfl
          simp only [execOp]
          go_simp
        · obtain rfl : 21 = d := by simpa using hd
          have q14 : ac.tmps[14]?.getD undef = .agg #[.slice a C.deeds.length cap, .slice (some ⟨b2, off2, none⟩) C.sights.length cap2, .int .i64 C.wrong] := (eval_tmp _ _).symm.trans (hdep 0 14 rfl rfl)
          have q19 : ac.tmps[19]?.getD undef = .agg #[.int .i64 s.after, .int .i64 s.at_, .int .i64 s.from_, .int .i64 s.bar, .int .i64 s.smith] := (eval_tmp _ _).symm.trans (hdep 5 19 rfl rfl)
          have q20 : ac.tmps[20]?.getD undef = .slice ua ends.length ucap := (eval_tmp _ _).symm.trans (hdep 6 20 rfl rfl)
          refine fact_call rfl rfl rfl (f := 97) (args := #[.agg #[.slice a C.deeds.length cap, .slice (some ⟨b2, off2, none⟩) C.sights.length cap2, .int .i64 C.wrong], .agg #[.int .i64 s.after, .int .i64 s.at_, .int .i64 s.from_, .int .i64 s.bar, .int .i64 s.smith], .slice ua ends.length ucap]) ?_ ?_
          · simp only [execOp]
            go_simp
          · refine (Right_to HRS.out HV.out HL.out HSO.out hs.st ((HU.out.below hs.b).mono hs.b.size)).mono ?_
            rintro e W' ⟨rfl, hbk⟩
            exact ⟨_, rfl, hbk, rfl⟩
        · obtain rfl : 22 = d := by simpa using hd
          have q21 : ac.tmps[21]?.getD undef = .bool r := (eval_tmp _ _).symm.trans (hdep 7 21 rfl rfl)
          refine fact_value rfl rfl rfl (v := .bool (!r)) (W' := W) ?_ (Below.refl _ _) rfl
          simp only [execOp]
          go_simp
      case rest =>
        intro vs W2 hvl hbx hval
        obtain ⟨x0, x1, x2, x3, x4, x5, x6, x7, x8, rfl⟩ : ∃ x0 x1 x2 x3 x4 x5 x6 x7 x8, vs = [x0, x1, x2, x3, x4, x5, x6, x7, x8] := by
          match vs, hvl with
          | [x0, x1, x2, x3, x4, x5, x6, x7, x8], _ => exact ⟨x0, x1, x2, x3, x4, x5, x6, x7, x8, rfl⟩
        obtain rfl : x0 = .agg #[.slice a C.deeds.length cap, .slice (some ⟨b2, off2, none⟩) C.sights.length cap2, .int .i64 C.wrong] := by obtain ⟨u, e, h⟩ := hval 0 (by omega); have e2 : some x0 = some u := e; injection e2 with e2; subst e2; exact h
        obtain rfl : x1 = .pointer (some ⟨w.heap.size, 1, none⟩) := by obtain ⟨u, e, h⟩ := hval 1 (by omega); have e2 : some x1 = some u := e; injection e2 with e2; subst e2; exact h
        obtain rfl : x2 = .slice (some ⟨b2, off2, none⟩) C.sights.length cap2 := by obtain ⟨u, e, h⟩ := hval 2 (by omega); have e2 : some x2 = some u := e; injection e2 with e2; subst e2; exact h
        obtain rfl : x3 = .int .i64 (k : Int) := by obtain ⟨u, e, h⟩ := hval 3 (by omega); have e2 : some x3 = some u := e; injection e2 with e2; subst e2; exact h
        obtain rfl : x4 = .pointer (some ⟨b2, off2 + k * 5, none⟩) := by obtain ⟨u, e, h⟩ := hval 4 (by omega); have e2 : some x4 = some u := e; injection e2 with e2; subst e2; exact h
        obtain rfl : x5 = .agg #[.int .i64 s.after, .int .i64 s.at_, .int .i64 s.from_, .int .i64 s.bar, .int .i64 s.smith] := by obtain ⟨u, e, h⟩ := hval 5 (by omega); have e2 : some x5 = some u := e; injection e2 with e2; subst e2; exact h
        obtain rfl : x6 = .slice ua ends.length ucap := by obtain ⟨u, e, h⟩ := hval 6 (by omega); have e2 : some x6 = some u := e; injection e2 with e2; subst e2; exact h
        obtain rfl : x7 = .bool r := by obtain ⟨u, e, h⟩ := hval 7 (by omega); have e2 : some x7 = some u := e; injection e2 with e2; subst e2; exact h
        obtain rfl : x8 = .bool (!r) := by obtain ⟨u, e, h⟩ := hval 8 (by omega); have e2 : some x8 = some u := e; injection e2 with e2; subst e2; exact h
        clear hval hvl
        have HBX := Lib.hid (hbl.out.trans (hbx.mono (by have := hbl.out.size; simpa using this)))
        clear hbx
        simp only [putL, Act.put, List.drop, List.setIfInBounds_toArray, List.set_cons_zero, List.set_cons_succ]
        cases r
        · go_wp2
          exact ⟨⟨k + 1, by omega, by go_num, by rw [wrongs_not HR.out], HBX⟩, by simp [intOf]; omega⟩
        · go_wp2
          exact ⟨⟨k + 1, by omega, by go_num, by rw [wrongs_right HR.out], HBX⟩, by simp [intOf]; omega⟩
    · obtain rfl : C.sights.length = k := by omega
      go_wp2
      go_ret
      exact ⟨rfl, HSR.out.b⟩
theorem Wrongs_to {v u : Value} {C : Chain} {ends : List Int} {w : World} {x : Int} (h : wrongs C ends = x) (hV : validB C = true) (hl : ends.length = C.deeds.length) (hx : ChainAt w.heap.size w v C) (hu : IntsAt w.heap.size w u ends) :
    Calls Try.prog 49 #[v, u] w fun e w' => e = .returned (.int .i64 x) ∧ Below w.heap.size w w' := h ▸ Wrongs_any v u C ends w hV hl hx hu
theorem IsChoice_to {v u : Value} {C : Chain} {ends : List Int} {w : World} {r : Bool} (h : endsB C.deeds ends = r) (hn : C.deeds.length ≤ 40) (hx : ChainAt w.heap.size w v C) (hu : IntsAt w.heap.size w u ends) :
    Calls Try.prog 95 #[v, u] w fun e w' => e = .returned (.bool r) ∧ Below w.heap.size w w' := h ▸ IsChoice_any v u C ends w hn hx hu

/-- Whether ends are a truth. -/
def truthB (C : Chain) (ends : List Int) : Bool := endsB C.deeds ends && decide (wrongs C ends ≤ C.wrong)
theorem ends_len {ds : List Deed} {ends : List Int} (h : endsB ds ends = true) : ends.length = ds.length := by
  simp only [endsB, Bool.and_eq_true, decide_eq_true_eq] at h
  exact h.1

set_option maxRecDepth 100000 in
set_option maxHeartbeats 8000000 in
theorem IsTruth_any (v u : Value) (C : Chain) (ends : List Int) (w : World) (hV : validB C = true) (hx : ChainAt w.heap.size w v C) (hu : IntsAt w.heap.size w u ends) :
    Calls Try.prog 45 #[v, u] w fun e w' => e = .returned (.bool (truthB C ends)) ∧ Below w.heap.size w w' := by
  have hx' := hx
  obtain ⟨a, cap, b, off, a2, cap2, b2, off2, rfl, hm, hm2, hcap, hcapm, HA, HC, HA2, HC2, HI, HI2⟩ := hx.opened
  have hu' := hu
  obtain ⟨ua, ucap, ub, uoff, rfl, hum, HUA, HUC, HUI⟩ := hu.opened
  have hV' := valid_iff.1 hV
  have hnd := hV'.nd
  have hns := hV'.ns
  have HS0 := Lib.hid (LStat.first hx')
  have HU := Lib.hid hu'
  have HV := Lib.hid hV
  have HV' := Lib.hid hV'
  have HN40 := Lib.hid (show C.deeds.length ≤ 40 by omega)
  clear hx hx' HI HI2 HA2 HC2 hu hu' hV hV' HA HC HUA HUC HUI
  go_enter Try.func45, Try.ntmps45
  cases he : endsB C.deeds ends
  · have HE := Lib.hid he
    clear he
    go_upto_region 1 with fail
    refine wp_region_facts _ 12 [5, 6, 7, 8, 9, 10, 11, 12, 13, 14, 15, 4] [isV (.agg #[.slice a C.deeds.length cap, .slice a2 C.sights.length cap2, .int .i64 C.wrong]), isV (.slice ua ends.length ucap), isV (.bool false), isV (.bool false), isV (undef), isV (undef), isV (undef), isV (undef), isV (undef), isV (undef), isV (.bool false), isV (.bool false)] (by kernel_rfl) (by kernel_rfl) (by kernel_rfl) rfl (by decide) (by decide) (by simp) ?step ?rest
    case step =>
      intro i ac W d hi hd hb hoff hdep
      have hs := HS0.out.next hb
      obtain ⟨c0, c1, c2⟩ := hs.cells
      have hi2 : i = 0 ∨ i = 1 ∨ i = 2 ∨ i = 3 ∨ i = 4 ∨ i = 5 ∨ i = 6 ∨ i = 7 ∨ i = 8 ∨ i = 9 ∨ i = 10 ∨ i = 11 := by omega
      rcases hi2 with rfl | rfl | rfl | rfl | rfl | rfl | rfl | rfl | rfl | rfl | rfl | rfl
      · obtain rfl : 5 = d := by simpa using hd
        have q2 : ac.tmps[2]?.getD undef = .pointer (some ⟨w.heap.size, 0, none⟩) := (eval_tmp _ _).symm.trans <| (hoff 2 (by decide)).trans rfl
        refine fact_value rfl rfl rfl (v := .agg #[.slice a C.deeds.length cap, .slice a2 C.sights.length cap2, .int .i64 C.wrong]) (W' := W) ?_ (Below.refl _ _) rfl
        simp only [execOp]
        go_simp
      · obtain rfl : 6 = d := by simpa using hd
        have q1 : ac.tmps[1]?.getD undef = .slice ua ends.length ucap := (eval_tmp _ _).symm.trans <| (hoff 1 (by decide)).trans rfl
        refine fact_value rfl rfl rfl (v := .slice ua ends.length ucap) (W' := W) ?_ (Below.refl _ _) rfl
        simp only [execOp]
        go_simp
      · obtain rfl : 7 = d := by simpa using hd
        have q5 : ac.tmps[5]?.getD undef = .agg #[.slice a C.deeds.length cap, .slice a2 C.sights.length cap2, .int .i64 C.wrong] := (eval_tmp _ _).symm.trans (hdep 0 5 rfl rfl)
        have q6 : ac.tmps[6]?.getD undef = .slice ua ends.length ucap := (eval_tmp _ _).symm.trans (hdep 1 6 rfl rfl)
        refine fact_call rfl rfl rfl (f := 95) (args := #[.agg #[.slice a C.deeds.length cap, .slice a2 C.sights.length cap2, .int .i64 C.wrong], .slice ua ends.length ucap]) ?_ ?_
        · simp only [execOp]
          go_simp
        · refine (IsChoice_to HE.out HN40.out hs.st ((HU.out.below hs.b).mono hs.b.size)).mono ?_
          rintro e W' ⟨rfl, hbk⟩
          exact ⟨_, rfl, hbk, rfl⟩
      · obtain rfl : 8 = d := by simpa using hd
        have q7 : ac.tmps[7]?.getD undef = .bool false := (eval_tmp _ _).symm.trans (hdep 2 7 rfl rfl)
        refine fact_value rfl rfl rfl (v := .bool false) (W' := W) ?_ (Below.refl _ _) rfl
        simp only [execOp]
        go_simp
      · obtain rfl : 9 = d := by simpa using hd
        have q8 : ac.tmps[8]?.getD undef = .bool false := (eval_tmp _ _).symm.trans (hdep 3 8 rfl rfl)
        exact fact_off rfl (wants_off (t := 8) rfl rfl q8) rfl rfl
      · obtain rfl : 10 = d := by simpa using hd
        have q8 : ac.tmps[8]?.getD undef = .bool false := (eval_tmp _ _).symm.trans (hdep 3 8 rfl rfl)
        exact fact_off rfl (wants_off (t := 8) rfl rfl q8) rfl rfl
      · obtain rfl : 11 = d := by simpa using hd
        have q8 : ac.tmps[8]?.getD undef = .bool false := (eval_tmp _ _).symm.trans (hdep 3 8 rfl rfl)
        exact fact_off rfl (wants_off (t := 8) rfl rfl q8) rfl rfl
      · obtain rfl : 12 = d := by simpa using hd
        have q8 : ac.tmps[8]?.getD undef = .bool false := (eval_tmp _ _).symm.trans (hdep 3 8 rfl rfl)
        exact fact_off rfl (wants_off (t := 8) rfl rfl q8) rfl rfl
      · obtain rfl : 13 = d := by simpa using hd
        have q8 : ac.tmps[8]?.getD undef = .bool false := (eval_tmp _ _).symm.trans (hdep 3 8 rfl rfl)
        exact fact_off rfl (wants_off (t := 8) rfl rfl q8) rfl rfl
      · obtain rfl : 14 = d := by simpa using hd
        have q8 : ac.tmps[8]?.getD undef = .bool false := (eval_tmp _ _).symm.trans (hdep 3 8 rfl rfl)
        exact fact_off rfl (wants_off (t := 8) rfl rfl q8) rfl rfl
      · obtain rfl : 15 = d := by simpa using hd
        have q8 : ac.tmps[8]?.getD undef = .bool false := (eval_tmp _ _).symm.trans (hdep 3 8 rfl rfl)
        have q14 : ac.tmps[14]?.getD undef = undef := (eval_tmp _ _).symm.trans (hdep 9 14 rfl rfl)
        refine fact_value rfl rfl rfl (v := .bool false) (W' := W) ?_ (Below.refl _ _) rfl
        simp only [execOp]
        go_simp
      · obtain rfl : 4 = d := by simpa using hd
        have q15 : ac.tmps[15]?.getD undef = .bool false := (eval_tmp _ _).symm.trans (hdep 10 15 rfl rfl)
        refine fact_value rfl rfl rfl (v := .bool false) (W' := W) ?_ (Below.refl _ _) rfl
        simp only [execOp]
        go_simp
    case rest =>
      intro vs W2 hvl hbx hval
      obtain ⟨x0, x1, x2, x3, x4, x5, x6, x7, x8, x9, x10, x11, rfl⟩ : ∃ x0 x1 x2 x3 x4 x5 x6 x7 x8 x9 x10 x11, vs = [x0, x1, x2, x3, x4, x5, x6, x7, x8, x9, x10, x11] := by
        match vs, hvl with
        | [x0, x1, x2, x3, x4, x5, x6, x7, x8, x9, x10, x11], _ => exact ⟨x0, x1, x2, x3, x4, x5, x6, x7, x8, x9, x10, x11, rfl⟩
      obtain rfl : x0 = .agg #[.slice a C.deeds.length cap, .slice a2 C.sights.length cap2, .int .i64 C.wrong] := by obtain ⟨u, e, h⟩ := hval 0 (by omega); have e2 : some x0 = some u := e; injection e2 with e2; subst e2; exact h
      obtain rfl : x1 = .slice ua ends.length ucap := by obtain ⟨u, e, h⟩ := hval 1 (by omega); have e2 : some x1 = some u := e; injection e2 with e2; subst e2; exact h
      obtain rfl : x2 = .bool false := by obtain ⟨u, e, h⟩ := hval 2 (by omega); have e2 : some x2 = some u := e; injection e2 with e2; subst e2; exact h
      obtain rfl : x3 = .bool false := by obtain ⟨u, e, h⟩ := hval 3 (by omega); have e2 : some x3 = some u := e; injection e2 with e2; subst e2; exact h
      obtain rfl : x4 = undef := by obtain ⟨u, e, h⟩ := hval 4 (by omega); have e2 : some x4 = some u := e; injection e2 with e2; subst e2; exact h
      obtain rfl : x5 = undef := by obtain ⟨u, e, h⟩ := hval 5 (by omega); have e2 : some x5 = some u := e; injection e2 with e2; subst e2; exact h
      obtain rfl : x6 = undef := by obtain ⟨u, e, h⟩ := hval 6 (by omega); have e2 : some x6 = some u := e; injection e2 with e2; subst e2; exact h
      obtain rfl : x7 = undef := by obtain ⟨u, e, h⟩ := hval 7 (by omega); have e2 : some x7 = some u := e; injection e2 with e2; subst e2; exact h
      obtain rfl : x8 = undef := by obtain ⟨u, e, h⟩ := hval 8 (by omega); have e2 : some x8 = some u := e; injection e2 with e2; subst e2; exact h
      obtain rfl : x9 = undef := by obtain ⟨u, e, h⟩ := hval 9 (by omega); have e2 : some x9 = some u := e; injection e2 with e2; subst e2; exact h
      obtain rfl : x10 = .bool false := by obtain ⟨u, e, h⟩ := hval 10 (by omega); have e2 : some x10 = some u := e; injection e2 with e2; subst e2; exact h
      obtain rfl : x11 = .bool false := by obtain ⟨u, e, h⟩ := hval 11 (by omega); have e2 : some x11 = some u := e; injection e2 with e2; subst e2; exact h
      clear hval hvl
      have HBX := Lib.hid ((HS0.out.next hbx).b)
      clear hbx
      simp only [putL, Act.put, List.drop, List.setIfInBounds_toArray, List.set_cons_zero, List.set_cons_succ]
      go_wp2
      go_ret
      exact ⟨ret_bool (by simp [truthB, HE.out]), HBX.out⟩
  · have HE := Lib.hid he
    have HL := Lib.hid (ends_len he)
    obtain ⟨t, ht⟩ : ∃ t, wrongs C ends = t := ⟨_, rfl⟩
    have HT := Lib.hid ht
    clear he ht
    obtain ⟨r, hr⟩ : ∃ r, decide (t ≤ C.wrong) = r := ⟨_, rfl⟩
    have HR := Lib.hid hr
    go_upto_region 1 with fail
    refine wp_region_facts _ 12 [5, 6, 7, 8, 9, 10, 11, 12, 13, 14, 15, 4] [isV (.agg #[.slice a C.deeds.length cap, .slice a2 C.sights.length cap2, .int .i64 C.wrong]), isV (.slice ua ends.length ucap), isV (.bool true), isV (.bool true), isV (.agg #[.slice a C.deeds.length cap, .slice a2 C.sights.length cap2, .int .i64 C.wrong]), isV (.slice ua ends.length ucap), isV (.int .i64 t), isV (.pointer (some ⟨w.heap.size, 2, none⟩)), isV (.int .i64 C.wrong), isV (.bool r), isV (.bool r), isV (.bool r)] (by kernel_rfl) (by kernel_rfl) (by kernel_rfl) rfl (by decide) (by decide) (by simp) ?step ?rest
    case step =>
      intro i ac W d hi hd hb hoff hdep
      have hs := HS0.out.next hb
      obtain ⟨c0, c1, c2⟩ := hs.cells
      have hi2 : i = 0 ∨ i = 1 ∨ i = 2 ∨ i = 3 ∨ i = 4 ∨ i = 5 ∨ i = 6 ∨ i = 7 ∨ i = 8 ∨ i = 9 ∨ i = 10 ∨ i = 11 := by omega
      rcases hi2 with rfl | rfl | rfl | rfl | rfl | rfl | rfl | rfl | rfl | rfl | rfl | rfl
      · obtain rfl : 5 = d := by simpa using hd
        have q2 : ac.tmps[2]?.getD undef = .pointer (some ⟨w.heap.size, 0, none⟩) := (eval_tmp _ _).symm.trans <| (hoff 2 (by decide)).trans rfl
        refine fact_value rfl rfl rfl (v := .agg #[.slice a C.deeds.length cap, .slice a2 C.sights.length cap2, .int .i64 C.wrong]) (W' := W) ?_ (Below.refl _ _) rfl
        simp only [execOp]
        go_simp
      · obtain rfl : 6 = d := by simpa using hd
        have q1 : ac.tmps[1]?.getD undef = .slice ua ends.length ucap := (eval_tmp _ _).symm.trans <| (hoff 1 (by decide)).trans rfl
        refine fact_value rfl rfl rfl (v := .slice ua ends.length ucap) (W' := W) ?_ (Below.refl _ _) rfl
        simp only [execOp]
        go_simp
      · obtain rfl : 7 = d := by simpa using hd
        have q5 : ac.tmps[5]?.getD undef = .agg #[.slice a C.deeds.length cap, .slice a2 C.sights.length cap2, .int .i64 C.wrong] := (eval_tmp _ _).symm.trans (hdep 0 5 rfl rfl)
        have q6 : ac.tmps[6]?.getD undef = .slice ua ends.length ucap := (eval_tmp _ _).symm.trans (hdep 1 6 rfl rfl)
        refine fact_call rfl rfl rfl (f := 95) (args := #[.agg #[.slice a C.deeds.length cap, .slice a2 C.sights.length cap2, .int .i64 C.wrong], .slice ua ends.length ucap]) ?_ ?_
        · simp only [execOp]
          go_simp
        · refine (IsChoice_to HE.out HN40.out hs.st ((HU.out.below hs.b).mono hs.b.size)).mono ?_
          rintro e W' ⟨rfl, hbk⟩
          exact ⟨_, rfl, hbk, rfl⟩
      · obtain rfl : 8 = d := by simpa using hd
        have q7 : ac.tmps[7]?.getD undef = .bool true := (eval_tmp _ _).symm.trans (hdep 2 7 rfl rfl)
        refine fact_value rfl rfl rfl (v := .bool true) (W' := W) ?_ (Below.refl _ _) rfl
        simp only [execOp]
        go_simp
      · obtain rfl : 9 = d := by simpa using hd
        have q2 : ac.tmps[2]?.getD undef = .pointer (some ⟨w.heap.size, 0, none⟩) := (eval_tmp _ _).symm.trans <| (hoff 2 (by decide)).trans rfl
        have q8 : ac.tmps[8]?.getD undef = .bool true := (eval_tmp _ _).symm.trans (hdep 3 8 rfl rfl)
        refine fact_value_on rfl (wants_on (t := 8) rfl rfl q8) rfl (v := .agg #[.slice a C.deeds.length cap, .slice a2 C.sights.length cap2, .int .i64 C.wrong]) (W' := W) ?_ (Below.refl _ _) rfl
        simp only [execOp]
        go_simp
      · obtain rfl : 10 = d := by simpa using hd
        have q1 : ac.tmps[1]?.getD undef = .slice ua ends.length ucap := (eval_tmp _ _).symm.trans <| (hoff 1 (by decide)).trans rfl
        have q8 : ac.tmps[8]?.getD undef = .bool true := (eval_tmp _ _).symm.trans (hdep 3 8 rfl rfl)
        refine fact_value_on rfl (wants_on (t := 8) rfl rfl q8) rfl (v := .slice ua ends.length ucap) (W' := W) ?_ (Below.refl _ _) rfl
        simp only [execOp]
        go_simp
      · obtain rfl : 11 = d := by simpa using hd
        have q9 : ac.tmps[9]?.getD undef = .agg #[.slice a C.deeds.length cap, .slice a2 C.sights.length cap2, .int .i64 C.wrong] := (eval_tmp _ _).symm.trans (hdep 4 9 rfl rfl)
        have q10 : ac.tmps[10]?.getD undef = .slice ua ends.length ucap := (eval_tmp _ _).symm.trans (hdep 5 10 rfl rfl)
        have q8 : ac.tmps[8]?.getD undef = .bool true := (eval_tmp _ _).symm.trans (hdep 3 8 rfl rfl)
        refine fact_call_on rfl (wants_on (t := 8) rfl rfl q8) rfl (f := 49) (args := #[.agg #[.slice a C.deeds.length cap, .slice a2 C.sights.length cap2, .int .i64 C.wrong], .slice ua ends.length ucap]) ?_ ?_
        · simp only [execOp]
          go_simp
        · refine (Wrongs_to HT.out HV.out HL.out hs.st ((HU.out.below hs.b).mono hs.b.size)).mono ?_
          rintro e W' ⟨rfl, hbk⟩
          exact ⟨_, rfl, hbk, rfl⟩
      · obtain rfl : 12 = d := by simpa using hd
        have q2 : ac.tmps[2]?.getD undef = .pointer (some ⟨w.heap.size, 0, none⟩) := (eval_tmp _ _).symm.trans <| (hoff 2 (by decide)).trans rfl
        have q8 : ac.tmps[8]?.getD undef = .bool true := (eval_tmp _ _).symm.trans (hdep 3 8 rfl rfl)
        refine fact_value_on rfl (wants_on (t := 8) rfl rfl q8) rfl (v := .pointer (some ⟨w.heap.size, 2, none⟩)) (W' := W) ?_ (Below.refl _ _) rfl
        simp only [execOp]
        go_simp
      · obtain rfl : 13 = d := by simpa using hd
        have q12 : ac.tmps[12]?.getD undef = .pointer (some ⟨w.heap.size, 2, none⟩) := (eval_tmp _ _).symm.trans (hdep 7 12 rfl rfl)
        have q8 : ac.tmps[8]?.getD undef = .bool true := (eval_tmp _ _).symm.trans (hdep 3 8 rfl rfl)
        refine fact_value_on rfl (wants_on (t := 8) rfl rfl q8) rfl (v := .int .i64 C.wrong) (W' := W) ?_ (Below.refl _ _) rfl
        simp only [execOp]
        go_simp
      · obtain rfl : 14 = d := by simpa using hd
        have q11 : ac.tmps[11]?.getD undef = .int .i64 t := (eval_tmp _ _).symm.trans (hdep 6 11 rfl rfl)
        have q13 : ac.tmps[13]?.getD undef = .int .i64 C.wrong := (eval_tmp _ _).symm.trans (hdep 8 13 rfl rfl)
        have q8 : ac.tmps[8]?.getD undef = .bool true := (eval_tmp _ _).symm.trans (hdep 3 8 rfl rfl)
        refine fact_value_on rfl (wants_on (t := 8) rfl rfl q8) rfl (v := .bool r) (W' := W) ?_ (Below.refl _ _) rfl
        simp only [execOp]
        go_simp
      · obtain rfl : 15 = d := by simpa using hd
        have q8 : ac.tmps[8]?.getD undef = .bool true := (eval_tmp _ _).symm.trans (hdep 3 8 rfl rfl)
        have q14 : ac.tmps[14]?.getD undef = .bool r := (eval_tmp _ _).symm.trans (hdep 9 14 rfl rfl)
        refine fact_value rfl rfl rfl (v := .bool r) (W' := W) ?_ (Below.refl _ _) rfl
        simp only [execOp]
        go_simp
      · obtain rfl : 4 = d := by simpa using hd
        have q15 : ac.tmps[15]?.getD undef = .bool r := (eval_tmp _ _).symm.trans (hdep 10 15 rfl rfl)
        refine fact_value rfl rfl rfl (v := .bool r) (W' := W) ?_ (Below.refl _ _) rfl
        simp only [execOp]
        go_simp
    case rest =>
      intro vs W2 hvl hbx hval
      obtain ⟨x0, x1, x2, x3, x4, x5, x6, x7, x8, x9, x10, x11, rfl⟩ : ∃ x0 x1 x2 x3 x4 x5 x6 x7 x8 x9 x10 x11, vs = [x0, x1, x2, x3, x4, x5, x6, x7, x8, x9, x10, x11] := by
        match vs, hvl with
        | [x0, x1, x2, x3, x4, x5, x6, x7, x8, x9, x10, x11], _ => exact ⟨x0, x1, x2, x3, x4, x5, x6, x7, x8, x9, x10, x11, rfl⟩
      obtain rfl : x0 = .agg #[.slice a C.deeds.length cap, .slice a2 C.sights.length cap2, .int .i64 C.wrong] := by obtain ⟨u, e, h⟩ := hval 0 (by omega); have e2 : some x0 = some u := e; injection e2 with e2; subst e2; exact h
      obtain rfl : x1 = .slice ua ends.length ucap := by obtain ⟨u, e, h⟩ := hval 1 (by omega); have e2 : some x1 = some u := e; injection e2 with e2; subst e2; exact h
      obtain rfl : x2 = .bool true := by obtain ⟨u, e, h⟩ := hval 2 (by omega); have e2 : some x2 = some u := e; injection e2 with e2; subst e2; exact h
      obtain rfl : x3 = .bool true := by obtain ⟨u, e, h⟩ := hval 3 (by omega); have e2 : some x3 = some u := e; injection e2 with e2; subst e2; exact h
      obtain rfl : x4 = .agg #[.slice a C.deeds.length cap, .slice a2 C.sights.length cap2, .int .i64 C.wrong] := by obtain ⟨u, e, h⟩ := hval 4 (by omega); have e2 : some x4 = some u := e; injection e2 with e2; subst e2; exact h
      obtain rfl : x5 = .slice ua ends.length ucap := by obtain ⟨u, e, h⟩ := hval 5 (by omega); have e2 : some x5 = some u := e; injection e2 with e2; subst e2; exact h
      obtain rfl : x6 = .int .i64 t := by obtain ⟨u, e, h⟩ := hval 6 (by omega); have e2 : some x6 = some u := e; injection e2 with e2; subst e2; exact h
      obtain rfl : x7 = .pointer (some ⟨w.heap.size, 2, none⟩) := by obtain ⟨u, e, h⟩ := hval 7 (by omega); have e2 : some x7 = some u := e; injection e2 with e2; subst e2; exact h
      obtain rfl : x8 = .int .i64 C.wrong := by obtain ⟨u, e, h⟩ := hval 8 (by omega); have e2 : some x8 = some u := e; injection e2 with e2; subst e2; exact h
      obtain rfl : x9 = .bool r := by obtain ⟨u, e, h⟩ := hval 9 (by omega); have e2 : some x9 = some u := e; injection e2 with e2; subst e2; exact h
      obtain rfl : x10 = .bool r := by obtain ⟨u, e, h⟩ := hval 10 (by omega); have e2 : some x10 = some u := e; injection e2 with e2; subst e2; exact h
      obtain rfl : x11 = .bool r := by obtain ⟨u, e, h⟩ := hval 11 (by omega); have e2 : some x11 = some u := e; injection e2 with e2; subst e2; exact h
      clear hval hvl
      have HBX := Lib.hid ((HS0.out.next hbx).b)
      clear hbx
      simp only [putL, Act.put, List.drop, List.setIfInBounds_toArray, List.set_cons_zero, List.set_cons_succ]
      go_wp2
      go_ret
      exact ⟨ret_bool (by simp [truthB, HE.out, HT.out, ← HR.out]), HBX.out⟩
theorem IsTruth_to {v u : Value} {C : Chain} {ends : List Int} {w : World} {r : Bool} (h : truthB C ends = r) (hV : validB C = true) (hx : ChainAt w.heap.size w v C) (hu : IntsAt w.heap.size w u ends) :
    Calls Try.prog 45 #[v, u] w fun e w' => e = .returned (.bool r) ∧ Below w.heap.size w w' := h ▸ IsTruth_any v u C ends w hV hx hu

set_option maxRecDepth 100000 in
set_option maxHeartbeats 8000000 in
theorem BarAt_any (v u : Value) (C : Chain) (ends : List Int) (p : Nat) (w : World) (hV : validB C = true) (hl : ends.length = C.deeds.length) (hat : (p : Int) < lenTo C.deeds C.deeds.length) (hx : ChainAt w.heap.size w v C) (hu : IntsAt w.heap.size w u ends) :
    Calls Try.prog 55 #[v, u, .int .i64 p] w fun e w' => e = .returned (.int .i64 (barOf C p ends)) ∧ Below w.heap.size w w' := by
  have hx' := hx
  obtain ⟨a, cap, b, off, a2, cap2, b2, off2, rfl, hm, hm2, hcap, hcapm, HA, HC, HA2, HC2, HI, HI2⟩ := hx.opened
  have hu' := hu
  obtain ⟨ua, ucap, ub, uoff, rfl, hum, HUA, HUC, HUI⟩ := hu.opened
  have hV' := valid_iff.1 hV
  have hnd := hV'.nd
  have hns := hV'.ns
  have HS0 := Lib.hid (LStat.first hx')
  have HU := Lib.hid hu'
  have HL := Lib.hid hl
  have HV := Lib.hid hV
  have HV' := Lib.hid hV'
  have HN40 := Lib.hid (show C.deeds.length ≤ 40 by omega)
  have hlen := (story_ok (ends := ends) hV'.deed C.deeds.length (Nat.le_refl _)).1
  have hpl : p < (story C.deeds ends C.deeds.length).length := by omega
  obtain ⟨q, hq, hqw⟩ := story_link hV' ends (Nat.le_refl _) hpl
  obtain ⟨j, hj, hjn, hdj⟩ := weld_deed hV' hqw
  obtain ⟨d, hd⟩ : ∃ d, dnth (weldL C.deeds) q = d := ⟨_, rfl⟩
  have HB := Lib.hid (show barOf C p ends = d.bar by simp only [barOf, linkAt, hq, markD, Int.toNat_natCast, hd])
  rw [hd] at hdj
  obtain ⟨rfl, hbw⟩ := HA.out (by omega)
  have HD0 := Lib.hid (show Five w b (off + j * 5) d.what d.at_ d.from_ d.bar d.smith from by have := HC.out j hjn; rwa [hdj] at this)
  have HQ := Lib.hid hq
  have HJ := Lib.hid hj
  have HPL := Lib.hid hpl
  have HQW := Lib.hid hqw
  have hjn0 : (0 : Int) ≤ (j : Nat) := by omega
  have hjn1 : ((j : Nat) : Int) < (C.deeds.length : Int) := by omega
  clear hx hx' HA2 HC2 HI HI2 hu hu' hV hV' hl HA HC HUA HUC HUI hq hj hdj hd hlen hpl hqw
  go_enter Try.func55, Try.ntmps55
  go_upto_region 1 with fail
  refine wp_region_facts _ 16 [7, 8, 9, 10, 11, 12, 13, 14, 15, 16, 17, 18, 19, 20, 21, 6] [isV (.pointer (some ⟨w.heap.size, 0, none⟩)), isV (.slice (some ⟨b, off, none⟩) C.deeds.length cap), isV (.agg #[.slice (some ⟨b, off, none⟩) C.deeds.length cap, .slice a2 C.sights.length cap2, .int .i64 C.wrong]), ⟨fun v W => OwnInts W v (weldIx C.deeds C.deeds.length), fun _ _ _ h hb => h.below hb⟩, isV (.agg #[.slice (some ⟨b, off, none⟩) C.deeds.length cap, .slice a2 C.sights.length cap2, .int .i64 C.wrong]), isV (.slice ua ends.length ucap), ⟨fun v W => OwnInts W v (story C.deeds ends C.deeds.length), fun _ _ _ h hb => h.below hb⟩, isV (.int .i64 (p : Int)), ⟨fun v W => ∃ g, v = .pointer (some ⟨g, p, none⟩) ∧ W.cell? ⟨g, p, none⟩ = some (.int .i64 (q : Int)), fun _ _ _ ⟨g, h1, h2⟩ hb => ⟨g, h1, (hb.cell (block_lt_of_cell h2)).trans h2⟩⟩, isV (.int .i64 (q : Int)), ⟨fun v W => ∃ g, v = .pointer (some ⟨g, q, none⟩) ∧ W.cell? ⟨g, q, none⟩ = some (.int .i64 (j : Int)), fun _ _ _ ⟨g, h1, h2⟩ hb => ⟨g, h1, (hb.cell (block_lt_of_cell h2)).trans h2⟩⟩, isV (.int .i64 (j : Int)), isV (.pointer (some ⟨b, off + j * 5, none⟩)), isV (.pointer (some ⟨b, off + j * 5 + 3, none⟩)), isV (.int .i64 d.bar), isV (.int .i64 d.bar)] (by kernel_rfl) (by kernel_rfl) (by kernel_rfl) rfl (by decide) (by decide) (by simp) ?step ?rest
  case step =>
    intro i ac W d hi hd hb hoff hdep
    have hs := HS0.out.next hb
    obtain ⟨c0, c1, c2⟩ := hs.cells
    obtain ⟨d0, d1, d2, d3, d4⟩ := HD0.out.below hs.b hbw
    have hi2 : i = 0 ∨ i = 1 ∨ i = 2 ∨ i = 3 ∨ i = 4 ∨ i = 5 ∨ i = 6 ∨ i = 7 ∨ i = 8 ∨ i = 9 ∨ i = 10 ∨ i = 11 ∨ i = 12 ∨ i = 13 ∨ i = 14 ∨ i = 15 := by omega
    rcases hi2 with rfl | rfl | rfl | rfl | rfl | rfl | rfl | rfl | rfl | rfl | rfl | rfl | rfl | rfl | rfl | rfl
    · obtain rfl : 7 = d := by simpa using hd
      have q3 : ac.tmps[3]?.getD undef = .pointer (some ⟨w.heap.size, 0, none⟩) := (eval_tmp _ _).symm.trans <| (hoff 3 (by decide)).trans rfl
      refine fact_value rfl rfl rfl (v := .pointer (some ⟨w.heap.size, 0, none⟩)) (W' := W) ?_ (Below.refl _ _) rfl
      simp only [execOp]
      go_simp
    · obtain rfl : 8 = d := by simpa using hd
      have q7 : ac.tmps[7]?.getD undef = .pointer (some ⟨w.heap.size, 0, none⟩) := (eval_tmp _ _).symm.trans (hdep 0 7 rfl rfl)
      refine fact_value rfl rfl rfl (v := .slice (some ⟨b, off, none⟩) C.deeds.length cap) (W' := W) ?_ (Below.refl _ _) rfl
      simp only [execOp]
      go_simp
    · obtain rfl : 9 = d := by simpa using hd
      have q3 : ac.tmps[3]?.getD undef = .pointer (some ⟨w.heap.size, 0, none⟩) := (eval_tmp _ _).symm.trans <| (hoff 3 (by decide)).trans rfl
      refine fact_value rfl rfl rfl (v := .agg #[.slice (some ⟨b, off, none⟩) C.deeds.length cap, .slice a2 C.sights.length cap2, .int .i64 C.wrong]) (W' := W) ?_ (Below.refl _ _) rfl
      simp only [execOp]
      go_simp
    · obtain rfl : 10 = d := by simpa using hd
      have q9 : ac.tmps[9]?.getD undef = .agg #[.slice (some ⟨b, off, none⟩) C.deeds.length cap, .slice a2 C.sights.length cap2, .int .i64 C.wrong] := (eval_tmp _ _).symm.trans (hdep 2 9 rfl rfl)
      refine fact_call rfl rfl rfl (f := 54) (args := #[.agg #[.slice (some ⟨b, off, none⟩) C.deeds.length cap, .slice a2 C.sights.length cap2, .int .i64 C.wrong]]) ?_ ?_
      · simp only [execOp]
        go_simp
      · refine (Welds_o _ C W HN40.out hs.st).mono ?_
        rintro e W' ⟨q, rfl, hls, hbk⟩
        exact ⟨q, rfl, hbk, hls⟩
    · obtain rfl : 11 = d := by simpa using hd
      have q3 : ac.tmps[3]?.getD undef = .pointer (some ⟨w.heap.size, 0, none⟩) := (eval_tmp _ _).symm.trans <| (hoff 3 (by decide)).trans rfl
      refine fact_value rfl rfl rfl (v := .agg #[.slice (some ⟨b, off, none⟩) C.deeds.length cap, .slice a2 C.sights.length cap2, .int .i64 C.wrong]) (W' := W) ?_ (Below.refl _ _) rfl
      simp only [execOp]
      go_simp
    · obtain rfl : 12 = d := by simpa using hd
      have q1 : ac.tmps[1]?.getD undef = .slice ua ends.length ucap := (eval_tmp _ _).symm.trans <| (hoff 1 (by decide)).trans rfl
      refine fact_value rfl rfl rfl (v := .slice ua ends.length ucap) (W' := W) ?_ (Below.refl _ _) rfl
      simp only [execOp]
      go_simp
    · obtain rfl : 13 = d := by simpa using hd
      have q11 : ac.tmps[11]?.getD undef = .agg #[.slice (some ⟨b, off, none⟩) C.deeds.length cap, .slice a2 C.sights.length cap2, .int .i64 C.wrong] := (eval_tmp _ _).symm.trans (hdep 4 11 rfl rfl)
      have q12 : ac.tmps[12]?.getD undef = .slice ua ends.length ucap := (eval_tmp _ _).symm.trans (hdep 5 12 rfl rfl)
      refine fact_call rfl rfl rfl (f := 47) (args := #[.agg #[.slice (some ⟨b, off, none⟩) C.deeds.length cap, .slice a2 C.sights.length cap2, .int .i64 C.wrong], .slice ua ends.length ucap]) ?_ ?_
      · simp only [execOp]
        go_simp
      · refine (Now_any _ _ C ends W HV.out HL.out hs.st ((HU.out.below hs.b).mono hs.b.size)).mono ?_
        rintro e W' ⟨q, rfl, hls, hbk⟩
        exact ⟨q, rfl, hbk, hls⟩
    · obtain rfl : 14 = d := by simpa using hd
      have q2 : ac.tmps[2]?.getD undef = .int .i64 (p : Int) := (eval_tmp _ _).symm.trans <| (hoff 2 (by decide)).trans rfl
      refine fact_value rfl rfl rfl (v := .int .i64 (p : Int)) (W' := W) ?_ (Below.refl _ _) rfl
      simp only [execOp]
      go_simp
    · obtain rfl : 15 = d := by simpa using hd
      have q13 : OwnInts W (ac.tmps[13]?.getD undef) (story C.deeds ends C.deeds.length) := eval_tmp ac _ ▸ hdep 6 13 rfl rfl
      have q14 : ac.tmps[14]?.getD undef = .int .i64 (p : Int) := (eval_tmp _ _).symm.trans (hdep 7 14 rfl rfl)
      obtain ⟨g, c, hq, hcell⟩ := q13.at (HPL.out)
      rw [HQ.out] at hcell
      have i1 : (0 : Int) ≤ (p : Nat) := by omega
      have i2 : ((p : Nat) : Int) < ((story C.deeds ends C.deeds.length).length : Int) := by have := HPL.out; omega
      refine fact_value rfl rfl rfl (v := .pointer (some ⟨g, p, none⟩)) (W' := W) ?_ (Below.refl _ _) ⟨g, rfl, hcell⟩
      simp only [execOp]
      go_simp
    · obtain rfl : 16 = d := by simpa using hd
      have q15 : ∃ g, (ac.tmps[15]?.getD undef) = .pointer (some ⟨g, p, none⟩) ∧ W.cell? ⟨g, p, none⟩ = some (.int .i64 (q : Int)) := eval_tmp ac _ ▸ hdep 8 15 rfl rfl
      obtain ⟨g, hq, hcell⟩ := q15
      refine fact_value rfl rfl rfl (v := .int .i64 (q : Int)) (W' := W) ?_ (Below.refl _ _) rfl
      simp only [execOp]
      go_simp
    · obtain rfl : 17 = d := by simpa using hd
      have q10 : OwnInts W (ac.tmps[10]?.getD undef) (weldIx C.deeds C.deeds.length) := eval_tmp ac _ ▸ hdep 3 10 rfl rfl
      have q16 : ac.tmps[16]?.getD undef = .int .i64 (q : Int) := (eval_tmp _ _).symm.trans (hdep 9 16 rfl rfl)
      obtain ⟨g, c, hq, hcell⟩ := q10.at ((show q < (weldIx C.deeds C.deeds.length).length by rw [weldIx_len]; exact HQW.out))
      rw [HJ.out] at hcell
      have i1 : (0 : Int) ≤ (q : Nat) := by omega
      have i2 : ((q : Nat) : Int) < ((weldIx C.deeds C.deeds.length).length : Int) := by have := (show q < (weldIx C.deeds C.deeds.length).length by rw [weldIx_len]; exact HQW.out); omega
      refine fact_value rfl rfl rfl (v := .pointer (some ⟨g, q, none⟩)) (W' := W) ?_ (Below.refl _ _) ⟨g, rfl, hcell⟩
      simp only [execOp]
      go_simp
    · obtain rfl : 18 = d := by simpa using hd
      have q17 : ∃ g, (ac.tmps[17]?.getD undef) = .pointer (some ⟨g, q, none⟩) ∧ W.cell? ⟨g, q, none⟩ = some (.int .i64 (j : Int)) := eval_tmp ac _ ▸ hdep 10 17 rfl rfl
      obtain ⟨g, hq, hcell⟩ := q17
      refine fact_value rfl rfl rfl (v := .int .i64 (j : Int)) (W' := W) ?_ (Below.refl _ _) rfl
      simp only [execOp]
      go_simp
    · obtain rfl : 19 = d := by simpa using hd
      have q8 : ac.tmps[8]?.getD undef = .slice (some ⟨b, off, none⟩) C.deeds.length cap := (eval_tmp _ _).symm.trans (hdep 1 8 rfl rfl)
      have q18 : ac.tmps[18]?.getD undef = .int .i64 (j : Int) := (eval_tmp _ _).symm.trans (hdep 11 18 rfl rfl)
      refine fact_value rfl rfl rfl (v := .pointer (some ⟨b, off + j * 5, none⟩)) (W' := W) ?_ (Below.refl _ _) rfl
      simp only [execOp]
      go_simp
    · obtain rfl : 20 = d := by simpa using hd
      have q19 : ac.tmps[19]?.getD undef = .pointer (some ⟨b, off + j * 5, none⟩) := (eval_tmp _ _).symm.trans (hdep 12 19 rfl rfl)
      refine fact_value rfl rfl rfl (v := .pointer (some ⟨b, off + j * 5 + 3, none⟩)) (W' := W) ?_ (Below.refl _ _) rfl
      simp only [execOp]
      go_simp
    · obtain rfl : 21 = d := by simpa using hd
      have q20 : ac.tmps[20]?.getD undef = .pointer (some ⟨b, off + j * 5 + 3, none⟩) := (eval_tmp _ _).symm.trans (hdep 13 20 rfl rfl)
      refine fact_value rfl rfl rfl (v := .int .i64 d.bar) (W' := W) ?_ (Below.refl _ _) rfl
      simp only [execOp]
      go_simp
    · obtain rfl : 6 = d := by simpa using hd
      have q21 : ac.tmps[21]?.getD undef = .int .i64 d.bar := (eval_tmp _ _).symm.trans (hdep 14 21 rfl rfl)
      refine fact_value rfl rfl rfl (v := .int .i64 d.bar) (W' := W) ?_ (Below.refl _ _) rfl
      simp only [execOp]
      go_simp
  case rest =>
    intro vs W2 hvl hbx hval
    obtain ⟨x0, x1, x2, x3, x4, x5, x6, x7, x8, x9, x10, x11, x12, x13, x14, x15, rfl⟩ : ∃ x0 x1 x2 x3 x4 x5 x6 x7 x8 x9 x10 x11 x12 x13 x14 x15, vs = [x0, x1, x2, x3, x4, x5, x6, x7, x8, x9, x10, x11, x12, x13, x14, x15] := by
      match vs, hvl with
      | [x0, x1, x2, x3, x4, x5, x6, x7, x8, x9, x10, x11, x12, x13, x14, x15], _ => exact ⟨x0, x1, x2, x3, x4, x5, x6, x7, x8, x9, x10, x11, x12, x13, x14, x15, rfl⟩
    obtain rfl : x0 = .pointer (some ⟨w.heap.size, 0, none⟩) := by obtain ⟨u, e, h⟩ := hval 0 (by omega); have e2 : some x0 = some u := e; injection e2 with e2; subst e2; exact h
    obtain rfl : x1 = .slice (some ⟨b, off, none⟩) C.deeds.length cap := by obtain ⟨u, e, h⟩ := hval 1 (by omega); have e2 : some x1 = some u := e; injection e2 with e2; subst e2; exact h
    obtain rfl : x2 = .agg #[.slice (some ⟨b, off, none⟩) C.deeds.length cap, .slice a2 C.sights.length cap2, .int .i64 C.wrong] := by obtain ⟨u, e, h⟩ := hval 2 (by omega); have e2 : some x2 = some u := e; injection e2 with e2; subst e2; exact h
    have k3 : OwnInts W2 x3 (weldIx C.deeds C.deeds.length) := by obtain ⟨u, e, h⟩ := hval 3 (by omega); have e2 : some x3 = some u := e; injection e2 with e2; subst e2; exact h
    obtain rfl : x4 = .agg #[.slice (some ⟨b, off, none⟩) C.deeds.length cap, .slice a2 C.sights.length cap2, .int .i64 C.wrong] := by obtain ⟨u, e, h⟩ := hval 4 (by omega); have e2 : some x4 = some u := e; injection e2 with e2; subst e2; exact h
    obtain rfl : x5 = .slice ua ends.length ucap := by obtain ⟨u, e, h⟩ := hval 5 (by omega); have e2 : some x5 = some u := e; injection e2 with e2; subst e2; exact h
    have k6 : OwnInts W2 x6 (story C.deeds ends C.deeds.length) := by obtain ⟨u, e, h⟩ := hval 6 (by omega); have e2 : some x6 = some u := e; injection e2 with e2; subst e2; exact h
    obtain rfl : x7 = .int .i64 (p : Int) := by obtain ⟨u, e, h⟩ := hval 7 (by omega); have e2 : some x7 = some u := e; injection e2 with e2; subst e2; exact h
    have k8 : ∃ g, x8 = .pointer (some ⟨g, p, none⟩) ∧ W2.cell? ⟨g, p, none⟩ = some (.int .i64 (q : Int)) := by obtain ⟨u, e, h⟩ := hval 8 (by omega); have e2 : some x8 = some u := e; injection e2 with e2; subst e2; exact h
    obtain rfl : x9 = .int .i64 (q : Int) := by obtain ⟨u, e, h⟩ := hval 9 (by omega); have e2 : some x9 = some u := e; injection e2 with e2; subst e2; exact h
    have k10 : ∃ g, x10 = .pointer (some ⟨g, q, none⟩) ∧ W2.cell? ⟨g, q, none⟩ = some (.int .i64 (j : Int)) := by obtain ⟨u, e, h⟩ := hval 10 (by omega); have e2 : some x10 = some u := e; injection e2 with e2; subst e2; exact h
    obtain rfl : x11 = .int .i64 (j : Int) := by obtain ⟨u, e, h⟩ := hval 11 (by omega); have e2 : some x11 = some u := e; injection e2 with e2; subst e2; exact h
    obtain rfl : x12 = .pointer (some ⟨b, off + j * 5, none⟩) := by obtain ⟨u, e, h⟩ := hval 12 (by omega); have e2 : some x12 = some u := e; injection e2 with e2; subst e2; exact h
    obtain rfl : x13 = .pointer (some ⟨b, off + j * 5 + 3, none⟩) := by obtain ⟨u, e, h⟩ := hval 13 (by omega); have e2 : some x13 = some u := e; injection e2 with e2; subst e2; exact h
    obtain rfl : x14 = .int .i64 d.bar := by obtain ⟨u, e, h⟩ := hval 14 (by omega); have e2 : some x14 = some u := e; injection e2 with e2; subst e2; exact h
    obtain rfl : x15 = .int .i64 d.bar := by obtain ⟨u, e, h⟩ := hval 15 (by omega); have e2 : some x15 = some u := e; injection e2 with e2; subst e2; exact h
    clear hval hvl
    have HBX := Lib.hid ((HS0.out.next hbx).b)
    clear hbx k3 k6 k8 k10
    simp only [putL, Act.put, List.drop, List.setIfInBounds_toArray, List.set_cons_zero, List.set_cons_succ]
    go_wp2
    go_ret
    exact ⟨ret_int HB.out.symm, HBX.out⟩
theorem BarAt_to {v u : Value} {C : Chain} {ends : List Int} {p : Nat} {w : World} {x : Int} (h : barOf C p ends = x) (hV : validB C = true) (hl : ends.length = C.deeds.length) (hat : (p : Int) < lenTo C.deeds C.deeds.length) (hx : ChainAt w.heap.size w v C) (hu : IntsAt w.heap.size w u ends) :
    Calls Try.prog 55 #[v, u, .int .i64 p] w fun e w' => e = .returned (.int .i64 x) ∧ Below w.heap.size w w' := h ▸ BarAt_any v u C ends p w hV hl hat hx hu

end Go.Proofs.Ytgjikoebneiamaa
