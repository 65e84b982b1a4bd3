/-
  Links, the law's reference: the least number of sights that are not right, how many truths there are, how long the cable is.
  Links, walks: what is answered of a chain that is not valid.
  Links, the law's own functions: whether two chains are equal.
  Links: what the program's answers are in the reference's words, whatever the chain.
-/
import Derived.Test.YtgjikoebneiamaaLKnown
import Derived.Test.YtgjikoebneiamaaLErr
import Derived.Test.YtgjikoebneiamaaLFar
import Derived.Test.YtgjikoebneiamaaLRefAns2
import Derived.Test.YtgjikoebneiamaaLCalls
import Derived.Test.YtgjikoebneiamaaLBars

namespace Go.Proofs.Ytgjikoebneiamaa
open Go.RowKit Go.Shelf

theorem rMany_any (v : Value) (C : Chain) (w : World) (hx : ChainAt w.heap.size w v C) :
    Calls Try.prog 23 #[v] w fun e w' => e = .returned (.tuple #[.int .i64 ((knownL C true).length : Int), .int .i64 (knownE C true)]) ∧ Below w.heap.size w w' := by
  have hx' := hx
  obtain ⟨a, cap, b, off, a2, cap2, b2, off2, rfl, hm, hm2, hcap, hcapm, HA, HC, HA2, HC2, HI, HI2⟩ := hx.opened
  have HS0 := Lib.hid (LStat.first hx')
  obtain ⟨c0, c1, c2⟩ := HS0.out.cells
  clear hx hx' HA HC HA2 HC2 HI HI2
  go_enter Try.func23, Try.ntmps23
  go_wp2_with fail
  refine (known_any _ true C _ HS0.out.st).mono ?_
  rintro e w1 ⟨q, rfl, hls, hb1⟩
  obtain ⟨vs, l1, l2, l3⟩ := hls
  obtain ⟨qA, qc, rfl, _⟩ := own_form l2
  have HB := Lib.hid (HS0.out.next hb1).b
  clear hb1 l1 l2 l3
  go_wp2
  go_ret2
  exact ⟨rfl, HB.out⟩

set_option maxRecDepth 100000 in
set_option maxHeartbeats 4000000 in
theorem rFewest_any (v : Value) (C : Chain) (w : World) (hx : ChainAt w.heap.size w v C) :
    Calls Try.prog 21 #[v] w fun e w' => e = .returned (.tuple #[.int .i64 (if validB C = true then fewV C else 0), .int .i64 (chkS C)]) ∧ Below w.heap.size w w' := by
  have hx' := hx
  obtain ⟨a, cap, b, off, a2, cap2, b2, off2, rfl, hm, hm2, hcap, hcapm, HA, HC, HA2, HC2, HI, HI2⟩ := hx.opened
  have HS0 := Lib.hid (LStat.first hx')
  obtain ⟨c0, c1, c2⟩ := HS0.out.cells
  clear hx hx' HA HC HA2 HC2 HI HI2
  cases hv : validB C
  case false =>
    have HV := Lib.hid hv
    clear hv
    go_enter Try.func21, Try.ntmps21
    go_wp2_with fail
    refine (rCheck_to (chkS_bad HV.out) HS0.out.st).mono ?_
    rintro e w1 ⟨rfl, hb1⟩
    have HB := Lib.hid (HS0.out.next hb1).b
    clear hb1
    go_wp2
    go_ret2
    exact ⟨by rw [chkS_bad HV.out]; rfl, HB.out⟩
  have HV := Lib.hid hv
  have hV' := valid_iff.1 hv
  have HV' := Lib.hid hV'
  have hnd := hV'.nd
  have hns := hV'.ns
  clear hv hV'
  have HFW := Lib.hid (show fewOf C (choicesL C.deeds) = fewV C from fewOf_perm (choices_perm HV'.out.from_le))
  have HCK := Lib.hid (chkS_ok HV.out)
  rw [if_pos rfl, HCK.out]
  go_enter Try.func21, Try.ntmps21
  go_wp2_with fail
  refine (rCheck_to (chkS_ok HV.out) HS0.out.st).mono ?_
  rintro e w1 ⟨rfl, hb1⟩
  have HS1 := Lib.hid (HS0.out.next hb1)
  clear hb1 c0 c1 c2
  obtain ⟨c0, c1, c2⟩ := HS1.out.cells
  go_wp2_with fail
  refine (choices_any C HV.out C.deeds.length [] _ _ _ (by simp) HS1.out.st (OwnInts.nil _)).mono ?_
  rintro e w2 ⟨q, rfl, hls, _, hb2⟩
  rw [choicesFrom_nil] at hls
  have HS2 := Lib.hid (HS1.out.next hb2)
  obtain ⟨N, hN⟩ : ∃ N, (choicesL C.deeds).length = N := ⟨_, rfl⟩
  have hN4 : N ≤ 4096 := by have := choicesFrom_len C hnd []; rw [choicesFrom_nil] at this; omega
  obtain ⟨lg, lc, _, rfl, _, _⟩ := hls.get (i := 0) (choices_pos _)
  have HLS := Lib.hid (hls.lower (Nat.zero_le _))
  rw [hN] at HLS ⊢
  have HN := Lib.hid hN
  clear hb2 hls hN c0 c1 c2
  obtain ⟨c0, c1, c2⟩ := HS2.out.cells
  go_wp2_with fail
  go_loopw [5, 7] (fun o i wr => ∃ k : Nat, k ≤ N ∧ i = .int .i64 k ∧ o = .int .i64 (fewOf C ((choicesL C.deeds).take k)) ∧ Hid (Below w2.heap.size w2 wr)) (fun _ i _ => N - (intOf i).toNat)
  case atStart => exact ⟨0, Nat.zero_le _, rfl, rfl, Below.refl _ _⟩
  case round =>
    obtain ⟨k, hk, rfl, rfl, hbl⟩ := hrel
    clear c0 c1 c2
    have HSR := Lib.hid (HS2.out.next hbl.out)
    obtain ⟨c0, c1, c2⟩ := HSR.out.cells
    by_cases hlt : k < N
    · obtain ⟨x, hcell, hrow⟩ := (HLS.out.below hbl.out).row (i := k) (by rw [HN.out]; omega)
      have hxl := (choice_at HV'.out (k := k) (by rw [HN.out]; omega)).1
      obtain ⟨xA, xc, rfl, _⟩ := own_form hrow
      rw [hxl] at hcell hrow
      have HXR := Lib.hid hrow
      have HXL := Lib.hid (choice_at HV'.out (k := k) (by rw [HN.out]; omega))
      obtain ⟨t, ht⟩ : ∃ t, wrongs C (xnth (choicesL C.deeds) k) = t := ⟨_, rfl⟩
      have HT := Lib.hid ht
      have hcl := block_lt_of_cell hcell
      have HCE := Lib.hid hcell
      have hk0 : (0 : Int) ≤ (k : Nat) := by omega
      have hk1 : ((k : Nat) : Int) < (N : Int) := by omega
      have HST := Lib.hid (show fewOf C ((choicesL C.deeds).take (k + 1)) = min (fewOf C ((choicesL C.deeds).take k)) t by
        have hk' : k < (choicesL C.deeds).length := by rw [HN.out]; omega
        rw [take_snoc hk', fewOf_snoc, ← ht, xnth_lt hk'])
      obtain ⟨f, hf⟩ : ∃ f, fewOf C ((choicesL C.deeds).take k) = f := ⟨_, rfl⟩
      rw [hf] at HST ⊢
      clear hrow ht hcell hxl hf
      go_upto_region 9 with fail
      clear c0 c1 c2
      refine wp_region_facts _ 8 [24, 25, 26, 27, 28, 29, 30, 31] [isV (.int .i64 f), isV (.agg #[.slice a C.deeds.length cap, .slice a2 C.sights.length cap2, .int .i64 C.wrong]), isV (.slice (some ⟨lg, 0, none⟩) N lc), isV (.int .i64 (k : Int)), isV (.pointer (some ⟨lg, k, none⟩)), isV (.slice xA C.deeds.length xc), isV (.int .i64 t), isV (.int .i64 (min f t))] (by kernel_rfl) (by kernel_rfl) (by kernel_rfl) rfl (by decide) (by decide) (by simp) ?step ?rest
      case step =>
        intro i ac W d hi hd hb hoff hdep
        have hs := HSR.out.next hb
        obtain ⟨c0, c1, c2⟩ := hs.cells
        have hcell := (hb.cell hcl).trans HCE.out
        have hi2 : i = 0 ∨ i = 1 ∨ i = 2 ∨ i = 3 ∨ i = 4 ∨ i = 5 ∨ i = 6 ∨ i = 7 := by omega
        rcases hi2 with rfl | rfl | rfl | rfl | rfl | rfl | rfl | rfl
        · obtain rfl : 24 = d := by simpa using hd
          have q5 : ac.tmps[5]?.getD undef = .int .i64 f := (eval_tmp _ _).symm.trans <| (hoff 5 (by decide)).trans rfl
          refine fact_value rfl rfl rfl (v := .int .i64 f) (W' := W) ?_ (Below.refl _ _) rfl
          simp only [execOp]
          go_simp
        · obtain rfl : 25 = d := by simpa using hd
          have q1 : ac.tmps[1]?.getD undef = .pointer (some ⟨w.heap.size, 0, none⟩) := (eval_tmp _ _).symm.trans <| (hoff 1 (by decide)).trans rfl
          refine fact_value rfl rfl rfl (v := .agg #[.slice a C.deeds.length cap, .slice a2 C.sights.length cap2, .int .i64 C.wrong]) (W' := W) ?_ (Below.refl _ _) rfl
          simp only [execOp]
          go_simp
        · obtain rfl : 26 = d := by simpa using hd
          have q6 : ac.tmps[6]?.getD undef = .slice (some ⟨lg, 0, none⟩) N lc := (eval_tmp _ _).symm.trans <| (hoff 6 (by decide)).trans rfl
          refine fact_value rfl rfl rfl (v := .slice (some ⟨lg, 0, none⟩) N lc) (W' := W) ?_ (Below.refl _ _) rfl
          simp only [execOp]
          go_simp
        · obtain rfl : 27 = d := by simpa using hd
          have q7 : ac.tmps[7]?.getD undef = .int .i64 (k : Int) := (eval_tmp _ _).symm.trans <| (hoff 7 (by decide)).trans rfl
          refine fact_value rfl rfl rfl (v := .int .i64 (k : Int)) (W' := W) ?_ (Below.refl _ _) rfl
          simp only [execOp]
          go_simp
        · obtain rfl : 28 = d := by simpa using hd
          have q26 : ac.tmps[26]?.getD undef = .slice (some ⟨lg, 0, none⟩) N lc := (eval_tmp _ _).symm.trans (hdep 2 26 rfl rfl)
          have q27 : ac.tmps[27]?.getD undef = .int .i64 (k : Int) := (eval_tmp _ _).symm.trans (hdep 3 27 rfl rfl)
          refine fact_value rfl rfl rfl (v := .pointer (some ⟨lg, k, none⟩)) (W' := W) ?_ (Below.refl _ _) rfl
          simp only [execOp]
          go_simp
        · obtain rfl : 29 = d := by simpa using hd
          have q28 : ac.tmps[28]?.getD undef = .pointer (some ⟨lg, k, none⟩) := (eval_tmp _ _).symm.trans (hdep 4 28 rfl rfl)
          refine fact_value rfl rfl rfl (v := .slice xA C.deeds.length xc) (W' := W) ?_ (Below.refl _ _) rfl
          simp only [execOp]
          go_simp
        · obtain rfl : 30 = d := by simpa using hd
          have q25 : ac.tmps[25]?.getD undef = .agg #[.slice a C.deeds.length cap, .slice a2 C.sights.length cap2, .int .i64 C.wrong] := (eval_tmp _ _).symm.trans (hdep 1 25 rfl rfl)
          have q29 : ac.tmps[29]?.getD undef = .slice xA C.deeds.length xc := (eval_tmp _ _).symm.trans (hdep 5 29 rfl rfl)
          refine fact_call rfl rfl rfl (f := 49) (args := #[.agg #[.slice a C.deeds.length cap, .slice a2 C.sights.length cap2, .int .i64 C.wrong], .slice xA C.deeds.length xc]) ?_ ?_
          · simp only [execOp]
            go_simp
          · refine (Wrongs_to HT.out HV.out HXL.out.1 hs.st (((HXR.out.below hb).ints HXL.out.2))).mono ?_
            rintro e W' ⟨rfl, hbk⟩
            exact ⟨_, rfl, hbk, rfl⟩
        · obtain rfl : 31 = d := by simpa using hd
          have q24 : ac.tmps[24]?.getD undef = .int .i64 f := (eval_tmp _ _).symm.trans (hdep 0 24 rfl rfl)
          have q30 : ac.tmps[30]?.getD undef = .int .i64 t := (eval_tmp _ _).symm.trans (hdep 6 30 rfl rfl)
          refine fact_value rfl rfl rfl (v := .int .i64 (min f t)) (W' := W) ?_ (Below.refl _ _) rfl
          simp only [execOp]
          go_simp
      case rest =>
        intro vs W2 hvl hbx hval
        obtain ⟨y0, y1, y2, y3, y4, y5, y6, y7, rfl⟩ : ∃ y0 y1 y2 y3 y4 y5 y6 y7, vs = [y0, y1, y2, y3, y4, y5, y6, y7] := by
          match vs, hvl with
          | [y0, y1, y2, y3, y4, y5, y6, y7], _ => exact ⟨y0, y1, y2, y3, y4, y5, y6, y7, rfl⟩
        obtain rfl : y0 = .int .i64 f := by obtain ⟨u, e, h⟩ := hval 0 (by omega); have e2 : some y0 = some u := e; injection e2 with e2; subst e2; exact h
        obtain rfl : y1 = .agg #[.slice a C.deeds.length cap, .slice a2 C.sights.length cap2, .int .i64 C.wrong] := by obtain ⟨u, e, h⟩ := hval 1 (by omega); have e2 : some y1 = some u := e; injection e2 with e2; subst e2; exact h
        obtain rfl : y2 = .slice (some ⟨lg, 0, none⟩) N lc := by obtain ⟨u, e, h⟩ := hval 2 (by omega); have e2 : some y2 = some u := e; injection e2 with e2; subst e2; exact h
        obtain rfl : y3 = .int .i64 (k : Int) := by obtain ⟨u, e, h⟩ := hval 3 (by omega); have e2 : some y3 = some u := e; injection e2 with e2; subst e2; exact h
        obtain rfl : y4 = .pointer (some ⟨lg, k, none⟩) := by obtain ⟨u, e, h⟩ := hval 4 (by omega); have e2 : some y4 = some u := e; injection e2 with e2; subst e2; exact h
        obtain rfl : y5 = .slice xA C.deeds.length xc := by obtain ⟨u, e, h⟩ := hval 5 (by omega); have e2 : some y5 = some u := e; injection e2 with e2; subst e2; exact h
        obtain rfl : y6 = .int .i64 t := by obtain ⟨u, e, h⟩ := hval 6 (by omega); have e2 : some y6 = some u := e; injection e2 with e2; subst e2; exact h
        obtain rfl : y7 = .int .i64 (min f t) := by obtain ⟨u, e, h⟩ := hval 7 (by omega); have e2 : some y7 = some u := e; injection e2 with e2; subst e2; exact h
        clear hval hvl
        have HBX := Lib.hid hbx
        have hsr := hbl.out.size
        clear hbx
        simp only [putL, Act.put, List.drop, List.setIfInBounds_toArray, List.set_cons_zero, List.set_cons_succ]
        go_wp2
        exact ⟨⟨k + 1, by omega, by go_num, by rw [HST.out], hbl.out.trans (HBX.out.mono hsr)⟩, by simp [intOf]; omega⟩
    · obtain rfl : N = k := by omega
      have HALL := Lib.hid (show fewOf C ((choicesL C.deeds).take N) = fewV C by rw [← HN.out, List.take_length]; exact HFW.out)
      go_wp2
      go_ret2
      exact ⟨by rw [← HALL.out]; rfl, HS2.out.b.trans (hbl.out.mono HS2.out.b.size)⟩

end Go.Proofs.Ytgjikoebneiamaa

namespace Go.Proofs.Ytgjikoebneiamaa
open Go.RowKit Go.Sort

set_option maxHeartbeats 1000000 in
theorem Who_bad (a a2 : Option Addr) (cap cap2 : Nat) (C : Chain) (at_ : Int) (w : World)
    (hx : ChainAt w.heap.size w (.agg #[.slice a C.deeds.length cap, .slice a2 C.sights.length cap2, .int .i64 C.wrong]) C) (hV : validB C = false) :
    Calls Try.prog 24 #[.agg #[.slice a C.deeds.length cap, .slice a2 C.sights.length cap2, .int .i64 C.wrong], .int .i64 at_] w fun e w' => e = .returned (.tuple #[.slice none 0 0, .int .i64 20]) ∧ Below w.heap.size w w' := by
  have HX := Lib.hid (fun W (hb : Below w.heap.size w W) => (hx.below hb).mono hb.size)
  have HV := Lib.hid hV
  clear hx hV
  go_enter Try.func24, Try.ntmps24
  go_wp2_with fail
  refine (openAt_bad a a2 cap cap2 C _ _ (HX.out _ (by go_grown)) HV.out).mono ?_
  rintro e w1 ⟨rfl, hb1⟩
  have hb1s := hb1.out.size
  simp only [World.size_alloc] at hb1s
  have HBW := Lib.hid (show Below w.heap.size w w1 from ((((Below.refl _ w).alloc (Nat.le_refl _) _).alloc (by simp) _).alloc (by simp; omega) _).trans (hb1.out.mono (by simp; omega)))
  have hws := HBW.out.size
  clear hb1
  unfold noBook
  go_wp2_with fail
  go_ret2
  exact ⟨rfl, by
    first
      | exact HBW.out
      | exact HBW.out.alloc hws _⟩
set_option maxHeartbeats 1000000 in
theorem Bars_bad (a a2 : Option Addr) (cap cap2 : Nat) (C : Chain) (at_ : Int) (w : World)
    (hx : ChainAt w.heap.size w (.agg #[.slice a C.deeds.length cap, .slice a2 C.sights.length cap2, .int .i64 C.wrong]) C) (hV : validB C = false) :
    Calls Try.prog 27 #[.agg #[.slice a C.deeds.length cap, .slice a2 C.sights.length cap2, .int .i64 C.wrong], .int .i64 at_] w fun e w' => e = .returned (.tuple #[.slice none 0 0, .int .i64 20]) ∧ Below w.heap.size w w' := by
  have HX := Lib.hid (fun W (hb : Below w.heap.size w W) => (hx.below hb).mono hb.size)
  have HV := Lib.hid hV
  clear hx hV
  go_enter Try.func27, Try.ntmps27
  go_wp2_with fail
  refine (openAt_bad a a2 cap cap2 C _ _ (HX.out _ (by go_grown)) HV.out).mono ?_
  rintro e w1 ⟨rfl, hb1⟩
  have hb1s := hb1.out.size
  simp only [World.size_alloc] at hb1s
  have HBW := Lib.hid (show Below w.heap.size w w1 from ((((Below.refl _ w).alloc (Nat.le_refl _) _).alloc (by simp) _).alloc (by simp; omega) _).trans (hb1.out.mono (by simp; omega)))
  have hws := HBW.out.size
  clear hb1
  unfold noBook
  go_wp2_with fail
  go_ret2
  exact ⟨rfl, by
    first
      | exact HBW.out
      | exact HBW.out.alloc hws _⟩
set_option maxHeartbeats 1000000 in
theorem Smiths_bad (a a2 : Option Addr) (cap cap2 : Nat) (C : Chain) (at_ : Int) (w : World)
    (hx : ChainAt w.heap.size w (.agg #[.slice a C.deeds.length cap, .slice a2 C.sights.length cap2, .int .i64 C.wrong]) C) (hV : validB C = false) :
    Calls Try.prog 29 #[.agg #[.slice a C.deeds.length cap, .slice a2 C.sights.length cap2, .int .i64 C.wrong], .int .i64 at_] w fun e w' => e = .returned (.tuple #[.slice none 0 0, .int .i64 20]) ∧ Below w.heap.size w w' := by
  have HX := Lib.hid (fun W (hb : Below w.heap.size w W) => (hx.below hb).mono hb.size)
  have HV := Lib.hid hV
  clear hx hV
  go_enter Try.func29, Try.ntmps29
  go_wp2_with fail
  refine (openAt_bad a a2 cap cap2 C _ _ (HX.out _ (by go_grown)) HV.out).mono ?_
  rintro e w1 ⟨rfl, hb1⟩
  have hb1s := hb1.out.size
  simp only [World.size_alloc] at hb1s
  have HBW := Lib.hid (show Below w.heap.size w w1 from ((((Below.refl _ w).alloc (Nat.le_refl _) _).alloc (by simp) _).alloc (by simp; omega) _).trans (hb1.out.mono (by simp; omega)))
  have hws := HBW.out.size
  clear hb1
  unfold noBook
  go_wp2_with fail
  go_ret2
  exact ⟨rfl, by
    first
      | exact HBW.out
      | exact HBW.out.alloc hws _⟩
set_option maxHeartbeats 1000000 in
theorem Fewest_bad (a a2 : Option Addr) (cap cap2 : Nat) (C : Chain) (w : World)
    (hx : ChainAt w.heap.size w (.agg #[.slice a C.deeds.length cap, .slice a2 C.sights.length cap2, .int .i64 C.wrong]) C) (hV : validB C = false) :
    Calls Try.prog 20 #[.agg #[.slice a C.deeds.length cap, .slice a2 C.sights.length cap2, .int .i64 C.wrong]] w fun e w' => e = .returned (.tuple #[.int .i64 0, .int .i64 20]) ∧ Below w.heap.size w w' := by
  have HX := Lib.hid (fun W (hb : Below w.heap.size w W) => (hx.below hb).mono hb.size)
  have HV := Lib.hid hV
  clear hx hV
  go_enter Try.func20, Try.ntmps20
  go_wp2_with fail
  refine (open_bad _ C _ (HX.out _ (by go_grown)) HV.out).mono ?_
  rintro e w1 ⟨rfl, hb1⟩
  have hb1s := hb1.size
  simp only [World.size_alloc] at hb1s
  have HBW := Lib.hid (show Below w.heap.size w w1 from ((Below.refl _ w).alloc (Nat.le_refl _) _).trans (hb1.mono (by simp)))
  have hws := HBW.out.size
  clear hb1
  unfold noBook
  go_wp2_with fail
  go_ret2
  exact ⟨rfl, by
    first
      | exact HBW.out
      | exact HBW.out.alloc hws _⟩
set_option maxHeartbeats 1000000 in
theorem Many_bad (a a2 : Option Addr) (cap cap2 : Nat) (C : Chain) (w : World)
    (hx : ChainAt w.heap.size w (.agg #[.slice a C.deeds.length cap, .slice a2 C.sights.length cap2, .int .i64 C.wrong]) C) (hV : validB C = false) :
    Calls Try.prog 22 #[.agg #[.slice a C.deeds.length cap, .slice a2 C.sights.length cap2, .int .i64 C.wrong]] w fun e w' => e = .returned (.tuple #[.int .i64 0, .int .i64 20]) ∧ Below w.heap.size w w' := by
  have HX := Lib.hid (fun W (hb : Below w.heap.size w W) => (hx.below hb).mono hb.size)
  have HV := Lib.hid hV
  clear hx hV
  go_enter Try.func22, Try.ntmps22
  go_wp2_with fail
  refine (open_bad _ C _ (HX.out _ (by go_grown)) HV.out).mono ?_
  rintro e w1 ⟨rfl, hb1⟩
  have hb1s := hb1.size
  simp only [World.size_alloc] at hb1s
  have HBW := Lib.hid (show Below w.heap.size w w1 from ((Below.refl _ w).alloc (Nat.le_refl _) _).trans (hb1.mono (by simp)))
  have hws := HBW.out.size
  clear hb1
  unfold noBook
  go_wp2_with fail
  go_ret2
  exact ⟨rfl, by
    first
      | exact HBW.out
      | exact HBW.out.alloc hws _⟩

end Go.Proofs.Ytgjikoebneiamaa

namespace Go.Proofs.Ytgjikoebneiamaa
open Go.RowKit

set_option maxRecDepth 100000 in
set_option maxHeartbeats 8000000 in
theorem Same_any (v u : Value) (C : Chain) (w : World) (hv : ChainAt w.heap.size w v C) (hu : ChainAt w.heap.size w u C) :
    Calls Try.prog 31 #[v, u] w fun e w' => e = .returned (.bool true) ∧ Below w.heap.size w w' := by
  have hv' := hv
  have hu' := hu
  obtain ⟨a, cap, b, off, a2, cap2, b2, off2, rfl, hm, hm2, hcap, hcapm, HA, HC, HA2, HC2, _, _⟩ := hv.opened
  obtain ⟨d, dap, e, eff, d2, dap2, e2, eff2, rfl, _, _, _, _, DA, DC, DA2, DC2, _, _⟩ := hu.opened
  have HS0 := Lib.hid ((LStat.first hv').next ((Below.refl _ _).alloc (Nat.le_refl _) (.cells #[.slice d C.deeds.length dap, .slice d2 C.sights.length dap2, .int .i64 C.wrong] 25)))
  have HU0 := Lib.hid (heap_new1 w (.cells #[.slice a C.deeds.length cap, .slice a2 C.sights.length cap2, .int .i64 C.wrong] 25) (.cells #[.slice d C.deeds.length dap, .slice d2 C.sights.length dap2, .int .i64 C.wrong] 25))
  obtain ⟨c0, c1, c2⟩ := HS0.out.cells
  obtain ⟨x0, x1, x2⟩ := box3c HU0.out
  clear hv hv' hu hu'
  go_enter Try.func31, Try.ntmps31
  go_wp2
  obtain ⟨Z, hZ⟩ : ∃ Z, Z = (w.alloc (.cells #[.slice a C.deeds.length cap, .slice a2 C.sights.length cap2, .int .i64 C.wrong] 25)).alloc (.cells #[.slice d C.deeds.length dap, .slice d2 C.sights.length dap2, .int .i64 C.wrong] 25) := ⟨_, rfl⟩
  rw [← hZ] at HS0 HU0 c0 c1 c2 x0 x1 x2 ⊢
  have hlt0 := heap_lt HS0.out.blk
  have hlt1 := heap_lt HU0.out
  clear hZ
  go_loopw [5] (fun i wr => ∃ k : Nat, k ≤ C.deeds.length ∧ i = .int .i64 k ∧ Hid (Below Z.heap.size Z wr)) (fun i _ => C.deeds.length - (intOf i).toNat)
  case atStart => exact ⟨0, Nat.zero_le _, rfl, Below.refl _ _⟩
  case round =>
    obtain ⟨k, hk, rfl, hbl⟩ := hrel
    clear c0 c1 c2 x0 x1 x2
    have HSR := Lib.hid (HS0.out.next hbl.out)
    have HUR := Lib.hid ((hbl.out.block _ hlt1).trans HU0.out)
    obtain ⟨c0, c1, c2⟩ := HSR.out.cells
    obtain ⟨x0, x1, x2⟩ := box3c HUR.out
    by_cases hlt : k < C.deeds.length
    · obtain ⟨rfl, hb⟩ := HA.out (by omega)
      obtain ⟨rfl, he⟩ := DA.out (by omega)
      obtain ⟨d0, d1, d2, d3, d4⟩ := (HC.out k hlt).below HSR.out.b hb
      obtain ⟨y0, y1, y2, y3, y4⟩ := (DC.out k hlt).below HSR.out.b he
      have hk0 : (0 : Int) ≤ (k : Int) := by omega
      have hk1 : (k : Int) < (C.deeds.length : Int) := by omega
      go_upto_region 6 with fail
      go_quiet (fail)
      go_wp2
      exact ⟨⟨k + 1, by omega, by go_num, drewN_below hbl.out _⟩, by simp [intOf]; omega⟩
    · obtain rfl : C.deeds.length = k := by omega
      go_wp2
      go_loopw [6] (fun i wz => ∃ k : Nat, k ≤ C.sights.length ∧ i = .int .i64 k ∧ Hid (Below Z.heap.size Z wz)) (fun i _ => C.sights.length - (intOf i).toNat)
      case atStart => exact ⟨0, Nat.zero_le _, rfl, hbl⟩
      case round =>
        obtain ⟨k, hk2, rfl, hbz⟩ := hrel
        clear c0 c1 c2 x0 x1 x2
        have HSR := Lib.hid (HS0.out.next hbz.out)
        have HUR := Lib.hid ((hbz.out.block _ hlt1).trans HU0.out)
        obtain ⟨c0, c1, c2⟩ := HSR.out.cells
        obtain ⟨x0, x1, x2⟩ := box3c HUR.out
        by_cases hlt2 : k < C.sights.length
        · obtain ⟨rfl, hb⟩ := HA2.out (by omega)
          obtain ⟨rfl, he⟩ := DA2.out (by omega)
          obtain ⟨d0, d1, d2, d3, d4⟩ := (HC2.out k hlt2).below HSR.out.b hb
          obtain ⟨y0, y1, y2, y3, y4⟩ := (DC2.out k hlt2).below HSR.out.b he
          have hk0 : (0 : Int) ≤ (k : Int) := by omega
          have hk1 : (k : Int) < (C.sights.length : Int) := by omega
          go_upto_region 11 with fail
          go_quiet (fail)
          go_wp2
          exact ⟨⟨k + 1, by omega, by go_num, drewN_below hbz.out _⟩, by simp [intOf]; omega⟩
        · obtain rfl : C.sights.length = k := by omega
          go_wp2
          go_ret
          exact ⟨rfl, HSR.out.b⟩

end Go.Proofs.Ytgjikoebneiamaa

namespace Go.Proofs.Ytgjikoebneiamaa
open Go.RowKit

theorem known_bad {C : Chain} {is : Bool} (h : validB C = false) : knownL C is = [] ∧ knownE C is = 20 := by simp [knownL, knownE, h]
theorem truths_len {C : Chain} (h : validB C = true) : (truthsR C).length = (truthsP C).length := (truths_perm (valid_iff.1 h)).length_eq
theorem knownE_ans {C : Chain} {is : Bool} (h : validB C = true) : ansE C is = knownE C is := by simp [ansE, knownE, h, truths_len h]
theorem selTo_nil (lo : Int) (n : Nat) : selTo [] lo n = [] := List.eq_nil_iff_forall_not_mem.2 fun x hx => by have := (mem_selTo.1 hx).1; cases this
theorem mem_known {C : Chain} {is : Bool} (h : validB C = true) {x : List Int} : x ∈ knownL C is ↔ is = true ∧ x ∈ truthsP C := by
  simp only [knownL, h, true_and]
  cases is
  · simp
  · simp [(truths_perm (valid_iff.1 h)).mem_iff]
theorem ans_known {C : Chain} {is : Bool} {f : List Int → Int} {lo : Int} {n : Nat} (hV : validB C = true) (hr : is = true → ∀ x ∈ truthsP C, lo ≤ f x ∧ f x < lo + n) : ansV C is f = selTo ((knownL C is).map f) lo n := by
  cases is
  · rw [ansV, if_neg (by simp), show knownL C false = [] by simp [knownL], List.map_nil, selTo_nil]
  · rw [ansV, if_pos rfl, srt_sel (lo := lo) (n := n) (fun y hy => by obtain ⟨x, hx, rfl⟩ := List.mem_map.1 hy; exact hr rfl x hx)]
    refine selTo_congr fun y => ?_
    simp only [List.mem_map]
    constructor
    · rintro ⟨x, hx, rfl⟩
      exact ⟨x, (mem_known hV).2 ⟨rfl, hx⟩, rfl⟩
    · rintro ⟨x, hx, rfl⟩
      exact ⟨x, ((mem_known hV).1 hx).2, rfl⟩
theorem link_range {C : Chain} (hV : Valid C) {at_ : Int} (hp : placeB C at_ = true) (x : List Int) : 0 ≤ linkAt C at_.toNat x ∧ linkAt C at_.toNat x < 0 + (13 : Nat) := by
  have hpw := wB_iff.1 hp
  have hsl := (story_ok (ends := x) hV.deed C.deeds.length (Nat.le_refl _)).1
  obtain ⟨q, hq, hqw⟩ := story_link hV x (Nat.le_refl _) (j := at_.toNat) (by omega)
  have h1 := weldsTo_le C.deeds C.deeds.length
  have h2 := hV.nd
  have h3 : linkAt C at_.toNat x = q := hq
  omega
theorem who_known {C : Chain} {at_ : Int} (hV : validB C = true) : ansV C (placeB C at_) (linkAt C at_.toNat) = whoR C at_ :=
  ans_known hV (fun hp x _ => link_range (valid_iff.1 hV) hp x)
theorem mark_known {C : Chain} {at_ : Int} (hV : validB C = true) (g : Deed → Int) (hg : placeB C at_ = true → ∀ x, 0 ≤ g (markD C.deeds (linkAt C at_.toNat x)) ∧ g (markD C.deeds (linkAt C at_.toNat x)) ≤ 99) :
    ansV C (placeB C at_) (fun x => g (markD C.deeds (linkAt C at_.toNat x))) = selTo ((whoR C at_).map (fun q => g (markD C.deeds q))) 0 100 := by
  rw [ans_known (lo := 0) (n := 100) hV (fun hp x _ => by have := hg hp x; omega)]
  refine selTo_congr fun y => ?_
  simp only [List.mem_map]
  constructor
  · rintro ⟨x, hx, rfl⟩
    have hp := ((mem_known hV).1 hx).1
    have h1 := link_range (valid_iff.1 hV) hp x
    exact ⟨linkAt C at_.toNat x, mem_selTo.2 ⟨List.mem_map.2 ⟨x, hx, rfl⟩, h1.1, h1.2⟩, rfl⟩
  · rintro ⟨q, hq, rfl⟩
    obtain ⟨x, hx, rfl⟩ := List.mem_map.1 (mem_selTo.1 hq).1
    exact ⟨x, hx, rfl⟩
theorem place_lt {C : Chain} {at_ : Int} (hp : placeB C at_ = true) : (at_.toNat : Int) < lenTo C.deeds C.deeds.length := by
  have hpw := wB_iff.1 hp
  omega
theorem bars_known {C : Chain} {at_ : Int} (hV : validB C = true) : ansV C (placeB C at_) (barOf C at_.toNat) = selTo ((whoR C at_).map (fun q => (markD C.deeds q).bar)) 0 100 :=
  mark_known hV Deed.bar (fun hp x => (bar_ok (valid_iff.1 hV) (place_lt hp) x).1)
theorem smiths_known {C : Chain} {at_ : Int} (hV : validB C = true) : ansV C (placeB C at_) (smithOf C at_.toNat) = selTo ((whoR C at_).map (fun q => (markD C.deeds q).smith)) 0 100 :=
  mark_known hV Deed.smith (fun hp x => (bar_ok (valid_iff.1 hV) (place_lt hp) x).2)
theorem who_bad {C : Chain} {at_ : Int} (h : validB C = false) : whoR C at_ = [] := by rw [whoR, (known_bad h).1, List.map_nil, selTo_nil]

theorem Fewest_u {a a2 : Option Addr} {cap cap2 : Nat} {C : Chain} {w : World} {x y : Int} (hf : (if validB C = true then fewV C else 0) = x) (he : chkS C = y)
    (hx : ChainAt w.heap.size w (.agg #[.slice a C.deeds.length cap, .slice a2 C.sights.length cap2, .int .i64 C.wrong]) C) :
    Calls Try.prog 20 #[.agg #[.slice a C.deeds.length cap, .slice a2 C.sights.length cap2, .int .i64 C.wrong]] w fun e w' => e = .returned (.tuple #[.int .i64 x, .int .i64 y]) ∧ Below w.heap.size w w' := by
  subst hf he
  cases hV : validB C
  · have := Fewest_bad a a2 cap cap2 C w hx hV
    rwa [chkS_bad hV, if_neg (by simp)]
  · have := Fewest_l rfl rfl rfl hx hV
    rwa [chkS_ok hV, if_pos rfl]
theorem Many_u {a a2 : Option Addr} {cap cap2 : Nat} {C : Chain} {w : World} {x : Nat} {y : Int} (hf : (knownL C true).length = x) (he : knownE C true = y)
    (hx : ChainAt w.heap.size w (.agg #[.slice a C.deeds.length cap, .slice a2 C.sights.length cap2, .int .i64 C.wrong]) C) :
    Calls Try.prog 22 #[.agg #[.slice a C.deeds.length cap, .slice a2 C.sights.length cap2, .int .i64 C.wrong]] w fun e w' => e = .returned (.tuple #[.int .i64 x, .int .i64 y]) ∧ Below w.heap.size w w' := by
  subst hf he
  cases hV : validB C
  · have := Many_bad a a2 cap cap2 C w hx hV
    rw [(known_bad hV).1, (known_bad hV).2]
    exact this
  · exact Many_l (by rw [← truths_len hV]; simp [knownL, hV]) (by simp [knownL, knownE, hV]) rfl rfl hx hV
theorem Who_u {a a2 : Option Addr} {cap cap2 : Nat} {at_ : Int} {C : Chain} {w : World} {L : List Int} {y : Int} (hf : whoR C at_ = L) (he : knownE C (placeB C at_) = y) (hI : I64 at_)
    (hx : ChainAt w.heap.size w (.agg #[.slice a C.deeds.length cap, .slice a2 C.sights.length cap2, .int .i64 C.wrong]) C) :
    Calls Try.prog 24 #[.agg #[.slice a C.deeds.length cap, .slice a2 C.sights.length cap2, .int .i64 C.wrong], .int .i64 at_] w fun e w' => ∃ v, e = .returned (.tuple #[v, .int .i64 y]) ∧ IntsAt w'.heap.size w' v L ∧ Below w.heap.size w w' := by
  subst hf he
  cases hV : validB C
  · rw [who_bad hV, (known_bad hV).2]
    exact (Who_bad a a2 cap cap2 C at_ w hx hV).mono fun _ _ ⟨h1, h2⟩ => ⟨_, h1, ints_nil' _ _, h2⟩
  · exact Who_v (who_known hV) (knownE_ans hV) rfl rfl hx hV hI
theorem Bars_u {a a2 : Option Addr} {cap cap2 : Nat} {at_ : Int} {C : Chain} {w : World} {L : List Int} {y : Int} (hf : selTo ((whoR C at_).map (fun q => (markD C.deeds q).bar)) 0 100 = L) (he : knownE C (placeB C at_) = y) (hI : I64 at_)
    (hx : ChainAt w.heap.size w (.agg #[.slice a C.deeds.length cap, .slice a2 C.sights.length cap2, .int .i64 C.wrong]) C) :
    Calls Try.prog 27 #[.agg #[.slice a C.deeds.length cap, .slice a2 C.sights.length cap2, .int .i64 C.wrong], .int .i64 at_] w fun e w' => ∃ v, e = .returned (.tuple #[v, .int .i64 y]) ∧ IntsAt w'.heap.size w' v L ∧ Below w.heap.size w w' := by
  subst hf he
  cases hV : validB C
  · rw [who_bad hV, List.map_nil, selTo_nil, (known_bad hV).2]
    exact (Bars_bad a a2 cap cap2 C at_ w hx hV).mono fun _ _ ⟨h1, h2⟩ => ⟨_, h1, ints_nil' _ _, h2⟩
  · exact Bars_v (bars_known hV) (knownE_ans hV) rfl rfl hx hV hI
theorem Smiths_u {a a2 : Option Addr} {cap cap2 : Nat} {at_ : Int} {C : Chain} {w : World} {L : List Int} {y : Int} (hf : selTo ((whoR C at_).map (fun q => (markD C.deeds q).smith)) 0 100 = L) (he : knownE C (placeB C at_) = y) (hI : I64 at_)
    (hx : ChainAt w.heap.size w (.agg #[.slice a C.deeds.length cap, .slice a2 C.sights.length cap2, .int .i64 C.wrong]) C) :
    Calls Try.prog 29 #[.agg #[.slice a C.deeds.length cap, .slice a2 C.sights.length cap2, .int .i64 C.wrong], .int .i64 at_] w fun e w' => ∃ v, e = .returned (.tuple #[v, .int .i64 y]) ∧ IntsAt w'.heap.size w' v L ∧ Below w.heap.size w w' := by
  subst hf he
  cases hV : validB C
  · rw [who_bad hV, List.map_nil, selTo_nil, (known_bad hV).2]
    exact (Smiths_bad a a2 cap cap2 C at_ w hx hV).mono fun _ _ ⟨h1, h2⟩ => ⟨_, h1, ints_nil' _ _, h2⟩
  · exact Smiths_v (smiths_known hV) (knownE_ans hV) rfl rfl hx hV hI
theorem selTo_i64 {xs : List Int} {lo : Int} {n : Nat} (hlo : -1 ≤ lo) (hn : lo + n ≤ 1000) : ∀ x ∈ selTo xs lo n, I64 x := fun x hx => by
  have := (mem_selTo.1 hx).2
  unfold I64; omega
/-- The reference's own, in memory that can be read. -/
theorem rWho_u {v : Value} {C : Chain} {at_ : Int} {w : World} {L : List Int} {y : Int} (hf : whoR C at_ = L) (he : knownE C (placeB C at_) = y) (hn : C.deeds.length ≤ 40) (hx : ChainAt w.heap.size w v C) :
    Calls Try.prog 25 #[v, .int .i64 at_] w fun e w' => ∃ q, e = .returned (.tuple #[q, .int .i64 y]) ∧ IntsAt w'.heap.size w' q L ∧ Below w.heap.size w w' := by
  subst hf he
  exact (rWho_any v C at_ w hn hx).mono fun _ _ ⟨q, h1, h2, h3⟩ => ⟨q, h1, h2.ints (selTo_i64 (by omega) (by omega)), h3⟩
theorem rBars_u {v : Value} {C : Chain} {at_ : Int} {w : World} {L : List Int} {y : Int} (hf : selTo ((whoR C at_).map (fun q => (markD C.deeds q).bar)) 0 100 = L) (he : knownE C (placeB C at_) = y) (hn : C.deeds.length ≤ 40) (hx : ChainAt w.heap.size w v C) :
    Calls Try.prog 28 #[v, .int .i64 at_] w fun e w' => ∃ q, e = .returned (.tuple #[q, .int .i64 y]) ∧ IntsAt w'.heap.size w' q L ∧ Below w.heap.size w w' := by
  subst hf he
  exact (rBars_any v C at_ w hn hx).mono fun _ _ ⟨q, h1, h2, h3⟩ => ⟨q, h1, h2.ints (selTo_i64 (by omega) (by omega)), h3⟩
theorem rSmiths_u {v : Value} {C : Chain} {at_ : Int} {w : World} {L : List Int} {y : Int} (hf : selTo ((whoR C at_).map (fun q => (markD C.deeds q).smith)) 0 100 = L) (he : knownE C (placeB C at_) = y) (hn : C.deeds.length ≤ 40) (hx : ChainAt w.heap.size w v C) :
    Calls Try.prog 30 #[v, .int .i64 at_] w fun e w' => ∃ q, e = .returned (.tuple #[q, .int .i64 y]) ∧ IntsAt w'.heap.size w' q L ∧ Below w.heap.size w w' := by
  subst hf he
  exact (rSmiths_any v C at_ w hn hx).mono fun _ _ ⟨q, h1, h2, h3⟩ => ⟨q, h1, h2.ints (selTo_i64 (by omega) (by omega)), h3⟩
theorem rMany_u {v : Value} {C : Chain} {w : World} {x : Nat} {y : Int} (hf : (knownL C true).length = x) (he : knownE C true = y) (hx : ChainAt w.heap.size w v C) :
    Calls Try.prog 23 #[v] w fun e w' => e = .returned (.tuple #[.int .i64 x, .int .i64 y]) ∧ Below w.heap.size w w' := by
  subst hf he
  exact rMany_any v C w hx
theorem rFewest_u {v : Value} {C : Chain} {w : World} {x y : Int} (hf : (if validB C = true then fewV C else 0) = x) (he : chkS C = y) (hx : ChainAt w.heap.size w v C) :
    Calls Try.prog 21 #[v] w fun e w' => e = .returned (.tuple #[.int .i64 x, .int .i64 y]) ∧ Below w.heap.size w w' := by
  subst hf he
  exact rFewest_any v C w hx
theorem Length_u {v : Value} {C : Chain} {w : World} {x y : Int} (hf : (if validB C = true then (lenTo C.deeds C.deeds.length : Int) else 0) = x) (he : chkS C = y) (hx : ChainAt w.heap.size w v C) :
    Calls Try.prog 18 #[v] w fun e w' => e = .returned (.tuple #[.int .i64 x, .int .i64 y]) ∧ Below w.heap.size w w' := by
  subst hf he
  have := length_any v C w hx
  exact this
theorem rLength_u {v : Value} {C : Chain} {w : World} {x y : Int} (hf : (if validB C = true then (lenTo C.deeds C.deeds.length : Int) else 0) = x) (he : chkS C = y) (hx : ChainAt w.heap.size w v C) :
    Calls Try.prog 19 #[v] w fun e w' => e = .returned (.tuple #[.int .i64 x, .int .i64 y]) ∧ Below w.heap.size w w' := by
  subst hf he
  exact rLength_any v C w hx
theorem same_true (L : List Int) : decide (L = L) = true := by simp
end Go.Proofs.Ytgjikoebneiamaa
