/-
  Links, walks: what Where, Last, Proofs and Alike answer of a chain that is not valid; Alike at numbers that are no places.
  Links, the law's reference: where a link is, and when it was proved last, in all truths.
  Links, the law's reference: how often a link was proved, at least and at most.
  Links, the law's reference: whether the links at two places are of one bar.
  Links: where a link is, how often and when it was proved, whether two are of one bar: the program's answers in the reference's words, whatever the chain.
-/
import Derived.Test.YtgjikoebneiamaaLErr
import Derived.Test.YtgjikoebneiamaaLBars
import Derived.Test.YtgjikoebneiamaaLProof
import Derived.Test.YtgjikoebneiamaaLRefAns
import Derived.Test.YtgjikoebneiamaaLProved
import Derived.Test.YtgjikoebneiamaaLRef1
import Derived.Test.YtgjikoebneiamaaLJudge2
import Derived.Test.YtgjikoebneiamaaLWhoM
import Derived.Test.YtgjikoebneiamaaLLaterM

namespace Go.Proofs.Ytgjikoebneiamaa
open Go.RowKit Go.Sort

set_option maxHeartbeats 1000000 in
theorem Where_bad (a a2 : Option Addr) (cap cap2 : Nat) (C : Chain) (link : Int) (w : World)
    (hx : ChainAt w.heap.size w (.agg #[.slice a C.deeds.length cap, .slice a2 C.sights.length cap2, .int .i64 C.wrong]) C) (hV : validB C = false) :
    Calls Try.prog 32 #[.agg #[.slice a C.deeds.length cap, .slice a2 C.sights.length cap2, .int .i64 C.wrong], .int .i64 link] w fun e w' => e = .returned (.tuple #[.slice none 0 0, .int .i64 20]) ∧ Below w.heap.size w w' := by
  have HX := Lib.hid (fun W (hb : Below w.heap.size w W) => (hx.below hb).mono hb.size)
  have HV := Lib.hid hV
  clear hx hV
  go_enter Try.func32, Try.ntmps32
  go_wp2_with fail
  refine (openLink_bad a a2 cap cap2 C link _ (HX.out _ (by go_grown)) HV.out).mono ?_
  rintro e w1 ⟨rfl, hb1⟩
  have hb1s := hb1.out.size
  simp only [World.size_alloc] at hb1s
  have HBW := Lib.hid (show Below w.heap.size w w1 from (((Below.refl _ w).alloc (Nat.le_refl _) _).alloc (by simp) _).trans (hb1.out.mono (by simp; omega)))
  have hws := HBW.out.size
  clear hb1
  unfold noBook
  go_wp2_with fail
  go_ret2
  exact ⟨rfl, by
    first
      | exact HBW.out
      | exact HBW.out.alloc hws _⟩
set_option maxHeartbeats 1000000 in
theorem Last_bad (a a2 : Option Addr) (cap cap2 : Nat) (C : Chain) (link : Int) (w : World)
    (hx : ChainAt w.heap.size w (.agg #[.slice a C.deeds.length cap, .slice a2 C.sights.length cap2, .int .i64 C.wrong]) C) (hV : validB C = false) :
    Calls Try.prog 36 #[.agg #[.slice a C.deeds.length cap, .slice a2 C.sights.length cap2, .int .i64 C.wrong], .int .i64 link] w fun e w' => e = .returned (.tuple #[.slice none 0 0, .int .i64 20]) ∧ Below w.heap.size w w' := by
  have HX := Lib.hid (fun W (hb : Below w.heap.size w W) => (hx.below hb).mono hb.size)
  have HV := Lib.hid hV
  clear hx hV
  go_enter Try.func36, Try.ntmps36
  go_wp2_with fail
  refine (openLink_bad a a2 cap cap2 C link _ (HX.out _ (by go_grown)) HV.out).mono ?_
  rintro e w1 ⟨rfl, hb1⟩
  have hb1s := hb1.out.size
  simp only [World.size_alloc] at hb1s
  have HBW := Lib.hid (show Below w.heap.size w w1 from (((Below.refl _ w).alloc (Nat.le_refl _) _).alloc (by simp) _).trans (hb1.out.mono (by simp; omega)))
  have hws := HBW.out.size
  clear hb1
  unfold noBook
  go_wp2_with fail
  go_ret2
  exact ⟨rfl, by
    first
      | exact HBW.out
      | exact HBW.out.alloc hws _⟩
set_option maxHeartbeats 1000000 in
theorem Proofs_bad (a a2 : Option Addr) (cap cap2 : Nat) (C : Chain) (link : Int) (w : World)
    (hx : ChainAt w.heap.size w (.agg #[.slice a C.deeds.length cap, .slice a2 C.sights.length cap2, .int .i64 C.wrong]) C) (hV : validB C = false) :
    Calls Try.prog 34 #[.agg #[.slice a C.deeds.length cap, .slice a2 C.sights.length cap2, .int .i64 C.wrong], .int .i64 link] w fun e w' => e = .returned (.tuple #[spanL [], .int .i64 20]) ∧ Below w.heap.size w w' := by
  have HX := Lib.hid (fun W (hb : Below w.heap.size w W) => (hx.below hb).mono hb.size)
  have HV := Lib.hid hV
  clear hx hV
  go_enter Try.func34, Try.ntmps34
  go_wp2_with fail
  refine (openLink_bad a a2 cap cap2 C link _ (HX.out _ (by go_grown)) HV.out).mono ?_
  rintro e w1 ⟨rfl, hb1⟩
  have hb1s := hb1.out.size
  simp only [World.size_alloc] at hb1s
  obtain ⟨g0, g1, g2, g3, gs⟩ := heap3 w (.cells #[.slice a C.deeds.length cap, .slice a2 C.sights.length cap2, .int .i64 C.wrong] 25) (.cells #[.int .i64 link] 3) (.cells #[.int .i64 0, .int .i64 0] 42)
  have HBW := Lib.hid (g3.trans (hb1.out.mono (by omega)))
  have e2 := (hb1.out.block (w.heap.size + 1 + 1) (by omega)).trans g2
  obtain ⟨r0, r1, rf0, rf1⟩ := cell2f ((Below.heap_alloc w1 (.cells #[.slice none 0 0, .slice none 0 0, .int .i64 0, .slice none 0 0] 84) _ (heap_lt e2)).trans e2)
  clear hb1 g0 g1 g2 g3 e2
  unfold noBook
  go_wp2_with fail
  refine bodyPost_ret (v := .tuple #[.agg #[.int .i64 0, .int .i64 0], .int .i64 20]) (by simp [results, Try.results34, go_sem, r0, r1]) rfl ⟨rfl, ?_⟩
  first
    | exact below_setCell (below_setCell HBW.out (by omega)) (by omega)
    | exact below_setCell (below_setCell (HBW.out.alloc (by omega) _) (by omega)) (by omega)
set_option maxHeartbeats 1000000 in
theorem Alike_bad (a a2 : Option Addr) (cap cap2 : Nat) (C : Chain) (x y : Int) (w : World)
    (hx : ChainAt w.heap.size w (.agg #[.slice a C.deeds.length cap, .slice a2 C.sights.length cap2, .int .i64 C.wrong]) C) (hV : validB C = false) :
    Calls Try.prog 38 #[.agg #[.slice a C.deeds.length cap, .slice a2 C.sights.length cap2, .int .i64 C.wrong], .int .i64 x, .int .i64 y] w fun e w' => e = .returned (.tuple #[.int .i64 0, .int .i64 20]) ∧ Below w.heap.size w w' := by
  have HX := Lib.hid (fun W (hb : Below w.heap.size w W) => (hx.below hb).mono hb.size)
  have HV := Lib.hid hV
  clear hx hV
  go_enter Try.func38, Try.ntmps38
  go_wp2_with fail
  refine (openAt_bad a a2 cap cap2 C _ _ (HX.out _ (by go_grown)) HV.out).mono ?_
  rintro e w1 ⟨rfl, hb1⟩
  have hb1s := hb1.out.size
  simp only [World.size_alloc] at hb1s
  obtain ⟨g0, g1, g2, g3, gs⟩ := heap3 w (.cells #[.slice a C.deeds.length cap, .slice a2 C.sights.length cap2, .int .i64 C.wrong] 25) (.cells #[.int .i64 x] 3) (.cells #[.int .i64 y] 3)
  have HBW := Lib.hid (show Below w.heap.size w w1 from (g3.alloc (by omega) _).trans (hb1.out.mono (by simp; omega)))
  have hws := HBW.out.size
  clear hb1 g0 g1 g2 g3
  unfold noBook
  go_wp2_with fail
  go_ret2
  exact ⟨rfl, by
    first
      | exact HBW.out
      | exact HBW.out.alloc hws _⟩
set_option maxHeartbeats 1000000 in
theorem Alike_arg (a a2 : Option Addr) (cap cap2 : Nat) (C : Chain) (x y : Int) (w : World)
    (hx : ChainAt w.heap.size w (.agg #[.slice a C.deeds.length cap, .slice a2 C.sights.length cap2, .int .i64 C.wrong]) C) (hV : validB C = true) (hI : I64 x) (hJ : I64 y) (hat : (placeB C x && placeB C y) = false) :
    Calls Try.prog 38 #[.agg #[.slice a C.deeds.length cap, .slice a2 C.sights.length cap2, .int .i64 C.wrong], .int .i64 x, .int .i64 y] w fun e w' => e = .returned (.tuple #[.int .i64 0, .int .i64 1]) ∧ Below w.heap.size w w' := by
  have HX := Lib.hid (fun W (hb : Below w.heap.size w W) => (hx.below hb).mono hb.size)
  have HV := Lib.hid hV
  have HI := Lib.hid hI
  have HJ := Lib.hid hJ
  have HA := Lib.hid (show allTo (fun i => wB (nth [x, y] i) 0 (lenTo C.deeds C.deeds.length - 1)) [x, y].length = false from by
    cases h : placeB C x
    · exact allTo_false (j := 0) (by simp) h
    · rw [h, Bool.true_and] at hat
      exact allTo_false (j := 1) (by simp) hat)
  clear hx hV hI hJ hat
  go_enter Try.func38, Try.ntmps38
  go_wp2_with fail
  refine (openAt_arg a a2 cap cap2 C _ [x, y] _ (HX.out _ (by go_grown)) (two_ints (by simp) HI.out HJ.out) HV.out HA.out).mono ?_
  rintro e w1 ⟨rfl, hb1⟩
  have hb1s := hb1.out.size
  simp only [World.size_alloc] at hb1s
  obtain ⟨g0, g1, g2, g3, gs⟩ := heap3 w (.cells #[.slice a C.deeds.length cap, .slice a2 C.sights.length cap2, .int .i64 C.wrong] 25) (.cells #[.int .i64 x] 3) (.cells #[.int .i64 y] 3)
  have HBW := Lib.hid (show Below w.heap.size w w1 from (g3.alloc (by omega) _).trans (hb1.out.mono (by simp; omega)))
  have hws := HBW.out.size
  clear hb1 g0 g1 g2 g3
  unfold noBook
  go_wp2_with fail
  go_ret2
  exact ⟨rfl, by
    first
      | exact HBW.out
      | exact HBW.out.alloc hws _⟩

/-- What Alike answers, whatever the two numbers. -/
def alikeV (C : Chain) (x y : Int) : Int := if (placeB C x && placeB C y) = true ∧ (truthsP C).length ≠ 0 then oneL (srt ((truthsP C).map (alikeOf C x.toNat y.toNat))) else 0
theorem Alike_v (a a2 : Option Addr) (cap cap2 : Nat) (x y : Int) (C : Chain) (w : World)
    (hx : ChainAt w.heap.size w (.agg #[.slice a C.deeds.length cap, .slice a2 C.sights.length cap2, .int .i64 C.wrong]) C) (hV : validB C = true) (hI : I64 x) (hJ : I64 y) :
    Calls Try.prog 38 #[.agg #[.slice a C.deeds.length cap, .slice a2 C.sights.length cap2, .int .i64 C.wrong], .int .i64 x, .int .i64 y] w fun e w' => e = .returned (.tuple #[.int .i64 (alikeV C x y), .int .i64 (ansE C (placeB C x && placeB C y))]) ∧ Below w.heap.size w w' := by
  cases h : (placeB C x && placeB C y)
  · rw [alikeV, h, if_neg (by simp), ansE, if_neg (by simp)]
    exact Alike_arg a a2 cap cap2 C x y w hx hV hI hJ h
  · have h' := h
    rw [Bool.and_eq_true] at h'
    have h1 := wB_iff.1 h'.1
    have h2 := wB_iff.1 h'.2
    obtain ⟨k, rfl⟩ := Int.eq_ofNat_of_zero_le h1.1
    obtain ⟨j, rfl⟩ := Int.eq_ofNat_of_zero_le h2.1
    rw [alikeV, h, ansE, if_pos rfl]
    refine (Alike_ok a a2 cap cap2 C k j w hx hV (by omega) (by omega)).mono ?_
    rintro e w' ⟨rfl, hb⟩
    refine ⟨?_, hb⟩
    by_cases h0 : (truthsP C).length = 0
    · rw [if_pos h0, if_neg (fun q => q.2 h0)]
    · rw [if_neg h0, if_pos ⟨rfl, h0⟩]
      rfl

end Go.Proofs.Ytgjikoebneiamaa

namespace Go.Proofs.Ytgjikoebneiamaa
open Go.RowKit Go.Shelf

theorem own_new1 {w : World} {A : Nat} {x : Value} (h : w.heap[A]? = some (.cells #[x] 3)) {base : Nat} (hb : base ≤ A) : w.ownsRow base 3 1 (.slice (some ⟨A, 0, none⟩) 1 1) 1 [x] :=
  ⟨rfl, .inr ⟨A, 1, #[x], rfl, hb, h, Nat.le_refl _, by unfold maxLen; omega, rfl, rfl⟩⟩

set_option maxRecDepth 100000 in
set_option maxHeartbeats 8000000 in
theorem rWhere_any (v : Value) (C : Chain) (link : Int) (w : World) (hn : C.deeds.length ≤ 40) (hx : ChainAt w.heap.size w v C) :
    Calls Try.prog 33 #[v, .int .i64 link] w fun e w' => ∃ q, e = .returned (.tuple #[q, .int .i64 (knownE C (linkB C link))]) ∧ OwnInts w' q (selTo ((knownL C (linkB C link)).map (placeOf C link)) (-1) 14) ∧ Below w.heap.size w w' := by
  obtain ⟨i0, hiT, hz0, hz1, hz2⟩ := info_parts Try_infoInt
  obtain ⟨is, his⟩ : ∃ is, linkB C link = is := ⟨_, rfl⟩
  have HIS := Lib.hid his
  rw [his]
  clear his
  have hlen := known_le C is
  have HAT0 := Lib.hid (fun k (h : k < (knownL C is).length) => known_at (C := C) (is := is) h)
  have HKV := Lib.hid (fun (h : 0 < (knownL C is).length) => known_valid (C := C) (is := is) h)
  obtain ⟨TR, hTR⟩ : ∃ TR, knownL C is = TR := ⟨_, rfl⟩
  obtain ⟨E, hE⟩ : ∃ E, knownE C is = E := ⟨_, rfl⟩
  obtain ⟨T, hT⟩ : ∃ T, TR.length = T := ⟨_, rfl⟩
  rw [hTR] at hlen HAT0 HKV
  rw [hT] at hlen HAT0 HKV
  rw [hTR, hE]
  have HTR := Lib.hid hTR
  have HE := Lib.hid hE
  have HTT := Lib.hid hT
  clear hTR hE hT
  have hx' := hx
  obtain ⟨a, cap, b, off, a2, cap2, b2, off2, rfl, hm, hm2, hcap, hcapm, HA, HC, HA2, HC2, HI, HI2⟩ := hx.opened
  have HS0 := Lib.hid (LStat.first hx')
  obtain ⟨c0, c1, c2⟩ := HS0.out.cells
  clear hx hx' HA HC HA2 HC2 HI HI2
  go_enter Try.func33, Try.ntmps33
  go_upto_region 1 with fail
  clear c0 c1 c2
  refine wp_region_facts _ 10 [11, 12, 13, 14, 15, 10, 16, 17, 6, 7] [isV (.agg #[.slice a C.deeds.length cap, .slice a2 C.sights.length cap2, .int .i64 C.wrong]), isV (.agg #[.slice a C.deeds.length cap, .slice a2 C.sights.length cap2, .int .i64 C.wrong]), isV (.int .i64 link), isV (.bool is), ⟨fun v W => ∃ q, v = .tuple #[q, .int .i64 E] ∧ ListsAt W 0 q TR, fun _ _ _ ⟨q, h1, h2⟩ hb => ⟨q, h1, h2.below hb⟩⟩, ⟨fun v W => ∃ q, v = .tuple #[q, .int .i64 E] ∧ ListsAt W 0 q TR, fun _ _ _ ⟨q, h1, h2⟩ hb => ⟨q, h1, h2.below hb⟩⟩, ⟨fun v W => ListsAt W 0 v TR, fun _ _ _ h hb => h.below hb⟩, isV (.int .i64 E), ⟨fun v W => ListsAt W 0 v TR, fun _ _ _ h hb => h.below hb⟩, isV (.int .i64 E)] (by kernel_rfl) (by kernel_rfl) (by kernel_rfl) rfl (by decide) (by decide) (by simp) ?step ?rest
  case step =>
    intro i ac W d hi hd hb hoff hdep
    have hs := HS0.out.next hb
    obtain ⟨c0, c1, c2⟩ := hs.cells
    have hi2 : i = 0 ∨ i = 1 ∨ i = 2 ∨ i = 3 ∨ i = 4 ∨ i = 5 ∨ i = 6 ∨ i = 7 ∨ i = 8 ∨ i = 9 := by omega
    rcases hi2 with rfl | rfl | rfl | rfl | rfl | rfl | rfl | rfl | rfl | rfl
    · obtain rfl : 11 = d := by simpa using hd
      have q2 : ac.tmps[2]?.getD undef = .pointer (some ⟨w.heap.size, 0, none⟩) := (eval_tmp _ _).symm.trans <| (hoff 2 (by decide)).trans rfl
      refine fact_value rfl rfl rfl (v := .agg #[.slice a C.deeds.length cap, .slice a2 C.sights.length cap2, .int .i64 C.wrong]) (W' := W) ?_ (Below.refl _ _) rfl
      simp only [execOp]
      go_simp
    · obtain rfl : 12 = d := by simpa using hd
      have q2 : ac.tmps[2]?.getD undef = .pointer (some ⟨w.heap.size, 0, none⟩) := (eval_tmp _ _).symm.trans <| (hoff 2 (by decide)).trans rfl
      refine fact_value rfl rfl rfl (v := .agg #[.slice a C.deeds.length cap, .slice a2 C.sights.length cap2, .int .i64 C.wrong]) (W' := W) ?_ (Below.refl _ _) rfl
      simp only [execOp]
      go_simp
    · obtain rfl : 13 = d := by simpa using hd
      have q1 : ac.tmps[1]?.getD undef = .int .i64 link := (eval_tmp _ _).symm.trans <| (hoff 1 (by decide)).trans rfl
      refine fact_value rfl rfl rfl (v := .int .i64 link) (W' := W) ?_ (Below.refl _ _) rfl
      simp only [execOp]
      go_simp
    · obtain rfl : 14 = d := by simpa using hd
      have q12 : ac.tmps[12]?.getD undef = .agg #[.slice a C.deeds.length cap, .slice a2 C.sights.length cap2, .int .i64 C.wrong] := (eval_tmp _ _).symm.trans (hdep 1 12 rfl rfl)
      have q13 : ac.tmps[13]?.getD undef = .int .i64 link := (eval_tmp _ _).symm.trans (hdep 2 13 rfl rfl)
      refine fact_call rfl rfl rfl (f := 46) (args := #[.agg #[.slice a C.deeds.length cap, .slice a2 C.sights.length cap2, .int .i64 C.wrong], .int .i64 link]) ?_ ?_
      · simp only [execOp]
        go_simp
      · refine (IsLink_to (r := is) (by exact HIS.out) hn hs.st).mono ?_
        rintro e W' ⟨rfl, hbk⟩
        exact ⟨_, rfl, hbk, rfl⟩
    · obtain rfl : 15 = d := by simpa using hd
      have q11 : ac.tmps[11]?.getD undef = .agg #[.slice a C.deeds.length cap, .slice a2 C.sights.length cap2, .int .i64 C.wrong] := (eval_tmp _ _).symm.trans (hdep 0 11 rfl rfl)
      have q14 : ac.tmps[14]?.getD undef = .bool is := (eval_tmp _ _).symm.trans (hdep 3 14 rfl rfl)
      refine fact_call rfl rfl rfl (f := 76) (args := #[.agg #[.slice a C.deeds.length cap, .slice a2 C.sights.length cap2, .int .i64 C.wrong], .bool is]) ?_ ?_
      · simp only [execOp]
        go_simp
      · refine (known_any _ is C W hs.st).mono ?_
        rintro e W' ⟨q, rfl, hls, hbk⟩
        rw [HTR.out] at hls
        exact ⟨.tuple #[q, .int .i64 E], by rw [HE.out], hbk, q, rfl, hls.lower (Nat.zero_le _)⟩
    · obtain rfl : 10 = d := by simpa using hd
      have q15 : ∃ q, (ac.tmps[15]?.getD undef) = .tuple #[q, .int .i64 E] ∧ ListsAt W 0 q TR := eval_tmp ac _ ▸ hdep 4 15 rfl rfl
      refine fact_value rfl rfl rfl (v := _) (W' := W) ?_ (Below.refl _ _) q15
      simp only [execOp]
      go_simp
    · obtain rfl : 16 = d := by simpa using hd
      have q10 : ∃ q, (ac.tmps[10]?.getD undef) = .tuple #[q, .int .i64 E] ∧ ListsAt W 0 q TR := eval_tmp ac _ ▸ hdep 5 10 rfl rfl
      obtain ⟨q, h1, h2⟩ := q10
      refine fact_value rfl rfl rfl (v := q) (W' := W) ?_ (Below.refl _ _) h2
      simp only [execOp]
      go_simp
    · obtain rfl : 17 = d := by simpa using hd
      have q10 : ∃ q, (ac.tmps[10]?.getD undef) = .tuple #[q, .int .i64 E] ∧ ListsAt W 0 q TR := eval_tmp ac _ ▸ hdep 5 10 rfl rfl
      obtain ⟨q, h1, h2⟩ := q10
      refine fact_value rfl rfl rfl (v := .int .i64 E) (W' := W) ?_ (Below.refl _ _) rfl
      simp only [execOp]
      go_simp
    · obtain rfl : 6 = d := by simpa using hd
      have q16 : ListsAt W 0 (ac.tmps[16]?.getD undef) TR := eval_tmp ac _ ▸ hdep 6 16 rfl rfl
      refine fact_value rfl rfl rfl (v := _) (W' := W) ?_ (Below.refl _ _) q16
      simp only [execOp]
      go_simp
    · obtain rfl : 7 = d := by simpa using hd
      have q17 : ac.tmps[17]?.getD undef = .int .i64 E := (eval_tmp _ _).symm.trans (hdep 7 17 rfl rfl)
      refine fact_value rfl rfl rfl (v := .int .i64 E) (W' := W) ?_ (Below.refl _ _) rfl
      simp only [execOp]
      go_simp
  case rest =>
    intro vs w1 hvl hb1 hval
    obtain ⟨y0, y1, y2, y3, y4, y5, y6, y7, y8, y9, rfl⟩ : ∃ y0 y1 y2 y3 y4 y5 y6 y7 y8 y9, vs = [y0, y1, y2, y3, y4, y5, y6, y7, y8, y9] := by
      match vs, hvl with
      | [y0, y1, y2, y3, y4, y5, y6, y7, y8, y9], _ => exact ⟨y0, y1, y2, y3, y4, y5, y6, y7, y8, y9, rfl⟩
    obtain rfl : y0 = .agg #[.slice a C.deeds.length cap, .slice a2 C.sights.length cap2, .int .i64 C.wrong] := by obtain ⟨u, e, h⟩ := hval 0 (by omega); have e2 : some y0 = some u := e; injection e2 with e2; subst e2; exact h
    obtain rfl : y1 = .agg #[.slice a C.deeds.length cap, .slice a2 C.sights.length cap2, .int .i64 C.wrong] := by obtain ⟨u, e, h⟩ := hval 1 (by omega); have e2 : some y1 = some u := e; injection e2 with e2; subst e2; exact h
    obtain rfl : y2 = .int .i64 link := by obtain ⟨u, e, h⟩ := hval 2 (by omega); have e2 : some y2 = some u := e; injection e2 with e2; subst e2; exact h
    obtain rfl : y3 = .bool is := by obtain ⟨u, e, h⟩ := hval 3 (by omega); have e2 : some y3 = some u := e; injection e2 with e2; subst e2; exact h
    have k4 : ∃ q, y4 = .tuple #[q, .int .i64 E] ∧ ListsAt w1 0 q TR := by obtain ⟨u, e, h⟩ := hval 4 (by omega); have e2 : some y4 = some u := e; injection e2 with e2; subst e2; exact h
    have k5 : ∃ q, y5 = .tuple #[q, .int .i64 E] ∧ ListsAt w1 0 q TR := by obtain ⟨u, e, h⟩ := hval 5 (by omega); have e2 : some y5 = some u := e; injection e2 with e2; subst e2; exact h
    have k6 : ListsAt w1 0 y6 TR := by obtain ⟨u, e, h⟩ := hval 6 (by omega); have e2 : some y6 = some u := e; injection e2 with e2; subst e2; exact h
    obtain rfl : y7 = .int .i64 E := by obtain ⟨u, e, h⟩ := hval 7 (by omega); have e2 : some y7 = some u := e; injection e2 with e2; subst e2; exact h
    have k8 : ListsAt w1 0 y8 TR := by obtain ⟨u, e, h⟩ := hval 8 (by omega); have e2 : some y8 = some u := e; injection e2 with e2; subst e2; exact h
    obtain rfl : y9 = .int .i64 E := by obtain ⟨u, e, h⟩ := hval 9 (by omega); have e2 : some y9 = some u := e; injection e2 with e2; subst e2; exact h
    clear hval hvl
    have HS1 := Lib.hid (HS0.out.next hb1)
    obtain ⟨q4, rfl, _⟩ := k4
    obtain ⟨q5, hq5, _⟩ := k5
    subst hq5
    obtain ⟨_, _, l2, _⟩ := (show ∃ vs : List Value, vs.length = TR.length ∧ w1.ownsRow 0 33 1 y8 TR.length vs ∧ True from by obtain ⟨vs, l1, l2, _⟩ := k8; exact ⟨vs, l1, l2, trivial⟩)
    obtain ⟨qA, qc, rfl, _⟩ := own_form l2
    have HLS := Lib.hid k8
    rw [HTT.out] at HLS ⊢
    have hsz1 := hb1.size
    clear l2 k6 k8 hb1
    simp only [putL, Act.put, List.drop, List.setIfInBounds_toArray, List.set_cons_zero, List.set_cons_succ]
    obtain ⟨c0, c1, c2⟩ := HS1.out.cells
    go_wp2_with fail
    go_loopw [8, 9] (fun o i wr => ∃ k : Nat, k ≤ T ∧ i = .int .i64 k ∧ Hid (wr.ownsRow w1.heap.size 3 1 o k (((TR.take k).map (placeOf C link)).map (Value.int .i64))) ∧ Hid (Below w1.heap.size w1 wr)) (fun _ i _ => T - (intOf i).toNat)
    case atStart => exact ⟨0, Nat.zero_le _, rfl, World.ownsRow_nil _ _ _ _, Below.refl _ _⟩
    case round =>
      obtain ⟨k, hk, rfl, hown, hbl⟩ := hrel
      obtain ⟨oA, oc, rfl, _⟩ := own_form hown.out
      clear c0 c1 c2
      have HSR := Lib.hid (HS1.out.next hbl.out)
      obtain ⟨c0, c1, c2⟩ := HSR.out.cells
      by_cases hlt : k < T
      · obtain ⟨hv, hi⟩ := HKV.out (by omega)
        have hV' := valid_iff.1 hv
        have hnd := hV'.nd
        obtain ⟨lg, lc, _, hq, _, _⟩ := HLS.out.get (i := k) (by rw [HTT.out]; omega)
        injection hq with hq1 hq2 hq3
        clear hq2
        subst hq1 hq3
        obtain ⟨x, hcell, hrow⟩ := (HLS.out.below hbl.out).row (i := k) (by rw [HTT.out]; omega)
        obtain ⟨hxl, hxi⟩ := HAT0.out k hlt
        obtain ⟨xA, xc, rfl, _⟩ := own_form hrow
        rw [hxl] at hcell hrow
        obtain ⟨y, hy⟩ : ∃ y, placeOf C link (xnth TR k) = y := ⟨_, rfl⟩
        have HY := Lib.hid hy
        have HV := Lib.hid hv
        have HV2 := Lib.hid hV'
        have HXR := Lib.hid hrow
        have HXL := Lib.hid hxl
        have HXI := Lib.hid hxi
        have hcl := block_lt_of_cell hcell
        have HCE := Lib.hid hcell
        have hk0 : (0 : Int) ≤ (k : Nat) := by omega
        have hk1 : ((k : Nat) : Int) < (T : Int) := by omega
        have HN := Lib.hid (show (TR.take (k + 1)).map (placeOf C link) = (TR.take k).map (placeOf C link) ++ [y] by rw [map_take_snoc (by rw [HTT.out]; exact hlt), ← hy])
        obtain ⟨Xk, hXk⟩ : ∃ Xk, ((TR.take k).map (placeOf C link)).map (Value.int .i64) = Xk := ⟨_, rfl⟩
        have HXk := Lib.hid hXk
        have HOW := Lib.hid (show wr.ownsRow w1.heap.size 3 1 (.slice oA k oc) k Xk from hXk ▸ hown.out)
        clear hv hi hV' hcell hrow hxl hxi hy hXk hown hnd
        go_upto_region 6 with fail
        clear c0 c1 c2
        refine wp_region_facts _ 10 [24, 25, 26, 27, 28, 29, 30, 31, 32, 33] [isV (.slice oA k oc), isV (.agg #[.slice a C.deeds.length cap, .slice a2 C.sights.length cap2, .int .i64 C.wrong]), isV (.slice (some ⟨lg, 0, none⟩) T qc), isV (.int .i64 (k : Int)), isV (.pointer (some ⟨lg, k, none⟩)), isV (.slice xA C.deeds.length xc), ⟨fun v W => OwnInts W v (story C.deeds (xnth TR k) C.deeds.length), fun _ _ _ h hb => h.below hb⟩, isV (.int .i64 link), isV (.int .i64 y), ⟨fun v W => ∃ A, v = .slice (some ⟨A, 0, none⟩) 1 1 ∧ wr.heap.size ≤ A ∧ W.heap[A]? = some (.cells #[.int .i64 y] 3), fun _ _ _ ⟨A, h1, h0, h2⟩ hb => ⟨A, h1, h0, (hb.block A (heap_lt h2)).trans h2⟩⟩] (by kernel_rfl) (by kernel_rfl) (by kernel_rfl) rfl (by decide) (by decide) (by simp) ?step ?rest
        case step =>
          intro i ac W d hi hd hb hoff hdep
          have hs := HSR.out.next hb
          obtain ⟨c0, c1, c2⟩ := hs.cells
          have hcell := (hb.cell hcl).trans HCE.out
          have hi2 : i = 0 ∨ i = 1 ∨ i = 2 ∨ i = 3 ∨ i = 4 ∨ i = 5 ∨ i = 6 ∨ i = 7 ∨ i = 8 ∨ i = 9 := by omega
          rcases hi2 with rfl | rfl | rfl | rfl | rfl | rfl | rfl | rfl | rfl | rfl
          · obtain rfl : 24 = d := by simpa using hd
            have q8 : ac.tmps[8]?.getD undef = .slice oA k oc := (eval_tmp _ _).symm.trans <| (hoff 8 (by decide)).trans rfl
            refine fact_value rfl rfl rfl (v := .slice oA k oc) (W' := W) ?_ (Below.refl _ _) rfl
            simp only [execOp]
            go_simp
          · obtain rfl : 25 = d := by simpa using hd
            have q2 : ac.tmps[2]?.getD undef = .pointer (some ⟨w.heap.size, 0, none⟩) := (eval_tmp _ _).symm.trans <| (hoff 2 (by decide)).trans rfl
            refine fact_value rfl rfl rfl (v := .agg #[.slice a C.deeds.length cap, .slice a2 C.sights.length cap2, .int .i64 C.wrong]) (W' := W) ?_ (Below.refl _ _) rfl
            simp only [execOp]
            go_simp
          · obtain rfl : 26 = d := by simpa using hd
            have q6 : ac.tmps[6]?.getD undef = .slice (some ⟨lg, 0, none⟩) T qc := (eval_tmp _ _).symm.trans <| (hoff 6 (by decide)).trans rfl
            refine fact_value rfl rfl rfl (v := .slice (some ⟨lg, 0, none⟩) T qc) (W' := W) ?_ (Below.refl _ _) rfl
            simp only [execOp]
            go_simp
          · obtain rfl : 27 = d := by simpa using hd
            have q9 : ac.tmps[9]?.getD undef = .int .i64 (k : Int) := (eval_tmp _ _).symm.trans <| (hoff 9 (by decide)).trans rfl
            refine fact_value rfl rfl rfl (v := .int .i64 (k : Int)) (W' := W) ?_ (Below.refl _ _) rfl
            simp only [execOp]
            go_simp
          · obtain rfl : 28 = d := by simpa using hd
            have q26 : ac.tmps[26]?.getD undef = .slice (some ⟨lg, 0, none⟩) T qc := (eval_tmp _ _).symm.trans (hdep 2 26 rfl rfl)
            have q27 : ac.tmps[27]?.getD undef = .int .i64 (k : Int) := (eval_tmp _ _).symm.trans (hdep 3 27 rfl rfl)
            refine fact_value rfl rfl rfl (v := .pointer (some ⟨lg, k, none⟩)) (W' := W) ?_ (Below.refl _ _) rfl
            simp only [execOp]
            go_simp
          · obtain rfl : 29 = d := by simpa using hd
            have q28 : ac.tmps[28]?.getD undef = .pointer (some ⟨lg, k, none⟩) := (eval_tmp _ _).symm.trans (hdep 4 28 rfl rfl)
            refine fact_value rfl rfl rfl (v := .slice xA C.deeds.length xc) (W' := W) ?_ (Below.refl _ _) rfl
            simp only [execOp]
            go_simp
          · obtain rfl : 30 = d := by simpa using hd
            have q25 : ac.tmps[25]?.getD undef = .agg #[.slice a C.deeds.length cap, .slice a2 C.sights.length cap2, .int .i64 C.wrong] := (eval_tmp _ _).symm.trans (hdep 1 25 rfl rfl)
            have q29 : ac.tmps[29]?.getD undef = .slice xA C.deeds.length xc := (eval_tmp _ _).symm.trans (hdep 5 29 rfl rfl)
            refine fact_call rfl rfl rfl (f := 47) (args := #[.agg #[.slice a C.deeds.length cap, .slice a2 C.sights.length cap2, .int .i64 C.wrong], .slice xA C.deeds.length xc]) ?_ ?_
            · simp only [execOp]
              go_simp
            · refine (Now_any _ _ C (xnth TR k) W HV.out HXL.out hs.st ((HXR.out.below hb).ints HXI.out)).mono ?_
              rintro e W' ⟨q, rfl, hls, hbk⟩
              exact ⟨q, rfl, hbk, hls⟩
          · obtain rfl : 31 = d := by simpa using hd
            have q1 : ac.tmps[1]?.getD undef = .int .i64 link := (eval_tmp _ _).symm.trans <| (hoff 1 (by decide)).trans rfl
            refine fact_value rfl rfl rfl (v := .int .i64 link) (W' := W) ?_ (Below.refl _ _) rfl
            simp only [execOp]
            go_simp
          · obtain rfl : 32 = d := by simpa using hd
            have q30 : OwnInts W (ac.tmps[30]?.getD undef) (story C.deeds (xnth TR k) C.deeds.length) := eval_tmp ac _ ▸ hdep 6 30 rfl rfl
            have q31 : ac.tmps[31]?.getD undef = .int .i64 link := (eval_tmp _ _).symm.trans (hdep 7 31 rfl rfl)
            refine fact_call rfl rfl rfl (f := 51) (args := #[ac.tmps[30]?.getD undef, .int .i64 link]) ?_ ?_
            · simp only [execOp]
              go_simp
            · refine (Found_any _ _ link W (q30.ints (story_i64 HV2.out _ (Nat.le_refl _)))).mono ?_
              rintro e W' ⟨rfl, rfl⟩
              exact ⟨.int .i64 y, by rw [← HY.out]; rfl, Below.refl _ _, rfl⟩
          · obtain rfl : 33 = d := by simpa using hd
            have q32 : ac.tmps[32]?.getD undef = .int .i64 y := (eval_tmp _ _).symm.trans (hdep 8 32 rfl rfl)
            refine fact_value rfl rfl rfl (v := .slice (some ⟨W.heap.size, 0, none⟩) 1 1) (W' := W.alloc (.cells #[.int .i64 y] 3)) ?_ ((Below.refl _ _).alloc (Nat.le_refl _) _) ⟨_, rfl, hb.size, heap_new _ _⟩
            simp only [execOp]
            go_simp
        case rest =>
          intro vs W2 hvl hbx hval
          obtain ⟨z0, z1, z2, z3, z4, z5, z6, z7, z8, z9, rfl⟩ : ∃ z0 z1 z2 z3 z4 z5 z6 z7 z8 z9, vs = [z0, z1, z2, z3, z4, z5, z6, z7, z8, z9] := by
            match vs, hvl with
            | [z0, z1, z2, z3, z4, z5, z6, z7, z8, z9], _ => exact ⟨z0, z1, z2, z3, z4, z5, z6, z7, z8, z9, rfl⟩
          obtain rfl : z0 = .slice oA k oc := by obtain ⟨u, e, h⟩ := hval 0 (by omega); have e2 : some z0 = some u := e; injection e2 with e2; subst e2; exact h
          obtain rfl : z1 = .agg #[.slice a C.deeds.length cap, .slice a2 C.sights.length cap2, .int .i64 C.wrong] := by obtain ⟨u, e, h⟩ := hval 1 (by omega); have e2 : some z1 = some u := e; injection e2 with e2; subst e2; exact h
          obtain rfl : z2 = .slice (some ⟨lg, 0, none⟩) T qc := by obtain ⟨u, e, h⟩ := hval 2 (by omega); have e2 : some z2 = some u := e; injection e2 with e2; subst e2; exact h
          obtain rfl : z3 = .int .i64 (k : Int) := by obtain ⟨u, e, h⟩ := hval 3 (by omega); have e2 : some z3 = some u := e; injection e2 with e2; subst e2; exact h
          obtain rfl : z4 = .pointer (some ⟨lg, k, none⟩) := by obtain ⟨u, e, h⟩ := hval 4 (by omega); have e2 : some z4 = some u := e; injection e2 with e2; subst e2; exact h
          obtain rfl : z5 = .slice xA C.deeds.length xc := by obtain ⟨u, e, h⟩ := hval 5 (by omega); have e2 : some z5 = some u := e; injection e2 with e2; subst e2; exact h
          have k6 : OwnInts W2 z6 (story C.deeds (xnth TR k) C.deeds.length) := by obtain ⟨u, e, h⟩ := hval 6 (by omega); have e2 : some z6 = some u := e; injection e2 with e2; subst e2; exact h
          obtain rfl : z7 = .int .i64 link := by obtain ⟨u, e, h⟩ := hval 7 (by omega); have e2 : some z7 = some u := e; injection e2 with e2; subst e2; exact h
          obtain rfl : z8 = .int .i64 y := by obtain ⟨u, e, h⟩ := hval 8 (by omega); have e2 : some z8 = some u := e; injection e2 with e2; subst e2; exact h
          have k9 : ∃ A, z9 = .slice (some ⟨A, 0, none⟩) 1 1 ∧ wr.heap.size ≤ A ∧ W2.heap[A]? = some (.cells #[.int .i64 y] 3) := by obtain ⟨u, e, h⟩ := hval 9 (by omega); have e2 : some z9 = some u := e; injection e2 with e2; subst e2; exact h
          clear hval hvl
          obtain ⟨A, rfl, hA0, hA⟩ := k9
          have HA := Lib.hid hA
          have HBX := Lib.hid hbx
          have hsr := hbl.out.size
          have hsx := hbx.size
          clear k6 hA hbx
          simp only [putL, Act.put, List.drop, List.setIfInBounds_toArray, List.set_cons_zero, List.set_cons_succ]
          go_wp2_with (at_builtin; refine wpList_append_own _ rfl (.tmp 24) (.tmp 33) 33 rfl w1.heap.size 3 i0 (.int .i64 0) 1 8 Try.underlying33 hiT hz0 hz1 hz2 rfl (by decide) (.slice oA k oc) k _ rfl (own_below HOW.out HBX.out) ⟨A, 0, none⟩ 1 1 [.int .i64 y] rfl rfl ?f1 ?f2 ?f3 ?f4 ?f5 ?_)
          case f1 => exact fun j u hj => by have h1 := World.news_of_block (fr := (0, 0)) HA.out j u hj; rwa [add_plain0, Nat.zero_add] at h1
          case f2 => simp [Value.oneCell']
          case f3 => unfold maxLen; omega
          case f4 => omega
          case f5 => omega
          intro v' w5 hown' hgrow _
          have HO := Lib.hid hown'
          have HF := Lib.hid ((hbl.out.trans (HBX.out.mono hsr)).grown hgrow (by omega) (fun j e => (HOW.out.lt j e).1))
          clear hown' hgrow
          go_wp2
          exact ⟨⟨k + 1, by omega, by go_num, by rw [HN.out, List.map_append, HXk.out]; exact HO.out, HF.out⟩, by simp [intOf]; omega⟩
      · obtain rfl : T = k := by omega
        have HALL := Lib.hid (show (TR.take T).map (placeOf C link) = TR.map (placeOf C link) by rw [List.take_of_length_le (by rw [HTT.out]; exact Nat.le_refl _)])
        have HI64 := Lib.hid (show ∀ z ∈ TR.map (placeOf C link), I64 z from fun z hz => by
          obtain ⟨e, he, rfl⟩ := List.mem_map.1 hz
          have hT0 : 0 < T := by have := List.length_pos_of_mem he; have := HTT.out; omega
          exact placeOf_i64 (valid_iff.1 (HKV.out hT0).1) link e)
        have HOI := Lib.hid (show IntsAt wr.heap.size wr (.slice oA T oc) (TR.map (placeOf C link)) from ints_of_own (base := w1.heap.size) (by rw [← HALL.out]; have := hown.out; rwa [show ((TR.take T).map (placeOf C link)).length = T by rw [HALL.out, List.length_map]; exact HTT.out]) HI64.out)
        go_wp2_with fail
        refine (Sorted_to (lo := -1) (n := 14) (by rfl) HOI.out (by omega) (by omega) (by omega)).mono ?_
        rintro e w6 ⟨q, rfl, hq, hb6⟩
        have HQ := Lib.hid hq
        have HB6 := Lib.hid ((HSR.out.next hb6).b)
        clear hq hb6 c0 c1 c2
        go_wp2
        go_ret2
        exact ⟨q, rfl, HQ.out, HB6.out⟩

set_option maxRecDepth 100000 in
set_option maxHeartbeats 8000000 in
theorem rLast_any (v : Value) (C : Chain) (link : Int) (w : World) (hn : C.deeds.length ≤ 40) (hx : ChainAt w.heap.size w v C) :
    Calls Try.prog 37 #[v, .int .i64 link] w fun e w' => ∃ q, e = .returned (.tuple #[q, .int .i64 (knownE C (linkB C link))]) ∧ OwnInts w' q (selTo ((knownL C (linkB C link)).map (lastOf C link)) (-1) 14) ∧ Below w.heap.size w w' := by
  obtain ⟨i0, hiT, hz0, hz1, hz2⟩ := info_parts Try_infoInt
  obtain ⟨is, his⟩ : ∃ is, linkB C link = is := ⟨_, rfl⟩
  have HIS := Lib.hid his
  rw [his]
  clear his
  have hlen := known_le C is
  have HAT0 := Lib.hid (fun k (h : k < (knownL C is).length) => known_at (C := C) (is := is) h)
  have HKV := Lib.hid (fun (h : 0 < (knownL C is).length) => known_valid (C := C) (is := is) h)
  obtain ⟨TR, hTR⟩ : ∃ TR, knownL C is = TR := ⟨_, rfl⟩
  obtain ⟨E, hE⟩ : ∃ E, knownE C is = E := ⟨_, rfl⟩
  obtain ⟨T, hT⟩ : ∃ T, TR.length = T := ⟨_, rfl⟩
  rw [hTR] at hlen HAT0 HKV
  rw [hT] at hlen HAT0 HKV
  rw [hTR, hE]
  have HTR := Lib.hid hTR
  have HE := Lib.hid hE
  have HTT := Lib.hid hT
  clear hTR hE hT
  have hx' := hx
  obtain ⟨a, cap, b, off, a2, cap2, b2, off2, rfl, hm, hm2, hcap, hcapm, HA, HC, HA2, HC2, HI, HI2⟩ := hx.opened
  have HS0 := Lib.hid (LStat.first hx')
  obtain ⟨c0, c1, c2⟩ := HS0.out.cells
  clear hx hx' HA HC HA2 HC2 HI HI2
  go_enter Try.func37, Try.ntmps37
  go_upto_region 1 with fail
  clear c0 c1 c2
  refine wp_region_facts _ 10 [12, 13, 14, 15, 16, 11, 17, 18, 6, 7] [isV (.agg #[.slice a C.deeds.length cap, .slice a2 C.sights.length cap2, .int .i64 C.wrong]), isV (.agg #[.slice a C.deeds.length cap, .slice a2 C.sights.length cap2, .int .i64 C.wrong]), isV (.int .i64 link), isV (.bool is), ⟨fun v W => ∃ q, v = .tuple #[q, .int .i64 E] ∧ ListsAt W 0 q TR, fun _ _ _ ⟨q, h1, h2⟩ hb => ⟨q, h1, h2.below hb⟩⟩, ⟨fun v W => ∃ q, v = .tuple #[q, .int .i64 E] ∧ ListsAt W 0 q TR, fun _ _ _ ⟨q, h1, h2⟩ hb => ⟨q, h1, h2.below hb⟩⟩, ⟨fun v W => ListsAt W 0 v TR, fun _ _ _ h hb => h.below hb⟩, isV (.int .i64 E), ⟨fun v W => ListsAt W 0 v TR, fun _ _ _ h hb => h.below hb⟩, isV (.int .i64 E)] (by kernel_rfl) (by kernel_rfl) (by kernel_rfl) rfl (by decide) (by decide) (by simp) ?step ?rest
  case step =>
    intro i ac W d hi hd hb hoff hdep
    have hs := HS0.out.next hb
    obtain ⟨c0, c1, c2⟩ := hs.cells
    have hi2 : i = 0 ∨ i = 1 ∨ i = 2 ∨ i = 3 ∨ i = 4 ∨ i = 5 ∨ i = 6 ∨ i = 7 ∨ i = 8 ∨ i = 9 := by omega
    rcases hi2 with rfl | rfl | rfl | rfl | rfl | rfl | rfl | rfl | rfl | rfl
    · obtain rfl : 12 = d := by simpa using hd
      have q2 : ac.tmps[2]?.getD undef = .pointer (some ⟨w.heap.size, 0, none⟩) := (eval_tmp _ _).symm.trans <| (hoff 2 (by decide)).trans rfl
      refine fact_value rfl rfl rfl (v := .agg #[.slice a C.deeds.length cap, .slice a2 C.sights.length cap2, .int .i64 C.wrong]) (W' := W) ?_ (Below.refl _ _) rfl
      simp only [execOp]
      go_simp
    · obtain rfl : 13 = d := by simpa using hd
      have q2 : ac.tmps[2]?.getD undef = .pointer (some ⟨w.heap.size, 0, none⟩) := (eval_tmp _ _).symm.trans <| (hoff 2 (by decide)).trans rfl
      refine fact_value rfl rfl rfl (v := .agg #[.slice a C.deeds.length cap, .slice a2 C.sights.length cap2, .int .i64 C.wrong]) (W' := W) ?_ (Below.refl _ _) rfl
      simp only [execOp]
      go_simp
    · obtain rfl : 14 = d := by simpa using hd
      have q1 : ac.tmps[1]?.getD undef = .int .i64 link := (eval_tmp _ _).symm.trans <| (hoff 1 (by decide)).trans rfl
      refine fact_value rfl rfl rfl (v := .int .i64 link) (W' := W) ?_ (Below.refl _ _) rfl
      simp only [execOp]
      go_simp
    · obtain rfl : 15 = d := by simpa using hd
      have q13 : ac.tmps[13]?.getD undef = .agg #[.slice a C.deeds.length cap, .slice a2 C.sights.length cap2, .int .i64 C.wrong] := (eval_tmp _ _).symm.trans (hdep 1 13 rfl rfl)
      have q14 : ac.tmps[14]?.getD undef = .int .i64 link := (eval_tmp _ _).symm.trans (hdep 2 14 rfl rfl)
      refine fact_call rfl rfl rfl (f := 46) (args := #[.agg #[.slice a C.deeds.length cap, .slice a2 C.sights.length cap2, .int .i64 C.wrong], .int .i64 link]) ?_ ?_
      · simp only [execOp]
        go_simp
      · refine (IsLink_to (r := is) (by exact HIS.out) hn hs.st).mono ?_
        rintro e W' ⟨rfl, hbk⟩
        exact ⟨_, rfl, hbk, rfl⟩
    · obtain rfl : 16 = d := by simpa using hd
      have q12 : ac.tmps[12]?.getD undef = .agg #[.slice a C.deeds.length cap, .slice a2 C.sights.length cap2, .int .i64 C.wrong] := (eval_tmp _ _).symm.trans (hdep 0 12 rfl rfl)
      have q15 : ac.tmps[15]?.getD undef = .bool is := (eval_tmp _ _).symm.trans (hdep 3 15 rfl rfl)
      refine fact_call rfl rfl rfl (f := 76) (args := #[.agg #[.slice a C.deeds.length cap, .slice a2 C.sights.length cap2, .int .i64 C.wrong], .bool is]) ?_ ?_
      · simp only [execOp]
        go_simp
      · refine (known_any _ is C W hs.st).mono ?_
        rintro e W' ⟨q, rfl, hls, hbk⟩
        rw [HTR.out] at hls
        exact ⟨.tuple #[q, .int .i64 E], by rw [HE.out], hbk, q, rfl, hls.lower (Nat.zero_le _)⟩
    · obtain rfl : 11 = d := by simpa using hd
      have q16 : ∃ q, (ac.tmps[16]?.getD undef) = .tuple #[q, .int .i64 E] ∧ ListsAt W 0 q TR := eval_tmp ac _ ▸ hdep 4 16 rfl rfl
      refine fact_value rfl rfl rfl (v := _) (W' := W) ?_ (Below.refl _ _) q16
      simp only [execOp]
      go_simp
    · obtain rfl : 17 = d := by simpa using hd
      have q11 : ∃ q, (ac.tmps[11]?.getD undef) = .tuple #[q, .int .i64 E] ∧ ListsAt W 0 q TR := eval_tmp ac _ ▸ hdep 5 11 rfl rfl
      obtain ⟨q, h1, h2⟩ := q11
      refine fact_value rfl rfl rfl (v := q) (W' := W) ?_ (Below.refl _ _) h2
      simp only [execOp]
      go_simp
    · obtain rfl : 18 = d := by simpa using hd
      have q11 : ∃ q, (ac.tmps[11]?.getD undef) = .tuple #[q, .int .i64 E] ∧ ListsAt W 0 q TR := eval_tmp ac _ ▸ hdep 5 11 rfl rfl
      obtain ⟨q, h1, h2⟩ := q11
      refine fact_value rfl rfl rfl (v := .int .i64 E) (W' := W) ?_ (Below.refl _ _) rfl
      simp only [execOp]
      go_simp
    · obtain rfl : 6 = d := by simpa using hd
      have q17 : ListsAt W 0 (ac.tmps[17]?.getD undef) TR := eval_tmp ac _ ▸ hdep 6 17 rfl rfl
      refine fact_value rfl rfl rfl (v := _) (W' := W) ?_ (Below.refl _ _) q17
      simp only [execOp]
      go_simp
    · obtain rfl : 7 = d := by simpa using hd
      have q18 : ac.tmps[18]?.getD undef = .int .i64 E := (eval_tmp _ _).symm.trans (hdep 7 18 rfl rfl)
      refine fact_value rfl rfl rfl (v := .int .i64 E) (W' := W) ?_ (Below.refl _ _) rfl
      simp only [execOp]
      go_simp
  case rest =>
    intro vs w1 hvl hb1 hval
    obtain ⟨y0, y1, y2, y3, y4, y5, y6, y7, y8, y9, rfl⟩ : ∃ y0 y1 y2 y3 y4 y5 y6 y7 y8 y9, vs = [y0, y1, y2, y3, y4, y5, y6, y7, y8, y9] := by
      match vs, hvl with
      | [y0, y1, y2, y3, y4, y5, y6, y7, y8, y9], _ => exact ⟨y0, y1, y2, y3, y4, y5, y6, y7, y8, y9, rfl⟩
    obtain rfl : y0 = .agg #[.slice a C.deeds.length cap, .slice a2 C.sights.length cap2, .int .i64 C.wrong] := by obtain ⟨u, e, h⟩ := hval 0 (by omega); have e2 : some y0 = some u := e; injection e2 with e2; subst e2; exact h
    obtain rfl : y1 = .agg #[.slice a C.deeds.length cap, .slice a2 C.sights.length cap2, .int .i64 C.wrong] := by obtain ⟨u, e, h⟩ := hval 1 (by omega); have e2 : some y1 = some u := e; injection e2 with e2; subst e2; exact h
    obtain rfl : y2 = .int .i64 link := by obtain ⟨u, e, h⟩ := hval 2 (by omega); have e2 : some y2 = some u := e; injection e2 with e2; subst e2; exact h
    obtain rfl : y3 = .bool is := by obtain ⟨u, e, h⟩ := hval 3 (by omega); have e2 : some y3 = some u := e; injection e2 with e2; subst e2; exact h
    have k4 : ∃ q, y4 = .tuple #[q, .int .i64 E] ∧ ListsAt w1 0 q TR := by obtain ⟨u, e, h⟩ := hval 4 (by omega); have e2 : some y4 = some u := e; injection e2 with e2; subst e2; exact h
    have k5 : ∃ q, y5 = .tuple #[q, .int .i64 E] ∧ ListsAt w1 0 q TR := by obtain ⟨u, e, h⟩ := hval 5 (by omega); have e2 : some y5 = some u := e; injection e2 with e2; subst e2; exact h
    have k6 : ListsAt w1 0 y6 TR := by obtain ⟨u, e, h⟩ := hval 6 (by omega); have e2 : some y6 = some u := e; injection e2 with e2; subst e2; exact h
    obtain rfl : y7 = .int .i64 E := by obtain ⟨u, e, h⟩ := hval 7 (by omega); have e2 : some y7 = some u := e; injection e2 with e2; subst e2; exact h
    have k8 : ListsAt w1 0 y8 TR := by obtain ⟨u, e, h⟩ := hval 8 (by omega); have e2 : some y8 = some u := e; injection e2 with e2; subst e2; exact h
    obtain rfl : y9 = .int .i64 E := by obtain ⟨u, e, h⟩ := hval 9 (by omega); have e2 : some y9 = some u := e; injection e2 with e2; subst e2; exact h
    clear hval hvl
    have HS1 := Lib.hid (HS0.out.next hb1)
    obtain ⟨q4, rfl, _⟩ := k4
    obtain ⟨q5, hq5, _⟩ := k5
    subst hq5
    obtain ⟨_, _, l2, _⟩ := (show ∃ vs : List Value, vs.length = TR.length ∧ w1.ownsRow 0 33 1 y8 TR.length vs ∧ True from by obtain ⟨vs, l1, l2, _⟩ := k8; exact ⟨vs, l1, l2, trivial⟩)
    obtain ⟨qA, qc, rfl, _⟩ := own_form l2
    have HLS := Lib.hid k8
    rw [HTT.out] at HLS ⊢
    have hsz1 := hb1.size
    clear l2 k6 k8 hb1
    simp only [putL, Act.put, List.drop, List.setIfInBounds_toArray, List.set_cons_zero, List.set_cons_succ]
    obtain ⟨c0, c1, c2⟩ := HS1.out.cells
    go_wp2_with fail
    go_loopw [8, 9] (fun o i wr => ∃ k : Nat, k ≤ T ∧ i = .int .i64 k ∧ Hid (wr.ownsRow w1.heap.size 3 1 o k (((TR.take k).map (lastOf C link)).map (Value.int .i64))) ∧ Hid (Below w1.heap.size w1 wr)) (fun _ i _ => T - (intOf i).toNat)
    case atStart => exact ⟨0, Nat.zero_le _, rfl, World.ownsRow_nil _ _ _ _, Below.refl _ _⟩
    case round =>
      obtain ⟨k, hk, rfl, hown, hbl⟩ := hrel
      obtain ⟨oA, oc, rfl, _⟩ := own_form hown.out
      clear c0 c1 c2
      have HSR := Lib.hid (HS1.out.next hbl.out)
      obtain ⟨c0, c1, c2⟩ := HSR.out.cells
      by_cases hlt : k < T
      · obtain ⟨hv, hi⟩ := HKV.out (by omega)
        have hV' := valid_iff.1 hv
        have hnd := hV'.nd
        obtain ⟨lg, lc, _, hq, _, _⟩ := HLS.out.get (i := k) (by rw [HTT.out]; omega)
        injection hq with hq1 hq2 hq3
        clear hq2
        subst hq1 hq3
        obtain ⟨x, hcell, hrow⟩ := (HLS.out.below hbl.out).row (i := k) (by rw [HTT.out]; omega)
        obtain ⟨hxl, hxi⟩ := HAT0.out k hlt
        obtain ⟨xA, xc, rfl, _⟩ := own_form hrow
        rw [hxl] at hcell hrow
        obtain ⟨y, hy⟩ : ∃ y, lastOf C link (xnth TR k) = y := ⟨_, rfl⟩
        have HY := Lib.hid hy
        have HV := Lib.hid hv
        have HV2 := Lib.hid hV'
        have HXR := Lib.hid hrow
        have HXL := Lib.hid hxl
        have HXI := Lib.hid hxi
        have hcl := block_lt_of_cell hcell
        have HCE := Lib.hid hcell
        have hk0 : (0 : Int) ≤ (k : Nat) := by omega
        have hk1 : ((k : Nat) : Int) < (T : Int) := by omega
        obtain ⟨PV, hPV⟩ : ∃ PV, provTo C.deeds (xnth TR k) link C.deeds.length = PV := ⟨_, rfl⟩
        obtain ⟨M, hM⟩ : ∃ M, PV.length = M := ⟨_, rfl⟩
        have hM12 : M ≤ 12 := by have := (provTo_le C.deeds (xnth TR k) link C.deeds.length).1; rw [hPV, hM] at this; omega
        have HLA := Lib.hid (show nth (-1 :: PV) M = y by
          rw [← hy, lastOf, provTo_last, hPV, lastL, hM]
          by_cases h0 : M = 0
          · rw [if_pos h0, h0]; rfl
          · rw [if_neg h0]
            obtain ⟨m, rfl⟩ : ∃ m, M = m + 1 := ⟨M - 1, by omega⟩
            rfl)
        have HPV := Lib.hid hPV
        have HM := Lib.hid hM
        clear hPV hM
        have HN := Lib.hid (show (TR.take (k + 1)).map (lastOf C link) = (TR.take k).map (lastOf C link) ++ [y] by rw [map_take_snoc (by rw [HTT.out]; exact hlt), ← hy])
        obtain ⟨Xk, hXk⟩ : ∃ Xk, ((TR.take k).map (lastOf C link)).map (Value.int .i64) = Xk := ⟨_, rfl⟩
        have HXk := Lib.hid hXk
        have HOW := Lib.hid (show wr.ownsRow w1.heap.size 3 1 (.slice oA k oc) k Xk from hXk ▸ hown.out)
        clear hv hi hV' hcell hrow hxl hxi hy hXk hown hnd
        go_upto_region 6 with fail
        clear c0 c1 c2
        refine wp_region_facts _ 8 [25, 26, 27, 28, 29, 30, 31, 32] [⟨fun v W => ∃ A, v = .slice (some ⟨A, 0, none⟩) 1 1 ∧ wr.heap.size ≤ A ∧ W.heap[A]? = some (.cells #[.int .i64 (-1)] 3), fun _ _ _ ⟨A, h1, h0, h2⟩ hb => ⟨A, h1, h0, (hb.block A (heap_lt h2)).trans h2⟩⟩, isV (.agg #[.slice a C.deeds.length cap, .slice a2 C.sights.length cap2, .int .i64 C.wrong]), isV (.slice (some ⟨lg, 0, none⟩) T qc), isV (.int .i64 (k : Int)), isV (.pointer (some ⟨lg, k, none⟩)), isV (.slice xA C.deeds.length xc), isV (.int .i64 link), ⟨fun v W => ∃ A c, v = .slice A M c ∧ OwnInts W (.slice A M c) PV, fun _ _ _ ⟨A, c, h1, h2⟩ hb => ⟨A, c, h1, h2.below hb⟩⟩] (by kernel_rfl) (by kernel_rfl) (by kernel_rfl) rfl (by decide) (by decide) (by simp) ?step ?rest
        case step =>
          intro i ac W d hi hd hb hoff hdep
          have hs := HSR.out.next hb
          obtain ⟨c0, c1, c2⟩ := hs.cells
          have hcell := (hb.cell hcl).trans HCE.out
          have hi2 : i = 0 ∨ i = 1 ∨ i = 2 ∨ i = 3 ∨ i = 4 ∨ i = 5 ∨ i = 6 ∨ i = 7 := by omega
          rcases hi2 with rfl | rfl | rfl | rfl | rfl | rfl | rfl | rfl
          · obtain rfl : 25 = d := by simpa using hd
            refine fact_value rfl rfl rfl (v := .slice (some ⟨W.heap.size, 0, none⟩) 1 1) (W' := W.alloc (.cells #[.int .i64 (-1)] 3)) ?_ ((Below.refl _ _).alloc (Nat.le_refl _) _) ⟨_, rfl, hb.size, heap_new _ _⟩
            simp only [execOp]
            go_simp
          · obtain rfl : 26 = d := by simpa using hd
            have q2 : ac.tmps[2]?.getD undef = .pointer (some ⟨w.heap.size, 0, none⟩) := (eval_tmp _ _).symm.trans <| (hoff 2 (by decide)).trans rfl
            refine fact_value rfl rfl rfl (v := .agg #[.slice a C.deeds.length cap, .slice a2 C.sights.length cap2, .int .i64 C.wrong]) (W' := W) ?_ (Below.refl _ _) rfl
            simp only [execOp]
            go_simp
          · obtain rfl : 27 = d := by simpa using hd
            have q6 : ac.tmps[6]?.getD undef = .slice (some ⟨lg, 0, none⟩) T qc := (eval_tmp _ _).symm.trans <| (hoff 6 (by decide)).trans rfl
            refine fact_value rfl rfl rfl (v := .slice (some ⟨lg, 0, none⟩) T qc) (W' := W) ?_ (Below.refl _ _) rfl
            simp only [execOp]
            go_simp
          · obtain rfl : 28 = d := by simpa using hd
            have q9 : ac.tmps[9]?.getD undef = .int .i64 (k : Int) := (eval_tmp _ _).symm.trans <| (hoff 9 (by decide)).trans rfl
            refine fact_value rfl rfl rfl (v := .int .i64 (k : Int)) (W' := W) ?_ (Below.refl _ _) rfl
            simp only [execOp]
            go_simp
          · obtain rfl : 29 = d := by simpa using hd
            have q27 : ac.tmps[27]?.getD undef = .slice (some ⟨lg, 0, none⟩) T qc := (eval_tmp _ _).symm.trans (hdep 2 27 rfl rfl)
            have q28 : ac.tmps[28]?.getD undef = .int .i64 (k : Int) := (eval_tmp _ _).symm.trans (hdep 3 28 rfl rfl)
            refine fact_value rfl rfl rfl (v := .pointer (some ⟨lg, k, none⟩)) (W' := W) ?_ (Below.refl _ _) rfl
            simp only [execOp]
            go_simp
          · obtain rfl : 30 = d := by simpa using hd
            have q29 : ac.tmps[29]?.getD undef = .pointer (some ⟨lg, k, none⟩) := (eval_tmp _ _).symm.trans (hdep 4 29 rfl rfl)
            refine fact_value rfl rfl rfl (v := .slice xA C.deeds.length xc) (W' := W) ?_ (Below.refl _ _) rfl
            simp only [execOp]
            go_simp
          · obtain rfl : 31 = d := by simpa using hd
            have q1 : ac.tmps[1]?.getD undef = .int .i64 link := (eval_tmp _ _).symm.trans <| (hoff 1 (by decide)).trans rfl
            refine fact_value rfl rfl rfl (v := .int .i64 link) (W' := W) ?_ (Below.refl _ _) rfl
            simp only [execOp]
            go_simp
          · obtain rfl : 32 = d := by simpa using hd
            have q26 : ac.tmps[26]?.getD undef = .agg #[.slice a C.deeds.length cap, .slice a2 C.sights.length cap2, .int .i64 C.wrong] := (eval_tmp _ _).symm.trans (hdep 1 26 rfl rfl)
            have q30 : ac.tmps[30]?.getD undef = .slice xA C.deeds.length xc := (eval_tmp _ _).symm.trans (hdep 5 30 rfl rfl)
            have q31 : ac.tmps[31]?.getD undef = .int .i64 link := (eval_tmp _ _).symm.trans (hdep 6 31 rfl rfl)
            refine fact_call rfl rfl rfl (f := 52) (args := #[.agg #[.slice a C.deeds.length cap, .slice a2 C.sights.length cap2, .int .i64 C.wrong], .slice xA C.deeds.length xc, .int .i64 link]) ?_ ?_
            · simp only [execOp]
              go_simp
            · refine (Proved_any _ _ C (xnth TR k) link W HV.out HXL.out hs.st ((HXR.out.below hb).ints HXI.out)).mono ?_
              rintro e W' ⟨q, rfl, hls, hbk⟩
              rw [HPV.out] at hls
              obtain ⟨pA, pc, rfl, _⟩ := own_form hls
              rw [HM.out] at hls ⊢
              exact ⟨_, rfl, hbk, pA, pc, rfl, hls⟩
        case rest =>
          intro vs W2 hvl hbx hval
          obtain ⟨z0, z1, z2, z3, z4, z5, z6, z7, rfl⟩ : ∃ z0 z1 z2 z3 z4 z5 z6 z7, vs = [z0, z1, z2, z3, z4, z5, z6, z7] := by
            match vs, hvl with
            | [z0, z1, z2, z3, z4, z5, z6, z7], _ => exact ⟨z0, z1, z2, z3, z4, z5, z6, z7, rfl⟩
          have k0 : ∃ A, z0 = .slice (some ⟨A, 0, none⟩) 1 1 ∧ wr.heap.size ≤ A ∧ W2.heap[A]? = some (.cells #[.int .i64 (-1)] 3) := by obtain ⟨u, e, h⟩ := hval 0 (by omega); have e2 : some z0 = some u := e; injection e2 with e2; subst e2; exact h
          obtain rfl : z1 = .agg #[.slice a C.deeds.length cap, .slice a2 C.sights.length cap2, .int .i64 C.wrong] := by obtain ⟨u, e, h⟩ := hval 1 (by omega); have e2 : some z1 = some u := e; injection e2 with e2; subst e2; exact h
          obtain rfl : z2 = .slice (some ⟨lg, 0, none⟩) T qc := by obtain ⟨u, e, h⟩ := hval 2 (by omega); have e2 : some z2 = some u := e; injection e2 with e2; subst e2; exact h
          obtain rfl : z3 = .int .i64 (k : Int) := by obtain ⟨u, e, h⟩ := hval 3 (by omega); have e2 : some z3 = some u := e; injection e2 with e2; subst e2; exact h
          obtain rfl : z4 = .pointer (some ⟨lg, k, none⟩) := by obtain ⟨u, e, h⟩ := hval 4 (by omega); have e2 : some z4 = some u := e; injection e2 with e2; subst e2; exact h
          obtain rfl : z5 = .slice xA C.deeds.length xc := by obtain ⟨u, e, h⟩ := hval 5 (by omega); have e2 : some z5 = some u := e; injection e2 with e2; subst e2; exact h
          obtain rfl : z6 = .int .i64 link := by obtain ⟨u, e, h⟩ := hval 6 (by omega); have e2 : some z6 = some u := e; injection e2 with e2; subst e2; exact h
          have k7 : ∃ A c, z7 = .slice A M c ∧ OwnInts W2 (.slice A M c) PV := by obtain ⟨u, e, h⟩ := hval 7 (by omega); have e2 : some z7 = some u := e; injection e2 with e2; subst e2; exact h
          clear hval hvl
          obtain ⟨A, rfl, hA0, hA⟩ := k0
          obtain ⟨pA, pc, rfl, hPR⟩ := k7
          have HA := Lib.hid (own_new1 hA (Nat.le_refl _))
          have HA0 := Lib.hid hA0
          have HPR := Lib.hid (HM.out ▸ hPR : W2.ownsRow 0 3 1 (.slice pA M pc) M (PV.map (Value.int .i64)))
          have HAL := Lib.hid (heap_lt hA)
          have HBX := Lib.hid hbx
          have hsr := hbl.out.size
          have hsx := hbx.size
          clear hA hA0 hPR hbx
          simp only [putL, Act.put, List.drop, List.setIfInBounds_toArray, List.set_cons_zero, List.set_cons_succ]
          go_wp2_with (at_builtin; refine wpList_onto rfl (.tmp 25) (.tmp 32) rfl Try.underlying33 hiT hz0 hz1 hz2 rfl (by decide) (n := 1) (xs := [.int .i64 (-1)]) rfl (own_grow0 (W := W2) HA.out HA0.out : W2.ownsRow wr.heap.size 3 1 _ 1 _) rfl (from_own HPR.out) (map_one _) ?h1 ?h2 ?h3 ?_)
          case h1 => unfold maxLen; omega
          case h2 => omega
          intro rA rc w3 hown3 hgrow3 hob
          have HG := Lib.hid (show Below wr.heap.size wr w3 from below_grown HBX.out hgrow3 (fun b e => by
            have e2 : A = b := by simpa [Value.ownBlock] using e
            subst e2; exact HA0.out))
          have HO3 := Lib.hid (show OwnInts w3 (.slice rA (1 + M) rc) (-1 :: PV) from by
            unfold OwnInts
            rw [List.length_cons, HM.out, Nat.add_comm M 1]
            exact own_grow0 (W := w3) hown3 (Nat.zero_le _))
          have hsz3 := HG.out.size
          clear hown3 hgrow3 hob
          have HS3 := Lib.hid (HSR.out.next HG.out)
          obtain ⟨g, gc, hge, hgc⟩ := HO3.out.at (i := M) (by rw [List.length_cons, HM.out]; omega)
          rw [HLA.out] at hgc
          rw [List.length_cons, HM.out, Nat.add_comm M 1] at hge
          injection hge with hg1 hg2 hg3
          subst hg1 hg3
          clear hg2
          have hM0 : (0 : Int) ≤ (M : Nat) := by omega
          have hM1 : ((M : Nat) : Int) < ((1 + M : Nat) : Int) := by omega
          have hMs : IntKind.i64.wrap (((1 + M : Nat) : Int) - 1) = ((M : Nat) : Int) := by rw [IntWalk.i64_in _ (by omega)]; omega
          have HOW3 := Lib.hid (own_below HOW.out HG.out)
          have HB3 := Lib.hid (hbl.out.trans (HG.out.mono hsr))
          go_wp2_with (at_builtin; refine wpList_append_own _ rfl (.tmp 34) (.tmp 41) 33 rfl w1.heap.size 3 i0 (.int .i64 0) 1 8 Try.underlying33 hiT hz0 hz1 hz2 rfl (by decide) (.slice oA k oc) k _ rfl (HOW3.out.alloc _) ⟨w3.heap.size, 0, none⟩ 1 1 [.int .i64 y] rfl rfl ?f1 ?f2 ?f3 ?f4 ?f5 ?_)
          case f1 => exact one_at (cell1_of (heap_new w3 (.cells #[.int .i64 y] 3))).1
          case f2 => simp [Value.oneCell']
          case f3 => unfold maxLen; omega
          case f4 => omega
          case f5 => simp only [World.size_alloc]; omega
          intro v' w5 hown' hgrow _
          have HO := Lib.hid hown'
          have HF := Lib.hid ((HB3.out.alloc (by omega) _).grown hgrow (by simp only [World.size_alloc]; omega) (fun j e => (HOW.out.lt j e).1))
          clear hown' hgrow
          go_wp2
          exact ⟨⟨k + 1, by omega, by go_num, by rw [HN.out, List.map_append, HXk.out]; exact HO.out, HF.out⟩, by simp [intOf]; omega⟩
      · obtain rfl : T = k := by omega
        have HALL := Lib.hid (show (TR.take T).map (lastOf C link) = TR.map (lastOf C link) by rw [List.take_of_length_le (by rw [HTT.out]; exact Nat.le_refl _)])
        have HI64 := Lib.hid (show ∀ z ∈ TR.map (lastOf C link), I64 z from fun z hz => by
          obtain ⟨e, he, rfl⟩ := List.mem_map.1 hz
          have hT0 : 0 < T := by have := List.length_pos_of_mem he; have := HTT.out; omega
          exact lastOf_i64 (valid_iff.1 (HKV.out hT0).1) link e)
        have HOI := Lib.hid (show IntsAt wr.heap.size wr (.slice oA T oc) (TR.map (lastOf C link)) from ints_of_own (base := w1.heap.size) (by rw [← HALL.out]; have := hown.out; rwa [show ((TR.take T).map (lastOf C link)).length = T by rw [HALL.out, List.length_map]; exact HTT.out]) HI64.out)
        go_wp2_with fail
        refine (Sorted_to (lo := -1) (n := 14) (by rfl) HOI.out (by omega) (by omega) (by omega)).mono ?_
        rintro e w6 ⟨q, rfl, hq, hb6⟩
        have HQ := Lib.hid hq
        have HB6 := Lib.hid ((HSR.out.next hb6).b)
        clear hq hb6 c0 c1 c2
        go_wp2
        go_ret2
        exact ⟨q, rfl, HQ.out, HB6.out⟩

end Go.Proofs.Ytgjikoebneiamaa

namespace Go.Proofs.Ytgjikoebneiamaa
open Go.RowKit Go.Shelf

/-- The least and the greatest of some numbers. -/
def loL : List Int → Int
  | [] => 0
  | x :: xs => xs.foldl min x
def hiL : List Int → Int
  | [] => 0
  | x :: xs => xs.foldl max x
theorem loL_snoc {l : List Int} (h : l ≠ []) (y : Int) : loL (l ++ [y]) = min (loL l) y := by
  cases l with
  | nil => exact absurd rfl h
  | cons x xs => simp [loL, List.foldl_append]
theorem hiL_snoc {l : List Int} (h : l ≠ []) (y : Int) : hiL (l ++ [y]) = max (hiL l) y := by
  cases l with
  | nil => exact absurd rfl h
  | cons x xs => simp [hiL, List.foldl_append]
theorem foldl_min_mem (xs : List Int) : ∀ x, (xs.foldl min x = x ∨ xs.foldl min x ∈ xs) ∧ xs.foldl min x ≤ x ∧ ∀ y ∈ xs, xs.foldl min x ≤ y := by
  induction xs with
  | nil => exact fun x => ⟨.inl rfl, Int.le_refl _, by simp⟩
  | cons z zs ih =>
    intro x
    obtain ⟨h1, h2, h3⟩ := ih (min x z)
    rw [List.foldl_cons]
    refine ⟨?_, by omega, fun y hy => ?_⟩
    · rcases h1 with h1 | h1
      · rw [h1]
        by_cases h : x ≤ z
        · exact .inl (by omega)
        · exact .inr (by rw [show min x z = z by omega]; exact .head _)
      · exact .inr (.tail _ h1)
    · rcases List.mem_cons.1 hy with rfl | hy
      · omega
      · exact h3 y hy
theorem foldl_max_mem (xs : List Int) : ∀ x, (xs.foldl max x = x ∨ xs.foldl max x ∈ xs) ∧ x ≤ xs.foldl max x ∧ ∀ y ∈ xs, y ≤ xs.foldl max x := by
  induction xs with
  | nil => exact fun x => ⟨.inl rfl, Int.le_refl _, by simp⟩
  | cons z zs ih =>
    intro x
    obtain ⟨h1, h2, h3⟩ := ih (max x z)
    rw [List.foldl_cons]
    refine ⟨?_, by omega, fun y hy => ?_⟩
    · rcases h1 with h1 | h1
      · rw [h1]
        by_cases h : z ≤ x
        · exact .inl (by omega)
        · exact .inr (by rw [show max x z = z by omega]; exact .head _)
      · exact .inr (.tail _ h1)
    · rcases List.mem_cons.1 hy with rfl | hy
      · omega
      · exact h3 y hy
theorem loL_mem {l : List Int} (h : l ≠ []) : loL l ∈ l ∧ ∀ y ∈ l, loL l ≤ y := by
  cases l with
  | nil => exact absurd rfl h
  | cons x xs =>
    obtain ⟨h1, h2, h3⟩ := foldl_min_mem xs x
    refine ⟨?_, fun y hy => ?_⟩
    · rcases h1 with h1 | h1
      · show xs.foldl min x ∈ x :: xs
        rw [h1]; exact .head _
      · exact .tail _ h1
    · rcases List.mem_cons.1 hy with rfl | hy
      · exact h2
      · exact h3 y hy
theorem hiL_mem {l : List Int} (h : l ≠ []) : hiL l ∈ l ∧ ∀ y ∈ l, y ≤ hiL l := by
  cases l with
  | nil => exact absurd rfl h
  | cons x xs =>
    obtain ⟨h1, h2, h3⟩ := foldl_max_mem xs x
    refine ⟨?_, fun y hy => ?_⟩
    · rcases h1 with h1 | h1
      · show xs.foldl max x ∈ x :: xs
        rw [h1]; exact .head _
      · exact .tail _ h1
    · rcases List.mem_cons.1 hy with rfl | hy
      · exact h2
      · exact h3 y hy

set_option maxRecDepth 100000 in
set_option maxHeartbeats 8000000 in
theorem rProofs_any (v : Value) (C : Chain) (link : Int) (w : World) (hn : C.deeds.length ≤ 40) (hx : ChainAt w.heap.size w v C) :
    Calls Try.prog 35 #[v, .int .i64 link] w fun e w' => e = .returned (.tuple #[.agg #[.int .i64 (loL ((knownL C (linkB C link)).map (timesOf C link))), .int .i64 (hiL ((knownL C (linkB C link)).map (timesOf C link)))], .int .i64 (knownE C (linkB C link))]) ∧ Below w.heap.size w w' := by
  obtain ⟨i0, hiT, hz0, hz1, hz2⟩ := info_parts Try_infoInt
  obtain ⟨is, his⟩ : ∃ is, linkB C link = is := ⟨_, rfl⟩
  have HIS := Lib.hid his
  rw [his]
  clear his
  have hlen := known_le C is
  have HAT0 := Lib.hid (fun k (h : k < (knownL C is).length) => known_at (C := C) (is := is) h)
  have HKV := Lib.hid (fun (h : 0 < (knownL C is).length) => known_valid (C := C) (is := is) h)
  obtain ⟨TR, hTR⟩ : ∃ TR, knownL C is = TR := ⟨_, rfl⟩
  obtain ⟨E, hE⟩ : ∃ E, knownE C is = E := ⟨_, rfl⟩
  obtain ⟨T, hT⟩ : ∃ T, TR.length = T := ⟨_, rfl⟩
  rw [hTR] at hlen HAT0 HKV
  rw [hT] at hlen HAT0 HKV
  rw [hTR, hE]
  have HTR := Lib.hid hTR
  have HE := Lib.hid hE
  have HTT := Lib.hid hT
  clear hTR hE hT
  have hx' := hx
  obtain ⟨a, cap, b, off, a2, cap2, b2, off2, rfl, hm, hm2, hcap, hcapm, HA, HC, HA2, HC2, HI, HI2⟩ := hx.opened
  have HS0 := Lib.hid ((LStat.first hx').next ((Below.refl _ _).alloc (Nat.le_refl _) (.cells #[.int .i64 0, .int .i64 0] 42)))
  have HT0 := Lib.hid (heap_new1 w (.cells #[.slice a C.deeds.length cap, .slice a2 C.sights.length cap2, .int .i64 C.wrong] 25) (.cells #[.int .i64 0, .int .i64 0] 42))
  obtain ⟨c0, c1, c2⟩ := HS0.out.cells
  clear hx hx' HA HC HA2 HC2 HI HI2
  obtain ⟨LO, hLO⟩ : ∃ LO, loL (TR.map (timesOf C link)) = LO := ⟨_, rfl⟩
  obtain ⟨HIG, hHIG⟩ : ∃ HIG, hiL (TR.map (timesOf C link)) = HIG := ⟨_, rfl⟩
  rw [hLO, hHIG]
  have HLO := Lib.hid hLO
  have HHI := Lib.hid hHIG
  clear hLO hHIG
  go_enter Try.func35, Try.ntmps35
  go_upto_region 1 with fail
  clear c0 c1 c2
  refine wp_region_facts _ 10 [12, 13, 14, 15, 16, 11, 17, 18, 6, 7] [isV (.agg #[.slice a C.deeds.length cap, .slice a2 C.sights.length cap2, .int .i64 C.wrong]), isV (.agg #[.slice a C.deeds.length cap, .slice a2 C.sights.length cap2, .int .i64 C.wrong]), isV (.int .i64 link), isV (.bool is), ⟨fun v W => ∃ q, v = .tuple #[q, .int .i64 E] ∧ ListsAt W 0 q TR, fun _ _ _ ⟨q, h1, h2⟩ hb => ⟨q, h1, h2.below hb⟩⟩, ⟨fun v W => ∃ q, v = .tuple #[q, .int .i64 E] ∧ ListsAt W 0 q TR, fun _ _ _ ⟨q, h1, h2⟩ hb => ⟨q, h1, h2.below hb⟩⟩, ⟨fun v W => ListsAt W 0 v TR, fun _ _ _ h hb => h.below hb⟩, isV (.int .i64 E), ⟨fun v W => ListsAt W 0 v TR, fun _ _ _ h hb => h.below hb⟩, isV (.int .i64 E)] (by kernel_rfl) (by kernel_rfl) (by kernel_rfl) rfl (by decide) (by decide) (by simp) ?step ?rest
  case step =>
    intro i ac W d hi hd hb hoff hdep
    have hs := HS0.out.next hb
    obtain ⟨c0, c1, c2⟩ := hs.cells
    have hi2 : i = 0 ∨ i = 1 ∨ i = 2 ∨ i = 3 ∨ i = 4 ∨ i = 5 ∨ i = 6 ∨ i = 7 ∨ i = 8 ∨ i = 9 := by omega
    rcases hi2 with rfl | rfl | rfl | rfl | rfl | rfl | rfl | rfl | rfl | rfl
    · obtain rfl : 12 = d := by simpa using hd
      have q2 : ac.tmps[2]?.getD undef = .pointer (some ⟨w.heap.size, 0, none⟩) := (eval_tmp _ _).symm.trans <| (hoff 2 (by decide)).trans rfl
      refine fact_value rfl rfl rfl (v := .agg #[.slice a C.deeds.length cap, .slice a2 C.sights.length cap2, .int .i64 C.wrong]) (W' := W) ?_ (Below.refl _ _) rfl
      simp only [execOp]
      go_simp
    · obtain rfl : 13 = d := by simpa using hd
      have q2 : ac.tmps[2]?.getD undef = .pointer (some ⟨w.heap.size, 0, none⟩) := (eval_tmp _ _).symm.trans <| (hoff 2 (by decide)).trans rfl
      refine fact_value rfl rfl rfl (v := .agg #[.slice a C.deeds.length cap, .slice a2 C.sights.length cap2, .int .i64 C.wrong]) (W' := W) ?_ (Below.refl _ _) rfl
      simp only [execOp]
      go_simp
    · obtain rfl : 14 = d := by simpa using hd
      have q1 : ac.tmps[1]?.getD undef = .int .i64 link := (eval_tmp _ _).symm.trans <| (hoff 1 (by decide)).trans rfl
      refine fact_value rfl rfl rfl (v := .int .i64 link) (W' := W) ?_ (Below.refl _ _) rfl
      simp only [execOp]
      go_simp
    · obtain rfl : 15 = d := by simpa using hd
      have q13 : ac.tmps[13]?.getD undef = .agg #[.slice a C.deeds.length cap, .slice a2 C.sights.length cap2, .int .i64 C.wrong] := (eval_tmp _ _).symm.trans (hdep 1 13 rfl rfl)
      have q14 : ac.tmps[14]?.getD undef = .int .i64 link := (eval_tmp _ _).symm.trans (hdep 2 14 rfl rfl)
      refine fact_call rfl rfl rfl (f := 46) (args := #[.agg #[.slice a C.deeds.length cap, .slice a2 C.sights.length cap2, .int .i64 C.wrong], .int .i64 link]) ?_ ?_
      · simp only [execOp]
        go_simp
      · refine (IsLink_to (r := is) (by exact HIS.out) hn hs.st).mono ?_
        rintro e W' ⟨rfl, hbk⟩
        exact ⟨_, rfl, hbk, rfl⟩
    · obtain rfl : 16 = d := by simpa using hd
      have q12 : ac.tmps[12]?.getD undef = .agg #[.slice a C.deeds.length cap, .slice a2 C.sights.length cap2, .int .i64 C.wrong] := (eval_tmp _ _).symm.trans (hdep 0 12 rfl rfl)
      have q15 : ac.tmps[15]?.getD undef = .bool is := (eval_tmp _ _).symm.trans (hdep 3 15 rfl rfl)
      refine fact_call rfl rfl rfl (f := 76) (args := #[.agg #[.slice a C.deeds.length cap, .slice a2 C.sights.length cap2, .int .i64 C.wrong], .bool is]) ?_ ?_
      · simp only [execOp]
        go_simp
      · refine (known_any _ is C W hs.st).mono ?_
        rintro e W' ⟨q, rfl, hls, hbk⟩
        rw [HTR.out] at hls
        exact ⟨.tuple #[q, .int .i64 E], by rw [HE.out], hbk, q, rfl, hls.lower (Nat.zero_le _)⟩
    · obtain rfl : 11 = d := by simpa using hd
      have q16 : ∃ q, (ac.tmps[16]?.getD undef) = .tuple #[q, .int .i64 E] ∧ ListsAt W 0 q TR := eval_tmp ac _ ▸ hdep 4 16 rfl rfl
      refine fact_value rfl rfl rfl (v := _) (W' := W) ?_ (Below.refl _ _) q16
      simp only [execOp]
      go_simp
    · obtain rfl : 17 = d := by simpa using hd
      have q11 : ∃ q, (ac.tmps[11]?.getD undef) = .tuple #[q, .int .i64 E] ∧ ListsAt W 0 q TR := eval_tmp ac _ ▸ hdep 5 11 rfl rfl
      obtain ⟨q, h1, h2⟩ := q11
      refine fact_value rfl rfl rfl (v := q) (W' := W) ?_ (Below.refl _ _) h2
      simp only [execOp]
      go_simp
    · obtain rfl : 18 = d := by simpa using hd
      have q11 : ∃ q, (ac.tmps[11]?.getD undef) = .tuple #[q, .int .i64 E] ∧ ListsAt W 0 q TR := eval_tmp ac _ ▸ hdep 5 11 rfl rfl
      obtain ⟨q, h1, h2⟩ := q11
      refine fact_value rfl rfl rfl (v := .int .i64 E) (W' := W) ?_ (Below.refl _ _) rfl
      simp only [execOp]
      go_simp
    · obtain rfl : 6 = d := by simpa using hd
      have q17 : ListsAt W 0 (ac.tmps[17]?.getD undef) TR := eval_tmp ac _ ▸ hdep 6 17 rfl rfl
      refine fact_value rfl rfl rfl (v := _) (W' := W) ?_ (Below.refl _ _) q17
      simp only [execOp]
      go_simp
    · obtain rfl : 7 = d := by simpa using hd
      have q18 : ac.tmps[18]?.getD undef = .int .i64 E := (eval_tmp _ _).symm.trans (hdep 7 18 rfl rfl)
      refine fact_value rfl rfl rfl (v := .int .i64 E) (W' := W) ?_ (Below.refl _ _) rfl
      simp only [execOp]
      go_simp
  case rest =>
    intro vs w1 hvl hb1 hval
    obtain ⟨y0, y1, y2, y3, y4, y5, y6, y7, y8, y9, rfl⟩ : ∃ y0 y1 y2 y3 y4 y5 y6 y7 y8 y9, vs = [y0, y1, y2, y3, y4, y5, y6, y7, y8, y9] := by
      match vs, hvl with
      | [y0, y1, y2, y3, y4, y5, y6, y7, y8, y9], _ => exact ⟨y0, y1, y2, y3, y4, y5, y6, y7, y8, y9, rfl⟩
    obtain rfl : y0 = .agg #[.slice a C.deeds.length cap, .slice a2 C.sights.length cap2, .int .i64 C.wrong] := by obtain ⟨u, e, h⟩ := hval 0 (by omega); have e2 : some y0 = some u := e; injection e2 with e2; subst e2; exact h
    obtain rfl : y1 = .agg #[.slice a C.deeds.length cap, .slice a2 C.sights.length cap2, .int .i64 C.wrong] := by obtain ⟨u, e, h⟩ := hval 1 (by omega); have e2 : some y1 = some u := e; injection e2 with e2; subst e2; exact h
    obtain rfl : y2 = .int .i64 link := by obtain ⟨u, e, h⟩ := hval 2 (by omega); have e2 : some y2 = some u := e; injection e2 with e2; subst e2; exact h
    obtain rfl : y3 = .bool is := by obtain ⟨u, e, h⟩ := hval 3 (by omega); have e2 : some y3 = some u := e; injection e2 with e2; subst e2; exact h
    have k4 : ∃ q, y4 = .tuple #[q, .int .i64 E] ∧ ListsAt w1 0 q TR := by obtain ⟨u, e, h⟩ := hval 4 (by omega); have e2 : some y4 = some u := e; injection e2 with e2; subst e2; exact h
    have k5 : ∃ q, y5 = .tuple #[q, .int .i64 E] ∧ ListsAt w1 0 q TR := by obtain ⟨u, e, h⟩ := hval 5 (by omega); have e2 : some y5 = some u := e; injection e2 with e2; subst e2; exact h
    have k6 : ListsAt w1 0 y6 TR := by obtain ⟨u, e, h⟩ := hval 6 (by omega); have e2 : some y6 = some u := e; injection e2 with e2; subst e2; exact h
    obtain rfl : y7 = .int .i64 E := by obtain ⟨u, e, h⟩ := hval 7 (by omega); have e2 : some y7 = some u := e; injection e2 with e2; subst e2; exact h
    have k8 : ListsAt w1 0 y8 TR := by obtain ⟨u, e, h⟩ := hval 8 (by omega); have e2 : some y8 = some u := e; injection e2 with e2; subst e2; exact h
    obtain rfl : y9 = .int .i64 E := by obtain ⟨u, e, h⟩ := hval 9 (by omega); have e2 : some y9 = some u := e; injection e2 with e2; subst e2; exact h
    clear hval hvl
    have HS1 := Lib.hid (HS0.out.next hb1)
    have HT1 := Lib.hid ((hb1.block (w.heap.size + 1) (heap_lt HT0.out)).trans HT0.out)
    obtain ⟨q4, rfl, _⟩ := k4
    obtain ⟨q5, hq5, _⟩ := k5
    subst hq5
    obtain ⟨_, _, l2, _⟩ := (show ∃ vs : List Value, vs.length = TR.length ∧ w1.ownsRow 0 33 1 y8 TR.length vs ∧ True from by obtain ⟨vs, l1, l2, _⟩ := k8; exact ⟨vs, l1, l2, trivial⟩)
    obtain ⟨qA, qc, rfl, _⟩ := own_form l2
    have HLS := Lib.hid k8
    rw [HTT.out] at HLS ⊢
    have hsz1 := hb1.size
    clear l2 k6 k8 hb1
    simp only [putL, Act.put, List.drop, List.setIfInBounds_toArray, List.set_cons_zero, List.set_cons_succ]
    obtain ⟨c0, c1, c2⟩ := HS1.out.cells
    have hs1 := HS1.out.b.size
    have ht1 := heap_lt HT1.out
    go_wp2_with fail
    go_loopw [9] (fun i wr => ∃ k : Nat, k ≤ T ∧ i = .int .i64 k ∧ Hid (Below w1.heap.size w1 wr) ∧ Hid (wr.heap[w1.heap.size]? = some (.cells #[.int .i64 (loL ((TR.take k).map (timesOf C link))), .int .i64 (hiL ((TR.take k).map (timesOf C link)))] 42))) (fun i _ => T - (intOf i).toNat)
    case atStart => exact ⟨0, Nat.zero_le _, rfl, (Below.refl _ _).alloc (Nat.le_refl _) _, heap_new _ _⟩
    case round =>
      obtain ⟨k, hk, rfl, hbl, hz⟩ := hrel
      clear c0 c1 c2
      have HSR := Lib.hid (HS1.out.next hbl.out)
      obtain ⟨c0, c1, c2⟩ := HSR.out.cells
      have hsr := hbl.out.size
      by_cases hlt : k < T
      · obtain ⟨hv, hi⟩ := HKV.out (by omega)
        have hV' := valid_iff.1 hv
        have hnd := hV'.nd
        obtain ⟨lg, lc, _, hq, _, _⟩ := HLS.out.get (i := k) (by rw [HTT.out]; omega)
        injection hq with hq1 hq2 hq3
        clear hq2
        subst hq1 hq3
        obtain ⟨x, hcell, hrow⟩ := (HLS.out.below hbl.out).row (i := k) (by rw [HTT.out]; omega)
        obtain ⟨hxl, hxi⟩ := HAT0.out k hlt
        obtain ⟨xA, xc, rfl, _⟩ := own_form hrow
        rw [hxl] at hcell hrow
        obtain ⟨y, hy⟩ : ∃ y, timesOf C link (xnth TR k) = y := ⟨_, rfl⟩
        have HY := Lib.hid hy
        have HV := Lib.hid hv
        have HV2 := Lib.hid hV'
        have HXR := Lib.hid hrow
        have HXL := Lib.hid hxl
        have HXI := Lib.hid hxi
        have hcl := block_lt_of_cell hcell
        have HCE := Lib.hid hcell
        have hk0 : (0 : Int) ≤ (k : Nat) := by omega
        have hk1 : ((k : Nat) : Int) < (T : Int) := by omega
        have HPL := Lib.hid (show ((provTo C.deeds (xnth TR k) link C.deeds.length).length : Int) = y by rw [provTo_len]; exact hy)
        obtain ⟨PV, hPV⟩ : ∃ PV, provTo C.deeds (xnth TR k) link C.deeds.length = PV := ⟨_, rfl⟩
        rw [hPV] at HPL
        have HPV := Lib.hid hPV
        obtain ⟨lo, hlo⟩ : ∃ lo, loL ((TR.take k).map (timesOf C link)) = lo := ⟨_, rfl⟩
        obtain ⟨hi', hhi⟩ : ∃ hi', hiL ((TR.take k).map (timesOf C link)) = hi' := ⟨_, rfl⟩
        rw [hlo, hhi] at hz
        have HNN := Lib.hid (show (TR.take (k + 1)).map (timesOf C link) = (TR.take k).map (timesOf C link) ++ [y] by rw [map_take_snoc (by rw [HTT.out]; exact hlt), ← hy])
        have HN1 := Lib.hid (fun (h : k ≠ 0) => show loL ((TR.take (k + 1)).map (timesOf C link)) = min lo y ∧ hiL ((TR.take (k + 1)).map (timesOf C link)) = max hi' y by
          have hne : (TR.take k).map (timesOf C link) ≠ [] := fun e => by
            have e2 := congrArg List.length e
            rw [List.length_map, List.length_take, HTT.out] at e2
            simp at e2
            omega
          rw [HNN.out, loL_snoc hne, hiL_snoc hne, hlo, hhi]
          exact ⟨rfl, rfl⟩)
        have HN0 := Lib.hid (fun (h : k = 0) => show loL ((TR.take (k + 1)).map (timesOf C link)) = y ∧ hiL ((TR.take (k + 1)).map (timesOf C link)) = y by
          rw [HNN.out, h]
          exact ⟨rfl, rfl⟩)
        clear hv hi hV' hcell hrow hxl hxi hy hPV hlo hhi hnd HNN
        go_upto_region 6 with fail
        clear c0 c1 c2
        refine wp_region_facts _ 8 [25, 26, 27, 28, 29, 30, 31, 32] [isV (.agg #[.slice a C.deeds.length cap, .slice a2 C.sights.length cap2, .int .i64 C.wrong]), isV (.slice (some ⟨lg, 0, none⟩) T qc), isV (.int .i64 (k : Int)), isV (.pointer (some ⟨lg, k, none⟩)), isV (.slice xA C.deeds.length xc), isV (.int .i64 link), ⟨fun v W => ∃ A c, v = .slice A PV.length c, fun _ _ _ h _ => h⟩, isV (.int .i64 y)] (by kernel_rfl) (by kernel_rfl) (by kernel_rfl) rfl (by decide) (by decide) (by simp) ?step ?rest
        case step =>
          intro i ac W d hi hd hb hoff hdep
          have hs := HSR.out.next hb
          obtain ⟨c0, c1, c2⟩ := hs.cells
          have hcell := (hb.cell hcl).trans HCE.out
          have hi2 : i = 0 ∨ i = 1 ∨ i = 2 ∨ i = 3 ∨ i = 4 ∨ i = 5 ∨ i = 6 ∨ i = 7 := by omega
          rcases hi2 with rfl | rfl | rfl | rfl | rfl | rfl | rfl | rfl
          · obtain rfl : 25 = d := by simpa using hd
            have q2 : ac.tmps[2]?.getD undef = .pointer (some ⟨w.heap.size, 0, none⟩) := (eval_tmp _ _).symm.trans <| (hoff 2 (by decide)).trans rfl
            refine fact_value rfl rfl rfl (v := .agg #[.slice a C.deeds.length cap, .slice a2 C.sights.length cap2, .int .i64 C.wrong]) (W' := W) ?_ (Below.refl _ _) rfl
            simp only [execOp]
            go_simp
          · obtain rfl : 26 = d := by simpa using hd
            have q6 : ac.tmps[6]?.getD undef = .slice (some ⟨lg, 0, none⟩) T qc := (eval_tmp _ _).symm.trans <| (hoff 6 (by decide)).trans rfl
            refine fact_value rfl rfl rfl (v := .slice (some ⟨lg, 0, none⟩) T qc) (W' := W) ?_ (Below.refl _ _) rfl
            simp only [execOp]
            go_simp
          · obtain rfl : 27 = d := by simpa using hd
            have q9 : ac.tmps[9]?.getD undef = .int .i64 (k : Int) := (eval_tmp _ _).symm.trans <| (hoff 9 (by decide)).trans rfl
            refine fact_value rfl rfl rfl (v := .int .i64 (k : Int)) (W' := W) ?_ (Below.refl _ _) rfl
            simp only [execOp]
            go_simp
          · obtain rfl : 28 = d := by simpa using hd
            have q26 : ac.tmps[26]?.getD undef = .slice (some ⟨lg, 0, none⟩) T qc := (eval_tmp _ _).symm.trans (hdep 1 26 rfl rfl)
            have q27 : ac.tmps[27]?.getD undef = .int .i64 (k : Int) := (eval_tmp _ _).symm.trans (hdep 2 27 rfl rfl)
            refine fact_value rfl rfl rfl (v := .pointer (some ⟨lg, k, none⟩)) (W' := W) ?_ (Below.refl _ _) rfl
            simp only [execOp]
            go_simp
          · obtain rfl : 29 = d := by simpa using hd
            have q28 : ac.tmps[28]?.getD undef = .pointer (some ⟨lg, k, none⟩) := (eval_tmp _ _).symm.trans (hdep 3 28 rfl rfl)
            refine fact_value rfl rfl rfl (v := .slice xA C.deeds.length xc) (W' := W) ?_ (Below.refl _ _) rfl
            simp only [execOp]
            go_simp
          · obtain rfl : 30 = d := by simpa using hd
            have q1 : ac.tmps[1]?.getD undef = .int .i64 link := (eval_tmp _ _).symm.trans <| (hoff 1 (by decide)).trans rfl
            refine fact_value rfl rfl rfl (v := .int .i64 link) (W' := W) ?_ (Below.refl _ _) rfl
            simp only [execOp]
            go_simp
          · obtain rfl : 31 = d := by simpa using hd
            have q25 : ac.tmps[25]?.getD undef = .agg #[.slice a C.deeds.length cap, .slice a2 C.sights.length cap2, .int .i64 C.wrong] := (eval_tmp _ _).symm.trans (hdep 0 25 rfl rfl)
            have q29 : ac.tmps[29]?.getD undef = .slice xA C.deeds.length xc := (eval_tmp _ _).symm.trans (hdep 4 29 rfl rfl)
            have q30 : ac.tmps[30]?.getD undef = .int .i64 link := (eval_tmp _ _).symm.trans (hdep 5 30 rfl rfl)
            refine fact_call rfl rfl rfl (f := 52) (args := #[.agg #[.slice a C.deeds.length cap, .slice a2 C.sights.length cap2, .int .i64 C.wrong], .slice xA C.deeds.length xc, .int .i64 link]) ?_ ?_
            · simp only [execOp]
              go_simp
            · refine (Proved_any _ _ C (xnth TR k) link W HV.out HXL.out hs.st ((HXR.out.below hb).ints HXI.out)).mono ?_
              rintro e W' ⟨q, rfl, hls, hbk⟩
              rw [HPV.out] at hls
              obtain ⟨pA, pc, rfl, _⟩ := own_form hls
              exact ⟨_, rfl, hbk, pA, pc, rfl⟩
          · obtain rfl : 32 = d := by simpa using hd
            have q31 : ∃ A c, (ac.tmps[31]?.getD undef) = .slice A PV.length c := eval_tmp ac _ ▸ hdep 6 31 rfl rfl
            obtain ⟨pA, pc, h1⟩ := q31
            refine fact_value rfl rfl rfl (v := .int .i64 y) (W' := W) ?_ (Below.refl _ _) rfl
            rw [← HPL.out]
            simp only [execOp]
            go_simp
        case rest =>
          intro vs W2 hvl hbx hval
          obtain ⟨z0, z1, z2, z3, z4, z5, z6, z7, rfl⟩ : ∃ z0 z1 z2 z3 z4 z5 z6 z7, vs = [z0, z1, z2, z3, z4, z5, z6, z7] := by
            match vs, hvl with
            | [z0, z1, z2, z3, z4, z5, z6, z7], _ => exact ⟨z0, z1, z2, z3, z4, z5, z6, z7, rfl⟩
          obtain rfl : z0 = .agg #[.slice a C.deeds.length cap, .slice a2 C.sights.length cap2, .int .i64 C.wrong] := by obtain ⟨u, e, h⟩ := hval 0 (by omega); have e2 : some z0 = some u := e; injection e2 with e2; subst e2; exact h
          obtain rfl : z1 = .slice (some ⟨lg, 0, none⟩) T qc := by obtain ⟨u, e, h⟩ := hval 1 (by omega); have e2 : some z1 = some u := e; injection e2 with e2; subst e2; exact h
          obtain rfl : z2 = .int .i64 (k : Int) := by obtain ⟨u, e, h⟩ := hval 2 (by omega); have e2 : some z2 = some u := e; injection e2 with e2; subst e2; exact h
          obtain rfl : z3 = .pointer (some ⟨lg, k, none⟩) := by obtain ⟨u, e, h⟩ := hval 3 (by omega); have e2 : some z3 = some u := e; injection e2 with e2; subst e2; exact h
          obtain rfl : z4 = .slice xA C.deeds.length xc := by obtain ⟨u, e, h⟩ := hval 4 (by omega); have e2 : some z4 = some u := e; injection e2 with e2; subst e2; exact h
          obtain rfl : z5 = .int .i64 link := by obtain ⟨u, e, h⟩ := hval 5 (by omega); have e2 : some z5 = some u := e; injection e2 with e2; subst e2; exact h
          have k6 : ∃ A c, z6 = .slice A PV.length c := by obtain ⟨u, e, h⟩ := hval 6 (by omega); have e2 : some z6 = some u := e; injection e2 with e2; subst e2; exact h
          obtain rfl : z7 = .int .i64 y := by obtain ⟨u, e, h⟩ := hval 7 (by omega); have e2 : some z7 = some u := e; injection e2 with e2; subst e2; exact h
          clear hval hvl
          have HBX := Lib.hid hbx
          have hsx := hbx.size
          have HZ := Lib.hid ((hbx.block _ (heap_lt hz.out)).trans hz.out)
          have hz2 := heap_lt HZ.out
          clear k6 hbx hz
          simp only [putL, Act.put, List.drop, List.setIfInBounds_toArray, List.set_cons_zero, List.set_cons_succ]
          obtain ⟨r0, r1, rf0, rf1⟩ := cell2f HZ.out
          by_cases hk00 : k = 0
          · have HN := Lib.hid (HN0.out hk00)
            have e1 : (((k : Nat) : Int) == 0) = true := by simp [hk00]
            have HK0 := Lib.hid hk00
            clear hk00
            have HB3 := Lib.hid (hbl.out.trans (HBX.out.mono hsr))
            go_wp2
            exact ⟨⟨k + 1, by omega, by go_num, below_setCell (below_setCell (below_setCell (below_setCell HB3.out (Nat.le_refl _)) (Nat.le_refl _)) (Nat.le_refl _)) (Nat.le_refl _), by rw [HN.out.1, HN.out.2]; exact (heap_setCell_same (heap_setCell_same (heap_setCell_same (heap_setCell_same HZ.out)))).trans rfl⟩, by simp [intOf]; omega⟩
          · have HN := Lib.hid (HN1.out hk00)
            have e1 : (((k : Nat) : Int) == 0) = false := by simp; omega
            have HK0 := Lib.hid hk00
            clear hk00
            have HB3 := Lib.hid (hbl.out.trans (HBX.out.mono hsr))
            go_wp2
            exact ⟨⟨k + 1, by omega, by go_num, below_setCell (below_setCell HB3.out (Nat.le_refl _)) (Nat.le_refl _), by rw [HN.out.1, HN.out.2]; exact (heap_setCell_same (heap_setCell_same HZ.out)).trans rfl⟩, by simp [intOf]; omega⟩
      · obtain rfl : T = k := by omega
        have HALL := Lib.hid (show (TR.take T).map (timesOf C link) = TR.map (timesOf C link) by rw [List.take_of_length_le (by rw [HTT.out]; exact Nat.le_refl _)])
        rw [HALL.out] at hz
        rw [HLO.out, HHI.out] at hz
        have HTR2 := Lib.hid ((hbl.out.block (w.heap.size + 1) ht1).trans HT1.out)
        have hzl := heap_lt hz.out
        obtain ⟨r0, r1, rf0, rf1⟩ := cell2f hz.out
        obtain ⟨s0, s1, sf0, sf1⟩ := cell2f HTR2.out
        have HB3 := Lib.hid HSR.out.b
        have hw3 := HB3.out.size
        go_wp2
        have hxx : ((wr.setCell ⟨w.heap.size + 1, 0, none⟩ (.int .i64 LO)).setCell ⟨w.heap.size + 1, 1, none⟩ (.int .i64 HIG)).heap[w.heap.size + 1]? = some (.cells #[.int .i64 LO, .int .i64 HIG] 42) := by
          rw [heap_setCell_same (heap_setCell_same HTR2.out)]; rfl
        have y0' : ((wr.setCell ⟨w.heap.size + 1, 0, none⟩ (.int .i64 LO)).setCell ⟨w.heap.size + 1, 1, none⟩ (.int .i64 HIG)).cell? ⟨w.heap.size + 1, 0, none⟩ = some (.int .i64 LO) := cells_of (i := 0) hxx rfl
        have y1' : ((wr.setCell ⟨w.heap.size + 1, 0, none⟩ (.int .i64 LO)).setCell ⟨w.heap.size + 1, 1, none⟩ (.int .i64 HIG)).cell? ⟨w.heap.size + 1, 1, none⟩ = some (.int .i64 HIG) := cells_of (i := 1) hxx rfl
        clear hxx
        refine bodyPost_ret (v := .tuple #[.agg #[.int .i64 LO, .int .i64 HIG], .int .i64 E]) (by simp [results, Try.results35, go_sem, y0', y1']) rfl ⟨rfl, ?_⟩
        exact below_setCell (below_setCell HB3.out (by omega)) (by omega)

end Go.Proofs.Ytgjikoebneiamaa

namespace Go.Proofs.Ytgjikoebneiamaa
open Go.RowKit Go.Shelf

/-- In how many of some truths two places have one bar. -/
def cntL (C : Chain) (a b : Nat) (l : List (List Int)) : Nat := (l.filter (fun e => decide (barOf C a e = barOf C b e))).length
theorem cntL_snoc (C : Chain) (a b : Nat) (l : List (List Int)) (e : List Int) : cntL C a b (l ++ [e]) = cntL C a b l + if barOf C a e = barOf C b e then 1 else 0 := by
  simp only [cntL, List.filter_append, List.length_append]
  by_cases h : barOf C a e = barOf C b e
  · simp [h]
  · simp [h]
theorem cntL_le (C : Chain) (a b : Nat) (l : List (List Int)) : cntL C a b l ≤ l.length := List.length_filter_le _ _
/-- What the reference says of two places. -/
def alikeR (C : Chain) (x y : Int) : Int :=
  if knownE C (placeB C x && placeB C y) = 0 then
    (if cntL C x.toNat y.toNat (knownL C (placeB C x && placeB C y)) = (knownL C (placeB C x && placeB C y)).length then 1
     else if cntL C x.toNat y.toNat (knownL C (placeB C x && placeB C y)) = 0 then 2 else 3)
  else 0
theorem known_same {C : Chain} {x y : Int} : knownL C ((deedsOk C.deeds && placeB C x) && (deedsOk C.deeds && placeB C y)) = knownL C (placeB C x && placeB C y) ∧ knownE C ((deedsOk C.deeds && placeB C x) && (deedsOk C.deeds && placeB C y)) = knownE C (placeB C x && placeB C y) :=
  known_is (fun h => by rw [place_is h, place_is h])

theorem place_nat {C : Chain} {p : Nat} (h : placeB C (p : Int) = true) : (p : Int) < lenTo C.deeds C.deeds.length := by
  have := wB_iff.1 h
  omega

set_option maxRecDepth 100000 in
set_option maxHeartbeats 8000000 in
theorem rAlike_no (v : Value) (C : Chain) (x y : Int) (w : World) (hn : C.deeds.length ≤ 40) (h0 : knownE C (placeB C x && placeB C y) ≠ 0) (hx : ChainAt w.heap.size w v C) :
    Calls Try.prog 39 #[v, .int .i64 x, .int .i64 y] w fun e w' => e = .returned (.tuple #[.int .i64 0, .int .i64 (knownE C (placeB C x && placeB C y))]) ∧ Below w.heap.size w w' := by
  have HK := Lib.hid (known_same (C := C) (x := x) (y := y))
  rw [← HK.out.2] at h0 ⊢
  cases h1 : (deedsOk C.deeds && placeB C x)
  case false =>
    rw [h1, Bool.false_and] at h0
    have HI1 := Lib.hid h1
    obtain ⟨TR, hTR⟩ : ∃ TR, knownL C false = TR := ⟨_, rfl⟩
    obtain ⟨E, hE⟩ : ∃ E, knownE C false = E := ⟨_, rfl⟩
    rw [hE] at h0
    rw [Bool.false_and, hE]
    have HTR := Lib.hid hTR
    have HE := Lib.hid hE
    have he0 : (E != 0) = true := by simpa using h0
    have he1 : (E == 0) = false := by simpa using h0
    clear hTR hE h1
    have hx' := hx
    obtain ⟨a, cap, b, off, a2, cap2, b2, off2, rfl, hm, hm2, hcap, hcapm, HA, HC, HA2, HC2, HI, HI2⟩ := hx.opened
    have HS0 := Lib.hid (LStat.first hx')
    obtain ⟨c0, c1, c2⟩ := HS0.out.cells
    clear hx hx' HA HC HA2 HC2 HI HI2
    go_enter Try.func39, Try.ntmps39
    go_upto_region 1 with fail
    clear c0 c1 c2
    refine wp_region_facts _ 15 [13, 14, 15, 16, 17, 18, 19, 20, 21, 22, 12, 23, 24, 8, 9] [isV (.agg #[.slice a C.deeds.length cap, .slice a2 C.sights.length cap2, .int .i64 C.wrong]), isV (.agg #[.slice a C.deeds.length cap, .slice a2 C.sights.length cap2, .int .i64 C.wrong]), isV (.int .i64 x), isV (.bool false), isV (.bool false), isV (undef), isV (undef), isV (undef), isV (.bool false), ⟨fun v W => ∃ q, v = .tuple #[q, .int .i64 E] ∧ ListsAt W 0 q TR, fun _ _ _ ⟨q, h1, h2⟩ hb => ⟨q, h1, h2.below hb⟩⟩, ⟨fun v W => ∃ q, v = .tuple #[q, .int .i64 E] ∧ ListsAt W 0 q TR, fun _ _ _ ⟨q, h1, h2⟩ hb => ⟨q, h1, h2.below hb⟩⟩, ⟨fun v W => ListsAt W 0 v TR, fun _ _ _ h hb => h.below hb⟩, isV (.int .i64 E), ⟨fun v W => ListsAt W 0 v TR, fun _ _ _ h hb => h.below hb⟩, isV (.int .i64 E)] (by kernel_rfl) (by kernel_rfl) (by kernel_rfl) rfl (by decide) (by decide) (by simp) ?step ?rest
    case step =>
      intro i ac W d hi hd hb hoff hdep
      have hs := HS0.out.next hb
      obtain ⟨c0, c1, c2⟩ := hs.cells
      have hi2 : i = 0 ∨ i = 1 ∨ i = 2 ∨ i = 3 ∨ i = 4 ∨ i = 5 ∨ i = 6 ∨ i = 7 ∨ i = 8 ∨ i = 9 ∨ i = 10 ∨ i = 11 ∨ i = 12 ∨ i = 13 ∨ i = 14 := by omega
      rcases hi2 with rfl | rfl | rfl | rfl | rfl | rfl | rfl | rfl | rfl | rfl | rfl | rfl | rfl | rfl | rfl
      · obtain rfl : 13 = d := by simpa using hd
        have q3 : ac.tmps[3]?.getD undef = .pointer (some ⟨w.heap.size, 0, none⟩) := (eval_tmp _ _).symm.trans <| (hoff 3 (by decide)).trans rfl
        refine fact_value rfl rfl rfl (v := .agg #[.slice a C.deeds.length cap, .slice a2 C.sights.length cap2, .int .i64 C.wrong]) (W' := W) ?_ (Below.refl _ _) rfl
        simp only [execOp]
        go_simp
      · obtain rfl : 14 = d := by simpa using hd
        have q3 : ac.tmps[3]?.getD undef = .pointer (some ⟨w.heap.size, 0, none⟩) := (eval_tmp _ _).symm.trans <| (hoff 3 (by decide)).trans rfl
        refine fact_value rfl rfl rfl (v := .agg #[.slice a C.deeds.length cap, .slice a2 C.sights.length cap2, .int .i64 C.wrong]) (W' := W) ?_ (Below.refl _ _) rfl
        simp only [execOp]
        go_simp
      · obtain rfl : 15 = d := by simpa using hd
        have q1 : ac.tmps[1]?.getD undef = .int .i64 x := (eval_tmp _ _).symm.trans <| (hoff 1 (by decide)).trans rfl
        refine fact_value rfl rfl rfl (v := .int .i64 x) (W' := W) ?_ (Below.refl _ _) rfl
        simp only [execOp]
        go_simp
      · obtain rfl : 16 = d := by simpa using hd
        have q14 : ac.tmps[14]?.getD undef = .agg #[.slice a C.deeds.length cap, .slice a2 C.sights.length cap2, .int .i64 C.wrong] := (eval_tmp _ _).symm.trans (hdep 1 14 rfl rfl)
        have q15 : ac.tmps[15]?.getD undef = .int .i64 x := (eval_tmp _ _).symm.trans (hdep 2 15 rfl rfl)
        refine fact_call rfl rfl rfl (f := 53) (args := #[.agg #[.slice a C.deeds.length cap, .slice a2 C.sights.length cap2, .int .i64 C.wrong], .int .i64 x]) ?_ ?_
        · simp only [execOp]
          go_simp
        · refine (IsPlace_40 _ C _ W hn hs.st).mono ?_
          rintro e W' ⟨rfl, hbk⟩
          exact ⟨_, rfl, hbk, by rw [HI1.out]; rfl⟩
      · obtain rfl : 17 = d := by simpa using hd
        have q16 : ac.tmps[16]?.getD undef = .bool false := (eval_tmp _ _).symm.trans (hdep 3 16 rfl rfl)
        refine fact_value rfl rfl rfl (v := .bool false) (W' := W) ?_ (Below.refl _ _) rfl
        simp only [execOp]
        go_simp
      · obtain rfl : 18 = d := by simpa using hd
        have q17 : ac.tmps[17]?.getD undef = .bool false := (eval_tmp _ _).symm.trans (hdep 4 17 rfl rfl)
        exact fact_off rfl (wants_off (t := 17) rfl rfl q17) rfl rfl
      · obtain rfl : 19 = d := by simpa using hd
        have q17 : ac.tmps[17]?.getD undef = .bool false := (eval_tmp _ _).symm.trans (hdep 4 17 rfl rfl)
        exact fact_off rfl (wants_off (t := 17) rfl rfl q17) rfl rfl
      · obtain rfl : 20 = d := by simpa using hd
        have q17 : ac.tmps[17]?.getD undef = .bool false := (eval_tmp _ _).symm.trans (hdep 4 17 rfl rfl)
        exact fact_off rfl (wants_off (t := 17) rfl rfl q17) rfl rfl
      · obtain rfl : 21 = d := by simpa using hd
        have q17 : ac.tmps[17]?.getD undef = .bool false := (eval_tmp _ _).symm.trans (hdep 4 17 rfl rfl)
        have q20 : ac.tmps[20]?.getD undef = undef := (eval_tmp _ _).symm.trans (hdep 7 20 rfl rfl)
        refine fact_value rfl rfl rfl (v := .bool false) (W' := W) ?_ (Below.refl _ _) rfl
        simp only [execOp]
        go_simp
      · obtain rfl : 22 = d := by simpa using hd
        have q13 : ac.tmps[13]?.getD undef = .agg #[.slice a C.deeds.length cap, .slice a2 C.sights.length cap2, .int .i64 C.wrong] := (eval_tmp _ _).symm.trans (hdep 0 13 rfl rfl)
        have q21 : ac.tmps[21]?.getD undef = .bool false := (eval_tmp _ _).symm.trans (hdep 8 21 rfl rfl)
        refine fact_call rfl rfl rfl (f := 76) (args := #[.agg #[.slice a C.deeds.length cap, .slice a2 C.sights.length cap2, .int .i64 C.wrong], .bool false]) ?_ ?_
        · simp only [execOp]
          go_simp
        · refine (known_any _ false C W hs.st).mono ?_
          rintro e W' ⟨q, rfl, hls, hbk⟩
          rw [HTR.out] at hls
          exact ⟨.tuple #[q, .int .i64 E], by rw [HE.out], hbk, q, rfl, hls.lower (Nat.zero_le _)⟩
      · obtain rfl : 12 = d := by simpa using hd
        have q22 : ∃ q, (ac.tmps[22]?.getD undef) = .tuple #[q, .int .i64 E] ∧ ListsAt W 0 q TR := eval_tmp ac _ ▸ hdep 9 22 rfl rfl
        refine fact_value rfl rfl rfl (v := _) (W' := W) ?_ (Below.refl _ _) q22
        simp only [execOp]
        go_simp
      · obtain rfl : 23 = d := by simpa using hd
        have q12 : ∃ q, (ac.tmps[12]?.getD undef) = .tuple #[q, .int .i64 E] ∧ ListsAt W 0 q TR := eval_tmp ac _ ▸ hdep 10 12 rfl rfl
        obtain ⟨q, h1, h2⟩ := q12
        refine fact_value rfl rfl rfl (v := q) (W' := W) ?_ (Below.refl _ _) h2
        simp only [execOp]
        go_simp
      · obtain rfl : 24 = d := by simpa using hd
        have q12 : ∃ q, (ac.tmps[12]?.getD undef) = .tuple #[q, .int .i64 E] ∧ ListsAt W 0 q TR := eval_tmp ac _ ▸ hdep 10 12 rfl rfl
        obtain ⟨q, h1, h2⟩ := q12
        refine fact_value rfl rfl rfl (v := .int .i64 E) (W' := W) ?_ (Below.refl _ _) rfl
        simp only [execOp]
        go_simp
      · obtain rfl : 8 = d := by simpa using hd
        have q23 : ListsAt W 0 (ac.tmps[23]?.getD undef) TR := eval_tmp ac _ ▸ hdep 11 23 rfl rfl
        refine fact_value rfl rfl rfl (v := _) (W' := W) ?_ (Below.refl _ _) q23
        simp only [execOp]
        go_simp
      · obtain rfl : 9 = d := by simpa using hd
        have q24 : ac.tmps[24]?.getD undef = .int .i64 E := (eval_tmp _ _).symm.trans (hdep 12 24 rfl rfl)
        refine fact_value rfl rfl rfl (v := .int .i64 E) (W' := W) ?_ (Below.refl _ _) rfl
        simp only [execOp]
        go_simp
    case rest =>
      intro vs w1 hvl hb1 hval
      obtain ⟨y0, y1, y2, y3, y4, y5, y6, y7, y8, y9, y10, y11, y12, y13, y14, rfl⟩ : ∃ y0 y1 y2 y3 y4 y5 y6 y7 y8 y9 y10 y11 y12 y13 y14, vs = [y0, y1, y2, y3, y4, y5, y6, y7, y8, y9, y10, y11, y12, y13, y14] := by
        match vs, hvl with
        | [y0, y1, y2, y3, y4, y5, y6, y7, y8, y9, y10, y11, y12, y13, y14], _ => exact ⟨y0, y1, y2, y3, y4, y5, y6, y7, y8, y9, y10, y11, y12, y13, y14, rfl⟩
      obtain rfl : y0 = .agg #[.slice a C.deeds.length cap, .slice a2 C.sights.length cap2, .int .i64 C.wrong] := by obtain ⟨u, e, h⟩ := hval 0 (by omega); have e2 : some y0 = some u := e; injection e2 with e2; subst e2; exact h
      obtain rfl : y1 = .agg #[.slice a C.deeds.length cap, .slice a2 C.sights.length cap2, .int .i64 C.wrong] := by obtain ⟨u, e, h⟩ := hval 1 (by omega); have e2 : some y1 = some u := e; injection e2 with e2; subst e2; exact h
      obtain rfl : y2 = .int .i64 x := by obtain ⟨u, e, h⟩ := hval 2 (by omega); have e2 : some y2 = some u := e; injection e2 with e2; subst e2; exact h
      obtain rfl : y3 = .bool false := by obtain ⟨u, e, h⟩ := hval 3 (by omega); have e2 : some y3 = some u := e; injection e2 with e2; subst e2; exact h
      obtain rfl : y4 = .bool false := by obtain ⟨u, e, h⟩ := hval 4 (by omega); have e2 : some y4 = some u := e; injection e2 with e2; subst e2; exact h
      obtain rfl : y5 = undef := by obtain ⟨u, e, h⟩ := hval 5 (by omega); have e2 : some y5 = some u := e; injection e2 with e2; subst e2; exact h
      obtain rfl : y6 = undef := by obtain ⟨u, e, h⟩ := hval 6 (by omega); have e2 : some y6 = some u := e; injection e2 with e2; subst e2; exact h
      obtain rfl : y7 = undef := by obtain ⟨u, e, h⟩ := hval 7 (by omega); have e2 : some y7 = some u := e; injection e2 with e2; subst e2; exact h
      obtain rfl : y8 = .bool false := by obtain ⟨u, e, h⟩ := hval 8 (by omega); have e2 : some y8 = some u := e; injection e2 with e2; subst e2; exact h
      have k9 : ∃ q, y9 = .tuple #[q, .int .i64 E] ∧ ListsAt w1 0 q TR := by obtain ⟨u, e, h⟩ := hval 9 (by omega); have e2 : some y9 = some u := e; injection e2 with e2; subst e2; exact h
      have k10 : ∃ q, y10 = .tuple #[q, .int .i64 E] ∧ ListsAt w1 0 q TR := by obtain ⟨u, e, h⟩ := hval 10 (by omega); have e2 : some y10 = some u := e; injection e2 with e2; subst e2; exact h
      have k11 : ListsAt w1 0 y11 TR := by obtain ⟨u, e, h⟩ := hval 11 (by omega); have e2 : some y11 = some u := e; injection e2 with e2; subst e2; exact h
      obtain rfl : y12 = .int .i64 E := by obtain ⟨u, e, h⟩ := hval 12 (by omega); have e2 : some y12 = some u := e; injection e2 with e2; subst e2; exact h
      have k13 : ListsAt w1 0 y13 TR := by obtain ⟨u, e, h⟩ := hval 13 (by omega); have e2 : some y13 = some u := e; injection e2 with e2; subst e2; exact h
      obtain rfl : y14 = .int .i64 E := by obtain ⟨u, e, h⟩ := hval 14 (by omega); have e2 : some y14 = some u := e; injection e2 with e2; subst e2; exact h
      clear hval hvl
      have HS1 := Lib.hid (HS0.out.next hb1)
      obtain ⟨q9, rfl, _⟩ := k9
      obtain ⟨q10, hq10, _⟩ := k10
      subst hq10
      obtain ⟨_, _, l2, _⟩ := (show ∃ vs : List Value, vs.length = TR.length ∧ w1.ownsRow 0 33 1 y13 TR.length vs ∧ True from by obtain ⟨vs, l1, l2, _⟩ := k13; exact ⟨vs, l1, l2, trivial⟩)
      obtain ⟨qA, qc, rfl, _⟩ := own_form l2
      have HLS := Lib.hid k13
      have hsz1 := hb1.size
      clear l2 k11 k13 hb1
      simp only [putL, Act.put, List.drop, List.setIfInBounds_toArray, List.set_cons_zero, List.set_cons_succ]
      go_wp2
      go_ret2
      exact ⟨rfl, HS1.out.b⟩
  case true =>
    obtain ⟨is, his⟩ : ∃ is, (deedsOk C.deeds && placeB C y) = is := ⟨_, rfl⟩
    rw [h1, Bool.true_and, his] at h0
    have HI1 := Lib.hid h1
    have HI2' := Lib.hid his
    obtain ⟨TR, hTR⟩ : ∃ TR, knownL C is = TR := ⟨_, rfl⟩
    obtain ⟨E, hE⟩ : ∃ E, knownE C is = E := ⟨_, rfl⟩
    rw [hE] at h0
    rw [Bool.true_and, his, hE]
    have HTR := Lib.hid hTR
    have HE := Lib.hid hE
    have he0 : (E != 0) = true := by simpa using h0
    have he1 : (E == 0) = false := by simpa using h0
    clear hTR hE h1 his
    have hx' := hx
    obtain ⟨a, cap, b, off, a2, cap2, b2, off2, rfl, hm, hm2, hcap, hcapm, HA, HC, HA2, HC2, HI, HI2⟩ := hx.opened
    have HS0 := Lib.hid (LStat.first hx')
    obtain ⟨c0, c1, c2⟩ := HS0.out.cells
    clear hx hx' HA HC HA2 HC2 HI HI2
    go_enter Try.func39, Try.ntmps39
    go_upto_region 1 with fail
    clear c0 c1 c2
    refine wp_region_facts _ 15 [13, 14, 15, 16, 17, 18, 19, 20, 21, 22, 12, 23, 24, 8, 9] [isV (.agg #[.slice a C.deeds.length cap, .slice a2 C.sights.length cap2, .int .i64 C.wrong]), isV (.agg #[.slice a C.deeds.length cap, .slice a2 C.sights.length cap2, .int .i64 C.wrong]), isV (.int .i64 x), isV (.bool true), isV (.bool true), isV (.agg #[.slice a C.deeds.length cap, .slice a2 C.sights.length cap2, .int .i64 C.wrong]), isV (.int .i64 y), isV (.bool is), isV (.bool is), ⟨fun v W => ∃ q, v = .tuple #[q, .int .i64 E] ∧ ListsAt W 0 q TR, fun _ _ _ ⟨q, h1, h2⟩ hb => ⟨q, h1, h2.below hb⟩⟩, ⟨fun v W => ∃ q, v = .tuple #[q, .int .i64 E] ∧ ListsAt W 0 q TR, fun _ _ _ ⟨q, h1, h2⟩ hb => ⟨q, h1, h2.below hb⟩⟩, ⟨fun v W => ListsAt W 0 v TR, fun _ _ _ h hb => h.below hb⟩, isV (.int .i64 E), ⟨fun v W => ListsAt W 0 v TR, fun _ _ _ h hb => h.below hb⟩, isV (.int .i64 E)] (by kernel_rfl) (by kernel_rfl) (by kernel_rfl) rfl (by decide) (by decide) (by simp) ?step ?rest
    case step =>
      intro i ac W d hi hd hb hoff hdep
      have hs := HS0.out.next hb
      obtain ⟨c0, c1, c2⟩ := hs.cells
      have hi2 : i = 0 ∨ i = 1 ∨ i = 2 ∨ i = 3 ∨ i = 4 ∨ i = 5 ∨ i = 6 ∨ i = 7 ∨ i = 8 ∨ i = 9 ∨ i = 10 ∨ i = 11 ∨ i = 12 ∨ i = 13 ∨ i = 14 := by omega
      rcases hi2 with rfl | rfl | rfl | rfl | rfl | rfl | rfl | rfl | rfl | rfl | rfl | rfl | rfl | rfl | rfl
      · obtain rfl : 13 = d := by simpa using hd
        have q3 : ac.tmps[3]?.getD undef = .pointer (some ⟨w.heap.size, 0, none⟩) := (eval_tmp _ _).symm.trans <| (hoff 3 (by decide)).trans rfl
        refine fact_value rfl rfl rfl (v := .agg #[.slice a C.deeds.length cap, .slice a2 C.sights.length cap2, .int .i64 C.wrong]) (W' := W) ?_ (Below.refl _ _) rfl
        simp only [execOp]
        go_simp
      · obtain rfl : 14 = d := by simpa using hd
        have q3 : ac.tmps[3]?.getD undef = .pointer (some ⟨w.heap.size, 0, none⟩) := (eval_tmp _ _).symm.trans <| (hoff 3 (by decide)).trans rfl
        refine fact_value rfl rfl rfl (v := .agg #[.slice a C.deeds.length cap, .slice a2 C.sights.length cap2, .int .i64 C.wrong]) (W' := W) ?_ (Below.refl _ _) rfl
        simp only [execOp]
        go_simp
      · obtain rfl : 15 = d := by simpa using hd
        have q1 : ac.tmps[1]?.getD undef = .int .i64 x := (eval_tmp _ _).symm.trans <| (hoff 1 (by decide)).trans rfl
        refine fact_value rfl rfl rfl (v := .int .i64 x) (W' := W) ?_ (Below.refl _ _) rfl
        simp only [execOp]
        go_simp
      · obtain rfl : 16 = d := by simpa using hd
        have q14 : ac.tmps[14]?.getD undef = .agg #[.slice a C.deeds.length cap, .slice a2 C.sights.length cap2, .int .i64 C.wrong] := (eval_tmp _ _).symm.trans (hdep 1 14 rfl rfl)
        have q15 : ac.tmps[15]?.getD undef = .int .i64 x := (eval_tmp _ _).symm.trans (hdep 2 15 rfl rfl)
        refine fact_call rfl rfl rfl (f := 53) (args := #[.agg #[.slice a C.deeds.length cap, .slice a2 C.sights.length cap2, .int .i64 C.wrong], .int .i64 x]) ?_ ?_
        · simp only [execOp]
          go_simp
        · refine (IsPlace_40 _ C _ W hn hs.st).mono ?_
          rintro e W' ⟨rfl, hbk⟩
          exact ⟨_, rfl, hbk, by rw [HI1.out]; rfl⟩
      · obtain rfl : 17 = d := by simpa using hd
        have q16 : ac.tmps[16]?.getD undef = .bool true := (eval_tmp _ _).symm.trans (hdep 3 16 rfl rfl)
        refine fact_value rfl rfl rfl (v := .bool true) (W' := W) ?_ (Below.refl _ _) rfl
        simp only [execOp]
        go_simp
      · obtain rfl : 18 = d := by simpa using hd
        have q3 : ac.tmps[3]?.getD undef = .pointer (some ⟨w.heap.size, 0, none⟩) := (eval_tmp _ _).symm.trans <| (hoff 3 (by decide)).trans rfl
        have q17 : ac.tmps[17]?.getD undef = .bool true := (eval_tmp _ _).symm.trans (hdep 4 17 rfl rfl)
        refine fact_value_on rfl (wants_on (t := 17) rfl rfl q17) rfl (v := .agg #[.slice a C.deeds.length cap, .slice a2 C.sights.length cap2, .int .i64 C.wrong]) (W' := W) ?_ (Below.refl _ _) rfl
        simp only [execOp]
        go_simp
      · obtain rfl : 19 = d := by simpa using hd
        have q2 : ac.tmps[2]?.getD undef = .int .i64 y := (eval_tmp _ _).symm.trans <| (hoff 2 (by decide)).trans rfl
        have q17 : ac.tmps[17]?.getD undef = .bool true := (eval_tmp _ _).symm.trans (hdep 4 17 rfl rfl)
        refine fact_value_on rfl (wants_on (t := 17) rfl rfl q17) rfl (v := .int .i64 y) (W' := W) ?_ (Below.refl _ _) rfl
        simp only [execOp]
        go_simp
      · obtain rfl : 20 = d := by simpa using hd
        have q18 : ac.tmps[18]?.getD undef = .agg #[.slice a C.deeds.length cap, .slice a2 C.sights.length cap2, .int .i64 C.wrong] := (eval_tmp _ _).symm.trans (hdep 5 18 rfl rfl)
        have q19 : ac.tmps[19]?.getD undef = .int .i64 y := (eval_tmp _ _).symm.trans (hdep 6 19 rfl rfl)
        have q17 : ac.tmps[17]?.getD undef = .bool true := (eval_tmp _ _).symm.trans (hdep 4 17 rfl rfl)
        refine fact_call_on rfl (wants_on (t := 17) rfl rfl q17) rfl (f := 53) (args := #[.agg #[.slice a C.deeds.length cap, .slice a2 C.sights.length cap2, .int .i64 C.wrong], .int .i64 y]) ?_ ?_
        · simp only [execOp]
          go_simp
        · refine (IsPlace_40 _ C _ W hn hs.st).mono ?_
          rintro e W' ⟨rfl, hbk⟩
          exact ⟨_, rfl, hbk, by rw [HI2'.out]; rfl⟩
      · obtain rfl : 21 = d := by simpa using hd
        have q17 : ac.tmps[17]?.getD undef = .bool true := (eval_tmp _ _).symm.trans (hdep 4 17 rfl rfl)
        have q20 : ac.tmps[20]?.getD undef = .bool is := (eval_tmp _ _).symm.trans (hdep 7 20 rfl rfl)
        refine fact_value rfl rfl rfl (v := .bool is) (W' := W) ?_ (Below.refl _ _) rfl
        simp only [execOp]
        go_simp
      · obtain rfl : 22 = d := by simpa using hd
        have q13 : ac.tmps[13]?.getD undef = .agg #[.slice a C.deeds.length cap, .slice a2 C.sights.length cap2, .int .i64 C.wrong] := (eval_tmp _ _).symm.trans (hdep 0 13 rfl rfl)
        have q21 : ac.tmps[21]?.getD undef = .bool is := (eval_tmp _ _).symm.trans (hdep 8 21 rfl rfl)
        refine fact_call rfl rfl rfl (f := 76) (args := #[.agg #[.slice a C.deeds.length cap, .slice a2 C.sights.length cap2, .int .i64 C.wrong], .bool is]) ?_ ?_
        · simp only [execOp]
          go_simp
        · refine (known_any _ is C W hs.st).mono ?_
          rintro e W' ⟨q, rfl, hls, hbk⟩
          rw [HTR.out] at hls
          exact ⟨.tuple #[q, .int .i64 E], by rw [HE.out], hbk, q, rfl, hls.lower (Nat.zero_le _)⟩
      · obtain rfl : 12 = d := by simpa using hd
        have q22 : ∃ q, (ac.tmps[22]?.getD undef) = .tuple #[q, .int .i64 E] ∧ ListsAt W 0 q TR := eval_tmp ac _ ▸ hdep 9 22 rfl rfl
        refine fact_value rfl rfl rfl (v := _) (W' := W) ?_ (Below.refl _ _) q22
        simp only [execOp]
        go_simp
      · obtain rfl : 23 = d := by simpa using hd
        have q12 : ∃ q, (ac.tmps[12]?.getD undef) = .tuple #[q, .int .i64 E] ∧ ListsAt W 0 q TR := eval_tmp ac _ ▸ hdep 10 12 rfl rfl
        obtain ⟨q, h1, h2⟩ := q12
        refine fact_value rfl rfl rfl (v := q) (W' := W) ?_ (Below.refl _ _) h2
        simp only [execOp]
        go_simp
      · obtain rfl : 24 = d := by simpa using hd
        have q12 : ∃ q, (ac.tmps[12]?.getD undef) = .tuple #[q, .int .i64 E] ∧ ListsAt W 0 q TR := eval_tmp ac _ ▸ hdep 10 12 rfl rfl
        obtain ⟨q, h1, h2⟩ := q12
        refine fact_value rfl rfl rfl (v := .int .i64 E) (W' := W) ?_ (Below.refl _ _) rfl
        simp only [execOp]
        go_simp
      · obtain rfl : 8 = d := by simpa using hd
        have q23 : ListsAt W 0 (ac.tmps[23]?.getD undef) TR := eval_tmp ac _ ▸ hdep 11 23 rfl rfl
        refine fact_value rfl rfl rfl (v := _) (W' := W) ?_ (Below.refl _ _) q23
        simp only [execOp]
        go_simp
      · obtain rfl : 9 = d := by simpa using hd
        have q24 : ac.tmps[24]?.getD undef = .int .i64 E := (eval_tmp _ _).symm.trans (hdep 12 24 rfl rfl)
        refine fact_value rfl rfl rfl (v := .int .i64 E) (W' := W) ?_ (Below.refl _ _) rfl
        simp only [execOp]
        go_simp
    case rest =>
      intro vs w1 hvl hb1 hval
      obtain ⟨y0, y1, y2, y3, y4, y5, y6, y7, y8, y9, y10, y11, y12, y13, y14, rfl⟩ : ∃ y0 y1 y2 y3 y4 y5 y6 y7 y8 y9 y10 y11 y12 y13 y14, vs = [y0, y1, y2, y3, y4, y5, y6, y7, y8, y9, y10, y11, y12, y13, y14] := by
        match vs, hvl with
        | [y0, y1, y2, y3, y4, y5, y6, y7, y8, y9, y10, y11, y12, y13, y14], _ => exact ⟨y0, y1, y2, y3, y4, y5, y6, y7, y8, y9, y10, y11, y12, y13, y14, rfl⟩
      obtain rfl : y0 = .agg #[.slice a C.deeds.length cap, .slice a2 C.sights.length cap2, .int .i64 C.wrong] := by obtain ⟨u, e, h⟩ := hval 0 (by omega); have e2 : some y0 = some u := e; injection e2 with e2; subst e2; exact h
      obtain rfl : y1 = .agg #[.slice a C.deeds.length cap, .slice a2 C.sights.length cap2, .int .i64 C.wrong] := by obtain ⟨u, e, h⟩ := hval 1 (by omega); have e2 : some y1 = some u := e; injection e2 with e2; subst e2; exact h
      obtain rfl : y2 = .int .i64 x := by obtain ⟨u, e, h⟩ := hval 2 (by omega); have e2 : some y2 = some u := e; injection e2 with e2; subst e2; exact h
      obtain rfl : y3 = .bool true := by obtain ⟨u, e, h⟩ := hval 3 (by omega); have e2 : some y3 = some u := e; injection e2 with e2; subst e2; exact h
      obtain rfl : y4 = .bool true := by obtain ⟨u, e, h⟩ := hval 4 (by omega); have e2 : some y4 = some u := e; injection e2 with e2; subst e2; exact h
      obtain rfl : y5 = .agg #[.slice a C.deeds.length cap, .slice a2 C.sights.length cap2, .int .i64 C.wrong] := by obtain ⟨u, e, h⟩ := hval 5 (by omega); have e2 : some y5 = some u := e; injection e2 with e2; subst e2; exact h
      obtain rfl : y6 = .int .i64 y := by obtain ⟨u, e, h⟩ := hval 6 (by omega); have e2 : some y6 = some u := e; injection e2 with e2; subst e2; exact h
      obtain rfl : y7 = .bool is := by obtain ⟨u, e, h⟩ := hval 7 (by omega); have e2 : some y7 = some u := e; injection e2 with e2; subst e2; exact h
      obtain rfl : y8 = .bool is := by obtain ⟨u, e, h⟩ := hval 8 (by omega); have e2 : some y8 = some u := e; injection e2 with e2; subst e2; exact h
      have k9 : ∃ q, y9 = .tuple #[q, .int .i64 E] ∧ ListsAt w1 0 q TR := by obtain ⟨u, e, h⟩ := hval 9 (by omega); have e2 : some y9 = some u := e; injection e2 with e2; subst e2; exact h
      have k10 : ∃ q, y10 = .tuple #[q, .int .i64 E] ∧ ListsAt w1 0 q TR := by obtain ⟨u, e, h⟩ := hval 10 (by omega); have e2 : some y10 = some u := e; injection e2 with e2; subst e2; exact h
      have k11 : ListsAt w1 0 y11 TR := by obtain ⟨u, e, h⟩ := hval 11 (by omega); have e2 : some y11 = some u := e; injection e2 with e2; subst e2; exact h
      obtain rfl : y12 = .int .i64 E := by obtain ⟨u, e, h⟩ := hval 12 (by omega); have e2 : some y12 = some u := e; injection e2 with e2; subst e2; exact h
      have k13 : ListsAt w1 0 y13 TR := by obtain ⟨u, e, h⟩ := hval 13 (by omega); have e2 : some y13 = some u := e; injection e2 with e2; subst e2; exact h
      obtain rfl : y14 = .int .i64 E := by obtain ⟨u, e, h⟩ := hval 14 (by omega); have e2 : some y14 = some u := e; injection e2 with e2; subst e2; exact h
      clear hval hvl
      have HS1 := Lib.hid (HS0.out.next hb1)
      obtain ⟨q9, rfl, _⟩ := k9
      obtain ⟨q10, hq10, _⟩ := k10
      subst hq10
      obtain ⟨_, _, l2, _⟩ := (show ∃ vs : List Value, vs.length = TR.length ∧ w1.ownsRow 0 33 1 y13 TR.length vs ∧ True from by obtain ⟨vs, l1, l2, _⟩ := k13; exact ⟨vs, l1, l2, trivial⟩)
      obtain ⟨qA, qc, rfl, _⟩ := own_form l2
      have HLS := Lib.hid k13
      have hsz1 := hb1.size
      clear l2 k11 k13 hb1
      simp only [putL, Act.put, List.drop, List.setIfInBounds_toArray, List.set_cons_zero, List.set_cons_succ]
      go_wp2
      go_ret2
      exact ⟨rfl, HS1.out.b⟩

set_option maxRecDepth 100000 in
set_option maxHeartbeats 8000000 in
theorem rAlike_ok (v : Value) (C : Chain) (p q : Nat) (w : World) (hV : validB C = true) (hp : placeB C p = true) (hq : placeB C q = true) (h0 : knownE C true = 0) (hx : ChainAt w.heap.size w v C) :
    Calls Try.prog 39 #[v, .int .i64 p, .int .i64 q] w fun e w' => e = .returned (.tuple #[.int .i64 (if cntL C p q (knownL C true) = (knownL C true).length then 1 else if cntL C p q (knownL C true) = 0 then 2 else 3), .int .i64 0]) ∧ Below w.heap.size w w' := by
  have hV' := valid_iff.1 hV
  have hn : C.deeds.length ≤ 40 := by have := hV'.nd; omega
  have hp1 := place_nat hp
  have hp2 := place_nat hq
  have HI1 := Lib.hid (show (deedsOk C.deeds && placeB C p) = true by rw [place_is hV]; exact hp)
  have HI2' := Lib.hid (show (deedsOk C.deeds && placeB C q) = true by rw [place_is hV]; exact hq)
  have hlen := known_le C true
  have HAT0 := Lib.hid (fun k (h : k < (knownL C true).length) => known_at (C := C) (is := true) h)
  have HCL := Lib.hid (cntL_le C p q (knownL C true))
  obtain ⟨TR, hTR⟩ : ∃ TR, knownL C true = TR := ⟨_, rfl⟩
  obtain ⟨E, hE⟩ : ∃ E, knownE C true = E := ⟨_, rfl⟩
  obtain ⟨T, hT⟩ : ∃ T, TR.length = T := ⟨_, rfl⟩
  rw [hTR] at hlen HAT0 HCL
  rw [hT] at hlen HAT0 HCL
  rw [hE] at h0
  rw [hTR, hT]
  obtain ⟨RV, hRV⟩ : ∃ RV, (if cntL C p q TR = T then (1 : Int) else if cntL C p q TR = 0 then 2 else 3) = RV := ⟨_, rfl⟩
  rw [hRV]
  have HRV := Lib.hid hRV
  clear hRV
  have HTR := Lib.hid hTR
  have HE := Lib.hid hE
  have HTT := Lib.hid hT
  have HV := Lib.hid hV
  have he0 : (E != 0) = false := by simpa using h0
  have he1 : (E == 0) = true := by simpa using h0
  have HE0 := Lib.hid h0
  clear hTR hE hT hp hq hV hV' h0
  have hx' := hx
  obtain ⟨a, cap, b, off, a2, cap2, b2, off2, rfl, hm, hm2, hcap, hcapm, HA, HC, HA2, HC2, HI, HI2⟩ := hx.opened
  have HS0 := Lib.hid (LStat.first hx')
  obtain ⟨c0, c1, c2⟩ := HS0.out.cells
  clear hx hx' HA HC HA2 HC2 HI HI2
  go_enter Try.func39, Try.ntmps39
  go_upto_region 1 with fail
  clear c0 c1 c2
  refine wp_region_facts _ 15 [13, 14, 15, 16, 17, 18, 19, 20, 21, 22, 12, 23, 24, 8, 9] [isV (.agg #[.slice a C.deeds.length cap, .slice a2 C.sights.length cap2, .int .i64 C.wrong]), isV (.agg #[.slice a C.deeds.length cap, .slice a2 C.sights.length cap2, .int .i64 C.wrong]), isV (.int .i64 (p : Int)), isV (.bool true), isV (.bool true), isV (.agg #[.slice a C.deeds.length cap, .slice a2 C.sights.length cap2, .int .i64 C.wrong]), isV (.int .i64 (q : Int)), isV (.bool true), isV (.bool true), ⟨fun v W => ∃ q, v = .tuple #[q, .int .i64 E] ∧ ListsAt W 0 q TR, fun _ _ _ ⟨q, h1, h2⟩ hb => ⟨q, h1, h2.below hb⟩⟩, ⟨fun v W => ∃ q, v = .tuple #[q, .int .i64 E] ∧ ListsAt W 0 q TR, fun _ _ _ ⟨q, h1, h2⟩ hb => ⟨q, h1, h2.below hb⟩⟩, ⟨fun v W => ListsAt W 0 v TR, fun _ _ _ h hb => h.below hb⟩, isV (.int .i64 E), ⟨fun v W => ListsAt W 0 v TR, fun _ _ _ h hb => h.below hb⟩, isV (.int .i64 E)] (by kernel_rfl) (by kernel_rfl) (by kernel_rfl) rfl (by decide) (by decide) (by simp) ?step ?rest
  case step =>
    intro i ac W d hi hd hb hoff hdep
    have hs := HS0.out.next hb
    obtain ⟨c0, c1, c2⟩ := hs.cells
    have hi2 : i = 0 ∨ i = 1 ∨ i = 2 ∨ i = 3 ∨ i = 4 ∨ i = 5 ∨ i = 6 ∨ i = 7 ∨ i = 8 ∨ i = 9 ∨ i = 10 ∨ i = 11 ∨ i = 12 ∨ i = 13 ∨ i = 14 := by omega
    rcases hi2 with rfl | rfl | rfl | rfl | rfl | rfl | rfl | rfl | rfl | rfl | rfl | rfl | rfl | rfl | rfl
    · obtain rfl : 13 = d := by simpa using hd
      have q3 : ac.tmps[3]?.getD undef = .pointer (some ⟨w.heap.size, 0, none⟩) := (eval_tmp _ _).symm.trans <| (hoff 3 (by decide)).trans rfl
      refine fact_value rfl rfl rfl (v := .agg #[.slice a C.deeds.length cap, .slice a2 C.sights.length cap2, .int .i64 C.wrong]) (W' := W) ?_ (Below.refl _ _) rfl
      simp only [execOp]
      go_simp
    · obtain rfl : 14 = d := by simpa using hd
      have q3 : ac.tmps[3]?.getD undef = .pointer (some ⟨w.heap.size, 0, none⟩) := (eval_tmp _ _).symm.trans <| (hoff 3 (by decide)).trans rfl
      refine fact_value rfl rfl rfl (v := .agg #[.slice a C.deeds.length cap, .slice a2 C.sights.length cap2, .int .i64 C.wrong]) (W' := W) ?_ (Below.refl _ _) rfl
      simp only [execOp]
      go_simp
    · obtain rfl : 15 = d := by simpa using hd
      have q1 : ac.tmps[1]?.getD undef = .int .i64 (p : Int) := (eval_tmp _ _).symm.trans <| (hoff 1 (by decide)).trans rfl
      refine fact_value rfl rfl rfl (v := .int .i64 (p : Int)) (W' := W) ?_ (Below.refl _ _) rfl
      simp only [execOp]
      go_simp
    · obtain rfl : 16 = d := by simpa using hd
      have q14 : ac.tmps[14]?.getD undef = .agg #[.slice a C.deeds.length cap, .slice a2 C.sights.length cap2, .int .i64 C.wrong] := (eval_tmp _ _).symm.trans (hdep 1 14 rfl rfl)
      have q15 : ac.tmps[15]?.getD undef = .int .i64 (p : Int) := (eval_tmp _ _).symm.trans (hdep 2 15 rfl rfl)
      refine fact_call rfl rfl rfl (f := 53) (args := #[.agg #[.slice a C.deeds.length cap, .slice a2 C.sights.length cap2, .int .i64 C.wrong], .int .i64 (p : Int)]) ?_ ?_
      · simp only [execOp]
        go_simp
      · refine (IsPlace_40 _ C _ W hn hs.st).mono ?_
        rintro e W' ⟨rfl, hbk⟩
        exact ⟨_, rfl, hbk, by rw [HI1.out]; rfl⟩
    · obtain rfl : 17 = d := by simpa using hd
      have q16 : ac.tmps[16]?.getD undef = .bool true := (eval_tmp _ _).symm.trans (hdep 3 16 rfl rfl)
      refine fact_value rfl rfl rfl (v := .bool true) (W' := W) ?_ (Below.refl _ _) rfl
      simp only [execOp]
      go_simp
    · obtain rfl : 18 = d := by simpa using hd
      have q3 : ac.tmps[3]?.getD undef = .pointer (some ⟨w.heap.size, 0, none⟩) := (eval_tmp _ _).symm.trans <| (hoff 3 (by decide)).trans rfl
      have q17 : ac.tmps[17]?.getD undef = .bool true := (eval_tmp _ _).symm.trans (hdep 4 17 rfl rfl)
      refine fact_value_on rfl (wants_on (t := 17) rfl rfl q17) rfl (v := .agg #[.slice a C.deeds.length cap, .slice a2 C.sights.length cap2, .int .i64 C.wrong]) (W' := W) ?_ (Below.refl _ _) rfl
      simp only [execOp]
      go_simp
    · obtain rfl : 19 = d := by simpa using hd
      have q2 : ac.tmps[2]?.getD undef = .int .i64 (q : Int) := (eval_tmp _ _).symm.trans <| (hoff 2 (by decide)).trans rfl
      have q17 : ac.tmps[17]?.getD undef = .bool true := (eval_tmp _ _).symm.trans (hdep 4 17 rfl rfl)
      refine fact_value_on rfl (wants_on (t := 17) rfl rfl q17) rfl (v := .int .i64 (q : Int)) (W' := W) ?_ (Below.refl _ _) rfl
      simp only [execOp]
      go_simp
    · obtain rfl : 20 = d := by simpa using hd
      have q18 : ac.tmps[18]?.getD undef = .agg #[.slice a C.deeds.length cap, .slice a2 C.sights.length cap2, .int .i64 C.wrong] := (eval_tmp _ _).symm.trans (hdep 5 18 rfl rfl)
      have q19 : ac.tmps[19]?.getD undef = .int .i64 (q : Int) := (eval_tmp _ _).symm.trans (hdep 6 19 rfl rfl)
      have q17 : ac.tmps[17]?.getD undef = .bool true := (eval_tmp _ _).symm.trans (hdep 4 17 rfl rfl)
      refine fact_call_on rfl (wants_on (t := 17) rfl rfl q17) rfl (f := 53) (args := #[.agg #[.slice a C.deeds.length cap, .slice a2 C.sights.length cap2, .int .i64 C.wrong], .int .i64 (q : Int)]) ?_ ?_
      · simp only [execOp]
        go_simp
      · refine (IsPlace_40 _ C _ W hn hs.st).mono ?_
        rintro e W' ⟨rfl, hbk⟩
        exact ⟨_, rfl, hbk, by rw [HI2'.out]; rfl⟩
    · obtain rfl : 21 = d := by simpa using hd
      have q17 : ac.tmps[17]?.getD undef = .bool true := (eval_tmp _ _).symm.trans (hdep 4 17 rfl rfl)
      have q20 : ac.tmps[20]?.getD undef = .bool true := (eval_tmp _ _).symm.trans (hdep 7 20 rfl rfl)
      refine fact_value rfl rfl rfl (v := .bool true) (W' := W) ?_ (Below.refl _ _) rfl
      simp only [execOp]
      go_simp
    · obtain rfl : 22 = d := by simpa using hd
      have q13 : ac.tmps[13]?.getD undef = .agg #[.slice a C.deeds.length cap, .slice a2 C.sights.length cap2, .int .i64 C.wrong] := (eval_tmp _ _).symm.trans (hdep 0 13 rfl rfl)
      have q21 : ac.tmps[21]?.getD undef = .bool true := (eval_tmp _ _).symm.trans (hdep 8 21 rfl rfl)
      refine fact_call rfl rfl rfl (f := 76) (args := #[.agg #[.slice a C.deeds.length cap, .slice a2 C.sights.length cap2, .int .i64 C.wrong], .bool true]) ?_ ?_
      · simp only [execOp]
        go_simp
      · refine (known_any _ true C W hs.st).mono ?_
        rintro e W' ⟨q, rfl, hls, hbk⟩
        rw [HTR.out] at hls
        exact ⟨.tuple #[q, .int .i64 E], by rw [HE.out], hbk, q, rfl, hls.lower (Nat.zero_le _)⟩
    · obtain rfl : 12 = d := by simpa using hd
      have q22 : ∃ q, (ac.tmps[22]?.getD undef) = .tuple #[q, .int .i64 E] ∧ ListsAt W 0 q TR := eval_tmp ac _ ▸ hdep 9 22 rfl rfl
      refine fact_value rfl rfl rfl (v := _) (W' := W) ?_ (Below.refl _ _) q22
      simp only [execOp]
      go_simp
    · obtain rfl : 23 = d := by simpa using hd
      have q12 : ∃ q, (ac.tmps[12]?.getD undef) = .tuple #[q, .int .i64 E] ∧ ListsAt W 0 q TR := eval_tmp ac _ ▸ hdep 10 12 rfl rfl
      obtain ⟨q, h1, h2⟩ := q12
      refine fact_value rfl rfl rfl (v := q) (W' := W) ?_ (Below.refl _ _) h2
      simp only [execOp]
      go_simp
    · obtain rfl : 24 = d := by simpa using hd
      have q12 : ∃ q, (ac.tmps[12]?.getD undef) = .tuple #[q, .int .i64 E] ∧ ListsAt W 0 q TR := eval_tmp ac _ ▸ hdep 10 12 rfl rfl
      obtain ⟨q, h1, h2⟩ := q12
      refine fact_value rfl rfl rfl (v := .int .i64 E) (W' := W) ?_ (Below.refl _ _) rfl
      simp only [execOp]
      go_simp
    · obtain rfl : 8 = d := by simpa using hd
      have q23 : ListsAt W 0 (ac.tmps[23]?.getD undef) TR := eval_tmp ac _ ▸ hdep 11 23 rfl rfl
      refine fact_value rfl rfl rfl (v := _) (W' := W) ?_ (Below.refl _ _) q23
      simp only [execOp]
      go_simp
    · obtain rfl : 9 = d := by simpa using hd
      have q24 : ac.tmps[24]?.getD undef = .int .i64 E := (eval_tmp _ _).symm.trans (hdep 12 24 rfl rfl)
      refine fact_value rfl rfl rfl (v := .int .i64 E) (W' := W) ?_ (Below.refl _ _) rfl
      simp only [execOp]
      go_simp
  case rest =>
    intro vs w1 hvl hb1 hval
    obtain ⟨y0, y1, y2, y3, y4, y5, y6, y7, y8, y9, y10, y11, y12, y13, y14, rfl⟩ : ∃ y0 y1 y2 y3 y4 y5 y6 y7 y8 y9 y10 y11 y12 y13 y14, vs = [y0, y1, y2, y3, y4, y5, y6, y7, y8, y9, y10, y11, y12, y13, y14] := by
      match vs, hvl with
      | [y0, y1, y2, y3, y4, y5, y6, y7, y8, y9, y10, y11, y12, y13, y14], _ => exact ⟨y0, y1, y2, y3, y4, y5, y6, y7, y8, y9, y10, y11, y12, y13, y14, rfl⟩
    obtain rfl : y0 = .agg #[.slice a C.deeds.length cap, .slice a2 C.sights.length cap2, .int .i64 C.wrong] := by obtain ⟨u, e, h⟩ := hval 0 (by omega); have e2 : some y0 = some u := e; injection e2 with e2; subst e2; exact h
    obtain rfl : y1 = .agg #[.slice a C.deeds.length cap, .slice a2 C.sights.length cap2, .int .i64 C.wrong] := by obtain ⟨u, e, h⟩ := hval 1 (by omega); have e2 : some y1 = some u := e; injection e2 with e2; subst e2; exact h
    obtain rfl : y2 = .int .i64 (p : Int) := by obtain ⟨u, e, h⟩ := hval 2 (by omega); have e2 : some y2 = some u := e; injection e2 with e2; subst e2; exact h
    obtain rfl : y3 = .bool true := by obtain ⟨u, e, h⟩ := hval 3 (by omega); have e2 : some y3 = some u := e; injection e2 with e2; subst e2; exact h
    obtain rfl : y4 = .bool true := by obtain ⟨u, e, h⟩ := hval 4 (by omega); have e2 : some y4 = some u := e; injection e2 with e2; subst e2; exact h
    obtain rfl : y5 = .agg #[.slice a C.deeds.length cap, .slice a2 C.sights.length cap2, .int .i64 C.wrong] := by obtain ⟨u, e, h⟩ := hval 5 (by omega); have e2 : some y5 = some u := e; injection e2 with e2; subst e2; exact h
    obtain rfl : y6 = .int .i64 (q : Int) := by obtain ⟨u, e, h⟩ := hval 6 (by omega); have e2 : some y6 = some u := e; injection e2 with e2; subst e2; exact h
    obtain rfl : y7 = .bool true := by obtain ⟨u, e, h⟩ := hval 7 (by omega); have e2 : some y7 = some u := e; injection e2 with e2; subst e2; exact h
    obtain rfl : y8 = .bool true := by obtain ⟨u, e, h⟩ := hval 8 (by omega); have e2 : some y8 = some u := e; injection e2 with e2; subst e2; exact h
    have k9 : ∃ q, y9 = .tuple #[q, .int .i64 E] ∧ ListsAt w1 0 q TR := by obtain ⟨u, e, h⟩ := hval 9 (by omega); have e2 : some y9 = some u := e; injection e2 with e2; subst e2; exact h
    have k10 : ∃ q, y10 = .tuple #[q, .int .i64 E] ∧ ListsAt w1 0 q TR := by obtain ⟨u, e, h⟩ := hval 10 (by omega); have e2 : some y10 = some u := e; injection e2 with e2; subst e2; exact h
    have k11 : ListsAt w1 0 y11 TR := by obtain ⟨u, e, h⟩ := hval 11 (by omega); have e2 : some y11 = some u := e; injection e2 with e2; subst e2; exact h
    obtain rfl : y12 = .int .i64 E := by obtain ⟨u, e, h⟩ := hval 12 (by omega); have e2 : some y12 = some u := e; injection e2 with e2; subst e2; exact h
    have k13 : ListsAt w1 0 y13 TR := by obtain ⟨u, e, h⟩ := hval 13 (by omega); have e2 : some y13 = some u := e; injection e2 with e2; subst e2; exact h
    obtain rfl : y14 = .int .i64 E := by obtain ⟨u, e, h⟩ := hval 14 (by omega); have e2 : some y14 = some u := e; injection e2 with e2; subst e2; exact h
    clear hval hvl
    have HS1 := Lib.hid (HS0.out.next hb1)
    obtain ⟨q9, rfl, _⟩ := k9
    obtain ⟨q10, hq10, _⟩ := k10
    subst hq10
    obtain ⟨_, _, l2, _⟩ := (show ∃ vs : List Value, vs.length = TR.length ∧ w1.ownsRow 0 33 1 y13 TR.length vs ∧ True from by obtain ⟨vs, l1, l2, _⟩ := k13; exact ⟨vs, l1, l2, trivial⟩)
    obtain ⟨qA, qc, rfl, _⟩ := own_form l2
    have HLS := Lib.hid k13
    have hsz1 := hb1.size
    clear l2 k11 k13 hb1
    simp only [putL, Act.put, List.drop, List.setIfInBounds_toArray, List.set_cons_zero, List.set_cons_succ]
    rw [HTT.out] at HLS ⊢
    obtain ⟨c0, c1, c2⟩ := HS1.out.cells
    go_wp2_with fail
    go_loopw [10, 11] (fun o i wr => ∃ k : Nat, k ≤ T ∧ i = .int .i64 k ∧ o = .int .i64 (cntL C p q (TR.take k) : Nat) ∧ Hid (Below w1.heap.size w1 wr)) (fun _ i _ => T - (intOf i).toNat)
    case atStart => exact ⟨0, Nat.zero_le _, rfl, rfl, Below.refl _ _⟩
    case round =>
      obtain ⟨k, hk, rfl, rfl, hbl⟩ := hrel
      clear c0 c1 c2
      have HSR := Lib.hid (HS1.out.next hbl.out)
      obtain ⟨c0, c1, c2⟩ := HSR.out.cells
      have hsr := hbl.out.size
      have hcn : cntL C p q (TR.take k) ≤ k := Nat.le_trans (cntL_le _ _ _ _) (by rw [List.length_take]; omega)
      by_cases hlt : k < T
      · obtain ⟨lg, lc, _, hq, _, _⟩ := HLS.out.get (i := k) (by rw [HTT.out]; omega)
        injection hq with hq1 hq2 hq3
        clear hq2
        subst hq1 hq3
        obtain ⟨x, hcell, hrow⟩ := (HLS.out.below hbl.out).row (i := k) (by rw [HTT.out]; omega)
        obtain ⟨hxl, hxi⟩ := HAT0.out k hlt
        obtain ⟨xA, xc, rfl, _⟩ := own_form hrow
        rw [hxl] at hcell hrow
        obtain ⟨y1, hy1⟩ : ∃ y1, barOf C p (xnth TR k) = y1 := ⟨_, rfl⟩
        obtain ⟨y2, hy2⟩ : ∃ y2, barOf C q (xnth TR k) = y2 := ⟨_, rfl⟩
        have HN := Lib.hid (show cntL C p q (TR.take (k + 1)) = cntL C p q (TR.take k) + if y1 = y2 then 1 else 0 by
          rw [take_snoc (by rw [HTT.out]; exact hlt), cntL_snoc, ← xnth_lt (by rw [HTT.out]; exact hlt), hy1, hy2])
        obtain ⟨n, hn1⟩ : ∃ n, cntL C p q (TR.take k) = n := ⟨_, rfl⟩
        rw [hn1] at HN hcn ⊢
        have HY1 := Lib.hid hy1
        have HY2 := Lib.hid hy2
        have HXR := Lib.hid hrow
        have HXL := Lib.hid hxl
        have HXI := Lib.hid hxi
        have hcl := block_lt_of_cell hcell
        have HCE := Lib.hid hcell
        have hk0 : (0 : Int) ≤ (k : Nat) := by omega
        have hk1 : ((k : Nat) : Int) < (T : Int) := by omega
        have hn0 : (0 : Int) ≤ (n : Nat) := by omega
        have hn4 : ((n : Nat) : Int) ≤ 4096 := by omega
        obtain ⟨r, hr⟩ : ∃ r, (y1 == y2) = r := ⟨_, rfl⟩
        have HR := Lib.hid hr
        clear hcell hrow hxl hxi hy1 hy2 hn1 hr
        go_upto_region 8 with fail
        clear c0 c1 c2
        refine wp_region_facts _ 15 [34, 35, 36, 37, 38, 39, 40, 41, 42, 43, 44, 45, 46, 47, 48] [isV (.agg #[.slice a C.deeds.length cap, .slice a2 C.sights.length cap2, .int .i64 C.wrong]), isV (.slice (some ⟨lg, 0, none⟩) T qc), isV (.int .i64 (k : Int)), isV (.pointer (some ⟨lg, k, none⟩)), isV (.slice xA C.deeds.length xc), isV (.int .i64 (p : Int)), isV (.int .i64 y1), isV (.agg #[.slice a C.deeds.length cap, .slice a2 C.sights.length cap2, .int .i64 C.wrong]), isV (.slice (some ⟨lg, 0, none⟩) T qc), isV (.int .i64 (k : Int)), isV (.pointer (some ⟨lg, k, none⟩)), isV (.slice xA C.deeds.length xc), isV (.int .i64 (q : Int)), isV (.int .i64 y2), isV (.bool r)] (by kernel_rfl) (by kernel_rfl) (by kernel_rfl) rfl (by decide) (by decide) (by simp) ?step ?rest
        case step =>
          intro i ac W d hi hd hb hoff hdep
          have hs := HSR.out.next hb
          obtain ⟨c0, c1, c2⟩ := hs.cells
          have hcell := (hb.cell hcl).trans HCE.out
          have hi2 : i = 0 ∨ i = 1 ∨ i = 2 ∨ i = 3 ∨ i = 4 ∨ i = 5 ∨ i = 6 ∨ i = 7 ∨ i = 8 ∨ i = 9 ∨ i = 10 ∨ i = 11 ∨ i = 12 ∨ i = 13 ∨ i = 14 := by omega
          rcases hi2 with rfl | rfl | rfl | rfl | rfl | rfl | rfl | rfl | rfl | rfl | rfl | rfl | rfl | rfl | rfl
          · obtain rfl : 34 = d := by simpa using hd
            have q3 : ac.tmps[3]?.getD undef = .pointer (some ⟨w.heap.size, 0, none⟩) := (eval_tmp _ _).symm.trans <| (hoff 3 (by decide)).trans rfl
            refine fact_value rfl rfl rfl (v := .agg #[.slice a C.deeds.length cap, .slice a2 C.sights.length cap2, .int .i64 C.wrong]) (W' := W) ?_ (Below.refl _ _) rfl
            simp only [execOp]
            go_simp
          · obtain rfl : 35 = d := by simpa using hd
            have q8 : ac.tmps[8]?.getD undef = .slice (some ⟨lg, 0, none⟩) T qc := (eval_tmp _ _).symm.trans <| (hoff 8 (by decide)).trans rfl
            refine fact_value rfl rfl rfl (v := .slice (some ⟨lg, 0, none⟩) T qc) (W' := W) ?_ (Below.refl _ _) rfl
            simp only [execOp]
            go_simp
          · obtain rfl : 36 = d := by simpa using hd
            have q11 : ac.tmps[11]?.getD undef = .int .i64 (k : Int) := (eval_tmp _ _).symm.trans <| (hoff 11 (by decide)).trans rfl
            refine fact_value rfl rfl rfl (v := .int .i64 (k : Int)) (W' := W) ?_ (Below.refl _ _) rfl
            simp only [execOp]
            go_simp
          · obtain rfl : 37 = d := by simpa using hd
            have q35 : ac.tmps[35]?.getD undef = .slice (some ⟨lg, 0, none⟩) T qc := (eval_tmp _ _).symm.trans (hdep 1 35 rfl rfl)
            have q36 : ac.tmps[36]?.getD undef = .int .i64 (k : Int) := (eval_tmp _ _).symm.trans (hdep 2 36 rfl rfl)
            refine fact_value rfl rfl rfl (v := .pointer (some ⟨lg, k, none⟩)) (W' := W) ?_ (Below.refl _ _) rfl
            simp only [execOp]
            go_simp
          · obtain rfl : 38 = d := by simpa using hd
            have q37 : ac.tmps[37]?.getD undef = .pointer (some ⟨lg, k, none⟩) := (eval_tmp _ _).symm.trans (hdep 3 37 rfl rfl)
            refine fact_value rfl rfl rfl (v := .slice xA C.deeds.length xc) (W' := W) ?_ (Below.refl _ _) rfl
            simp only [execOp]
            go_simp
          · obtain rfl : 39 = d := by simpa using hd
            have q1 : ac.tmps[1]?.getD undef = .int .i64 (p : Int) := (eval_tmp _ _).symm.trans <| (hoff 1 (by decide)).trans rfl
            refine fact_value rfl rfl rfl (v := .int .i64 (p : Int)) (W' := W) ?_ (Below.refl _ _) rfl
            simp only [execOp]
            go_simp
          · obtain rfl : 40 = d := by simpa using hd
            have q34 : ac.tmps[34]?.getD undef = .agg #[.slice a C.deeds.length cap, .slice a2 C.sights.length cap2, .int .i64 C.wrong] := (eval_tmp _ _).symm.trans (hdep 0 34 rfl rfl)
            have q38 : ac.tmps[38]?.getD undef = .slice xA C.deeds.length xc := (eval_tmp _ _).symm.trans (hdep 4 38 rfl rfl)
            have q39 : ac.tmps[39]?.getD undef = .int .i64 (p : Int) := (eval_tmp _ _).symm.trans (hdep 5 39 rfl rfl)
            refine fact_call rfl rfl rfl (f := 55) (args := #[.agg #[.slice a C.deeds.length cap, .slice a2 C.sights.length cap2, .int .i64 C.wrong], .slice xA C.deeds.length xc, .int .i64 (p : Int)]) ?_ ?_
            · simp only [execOp]
              go_simp
            · refine (BarAt_to HY1.out HV.out HXL.out hp1 hs.st ((HXR.out.below hb).ints HXI.out)).mono ?_
              rintro e W' ⟨rfl, hbk⟩
              exact ⟨_, rfl, hbk, rfl⟩
          · obtain rfl : 41 = d := by simpa using hd
            have q3 : ac.tmps[3]?.getD undef = .pointer (some ⟨w.heap.size, 0, none⟩) := (eval_tmp _ _).symm.trans <| (hoff 3 (by decide)).trans rfl
            refine fact_value rfl rfl rfl (v := .agg #[.slice a C.deeds.length cap, .slice a2 C.sights.length cap2, .int .i64 C.wrong]) (W' := W) ?_ (Below.refl _ _) rfl
            simp only [execOp]
            go_simp
          · obtain rfl : 42 = d := by simpa using hd
            have q8 : ac.tmps[8]?.getD undef = .slice (some ⟨lg, 0, none⟩) T qc := (eval_tmp _ _).symm.trans <| (hoff 8 (by decide)).trans rfl
            refine fact_value rfl rfl rfl (v := .slice (some ⟨lg, 0, none⟩) T qc) (W' := W) ?_ (Below.refl _ _) rfl
            simp only [execOp]
            go_simp
          · obtain rfl : 43 = d := by simpa using hd
            have q11 : ac.tmps[11]?.getD undef = .int .i64 (k : Int) := (eval_tmp _ _).symm.trans <| (hoff 11 (by decide)).trans rfl
            refine fact_value rfl rfl rfl (v := .int .i64 (k : Int)) (W' := W) ?_ (Below.refl _ _) rfl
            simp only [execOp]
            go_simp
          · obtain rfl : 44 = d := by simpa using hd
            have q42 : ac.tmps[42]?.getD undef = .slice (some ⟨lg, 0, none⟩) T qc := (eval_tmp _ _).symm.trans (hdep 8 42 rfl rfl)
            have q43 : ac.tmps[43]?.getD undef = .int .i64 (k : Int) := (eval_tmp _ _).symm.trans (hdep 9 43 rfl rfl)
            refine fact_value rfl rfl rfl (v := .pointer (some ⟨lg, k, none⟩)) (W' := W) ?_ (Below.refl _ _) rfl
            simp only [execOp]
            go_simp
          · obtain rfl : 45 = d := by simpa using hd
            have q44 : ac.tmps[44]?.getD undef = .pointer (some ⟨lg, k, none⟩) := (eval_tmp _ _).symm.trans (hdep 10 44 rfl rfl)
            refine fact_value rfl rfl rfl (v := .slice xA C.deeds.length xc) (W' := W) ?_ (Below.refl _ _) rfl
            simp only [execOp]
            go_simp
          · obtain rfl : 46 = d := by simpa using hd
            have q2 : ac.tmps[2]?.getD undef = .int .i64 (q : Int) := (eval_tmp _ _).symm.trans <| (hoff 2 (by decide)).trans rfl
            refine fact_value rfl rfl rfl (v := .int .i64 (q : Int)) (W' := W) ?_ (Below.refl _ _) rfl
            simp only [execOp]
            go_simp
          · obtain rfl : 47 = d := by simpa using hd
            have q41 : ac.tmps[41]?.getD undef = .agg #[.slice a C.deeds.length cap, .slice a2 C.sights.length cap2, .int .i64 C.wrong] := (eval_tmp _ _).symm.trans (hdep 7 41 rfl rfl)
            have q45 : ac.tmps[45]?.getD undef = .slice xA C.deeds.length xc := (eval_tmp _ _).symm.trans (hdep 11 45 rfl rfl)
            have q46 : ac.tmps[46]?.getD undef = .int .i64 (q : Int) := (eval_tmp _ _).symm.trans (hdep 12 46 rfl rfl)
            refine fact_call rfl rfl rfl (f := 55) (args := #[.agg #[.slice a C.deeds.length cap, .slice a2 C.sights.length cap2, .int .i64 C.wrong], .slice xA C.deeds.length xc, .int .i64 (q : Int)]) ?_ ?_
            · simp only [execOp]
              go_simp
            · refine (BarAt_to HY2.out HV.out HXL.out hp2 hs.st ((HXR.out.below hb).ints HXI.out)).mono ?_
              rintro e W' ⟨rfl, hbk⟩
              exact ⟨_, rfl, hbk, rfl⟩
          · obtain rfl : 48 = d := by simpa using hd
            have q40 : ac.tmps[40]?.getD undef = .int .i64 y1 := (eval_tmp _ _).symm.trans (hdep 6 40 rfl rfl)
            have q47 : ac.tmps[47]?.getD undef = .int .i64 y2 := (eval_tmp _ _).symm.trans (hdep 13 47 rfl rfl)
            refine fact_value rfl rfl rfl (v := .bool r) (W' := W) ?_ (Below.refl _ _) rfl
            rw [← HR.out]
            simp only [execOp]
            go_simp
        case rest =>
          intro vs W2 hvl hbx hval
          obtain ⟨z0, z1, z2, z3, z4, z5, z6, z7, z8, z9, z10, z11, z12, z13, z14, rfl⟩ : ∃ z0 z1 z2 z3 z4 z5 z6 z7 z8 z9 z10 z11 z12 z13 z14, vs = [z0, z1, z2, z3, z4, z5, z6, z7, z8, z9, z10, z11, z12, z13, z14] := by
            match vs, hvl with
            | [z0, z1, z2, z3, z4, z5, z6, z7, z8, z9, z10, z11, z12, z13, z14], _ => exact ⟨z0, z1, z2, z3, z4, z5, z6, z7, z8, z9, z10, z11, z12, z13, z14, rfl⟩
          obtain rfl : z0 = .agg #[.slice a C.deeds.length cap, .slice a2 C.sights.length cap2, .int .i64 C.wrong] := by obtain ⟨u, e, h⟩ := hval 0 (by omega); have e2 : some z0 = some u := e; injection e2 with e2; subst e2; exact h
          obtain rfl : z1 = .slice (some ⟨lg, 0, none⟩) T qc := by obtain ⟨u, e, h⟩ := hval 1 (by omega); have e2 : some z1 = some u := e; injection e2 with e2; subst e2; exact h
          obtain rfl : z2 = .int .i64 (k : Int) := by obtain ⟨u, e, h⟩ := hval 2 (by omega); have e2 : some z2 = some u := e; injection e2 with e2; subst e2; exact h
          obtain rfl : z3 = .pointer (some ⟨lg, k, none⟩) := by obtain ⟨u, e, h⟩ := hval 3 (by omega); have e2 : some z3 = some u := e; injection e2 with e2; subst e2; exact h
          obtain rfl : z4 = .slice xA C.deeds.length xc := by obtain ⟨u, e, h⟩ := hval 4 (by omega); have e2 : some z4 = some u := e; injection e2 with e2; subst e2; exact h
          obtain rfl : z5 = .int .i64 (p : Int) := by obtain ⟨u, e, h⟩ := hval 5 (by omega); have e2 : some z5 = some u := e; injection e2 with e2; subst e2; exact h
          obtain rfl : z6 = .int .i64 y1 := by obtain ⟨u, e, h⟩ := hval 6 (by omega); have e2 : some z6 = some u := e; injection e2 with e2; subst e2; exact h
          obtain rfl : z7 = .agg #[.slice a C.deeds.length cap, .slice a2 C.sights.length cap2, .int .i64 C.wrong] := by obtain ⟨u, e, h⟩ := hval 7 (by omega); have e2 : some z7 = some u := e; injection e2 with e2; subst e2; exact h
          obtain rfl : z8 = .slice (some ⟨lg, 0, none⟩) T qc := by obtain ⟨u, e, h⟩ := hval 8 (by omega); have e2 : some z8 = some u := e; injection e2 with e2; subst e2; exact h
          obtain rfl : z9 = .int .i64 (k : Int) := by obtain ⟨u, e, h⟩ := hval 9 (by omega); have e2 : some z9 = some u := e; injection e2 with e2; subst e2; exact h
          obtain rfl : z10 = .pointer (some ⟨lg, k, none⟩) := by obtain ⟨u, e, h⟩ := hval 10 (by omega); have e2 : some z10 = some u := e; injection e2 with e2; subst e2; exact h
          obtain rfl : z11 = .slice xA C.deeds.length xc := by obtain ⟨u, e, h⟩ := hval 11 (by omega); have e2 : some z11 = some u := e; injection e2 with e2; subst e2; exact h
          obtain rfl : z12 = .int .i64 (q : Int) := by obtain ⟨u, e, h⟩ := hval 12 (by omega); have e2 : some z12 = some u := e; injection e2 with e2; subst e2; exact h
          obtain rfl : z13 = .int .i64 y2 := by obtain ⟨u, e, h⟩ := hval 13 (by omega); have e2 : some z13 = some u := e; injection e2 with e2; subst e2; exact h
          obtain rfl : z14 = .bool r := by obtain ⟨u, e, h⟩ := hval 14 (by omega); have e2 : some z14 = some u := e; injection e2 with e2; subst e2; exact h
          clear hval hvl
          have HBX := Lib.hid (hbl.out.trans (hbx.mono hsr))
          clear hbx
          simp only [putL, Act.put, List.drop, List.setIfInBounds_toArray, List.set_cons_zero, List.set_cons_succ]
          cases r
          · have HNN := Lib.hid (show cntL C p q (TR.take (k + 1)) = n by rw [HN.out, if_neg (by simpa using HR.out)]; rfl)
            go_wp2
            exact ⟨⟨k + 1, by omega, by go_num, by rw [HNN.out], HBX.out⟩, by simp [intOf]; omega⟩
          · have HNN := Lib.hid (show cntL C p q (TR.take (k + 1)) = n + 1 by rw [HN.out, if_pos (by simpa using HR.out)])
            go_wp2
            exact ⟨⟨k + 1, by omega, by go_num, by rw [HNN.out]; go_num, HBX.out⟩, by simp [intOf]; omega⟩
      · obtain rfl : T = k := by omega
        have HALL := Lib.hid (show TR.take T = TR by rw [List.take_of_length_le (by rw [HTT.out]; exact Nat.le_refl _)])
        rw [HALL.out]
        obtain ⟨n, hn1⟩ : ∃ n, cntL C p q TR = n := ⟨_, rfl⟩
        have HNT := Lib.hid (show n ≤ T from hn1 ▸ HCL.out)
        rw [hn1]
        have HN1 := Lib.hid hn1
        clear hn1 hcn
        by_cases h1 : n = T
        · have e1 : (((n : Nat) : Int) == ((T : Nat) : Int)) = true := by simp [h1]
          have H1 := Lib.hid (show (1 : Int) = RV by rw [← HRV.out, HN1.out, if_pos h1])
          clear h1
          go_wp2
          go_ret2
          exact ⟨by rw [H1.out]; rfl, HSR.out.b⟩
        · have e1 : (((n : Nat) : Int) == ((T : Nat) : Int)) = false := by simp; omega
          by_cases h2 : n = 0
          · have e2 : (((n : Nat) : Int) == 0) = true := by simp [h2]
            have H2 := Lib.hid (show (2 : Int) = RV by rw [← HRV.out, HN1.out, if_neg h1, if_pos h2])
            clear h1 h2
            go_wp2
            go_ret2
            exact ⟨by rw [H2.out]; rfl, HSR.out.b⟩
          · have e2 : (((n : Nat) : Int) == 0) = false := by simp; omega
            have H3 := Lib.hid (show (3 : Int) = RV by rw [← HRV.out, HN1.out, if_neg h1, if_neg h2])
            clear h1 h2
            go_wp2
            go_ret2
            exact ⟨by rw [H3.out]; rfl, HSR.out.b⟩

theorem rAlike_any (v : Value) (C : Chain) (x y : Int) (w : World) (hn : C.deeds.length ≤ 40) (hx : ChainAt w.heap.size w v C) :
    Calls Try.prog 39 #[v, .int .i64 x, .int .i64 y] w fun e w' => e = .returned (.tuple #[.int .i64 (alikeR C x y), .int .i64 (knownE C (placeB C x && placeB C y))]) ∧ Below w.heap.size w w' := by
  by_cases h0 : knownE C (placeB C x && placeB C y) = 0
  · have hV : validB C = true := by
      cases h : validB C
      · simp [knownE, h] at h0
      · rfl
    have his : (placeB C x && placeB C y) = true := by
      cases h : (placeB C x && placeB C y)
      · simp [knownE, h, hV] at h0
      · rfl
    rw [alikeR, if_pos h0, h0]
    rw [his] at h0 ⊢
    rw [Bool.and_eq_true] at his
    obtain ⟨p, rfl⟩ := Int.eq_ofNat_of_zero_le (wB_iff.1 his.1).1
    obtain ⟨q, rfl⟩ := Int.eq_ofNat_of_zero_le (wB_iff.1 his.2).1
    exact rAlike_ok v C p q w hV his.1 his.2 h0 hx
  · rw [alikeR, if_neg h0]
    exact rAlike_no v C x y w hn h0 hx

end Go.Proofs.Ytgjikoebneiamaa

namespace Go.Proofs.Ytgjikoebneiamaa
open Go.RowKit

theorem place_range {C : Chain} (hV : Valid C) (link : Int) (x : List Int) : -1 ≤ placeOf C link x ∧ placeOf C link x < -1 + (14 : Nat) := by
  have h1 := ixV_bound (story C.deeds x C.deeds.length) link
  have h2 := (story_ok (ends := x) hV.deed _ (Nat.le_refl _)).1
  have h3 := lenTo_le C.deeds C.deeds.length
  have h4 := hV.nd
  unfold placeOf; omega
theorem last_range {C : Chain} (hV : Valid C) (link : Int) (x : List Int) : -1 ≤ lastOf C link x ∧ lastOf C link x < -1 + (14 : Nat) := by
  have h1 := lastTo_le C.deeds x link C.deeds.length
  have h4 := hV.nd
  unfold lastOf; omega
/-- The places of a link, and the deeds that proved it last, in the reference's words. -/
def whereR (C : Chain) (link : Int) : List Int := selTo ((knownL C (linkB C link)).map (placeOf C link)) (-1) 14
def lastR (C : Chain) (link : Int) : List Int := selTo ((knownL C (linkB C link)).map (lastOf C link)) (-1) 14
theorem where_known {C : Chain} {link : Int} (hV : validB C = true) : ansV C (linkB C link) (placeOf C link) = whereR C link :=
  ans_known hV (fun _ x _ => place_range (valid_iff.1 hV) link x)
theorem last_known {C : Chain} {link : Int} (hV : validB C = true) : ansV C (linkB C link) (lastOf C link) = lastR C link :=
  ans_known hV (fun _ x _ => last_range (valid_iff.1 hV) link x)
theorem where_bad {C : Chain} {link : Int} (h : validB C = false) : whereR C link = [] := by rw [whereR, (known_bad h).1, List.map_nil, selTo_nil]
theorem last_bad {C : Chain} {link : Int} (h : validB C = false) : lastR C link = [] := by rw [lastR, (known_bad h).1, List.map_nil, selTo_nil]
theorem srt_empty : srt [] = [] := List.length_eq_zero_iff.1 (by rw [srt_len]; rfl)
theorem lo_srt {l m : List Int} (h : ∀ x, x ∈ l ↔ x ∈ m) : nth (srt l) 0 = loL m ∧ nth (srt l) ((srt l).length - 1) = hiL m := by
  by_cases hm : m = []
  · subst hm
    have : l = [] := List.eq_nil_iff_forall_not_mem.2 fun x hx => by have := (h x).1 hx; cases this
    subst this
    rw [srt_empty]
    exact ⟨rfl, rfl⟩
  · have h1 := loL_mem hm
    have h2 := hiL_mem hm
    have hp : 0 < (srt l).length := List.length_pos_of_mem (mem_srt.2 ((h _).2 h1.1))
    have s1 := sorted_first (srt_sorted l) hp
    have s2 := sorted_last (srt_sorted l) hp
    have a1 := h1.2 _ ((h _).1 (mem_srt.1 s1.1))
    have a2 := h2.2 _ ((h _).1 (mem_srt.1 s2.1))
    have b1 := s1.2 _ (mem_srt.2 ((h _).2 h1.1))
    have b2 := s2.2 _ (mem_srt.2 ((h _).2 h2.1))
    omega
theorem span_known {C : Chain} {link : Int} (hV : validB C = true) : spanL (ansV C (linkB C link) (timesOf C link)) = .agg #[.int .i64 (loL ((knownL C (linkB C link)).map (timesOf C link))), .int .i64 (hiL ((knownL C (linkB C link)).map (timesOf C link)))] := by
  have h : ansV C (linkB C link) (timesOf C link) = srt (if linkB C link = true then (truthsP C).map (timesOf C link) else []) := by
    unfold ansV
    split
    · rfl
    · exact srt_empty.symm
  have hm : ∀ x, x ∈ (if linkB C link = true then (truthsP C).map (timesOf C link) else []) ↔ x ∈ (knownL C (linkB C link)).map (timesOf C link) := fun y => by
    cases hl : linkB C link
    · simp [knownL]
    · rw [if_pos rfl, List.mem_map, List.mem_map]
      constructor
      · rintro ⟨x, hx, rfl⟩
        exact ⟨x, (mem_known hV).2 ⟨rfl, hx⟩, rfl⟩
      · rintro ⟨x, hx, rfl⟩
        exact ⟨x, ((mem_known hV).1 hx).2, rfl⟩
  have hl := lo_srt hm
  rw [spanL, h, hl.1, hl.2]
theorem alike_known {C : Chain} {x y : Int} (hV : validB C = true) : alikeV C x y = alikeR C x y := by
  unfold alikeV alikeR
  generalize hi : (placeB C x && placeB C y) = is
  cases is
  · rw [if_neg (by simp), if_neg (by simp [knownE, hV])]
  · have hk : knownL C true = truthsR C := by simp [knownL, hV]
    have hl := truths_len hV
    have hp := truths_perm (valid_iff.1 hV)
    by_cases h0 : (truthsP C).length = 0
    · rw [if_neg (fun h => h.2 h0), if_neg (by rw [← knownE_ans hV, ansE, if_pos rfl, noneE, if_pos h0]; decide)]
    · rw [if_pos ⟨rfl, h0⟩, if_pos (by rw [← knownE_ans hV, ansE, if_pos rfl, noneE_pos h0]), hk]
      generalize hf : srt ((truthsP C).map (alikeOf C x.toNat y.toNat)) = L
      have hm : ∀ z, z ∈ L ↔ ∃ e ∈ truthsR C, alikeOf C x.toNat y.toNat e = z := fun z => by
        rw [← hf, mem_srt, List.mem_map]
        constructor
        · rintro ⟨e, he, h⟩; exact ⟨e, hp.mem_iff.2 he, h⟩
        · rintro ⟨e, he, h⟩; exact ⟨e, hp.mem_iff.1 he, h⟩
      have hs : L.Pairwise (· < ·) := hf ▸ srt_sorted _
      have hT0 : (truthsR C).length ≠ 0 := by omega
      obtain ⟨e0, he0⟩ : ∃ e, e ∈ truthsR C := List.exists_mem_of_length_pos (by omega)
      have hc := cntL_le C x.toNat y.toNat (truthsR C)
      by_cases h1 : cntL C x.toNat y.toNat (truthsR C) = (truthsR C).length
      · rw [if_pos h1]
        have hall := List.length_filter_eq_length_iff.1 h1
        have : L = [1] := sorted_ext hs (by simp) (fun z => by
          rw [hm, List.mem_singleton]
          constructor
          · rintro ⟨e, he, rfl⟩
            rw [alikeOf, if_pos (by simpa using hall e he)]
          · rintro rfl
            exact ⟨e0, he0, by rw [alikeOf, if_pos (by simpa using hall e0 he0)]⟩)
        rw [this]; rfl
      · rw [if_neg h1]
        by_cases h2 : cntL C x.toNat y.toNat (truthsR C) = 0
        · rw [if_pos h2]
          have hall := List.filter_eq_nil_iff.1 (List.length_eq_zero_iff.1 h2)
          have : L = [2] := sorted_ext hs (by simp) (fun z => by
            rw [hm, List.mem_singleton]
            constructor
            · rintro ⟨e, he, rfl⟩
              rw [alikeOf, if_neg (by simpa using hall e he)]
            · rintro rfl
              exact ⟨e0, he0, by rw [alikeOf, if_neg (by simpa using hall e0 he0)]⟩)
          rw [this]; rfl
        · rw [if_neg h2]
          have hn : ¬ ∀ e ∈ truthsR C, decide (barOf C x.toNat e = barOf C y.toNat e) = true := fun h => h1 (List.length_filter_eq_length_iff.2 h)
          have hn2 : ¬ ∀ e ∈ truthsR C, ¬ decide (barOf C x.toNat e = barOf C y.toNat e) = true := fun h => h2 (List.length_eq_zero_iff.2 (List.filter_eq_nil_iff.2 h))
          simp only [Classical.not_forall] at hn hn2
          obtain ⟨e1, he1, hb1⟩ := hn
          obtain ⟨e2, he2, hb2⟩ := hn2
          have m2 : (2 : Int) ∈ L := (hm _).2 ⟨e1, he1, by rw [alikeOf, if_neg (by simpa using hb1)]⟩
          have m1 : (1 : Int) ∈ L := (hm _).2 ⟨e2, he2, by rw [alikeOf, if_pos (by simpa using hb2)]⟩
          have : 1 < L.length := by
            match L, m1, m2 with
            | [a], m1, m2 => simp at m1 m2; omega
            | _ :: _ :: _, _, _ => simp
          rw [oneL, if_pos this]
theorem alikeR_bad {C : Chain} {x y : Int} (h : validB C = false) : alikeR C x y = 0 := by rw [alikeR, if_neg (by rw [(known_bad h).2]; decide)]

theorem Where_u {a a2 : Option Addr} {cap cap2 : Nat} {link : Int} {C : Chain} {w : World} {L : List Int} {y : Int} (hf : whereR C link = L) (he : knownE C (linkB C link) = y)
    (hx : ChainAt w.heap.size w (.agg #[.slice a C.deeds.length cap, .slice a2 C.sights.length cap2, .int .i64 C.wrong]) C) :
    Calls Try.prog 32 #[.agg #[.slice a C.deeds.length cap, .slice a2 C.sights.length cap2, .int .i64 C.wrong], .int .i64 link] w fun e w' => ∃ v, e = .returned (.tuple #[v, .int .i64 y]) ∧ IntsAt w'.heap.size w' v L ∧ Below w.heap.size w w' := by
  subst hf he
  cases hV : validB C
  · rw [where_bad hV, (known_bad hV).2]
    exact (Where_bad a a2 cap cap2 C link w hx hV).mono fun _ _ ⟨h1, h2⟩ => ⟨_, h1, ints_nil' _ _, h2⟩
  · exact Where_v (where_known hV) (knownE_ans hV) rfl rfl hx hV
theorem Last_u {a a2 : Option Addr} {cap cap2 : Nat} {link : Int} {C : Chain} {w : World} {L : List Int} {y : Int} (hf : lastR C link = L) (he : knownE C (linkB C link) = y)
    (hx : ChainAt w.heap.size w (.agg #[.slice a C.deeds.length cap, .slice a2 C.sights.length cap2, .int .i64 C.wrong]) C) :
    Calls Try.prog 36 #[.agg #[.slice a C.deeds.length cap, .slice a2 C.sights.length cap2, .int .i64 C.wrong], .int .i64 link] w fun e w' => ∃ v, e = .returned (.tuple #[v, .int .i64 y]) ∧ IntsAt w'.heap.size w' v L ∧ Below w.heap.size w w' := by
  subst hf he
  cases hV : validB C
  · rw [last_bad hV, (known_bad hV).2]
    exact (Last_bad a a2 cap cap2 C link w hx hV).mono fun _ _ ⟨h1, h2⟩ => ⟨_, h1, ints_nil' _ _, h2⟩
  · exact Last_v (last_known hV) (knownE_ans hV) rfl rfl hx hV
theorem Proofs_u {a a2 : Option Addr} {cap cap2 : Nat} {link : Int} {C : Chain} {w : World} {lo hi y : Int} (hl : loL ((knownL C (linkB C link)).map (timesOf C link)) = lo) (hh : hiL ((knownL C (linkB C link)).map (timesOf C link)) = hi) (he : knownE C (linkB C link) = y)
    (hx : ChainAt w.heap.size w (.agg #[.slice a C.deeds.length cap, .slice a2 C.sights.length cap2, .int .i64 C.wrong]) C) :
    Calls Try.prog 34 #[.agg #[.slice a C.deeds.length cap, .slice a2 C.sights.length cap2, .int .i64 C.wrong], .int .i64 link] w fun e w' => e = .returned (.tuple #[.agg #[.int .i64 lo, .int .i64 hi], .int .i64 y]) ∧ Below w.heap.size w w' := by
  subst hl hh he
  cases hV : validB C
  · rw [(known_bad hV).1, (known_bad hV).2]
    exact Proofs_bad a a2 cap cap2 C link w hx hV
  · rw [← span_known hV]
    exact Proofs_v rfl (knownE_ans hV) rfl rfl hx hV
theorem Alike_u {a a2 : Option Addr} {cap cap2 : Nat} {x y : Int} {C : Chain} {w : World} {r z : Int} (hf : alikeR C x y = r) (he : knownE C (placeB C x && placeB C y) = z) (hI : I64 x) (hJ : I64 y)
    (hx : ChainAt w.heap.size w (.agg #[.slice a C.deeds.length cap, .slice a2 C.sights.length cap2, .int .i64 C.wrong]) C) :
    Calls Try.prog 38 #[.agg #[.slice a C.deeds.length cap, .slice a2 C.sights.length cap2, .int .i64 C.wrong], .int .i64 x, .int .i64 y] w fun e w' => e = .returned (.tuple #[.int .i64 r, .int .i64 z]) ∧ Below w.heap.size w w' := by
  subst hf he
  cases hV : validB C
  · rw [alikeR_bad hV, (known_bad hV).2]
    exact Alike_bad a a2 cap cap2 C x y w hx hV
  · rw [← alike_known hV, ← knownE_ans hV]
    exact Alike_v a a2 cap cap2 x y C w hx hV hI hJ
theorem rWhere_u {v : Value} {C : Chain} {link : Int} {w : World} {L : List Int} {y : Int} (hf : whereR C link = L) (he : knownE C (linkB C link) = y) (hn : C.deeds.length ≤ 40) (hx : ChainAt w.heap.size w v C) :
    Calls Try.prog 33 #[v, .int .i64 link] w fun e w' => ∃ q, e = .returned (.tuple #[q, .int .i64 y]) ∧ IntsAt w'.heap.size w' q L ∧ Below w.heap.size w w' := by
  subst hf he
  exact (rWhere_any v C link w hn hx).mono fun _ _ ⟨q, h1, h2, h3⟩ => ⟨q, h1, h2.ints (selTo_i64 (by omega) (by omega)), h3⟩
theorem rLast_u {v : Value} {C : Chain} {link : Int} {w : World} {L : List Int} {y : Int} (hf : lastR C link = L) (he : knownE C (linkB C link) = y) (hn : C.deeds.length ≤ 40) (hx : ChainAt w.heap.size w v C) :
    Calls Try.prog 37 #[v, .int .i64 link] w fun e w' => ∃ q, e = .returned (.tuple #[q, .int .i64 y]) ∧ IntsAt w'.heap.size w' q L ∧ Below w.heap.size w w' := by
  subst hf he
  exact (rLast_any v C link w hn hx).mono fun _ _ ⟨q, h1, h2, h3⟩ => ⟨q, h1, h2.ints (selTo_i64 (by omega) (by omega)), h3⟩
theorem rProofs_u {v : Value} {C : Chain} {link : Int} {w : World} {lo hi y : Int} (hl : loL ((knownL C (linkB C link)).map (timesOf C link)) = lo) (hh : hiL ((knownL C (linkB C link)).map (timesOf C link)) = hi) (he : knownE C (linkB C link) = y) (hn : C.deeds.length ≤ 40) (hx : ChainAt w.heap.size w v C) :
    Calls Try.prog 35 #[v, .int .i64 link] w fun e w' => e = .returned (.tuple #[.agg #[.int .i64 lo, .int .i64 hi], .int .i64 y]) ∧ Below w.heap.size w w' := by
  subst hl hh he
  exact rProofs_any v C link w hn hx
theorem rAlike_u {v : Value} {C : Chain} {x y : Int} {w : World} {r z : Int} (hf : alikeR C x y = r) (he : knownE C (placeB C x && placeB C y) = z) (hn : C.deeds.length ≤ 40) (hx : ChainAt w.heap.size w v C) :
    Calls Try.prog 39 #[v, .int .i64 x, .int .i64 y] w fun e w' => e = .returned (.tuple #[.int .i64 r, .int .i64 z]) ∧ Below w.heap.size w w' := by
  subst hf he
  exact rAlike_any v C x y w hn hx
end Go.Proofs.Ytgjikoebneiamaa
