/-
  Links, walks: which link can be at a place, and where a link can be.
-/
import Derived.Test.YtgjikoebneiamaaLAns
import Derived.Test.YtgjikoebneiamaaLLaw1
import Derived.Test.YtgjikoebneiamaaLOpen
namespace Go.Proofs.Ytgjikoebneiamaa
open Go.RowKit Go.Sort

theorem one_ints {w : World} {b : Nat} {y : Int} (hb : b = w.heap.size) (hy : I64 y) : IntsAt (w.alloc (.cells #[.int .i64 y] 3)).heap.size (w.alloc (.cells #[.int .i64 y] 3)) (.slice (some ⟨b, 0, none⟩) 1 1) [y] := by
  subst hb
  refine ⟨_, 1, w.heap.size, 0, rfl, by simp, by unfold maxLen; omega, fun _ => ⟨rfl, by simp⟩, fun i hi => ?_, by simpa using hy⟩
  obtain rfl : i = 0 := by simpa using hi
  exact (cell1_of (heap_new w _)).1
/-- A past's link at a place. -/
def linkAt (C : Chain) (at_ : Nat) (x : List Int) : Int := nth (story C.deeds x C.deeds.length) at_
/-- The place of a link in a past. -/
def placeOf (C : Chain) (link : Int) (x : List Int) : Int := ixV (story C.deeds x C.deeds.length) link
theorem linkAt_i64 {C : Chain} (hV : Valid C) {at_ : Nat} (hat : (at_ : Int) < lenTo C.deeds C.deeds.length) (x : List Int) : I64 (linkAt C at_ x) :=
  story_i64 hV x (Nat.le_refl _) _ (nth_mem (by have := (story_ok (ends := x) hV.deed _ (Nat.le_refl _)).1; omega))
theorem placeOf_i64 {C : Chain} (hV : Valid C) (link : Int) (x : List Int) : I64 (placeOf C link x) := by
  have h1 := ixV_bound (story C.deeds x C.deeds.length) link
  have h2 := (story_ok (ends := x) hV.deed _ (Nat.le_refl _)).1
  have h3 := lenTo_le C.deeds C.deeds.length
  have h4 := hV.nd
  unfold I64 placeOf; omega

set_option maxRecDepth 100000 in
set_option maxHeartbeats 4000000 in
theorem Who_ok (a a2 : Option Addr) (cap cap2 : Nat) (C : Chain) (at_ : Nat) (w : World)
    (hx : ChainAt w.heap.size w (.agg #[.slice a C.deeds.length cap, .slice a2 C.sights.length cap2, .int .i64 C.wrong]) C) (hV : validB C = true) (hat : (at_ : Int) < lenTo C.deeds C.deeds.length) :
    Calls Try.prog 24 #[.agg #[.slice a C.deeds.length cap, .slice a2 C.sights.length cap2, .int .i64 C.wrong], .int .i64 at_] w fun e w' => ∃ v, e = .returned (.tuple #[v, .int .i64 (noneE (truthsP C).length)]) ∧ IntsAt w'.heap.size w' v (srt ((truthsP C).map (linkAt C at_))) ∧ Below w.heap.size w w' := by
  have hV' := valid_iff.1 hV
  have hnd := hV'.nd
  have hle := lenTo_le C.deeds C.deeds.length
  have HX := Lib.hid (fun W (hb : Below w.heap.size w W) => (hx.below hb).mono hb.size)
  have HV := Lib.hid hV
  have HV' := Lib.hid hV'
  have HAT := Lib.hid hat
  have ha64 : I64 (at_ : Int) := by unfold I64; omega
  have HI := Lib.hid (show allTo (fun i => wB (nth [(at_ : Int)] i) 0 (lenTo C.deeds C.deeds.length - 1)) [(at_ : Int)].length = true from allTo_iff.2 (fun i hi => by
    obtain rfl : i = 0 := by simpa using hi
    rw [wB_iff]; show 0 ≤ (at_ : Int) ∧ (at_ : Int) ≤ _; omega))
  clear hx hV hV' hle hat
  go_enter Try.func24, Try.ntmps24
  go_wp2_with fail
  refine (openAt_ok a a2 cap cap2 C _ [(at_ : Int)] _ (HX.out _ (by go_grown)) (one_ints (by simp) ha64) HV.out HI.out).mono ?_
  rintro e w1 ⟨bm, rfl, hbk, hb1⟩
  have hb1s := hb1.out.size
  simp only [World.size_alloc] at hb1s
  have hbw : Below w.heap.size w w1 := ((((Below.refl _ w).alloc (Nat.le_refl _) _).alloc (by simp) _).alloc (by simp; omega) _).trans (hb1.out.mono (by simp; omega))
  have e1 := (hb1.out.block (w.heap.size + 1) (by simp)).trans ((Below.heap_alloc _ _ _ (by simp)).trans (heap_new1 w _ _))
  have HBW := Lib.hid hbw
  have HE1 := Lib.hid e1
  obtain ⟨N, hN⟩ : ∃ N, weldsTo C.deeds C.deeds.length = N := ⟨_, rfl⟩
  rw [hN] at hbk ⊢
  clear hbw e1 hb1 hN
  go_wp2_with fail
  obtain ⟨w2, hw2⟩ : ∃ w2, w2 = w1.alloc (.cells #[.slice a C.deeds.length cap, .slice a2 C.sights.length cap2, .int .i64 C.wrong, .slice (some ⟨bm, 0, none⟩) N 12] 84) := ⟨_, rfl⟩
  rw [← hw2]
  have hb2 : Below w1.heap.size w1 w2 := hw2 ▸ (Below.refl _ w1).alloc (Nat.le_refl _) _
  have HB2 := Lib.hid hb2
  have hbk2 : BookAt w2.heap.size w2 (.agg #[.slice a C.deeds.length cap, .slice a2 C.sights.length cap2, .int .i64 C.wrong, .slice (some ⟨bm, 0, none⟩) N 12]) C := (hbk.out.below hb2).mono hb2.size
  clear hw2 hb2
  refine (answers_any _ _ _ C HV'.out 79 #[.pointer (some ⟨w.heap.size + 1, 0, none⟩)] (linkAt C at_) w2 hbk2 (fun x _ => linkAt_i64 HV'.out HAT.out x) (enters_of Try.func79 (by kernel_rfl) rfl) (fun x _ Bp Bm W hW hp =>
    whoAsk_any C HV'.out x Bp Bm (w.heap.size + 1) at_ W hp (cell1_of ((hW.block (w.heap.size + 1) (by have := HB2.out.size; omega)).trans ((HB2.out.block _ (by omega)).trans HE1.out))).1 (by have := (story_ok (ends := x) HV'.out.deed _ (Nat.le_refl _)).1; have := HAT.out; omega))).mono ?_
  rintro e w3 ⟨v, rfl, hv, hb3⟩
  have hfin : Below w.heap.size w w3 := (HBW.out.trans (HB2.out.mono HBW.out.size)).trans (hb3.mono (by have := HBW.out.size; have := HB2.out.size; omega))
  have HF := Lib.hid hfin
  have HVV := Lib.hid hv
  clear hfin hv hb3 hbk2
  go_wp2_with fail
  go_ret2
  exact ⟨v, rfl, HVV.out, HF.out⟩

set_option maxRecDepth 100000 in
set_option maxHeartbeats 4000000 in
theorem Where_ok (a a2 : Option Addr) (cap cap2 : Nat) (C : Chain) (link : Int) (w : World)
    (hx : ChainAt w.heap.size w (.agg #[.slice a C.deeds.length cap, .slice a2 C.sights.length cap2, .int .i64 C.wrong]) C) (hV : validB C = true) (hi : wB link 0 ((weldsTo C.deeds C.deeds.length : Int) - 1) = true) :
    Calls Try.prog 32 #[.agg #[.slice a C.deeds.length cap, .slice a2 C.sights.length cap2, .int .i64 C.wrong], .int .i64 link] w fun e w' => ∃ v, e = .returned (.tuple #[v, .int .i64 (noneE (truthsP C).length)]) ∧ IntsAt w'.heap.size w' v (srt ((truthsP C).map (placeOf C link))) ∧ Below w.heap.size w w' := by
  have hV' := valid_iff.1 hV
  have HX := Lib.hid (fun W (hb : Below w.heap.size w W) => (hx.below hb).mono hb.size)
  have HV := Lib.hid hV
  have HV' := Lib.hid hV'
  have HI := Lib.hid hi
  clear hx hV hV' hi
  go_enter Try.func32, Try.ntmps32
  go_wp2_with fail
  refine (openLink_ok a a2 cap cap2 C link _ (HX.out _ (by go_grown)) HV.out HI.out).mono ?_
  rintro e w1 ⟨bm, rfl, hbk, hb1⟩
  have hb1s := hb1.out.size
  simp only [World.size_alloc] at hb1s
  have hbw : Below w.heap.size w w1 := (((Below.refl _ w).alloc (Nat.le_refl _) _).alloc (by simp) _).trans (hb1.out.mono (by simp; omega))
  have e1 := (hb1.out.block (w.heap.size + 1) (by simp)).trans (heap_new1 w _ _)
  have HBW := Lib.hid hbw
  have HE1 := Lib.hid e1
  obtain ⟨N, hN⟩ : ∃ N, weldsTo C.deeds C.deeds.length = N := ⟨_, rfl⟩
  rw [hN] at hbk ⊢
  clear hbw e1 hb1 hN
  go_wp2_with fail
  obtain ⟨w2, hw2⟩ : ∃ w2, w2 = w1.alloc (.cells #[.slice a C.deeds.length cap, .slice a2 C.sights.length cap2, .int .i64 C.wrong, .slice (some ⟨bm, 0, none⟩) N 12] 84) := ⟨_, rfl⟩
  rw [← hw2]
  have hb2 : Below w1.heap.size w1 w2 := hw2 ▸ (Below.refl _ w1).alloc (Nat.le_refl _) _
  have HB2 := Lib.hid hb2
  have hbk2 : BookAt w2.heap.size w2 (.agg #[.slice a C.deeds.length cap, .slice a2 C.sights.length cap2, .int .i64 C.wrong, .slice (some ⟨bm, 0, none⟩) N 12]) C := (hbk.out.below hb2).mono hb2.size
  clear hw2 hb2
  refine (answers_any _ _ _ C HV'.out 85 #[.pointer (some ⟨w.heap.size + 1, 0, none⟩)] (placeOf C link) w2 hbk2 (fun x _ => placeOf_i64 HV'.out link x) (enters_of Try.func85 (by kernel_rfl) rfl) (fun x _ Bp Bm W hW hp =>
    whereAsk_any C HV'.out x Bp Bm (w.heap.size + 1) link W hp (cell1_of ((hW.block (w.heap.size + 1) (by have := HB2.out.size; omega)).trans ((HB2.out.block _ (by omega)).trans HE1.out))).1)).mono ?_
  rintro e w3 ⟨v, rfl, hv, hb3⟩
  have hfin : Below w.heap.size w w3 := (HBW.out.trans (HB2.out.mono HBW.out.size)).trans (hb3.mono (by have := HBW.out.size; have := HB2.out.size; omega))
  have HF := Lib.hid hfin
  have HVV := Lib.hid hv
  clear hfin hv hb3 hbk2
  go_wp2_with fail
  go_ret2
  exact ⟨v, rfl, HVV.out, HF.out⟩

end Go.Proofs.Ytgjikoebneiamaa
