/-
  Links, walks: Who and Where at any number: where it is none of a place or link, an error.
-/
import Derived.Test.YtgjikoebneiamaaLWho

namespace Go.Proofs.Ytgjikoebneiamaa
open Go.RowKit Go.Sort

theorem ints_nil' (B : Nat) (w : World) : IntsAt B w (.slice none 0 0) [] := ⟨none, 0, 0, 0, rfl, Nat.le_refl _, by unfold maxLen; omega, fun h => by simp at h, fun i hi => by simp at hi, by simp⟩
/-- Whether a number is a place of the cable in the end. -/
def placeB (C : Chain) (at_ : Int) : Bool := wB at_ 0 (lenTo C.deeds C.deeds.length - 1)
def linkB (C : Chain) (link : Int) : Bool := wB link 0 ((weldsTo C.deeds C.deeds.length : Int) - 1)
/-- The answers of all truths to a question, where it may be asked. -/
def ansV (C : Chain) (is : Bool) (f : List Int → Int) : List Int := if is = true then srt ((truthsP C).map f) else []
def ansE (C : Chain) (is : Bool) : Int := if is = true then noneE (truthsP C).length else 1

set_option maxHeartbeats 1000000 in
theorem Who_arg (a a2 : Option Addr) (cap cap2 : Nat) (C : Chain) (at_ : Int) (w : World)
    (hx : ChainAt w.heap.size w (.agg #[.slice a C.deeds.length cap, .slice a2 C.sights.length cap2, .int .i64 C.wrong]) C) (hV : validB C = true) (hI : I64 at_) (hat : placeB C at_ = false) :
    Calls Try.prog 24 #[.agg #[.slice a C.deeds.length cap, .slice a2 C.sights.length cap2, .int .i64 C.wrong], .int .i64 at_] w fun e w' => e = .returned (.tuple #[.slice none 0 0, .int .i64 1]) ∧ Below w.heap.size w w' := by
  have HX := Lib.hid (fun W (hb : Below w.heap.size w W) => (hx.below hb).mono hb.size)
  have HV := Lib.hid hV
  have HII := Lib.hid hI
  have HI := Lib.hid (show allTo (fun i => wB (nth [at_] i) 0 (lenTo C.deeds C.deeds.length - 1)) [at_].length = false from allTo_false (j := 0) (by simp) hat)
  clear hx hV hat hI
  go_enter Try.func24, Try.ntmps24
  go_wp2_with fail
  refine (openAt_arg a a2 cap cap2 C _ [at_] _ (HX.out _ (by go_grown)) (one_ints (by simp) HII.out) HV.out HI.out).mono ?_
  rintro e w1 ⟨rfl, hb1⟩
  have hb1s := hb1.out.size
  simp only [World.size_alloc] at hb1s
  have HBW := Lib.hid (show Below w.heap.size w w1 from ((((Below.refl _ w).alloc (Nat.le_refl _) _).alloc (by simp) _).alloc (by simp; omega) _).trans (hb1.out.mono (by simp; omega)))
  have hws := HBW.out.size
  clear hb1
  unfold noBook
  go_wp2_with fail
  go_ret2
  exact ⟨rfl, by
    first
      | exact HBW.out
      | exact HBW.out.alloc hws _⟩
set_option maxHeartbeats 1000000 in
theorem Where_arg (a a2 : Option Addr) (cap cap2 : Nat) (C : Chain) (link : Int) (w : World)
    (hx : ChainAt w.heap.size w (.agg #[.slice a C.deeds.length cap, .slice a2 C.sights.length cap2, .int .i64 C.wrong]) C) (hV : validB C = true) (hi : linkB C link = false) :
    Calls Try.prog 32 #[.agg #[.slice a C.deeds.length cap, .slice a2 C.sights.length cap2, .int .i64 C.wrong], .int .i64 link] w fun e w' => e = .returned (.tuple #[.slice none 0 0, .int .i64 1]) ∧ Below w.heap.size w w' := by
  have HX := Lib.hid (fun W (hb : Below w.heap.size w W) => (hx.below hb).mono hb.size)
  have HV := Lib.hid hV
  have HI := Lib.hid hi
  clear hx hV hi
  go_enter Try.func32, Try.ntmps32
  go_wp2_with fail
  refine (openLink_arg a a2 cap cap2 C link _ (HX.out _ (by go_grown)) HV.out HI.out).mono ?_
  rintro e w1 ⟨rfl, hb1⟩
  have hb1s := hb1.out.size
  simp only [World.size_alloc] at hb1s
  have HBW := Lib.hid (show Below w.heap.size w w1 from (((Below.refl _ w).alloc (Nat.le_refl _) _).alloc (by simp) _).trans (hb1.out.mono (by simp; omega)))
  have hws := HBW.out.size
  clear hb1
  unfold noBook
  go_wp2_with fail
  go_ret2
  exact ⟨rfl, by
    first
      | exact HBW.out
      | exact HBW.out.alloc hws _⟩

theorem Who_v {a a2 : Option Addr} {n m cap cap2 : Nat} {at_ : Int} {C : Chain} {w : World} {L : List Int} {y : Int} (hf : ansV C (placeB C at_) (linkAt C at_.toNat) = L) (he : ansE C (placeB C at_) = y) (hn : n = C.deeds.length) (hm : m = C.sights.length)
    (hx : ChainAt w.heap.size w (.agg #[.slice a n cap, .slice a2 m cap2, .int .i64 C.wrong]) C) (hV : validB C = true) (hI : I64 at_) :
    Calls Try.prog 24 #[.agg #[.slice a n cap, .slice a2 m cap2, .int .i64 C.wrong], .int .i64 at_] w fun e w' => ∃ v, e = .returned (.tuple #[v, .int .i64 y]) ∧ IntsAt w'.heap.size w' v L ∧ Below w.heap.size w w' := by
  subst hn hm hf he
  cases h : placeB C at_
  · refine (Who_arg a a2 cap cap2 C at_ w hx hV hI h).mono ?_
    rintro e w' ⟨rfl, hb⟩
    exact ⟨_, rfl, ints_nil' _ _, hb⟩
  · have hw := wB_iff.1 h
    obtain ⟨k, rfl⟩ := Int.eq_ofNat_of_zero_le hw.1
    refine (Who_ok a a2 cap cap2 C k w hx hV (by omega)).mono ?_
    rintro e w' ⟨v, rfl, hv, hb⟩
    exact ⟨_, rfl, hv, hb⟩
theorem Where_v {a a2 : Option Addr} {n m cap cap2 : Nat} {link : Int} {C : Chain} {w : World} {L : List Int} {y : Int} (hf : ansV C (linkB C link) (placeOf C link) = L) (he : ansE C (linkB C link) = y) (hn : n = C.deeds.length) (hm : m = C.sights.length)
    (hx : ChainAt w.heap.size w (.agg #[.slice a n cap, .slice a2 m cap2, .int .i64 C.wrong]) C) (hV : validB C = true) :
    Calls Try.prog 32 #[.agg #[.slice a n cap, .slice a2 m cap2, .int .i64 C.wrong], .int .i64 link] w fun e w' => ∃ v, e = .returned (.tuple #[v, .int .i64 y]) ∧ IntsAt w'.heap.size w' v L ∧ Below w.heap.size w w' := by
  subst hn hm hf he
  cases h : linkB C link
  · refine (Where_arg a a2 cap cap2 C link w hx hV h).mono ?_
    rintro e w' ⟨rfl, hb⟩
    exact ⟨_, rfl, ints_nil' _ _, hb⟩
  · exact Where_ok a a2 cap cap2 C link w hx hV h

end Go.Proofs.Ytgjikoebneiamaa
