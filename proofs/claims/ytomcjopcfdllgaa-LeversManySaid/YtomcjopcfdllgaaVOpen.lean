/-
  Levers, walks: open and openLever: a machine is put to work, or not.
-/
import Derived.Test.YtomcjopcfdllgaaVStart
import Derived.Test.YtomcjopcfdllgaaVWork

namespace Go.Proofs.Ytomcjopcfdllgaa
open Go.RowKit

theorem chk_bad {M : Mach} (h : validMB M = false) : chkM M = 30 := by simp [chkM, h]
theorem chk_ok {M : Mach} (h : validMB M = true) : chkM M = 0 := by simp [chkM, h]
/-- A machine in a box, read whole. -/
theorem MachAt.form {B : Nat} {w : World} {v : Value} {M : Mach} (h : MachAt B w v M) : ∃ a cap a2 cap2, v = .agg #[.slice a M.levers.length cap, .int .i64 M.water, .int .i64 M.lkLo, .int .i64 M.lkHi, .slice a2 M.bals.length cap2, .int .i64 M.wrong] := by
  obtain ⟨a, cap, b, off, a2, cap2, b2, off2, rfl, _⟩ := h.opened
  exact ⟨a, cap, a2, cap2, rfl⟩

set_option maxRecDepth 100000 in
set_option maxHeartbeats 2000000 in
theorem open_bad (v : Value) (M : Mach) (x y z : Int) (w : World) (hx : MachAt w.heap.size w v M) (hV : validMB M = false) :
    Calls Try.prog 58 #[v, .int .i64 x, .int .i64 y, .int .i64 z] w fun e w' => e = .returned (.tuple #[.pointer none, .int .i64 30]) ∧ Below w.heap.size w w' := by
  have HX := Lib.hid (fun W (hb : Below w.heap.size w W) => (hx.below hb).mono hb.size)
  obtain ⟨a, cap, a2, cap2, rfl⟩ := hx.form
  have HC := Lib.hid (chk_bad hV)
  clear hx hV
  go_enter Try.func58, Try.ntmps58
  go_wp2_with (go_at_call 40; refine (check_to HC.out _ (HX.out _ (by go_grown))).mono ?_; rintro e w' ⟨rfl, hb⟩; have HB := Lib.hid ((show Below w.heap.size w _ by go_grown).trans (hb.mono (by simp))); clear hb)
  go_ret2
  exact ⟨rfl, HB.out⟩
set_option maxRecDepth 100000 in
set_option maxHeartbeats 2000000 in
theorem open_arg (v : Value) (M : Mach) (x y z : Int) (w : World) (hx : MachAt w.heap.size w v M) (hV : validMB M = true) (ha : askB x y z 0 = false) :
    Calls Try.prog 58 #[v, .int .i64 x, .int .i64 y, .int .i64 z] w fun e w' => e = .returned (.tuple #[.pointer none, .int .i64 1]) ∧ Below w.heap.size w w' := by
  have HX := Lib.hid (fun W (hb : Below w.heap.size w W) => (hx.below hb).mono hb.size)
  obtain ⟨a, cap, a2, cap2, rfl⟩ := hx.form
  have HC := Lib.hid (chk_ok hV)
  have HA := Lib.hid ha
  clear hx hV ha
  go_enter Try.func58, Try.ntmps58
  go_wp2_with (first | (go_at_call 40; refine (check_to HC.out _ (HX.out _ (by go_grown))).mono ?_; rintro e w' ⟨rfl, hb⟩; have HB := Lib.hid ((show Below w.heap.size w _ by go_grown).trans (hb.mono (by simp))); clear hb) | (go_at_call 80; refine (validBal_to HA.out _).mono ?_; rintro e w2 ⟨rfl, hb2⟩; have HB2 := Lib.hid (HB.out.trans (hb2.mono HB.out.size)); clear hb2))
  go_ret2
  exact ⟨rfl, HB2.out⟩
set_option maxRecDepth 100000 in
set_option maxHeartbeats 2000000 in
theorem open_ok (v : Value) (M : Mach) (x y z : Int) (w : World) (hx : MachAt w.heap.size w v M) (hV : validMB M = true) (ha : askB x y z 0 = true) :
    Calls Try.prog 58 #[v, .int .i64 x, .int .i64 y, .int .i64 z] w fun e w' => ∃ pb, e = .returned (.tuple #[.pointer (some ⟨pb, 0, none⟩), .int .i64 0]) ∧ WorkAt w'.heap.size w' pb M 0 ∧ Below w.heap.size w w' := by
  have HX := Lib.hid (fun W (hb : Below w.heap.size w W) => (hx.below hb).mono hb.size)
  obtain ⟨a, cap, a2, cap2, rfl⟩ := hx.form
  have HC := Lib.hid (chk_ok hV)
  have HA := Lib.hid ha
  have HVV := Lib.hid (validM_iff.1 hV)
  clear hx hV ha
  go_enter Try.func58, Try.ntmps58
  go_wp2_with (first | (go_at_call 40; refine (check_to HC.out _ (HX.out _ (by go_grown))).mono ?_; rintro e w' ⟨rfl, hb⟩; have HB := Lib.hid ((show Below w.heap.size w _ by go_grown).trans (hb.mono (by simp))); obtain ⟨x0, x1, x2, x3, x4, x5⟩ := cells6 ((hb.block w.heap.size (by simp)).trans (heap_new w _)); have HBX := Lib.hid ((hb.block w.heap.size (by simp)).trans (heap_new w _)); clear hb) | (go_at_call 80; refine (validBal_to HA.out _).mono ?_; rintro e w2 ⟨rfl, hb2⟩; have HB2 := Lib.hid (HB.out.trans (hb2.mono HB.out.size)); obtain ⟨y0, y1, y2, y3, y4, y5⟩ := cells6 ((hb2.block w.heap.size (heap_lt HBX.out)).trans HBX.out); clear hb2 x0 x1 x2 x3 x4 x5) | (go_at_call 77; refine (start_any _ M 0 _ HVV.out (by decide) (HX.out _ HB2.out)).mono ?_; rintro e w3 ⟨pb, rfl, hwk, hb3⟩; have HB3 := Lib.hid (HB2.out.trans (hb3.mono HB2.out.size)); have HWK := Lib.hid hwk; clear hb3 hwk))
  go_ret2
  exact ⟨pb, rfl, HWK.out, HB3.out⟩

set_option maxRecDepth 100000 in
set_option maxHeartbeats 2000000 in
theorem openLever_bad (v : Value) (M : Mach) (x : Int) (w : World) (hx : MachAt w.heap.size w v M) (hV : validMB M = false) :
    Calls Try.prog 55 #[v, .int .i64 x] w fun e w' => e = .returned (.tuple #[.pointer none, .int .i64 30]) ∧ Below w.heap.size w w' := by
  have HX := Lib.hid (fun W (hb : Below w.heap.size w W) => (hx.below hb).mono hb.size)
  obtain ⟨a, cap, a2, cap2, rfl⟩ := hx.form
  have HC := Lib.hid (chk_bad hV)
  clear hx hV
  go_enter Try.func55, Try.ntmps55
  go_wp2_with (go_at_call 40; refine (check_to HC.out _ (HX.out _ (by go_grown))).mono ?_; rintro e w' ⟨rfl, hb⟩; have HB := Lib.hid ((show Below w.heap.size w _ by go_grown).trans (hb.mono (by simp))); clear hb)
  go_ret2
  exact ⟨rfl, HB.out⟩
set_option maxRecDepth 100000 in
set_option maxHeartbeats 2000000 in
theorem openLever_arg (v : Value) (M : Mach) (x : Int) (w : World) (hx : MachAt w.heap.size w v M) (hV : validMB M = true) (ha : wB x 0 ((M.levers.length : Int) - 1) = false) :
    Calls Try.prog 55 #[v, .int .i64 x] w fun e w' => e = .returned (.tuple #[.pointer none, .int .i64 1]) ∧ Below w.heap.size w w' := by
  have HX := Lib.hid (fun W (hb : Below w.heap.size w W) => (hx.below hb).mono hb.size)
  obtain ⟨a, cap, a2, cap2, rfl⟩ := hx.form
  have HC := Lib.hid (chk_ok hV)
  have HA := Lib.hid ha
  have hn := (validM_iff.1 hV).nl
  have hn2 : (M.levers.length : Int) ≤ 3 := by omega
  clear hx hV ha
  go_enter Try.func55, Try.ntmps55
  go_wp2_with (first | (go_at_call 40; refine (check_to HC.out _ (HX.out _ (by go_grown))).mono ?_; rintro e w' ⟨rfl, hb⟩; have HB := Lib.hid ((show Below w.heap.size w _ by go_grown).trans (hb.mono (by simp))); obtain ⟨x0, x1, x2, x3, x4, x5⟩ := cells6 ((hb.block w.heap.size (by simp)).trans (heap_new w _)); clear hb) | (go_at_call 76; refine (vwithin_to HA.out _).mono ?_; rintro e w2 ⟨rfl, rfl⟩))
  go_ret2
  exact ⟨rfl, HB.out⟩
set_option maxRecDepth 100000 in
set_option maxHeartbeats 2000000 in
theorem openLever_ok (v : Value) (M : Mach) (lev : Nat) (w : World) (hx : MachAt w.heap.size w v M) (hV : validMB M = true) (ha : lev < M.levers.length) :
    Calls Try.prog 55 #[v, .int .i64 (lev : Nat)] w fun e w' => ∃ pb, e = .returned (.tuple #[.pointer (some ⟨pb, 0, none⟩), .int .i64 0]) ∧ WorkAt w'.heap.size w' pb M lev ∧ Below w.heap.size w w' := by
  have HX := Lib.hid (fun W (hb : Below w.heap.size w W) => (hx.below hb).mono hb.size)
  obtain ⟨a, cap, a2, cap2, rfl⟩ := hx.form
  have HC := Lib.hid (chk_ok hV)
  have hn := (validM_iff.1 hV).nl
  have hn2 : (M.levers.length : Int) ≤ 3 := by omega
  have HA := Lib.hid (show wB (lev : Nat) 0 ((M.levers.length : Int) - 1) = true from wB_iff.2 (by omega))
  have HVV := Lib.hid (validM_iff.1 hV)
  have hl3 : lev < 3 := by omega
  clear hx hV
  go_enter Try.func55, Try.ntmps55
  go_wp2_with (first | (go_at_call 40; refine (check_to HC.out _ (HX.out _ (by go_grown))).mono ?_; rintro e w' ⟨rfl, hb⟩; have HB := Lib.hid ((show Below w.heap.size w _ by go_grown).trans (hb.mono (by simp))); obtain ⟨x0, x1, x2, x3, x4, x5⟩ := cells6 ((hb.block w.heap.size (by simp)).trans (heap_new w _)); clear hb) | (go_at_call 76; refine (vwithin_to HA.out _).mono ?_; rintro e w2 ⟨rfl, rfl⟩) | (go_at_call 77; refine (start_any _ M lev _ HVV.out hl3 (HX.out _ HB.out)).mono ?_; rintro e w3 ⟨pb, rfl, hwk, hb3⟩; have HB3 := Lib.hid (HB.out.trans (hb3.mono HB.out.size)); have HWK := Lib.hid hwk; clear hb3 hwk))
  go_ret2
  exact ⟨pb, rfl, HWK.out, HB3.out⟩
end Go.Proofs.Ytomcjopcfdllgaa
