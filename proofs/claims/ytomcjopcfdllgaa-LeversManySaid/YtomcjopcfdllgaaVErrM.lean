/-
  Levers: what Fewest, Many, Shorts, Leaks and Strange answer of a machine that is wrong.
-/
import Derived.Test.YtomcjopcfdllgaaVErrL
import Derived.Test.YtomcjopcfdllgaaVStrange

namespace Go.Proofs.Ytomcjopcfdllgaa
open Go.RowKit Go.Shelf

set_option maxRecDepth 100000 in
set_option maxHeartbeats 4000000 in
theorem Fewest_er {v : Value} {M : Mach} (h : validMB M = false) (w : World) (hx : MachAt w.heap.size w v M) :
    Calls Try.prog 21 #[v] w fun e w' => e = .returned (.tuple #[.int .i64 0, .int .i64 30]) ∧ Below w.heap.size w w' := by
  have HX := Lib.hid (fun W (hb : Below w.heap.size w W) => (hx.below hb).mono hb.size)
  obtain ⟨a, cap, a2, cap2, rfl⟩ := hx.form
  have HP := Lib.hid (fun W hb => open_bad _ M 0 0 0 W (HX.out W hb) h)
  clear hx h
  go_enter Try.func21, Try.ntmps21
  go_wp2_with (go_at_call 58; refine (HP.out _ (by go_grown)).mono ?_; rintro e w1 ⟨rfl, hb⟩; have HB := Lib.hid ((show Below w.heap.size w _ by go_grown).trans (hb.mono (by simp))); clear hb)
  go_ret2
  exact ⟨rfl, by first | exact HB.out | exact HB.out.alloc HB.out.size _⟩
set_option maxRecDepth 100000 in
set_option maxHeartbeats 4000000 in
theorem Many_er {v : Value} {M : Mach} (h : validMB M = false) (w : World) (hx : MachAt w.heap.size w v M) :
    Calls Try.prog 28 #[v] w fun e w' => e = .returned (.tuple #[.int .i64 0, .int .i64 30]) ∧ Below w.heap.size w w' := by
  have HX := Lib.hid (fun W (hb : Below w.heap.size w W) => (hx.below hb).mono hb.size)
  obtain ⟨a, cap, a2, cap2, rfl⟩ := hx.form
  have HP := Lib.hid (fun W hb => open_bad _ M 0 0 0 W (HX.out W hb) h)
  clear hx h
  go_enter Try.func28, Try.ntmps28
  go_wp2_with (go_at_call 58; refine (HP.out _ (by go_grown)).mono ?_; rintro e w1 ⟨rfl, hb⟩; have HB := Lib.hid ((show Below w.heap.size w _ by go_grown).trans (hb.mono (by simp))); clear hb)
  go_ret2
  exact ⟨rfl, by first | exact HB.out | exact HB.out.alloc HB.out.size _⟩
set_option maxRecDepth 100000 in
set_option maxHeartbeats 4000000 in
theorem Leaks_er {v : Value} {M : Mach} (h : validMB M = false) (w : World) (hx : MachAt w.heap.size w v M) :
    Calls Try.prog 17 #[v] w fun e w' => e = .returned (.tuple #[.slice none 0 0, .int .i64 30]) ∧ Below w.heap.size w w' := by
  have HX := Lib.hid (fun W (hb : Below w.heap.size w W) => (hx.below hb).mono hb.size)
  obtain ⟨a, cap, a2, cap2, rfl⟩ := hx.form
  have HP := Lib.hid (fun W hb => open_bad _ M 0 0 0 W (HX.out W hb) h)
  clear hx h
  go_enter Try.func17, Try.ntmps17
  go_wp2_with (go_at_call 58; refine (HP.out _ (by go_grown)).mono ?_; rintro e w1 ⟨rfl, hb⟩; have HB := Lib.hid ((show Below w.heap.size w _ by go_grown).trans (hb.mono (by simp))); clear hb)
  go_ret2
  exact ⟨rfl, by first | exact HB.out | exact HB.out.alloc HB.out.size _⟩
set_option maxRecDepth 100000 in
set_option maxHeartbeats 8000000 in
theorem Strange_inE (F : Fence) (hF : Hid (F = Fence.wide)) (hd : F.depth = none) (hro : F.round = none) (hfn : ∀ f, F.fn f) (n : Nat) (_ : 9 ≤ n) (v : Value) (M : Mach) (w : World) (hx : MachAt w.heap.size w v M) (h : validMB M = false) :
    CallsIn F n Try.prog 20 #[v] w fun e w' => e = .returned (.tuple #[.slice none 0 0, .int .i64 30]) ∧ Below w.heap.size w w' := by
  have HX := Lib.hid (fun W (hb : Below w.heap.size w W) => (hx.below hb).mono hb.size)
  obtain ⟨a, cap, a2, cap2, rfl⟩ := hx.form
  have HV := Lib.hid h
  clear hx h
  refine callsIn_of_wp_marks Try.func20 rfl (hfn _) ?_ hro
  simp only [Try.ntmps20, List.size_toArray, List.length_cons, List.length_nil, Nat.reduceAdd, Nat.reduceSub, Array.replicate_succ, Array.replicate_zero, List.push_toArray, List.append_toArray, List.nil_append, List.cons_append]
  gi_wp2_with fail
  refine scopeF hF ?_
  gi_wp2_with fail
  refine (inF hF (open_bad _ M 0 0 0 _ (HX.out (w.alloc (.cells #[.slice a M.levers.length cap, .int .i64 M.water, .int .i64 M.lkLo, .int .i64 M.lkHi, .slice a2 M.bals.length cap2, .int .i64 M.wrong] 27)) ((Below.refl _ w).alloc (Nat.le_refl _) _)) HV.out)).mono ?_
  rintro e w1 ⟨rfl, hb1⟩
  have HBW := Lib.hid ((((Below.refl _ w).alloc (Nat.le_refl _) _)).trans (hb1.mono (by simp)) : Below w.heap.size w w1)
  clear hb1
  gi_wp2_with fail
  exact ⟨_, results_tmp2 rfl _ _ _, rfl, HBW.out.alloc HBW.out.size _⟩
theorem Strange_er {v : Value} {M : Mach} (h : validMB M = false) (w : World) (hx : MachAt w.heap.size w v M) :
    Calls Try.prog 20 #[v] w fun e w' => e = .returned (.tuple #[.slice none 0 0, .int .i64 30]) ∧ Below w.heap.size w w' :=
  wide_calls (Strange_inE Fence.wide rfl rfl rfl (fun _ => trivial) 9 (by omega) v M w hx h)
set_option maxRecDepth 100000 in
set_option maxHeartbeats 4000000 in
theorem Shorts_er {v : Value} {M : Mach} {lev er : Int} (w : World) (hx : MachAt w.heap.size w v M) (her : er = 1 ∨ er = 30)
    (ho : ∀ W, MachAt W.heap.size W v M → Calls Try.prog 55 #[v, .int .i64 lev] W fun e w' => e = .returned (.tuple #[.pointer none, .int .i64 er]) ∧ Below W.heap.size W w') :
    Calls Try.prog 15 #[v, .int .i64 lev] w fun e w' => e = .returned (.tuple #[.slice none 0 0, .int .i64 er]) ∧ Below w.heap.size w w' := by
  have HX := Lib.hid (fun W (hb : Below w.heap.size w W) => (hx.below hb).mono hb.size)
  obtain ⟨a, cap, a2, cap2, rfl⟩ := hx.form
  have HP := Lib.hid (fun W hb => ho W (HX.out W hb))
  clear hx ho
  rcases her with rfl | rfl
  all_goals
    go_enter Try.func15, Try.ntmps15
    go_wp2_with (go_at_call 55; refine (HP.out _ (by go_grown)).mono ?_; rintro e w1 ⟨rfl, hb⟩; have HB := Lib.hid ((show Below w.heap.size w _ by go_grown).trans (hb.mono (by simp; omega))); clear hb)
    go_ret2
    exact ⟨rfl, by first | exact HB.out | exact HB.out.alloc HB.out.size _⟩
end Go.Proofs.Ytomcjopcfdllgaa
