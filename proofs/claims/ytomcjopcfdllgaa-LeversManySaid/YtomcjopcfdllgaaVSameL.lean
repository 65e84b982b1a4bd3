/-
  Levers, the law's own function: whether two machines are the same.
-/
import Derived.Test.YtomcjopcfdllgaaVSetsM

namespace Go.Proofs.Ytomcjopcfdllgaa
open Go.RowKit Go.Shelf

set_option maxRecDepth 100000 in
set_option maxHeartbeats 8000000 in
theorem same_any (v u : Value) (M : Mach) (w : World) (hx : MachAt w.heap.size w v M) (hy : MachAt w.heap.size w u M) :
    Calls Try.prog 48 #[v, u] w fun e w' => e = .returned (.bool true) ∧ Below w.heap.size w w' := by
  obtain ⟨a, cap, b, off, a2, cap2, b2, off2, rfl, hm, hm2, HA, HC, HA2, HC2, HI, HI2, HW⟩ := hx.opened
  obtain ⟨a', cap', b', off', a2', cap2', b2', off2', rfl, _, _, HA', HC', HA2', HC2', _, _, _⟩ := hy.opened
  clear hx hy
  have HB := Lib.hid (show Below w.heap.size w ((w.alloc (.cells #[.slice a M.levers.length cap, .int .i64 M.water, .int .i64 M.lkLo, .int .i64 M.lkHi, .slice a2 M.bals.length cap2, .int .i64 M.wrong] 27)).alloc (.cells #[.slice a' M.levers.length cap', .int .i64 M.water, .int .i64 M.lkLo, .int .i64 M.lkHi, .slice a2' M.bals.length cap2', .int .i64 M.wrong] 27)) from ((Below.refl _ w).alloc (Nat.le_refl _) _).alloc (by simp) _)
  have e0 := heap_old1 w (.cells #[.slice a M.levers.length cap, .int .i64 M.water, .int .i64 M.lkLo, .int .i64 M.lkHi, .slice a2 M.bals.length cap2, .int .i64 M.wrong] 27) (.cells #[.slice a' M.levers.length cap', .int .i64 M.water, .int .i64 M.lkLo, .int .i64 M.lkHi, .slice a2' M.bals.length cap2', .int .i64 M.wrong] 27)
  have e1 := heap_new1 w (.cells #[.slice a M.levers.length cap, .int .i64 M.water, .int .i64 M.lkLo, .int .i64 M.lkHi, .slice a2 M.bals.length cap2, .int .i64 M.wrong] 27) (.cells #[.slice a' M.levers.length cap', .int .i64 M.water, .int .i64 M.lkLo, .int .i64 M.lkHi, .slice a2' M.bals.length cap2', .int .i64 M.wrong] 27)
  go_enter Try.func48, Try.ntmps48
  go_upto_region 1 with fail
  obtain ⟨W, hW⟩ : ∃ W, W = ((w.alloc (.cells #[.slice a M.levers.length cap, .int .i64 M.water, .int .i64 M.lkLo, .int .i64 M.lkHi, .slice a2 M.bals.length cap2, .int .i64 M.wrong] 27)).alloc (.cells #[.slice a' M.levers.length cap', .int .i64 M.water, .int .i64 M.lkLo, .int .i64 M.lkHi, .slice a2' M.bals.length cap2', .int .i64 M.wrong] 27)) := ⟨_, rfl⟩
  rw [← hW] at HB e0 e1 ⊢
  clear hW
  obtain ⟨c0, c1, c2, c3, c4, c5⟩ := cells6 e0
  obtain ⟨d0, d1, d2, d3, d4, d5⟩ := cells6 e1
  have HE := Lib.hid e0
  have HF := Lib.hid e1
  clear e0 e1
  go_wp2_with fail
  go_loopw [5] (fun i wr => ∃ k : Nat, k ≤ M.levers.length ∧ i = .int .i64 k ∧ Hid (Below W.heap.size W wr)) (fun i _ => M.levers.length - (intOf i).toNat)
  case atStart => exact ⟨0, Nat.zero_le _, rfl, Lib.hid (Below.refl _ _)⟩
  case round =>
    obtain ⟨k, hk, rfl, hbw⟩ := hrel
    have hlW := heap_lt HE.out
    have hlV := heap_lt HF.out
    clear c0 c1 c2 c3 c4 c5 d0 d1 d2 d3 d4 d5
    obtain ⟨c0, c1, c2, c3, c4, c5⟩ := cells6 ((hbw.out.block w.heap.size hlW).trans HE.out)
    obtain ⟨d0, d1, d2, d3, d4, d5⟩ := cells6 ((hbw.out.block (w.heap.size + 1) hlV).trans HF.out)
    have HD := Lib.hid (show ∀ p, Below W.heap.size W (wr.drewN p) from fun p => drewN_below hbw.out p)
    by_cases hlt : k < M.levers.length
    · have hlt' : ((k : Nat) : Int) < (M.levers.length : Int) := by omega
      obtain ⟨rfl, hbx⟩ := HA.out (by omega)
      obtain ⟨rfl, hby⟩ := HA'.out (by omega)
      have hbA := HB.out.trans (hbw.out.mono HB.out.size)
      have hT := (HC.out k hlt).below hbA hbx
      have hU := (HC'.out k hlt).below hbA hby
      obtain ⟨V0, hV0⟩ : ∃ x, (lnth M.levers k).long = x := ⟨_, rfl⟩
      obtain ⟨V1, hV1⟩ : ∃ x, (lnth M.levers k).lo = x := ⟨_, rfl⟩
      obtain ⟨V2, hV2⟩ : ∃ x, (lnth M.levers k).hi = x := ⟨_, rfl⟩
      rw [hV0, hV1, hV2] at hT hU
      clear hV0 hV1 hV2 hbA
      obtain ⟨t0, t1, t2⟩ := hT
      obtain ⟨s0, s1, s2⟩ := hU
      go_wp2
      go_quiet (fail)
      go_wp2
      exact ⟨⟨k + 1, by omega, by go_num, HD.out _⟩, by simp [intOf]; omega⟩
    · obtain rfl : M.levers.length = k := by omega
      have hn := hbw
      go_wp2_with fail
      go_loopw [6] (fun i wr => ∃ k : Nat, k ≤ M.bals.length ∧ i = .int .i64 k ∧ Hid (Below W.heap.size W wr)) (fun i _ => M.bals.length - (intOf i).toNat)
      case atStart => exact ⟨0, Nat.zero_le _, rfl, hbw⟩
      case round =>
        obtain ⟨k, hk, rfl, hbw⟩ := hrel
        have hlW := heap_lt HE.out
        have hlV := heap_lt HF.out
        clear c0 c1 c2 c3 c4 c5 d0 d1 d2 d3 d4 d5
        obtain ⟨c0, c1, c2, c3, c4, c5⟩ := cells6 ((hbw.out.block w.heap.size hlW).trans HE.out)
        obtain ⟨d0, d1, d2, d3, d4, d5⟩ := cells6 ((hbw.out.block (w.heap.size + 1) hlV).trans HF.out)
        have HD := Lib.hid (show ∀ p, Below W.heap.size W (wr.drewN p) from fun p => drewN_below hbw.out p)
        by_cases hlt : k < M.bals.length
        · have hlt' : ((k : Nat) : Int) < (M.bals.length : Int) := by omega
          obtain ⟨rfl, hbx⟩ := HA2.out (by omega)
          obtain ⟨rfl, hby⟩ := HA2'.out (by omega)
          have hbA := HB.out.trans (hbw.out.mono HB.out.size)
          have hT := (HC2.out k hlt).below hbA hbx
          have hU := (HC2'.out k hlt).below hbA hby
          obtain ⟨V0, hV0⟩ : ∃ x, (bnth M.bals k).weight = x := ⟨_, rfl⟩
          obtain ⟨V1, hV1⟩ : ∃ x, (bnth M.bals k).minutes = x := ⟨_, rfl⟩
          obtain ⟨V2, hV2⟩ : ∃ x, (bnth M.bals k).load = x := ⟨_, rfl⟩
          obtain ⟨V3, hV3⟩ : ∃ x, (bnth M.bals k).off = x := ⟨_, rfl⟩
          rw [hV0, hV1, hV2, hV3] at hT hU
          clear hV0 hV1 hV2 hV3 hbA
          obtain ⟨t0, t1, t2, t3⟩ := hT
          obtain ⟨s0, s1, s2, s3⟩ := hU
          go_wp2
          go_quiet (fail)
          go_wp2
          exact ⟨⟨k + 1, by omega, by go_num, HD.out _⟩, by simp [intOf]; omega⟩
        · obtain rfl : M.bals.length = k := by omega
          go_wp2
          go_ret
          exact ⟨rfl, HB.out.trans (hbw.out.mono HB.out.size)⟩
end Go.Proofs.Ytomcjopcfdllgaa
