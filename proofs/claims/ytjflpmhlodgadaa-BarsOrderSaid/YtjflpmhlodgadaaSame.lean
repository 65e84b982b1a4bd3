/-
  Walks: two stores that read the same are the same.
-/
import Derived.Test.YtjflpmhlodgadaaBase
import Derived.Test.YtjflpmhlodgadaaSaw
import Derived.Lib.QuietBelow
namespace Go.Proofs.Ytjflpmhlodgadaa
open Go.RowKit Go.Sort

theorem box88 {w wr : World} {s0 s1 s2 s3 x0 x1 x2 x3 : Value} {t u : TypeId} (h : Below (w.heap.size + 2) ((w.alloc (.cells #[s0, s1, s2, s3] t)).alloc (.cells #[x0, x1, x2, x3] u)) wr) :
    (wr.cell? ⟨w.heap.size, 0, none⟩ = some s0 ∧ wr.cell? ⟨w.heap.size, 1, none⟩ = some s1 ∧ wr.cell? ⟨w.heap.size, 2, none⟩ = some s2 ∧ wr.cell? ⟨w.heap.size, 3, none⟩ = some s3) ∧
    (wr.cell? ⟨w.heap.size + 1, 0, none⟩ = some x0 ∧ wr.cell? ⟨w.heap.size + 1, 1, none⟩ = some x1 ∧ wr.cell? ⟨w.heap.size + 1, 2, none⟩ = some x2 ∧ wr.cell? ⟨w.heap.size + 1, 3, none⟩ = some x3) ∧
    w.heap.size + 2 ≤ wr.heap.size ∧ Below w.heap.size w wr := by
  have hh := heap_at2 w (.cells #[s0, s1, s2, s3] t) (.cells #[x0, x1, x2, x3] u)
  have hs := h.size
  simp only [World.size_alloc] at hs
  exact ⟨box4_of ((h.block _ (by omega)).trans hh.1), box4_of ((h.block _ (by omega)).trans hh.2), by omega, (below_at2 w _ _).trans (h.mono (by omega))⟩

set_option maxHeartbeats 2000000 in
theorem same_eq (v u : Value) (S : Store) (w : World) (hx : StoreAt w.heap.size w v S) (hy : StoreAt w.heap.size w u S) :
    Calls Try.prog 46 #[v, u] w fun e w' => e = .returned (.bool true) ∧ Below w.heap.size w w' := by
  obtain ⟨a, cap, b, off, a2, cap2, b2, off2, rfl, hm, hm2, HA, HC, HA2, HC2⟩ := hx.opened
  obtain ⟨e, dap, d, eff, e2, dap2, d2, eff2, rfl, _, _, KA, KC, KA2, KC2⟩ := hy.opened
  clear hx hy
  go_enter Try.func46, Try.ntmps46
  go_wp2
  go_loopw [5] (fun i wr => ∃ k : Nat, k ≤ S.bars.length ∧ i = .int .i64 k ∧ Hid (Below (w.heap.size + 2) ((w.alloc (.cells #[.slice a S.bars.length cap, .int .i64 S.kerf, .slice a2 S.pieces.length cap2, .int .i64 S.wrong] 25)).alloc (.cells #[.slice e S.bars.length dap, .int .i64 S.kerf, .slice e2 S.pieces.length dap2, .int .i64 S.wrong] 25)) wr)) (fun i _ => S.bars.length - (intOf i).toNat)
  case atStart => exact ⟨0, Nat.zero_le _, rfl, Below.refl _ _⟩
  case round =>
    obtain ⟨k, hk, rfl, hfr⟩ := hrel
    obtain ⟨⟨c0, c1, c2, c3⟩, ⟨x0, x1, x2, x3⟩, hsz, hw⟩ := box88 hfr.out
    by_cases hlt : k < S.bars.length
    · obtain ⟨rfl, hb⟩ := HA.out (by omega)
      obtain ⟨rfl, kb⟩ := KA.out (by omega)
      have d0 := (hw.cell (p := ⟨b, off + k * 2, none⟩) hb).trans (HC.out k hlt).1
      have d1 := (hw.cell (p := ⟨b, off + k * 2 + 1, none⟩) hb).trans (HC.out k hlt).2
      have f0 := (hw.cell (p := ⟨d, eff + k * 2, none⟩) kb).trans (KC.out k hlt).1
      have f1 := (hw.cell (p := ⟨d, eff + k * 2 + 1, none⟩) kb).trans (KC.out k hlt).2
      go_wp2
      go_quiet (fail)
      go_wp2
      exact ⟨⟨k + 1, by omega, by go_num, drewN_below hfr.out _⟩, by simp [intOf]; omega⟩
    · obtain rfl : S.bars.length = k := by omega
      go_wp2
      go_loopw [6] (fun i wr => ∃ k : Nat, k ≤ S.pieces.length ∧ i = .int .i64 k ∧ Hid (Below (w.heap.size + 2) ((w.alloc (.cells #[.slice a S.bars.length cap, .int .i64 S.kerf, .slice a2 S.pieces.length cap2, .int .i64 S.wrong] 25)).alloc (.cells #[.slice e S.bars.length dap, .int .i64 S.kerf, .slice e2 S.pieces.length dap2, .int .i64 S.wrong] 25)) wr)) (fun i _ => S.pieces.length - (intOf i).toNat)
      case atStart => exact ⟨0, Nat.zero_le _, rfl, hfr⟩
      case round =>
        clear c0 c1 c2 c3 x0 x1 x2 x3 hsz hw hfr
        obtain ⟨k, hk, rfl, hfr⟩ := hrel
        obtain ⟨⟨c0, c1, c2, c3⟩, ⟨x0, x1, x2, x3⟩, hsz, hw⟩ := box88 hfr.out
        by_cases hlt : k < S.pieces.length
        · obtain ⟨rfl, hb⟩ := HA2.out (by omega)
          obtain ⟨rfl, kb⟩ := KA2.out (by omega)
          have d0 := (hw.cell (p := ⟨b2, off2 + k * 2, none⟩) hb).trans (HC2.out k hlt).1
          have f0 := (hw.cell (p := ⟨d2, eff2 + k * 2, none⟩) kb).trans (KC2.out k hlt).1
          obtain ⟨hv, d1, hI⟩ := (HC2.out k hlt).2
          obtain ⟨kv, f1, kI⟩ := (KC2.out k hlt).2
          have d1 := (hw.cell (p := ⟨b2, off2 + k * 2 + 1, none⟩) hb).trans d1
          have f1 := (hw.cell (p := ⟨d2, eff2 + k * 2 + 1, none⟩) kb).trans f1
          have HI := Lib.hid (hI.below hw)
          have KI := Lib.hid (kI.below hw)
          obtain ⟨a3, cap3, b3, off3, rfl, _, _⟩ := hI.opened
          obtain ⟨a4, cap4, b4, off4, rfl, _, _⟩ := kI.opened
          have q1 : ∀ d os, Calls Try.prog 38 #[.slice a3 (pnth S.pieces k).heats.length cap3, .slice a4 (pnth S.pieces k).heats.length cap4] (grow (redrawn wr d) os) fun e w'' => e = .returned (.bool true) ∧ ∃ p : Regrown, w'' = grow (redrawn wr p.d) p.os := fun d os => Calls.regrown_of (SameInts_to (by simp) ((HI.out.mono hw.size).below (below_regrown wr d os)) ((KI.out.mono hw.size).below (below_regrown wr d os)))
          have Q1 := Lib.hid q1
          have k0 := cell_regrown c2
          have k1 := cell_regrown x2
          have k2 := cell_regrown d0
          have k3 := cell_regrown f0
          have k4 := cell_regrown d1
          have k5 := cell_regrown f1
          have HFI := Lib.hid (fun d os => hfr.out.trans ((below_regrown wr d os).mono hsz))
          clear q1 hI kI d0 f0 d1 f1 hw
          go_wp2
          clear c0 c1 c2 c3 x0 x1 x2 x3
          refine wp_region_quiet_below (by kernel_rfl) (by kernel_rfl) ?_
          repeat (first | go_big_quiet_step ((go_at_call 38; exact Q1.out _ _)) | quiet_step ((go_at_call 38; exact Q1.out _ _)))
          refine wpQuiet_nil ?_
          intro _ hw'
          obtain ⟨⟨dq, osq⟩, hw''⟩ := hw'
          subst hw''
          go_wp2
          exact ⟨⟨k + 1, by omega, by go_num, HFI.out _ _⟩, by simp [intOf]; omega⟩
        · obtain rfl : S.pieces.length = k := by omega
          go_wp2
          go_ret
          exact ⟨rfl, hw⟩
end Go.Proofs.Ytjflpmhlodgadaa
