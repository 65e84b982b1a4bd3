/-
  Levers, the law's own functions: Far, ready, isAsk, sane, isKnown.
-/
import Derived.Test.YtomcjopcfdllgaaVRef2

namespace Go.Proofs.Ytomcjopcfdllgaa
open Go.RowKit Go.Shelf

theorem isKnown_any (e : Int) (w : World) (he : e = 0 ∨ e = 3) : Calls Try.prog 29 #[.int .i64 e] w fun r w' => r = .returned (.bool true) ∧ w = w' := by
  rcases he with rfl | rfl
  all_goals
    go_enter Try.func29, Try.ntmps29
    go_wp2
    go_ret
    exact ⟨rfl, rfl⟩
theorem isAsk_any (x y z : Int) (w : World) : Calls Try.prog 12 #[.agg #[.int .i64 x, .int .i64 y, .int .i64 z]] w fun r w' => r = .returned (.bool (ask3 x y z)) ∧ Below w.heap.size w w' := by
  go_enter Try.func12, Try.ntmps12
  go_wp2_with (go_at_call 33; refine (IsAsk_any _ _ _ _).mono ?_; rintro e w' ⟨rfl, rfl⟩)
  go_ret
  exact ⟨rfl, by go_grown⟩
theorem sane_any (x y : Int) (w : World) (h : 0 ≤ x ∧ x ≤ y ∧ y < 1125899906842624) : Calls Try.prog 22 #[.agg #[.int .i64 x, .int .i64 y]] w fun r w' => r = .returned (.bool true) ∧ Below w.heap.size w w' := by
  obtain ⟨h0, h1, h2⟩ := h
  go_enter Try.func22, Try.ntmps22
  go_wp2
  go_ret
  exact ⟨by first | rfl | (simp; done) | (simp; omega), by go_grown⟩

def SomeB (e : Ending) : Prop := ∃ r, e = .returned (.bool r)
set_option maxRecDepth 100000 in
set_option maxHeartbeats 4000000 in
theorem Far_any (v : Value) (M : Mach) (w : World) (hx : MachAt w.heap.size w v M) :
    Calls Try.prog 39 #[v] w fun e w' => SomeB e ∧ Below w.heap.size w w' := by
  have HX := Lib.hid (fun W (hb : Below w.heap.size w W) => (hx.below hb).mono hb.size)
  obtain ⟨a, cap, b, off, a2, cap2, b2, off2, rfl, hm, hm2, HA, HC, HA2, HC2, HI, HI2, HW⟩ := hx.opened
  clear hx
  by_cases hn1 : M.levers.length ≤ 40
  case neg =>
    have hn1' : (40 : Int) < (M.levers.length : Int) := by omega
    go_enter Try.func39, Try.ntmps39
    go_wp2_with fail
    go_ret
    exact ⟨⟨_, rfl⟩, by go_grown⟩
  have hn1' : ¬ (40 : Int) < (M.levers.length : Int) := by omega
  by_cases hn2 : M.bals.length ≤ 40
  case neg =>
    have hn2' : (40 : Int) < (M.bals.length : Int) := by omega
    go_enter Try.func39, Try.ntmps39
    go_wp2_with fail
    go_ret
    exact ⟨⟨_, rfl⟩, by go_grown⟩
  have hn2' : ¬ (40 : Int) < (M.bals.length : Int) := by omega
  have HCK := Lib.hid (fun W hb => rCheck_any _ M W (HX.out W hb))
  cases hv : validMB M
  case false =>
    rw [chk_bad hv] at HCK
    go_enter Try.func39, Try.ntmps39
    go_wp2_with (go_at_call 41; refine (HCK.out _ (by go_grown)).mono ?_; rintro e w1 ⟨rfl, hb⟩; have HB := Lib.hid ((show Below w.heap.size w _ by go_grown).trans (hb.mono (by simp))); clear hb)
    go_ret
    exact ⟨⟨_, rfl⟩, HB.out⟩
  rw [chk_ok hv] at HCK
  have hV := validM_iff.1 hv
  have hlk := hV.leak
  go_enter Try.func39, Try.ntmps39
  go_wp2_with (go_at_call 41; refine (HCK.out _ (by go_grown)).mono ?_; rintro e w1 ⟨rfl, hb⟩; have HB := Lib.hid ((show Below w.heap.size w _ by go_grown).trans (hb.mono (by simp))); obtain ⟨c0, c1, c2, c3, c4, c5⟩ := cells6 ((hb.block w.heap.size (by simp)).trans (heap_new w _)); have HBX := Lib.hid ((hb.block w.heap.size (by simp)).trans (heap_new w _)); clear hb)
  have hw1 := HB.out
  obtain ⟨N0, hN0⟩ : ∃ x, M.lkHi - M.lkLo + 1 = x := ⟨_, rfl⟩
  have hN1 : 1 ≤ N0 ∧ N0 ≤ 150 := by omega
  rw [hN0]
  clear hN0 c0 c1 c2 c3 c4 c5 hn1' hn2' hw1
  have hnl := hV.nl
  go_loopw [3, 4] (fun nv i wr => ∃ (k : Nat) (n0 : Int), k ≤ M.levers.length ∧ i = .int .i64 k ∧ nv = .int .i64 n0 ∧ (1 ≤ n0 ∧ n0 ≤ 150) ∧ Hid (∃ m, wr = w1.drewN m)) (fun _ i _ => M.levers.length - (intOf i).toNat)
  case atStart => exact ⟨0, N0, Nat.zero_le _, rfl, rfl, hN1, Lib.hid ⟨0, rfl⟩⟩
  case round =>
    obtain ⟨k, n0, hk, rfl, rfl, hn0, hdr⟩ := hrel
    obtain ⟨m0, hm0⟩ := hdr.out
    have c0 : wr.cell? ⟨w.heap.size, 0, none⟩ = some (.slice a M.levers.length cap) := by rw [hm0]; exact (cells6 HBX.out).1
    have HBR := Lib.hid (show ∀ p, Below w.heap.size w (wr.drewN p) from fun p => by rw [hm0]; exact drewN_below (drewN_below HB.out m0) p)
    have HDR := Lib.hid (show ∀ p, ∃ m, wr.drewN p = w1.drewN m from fun p => ⟨m0 + p, by rw [hm0, World.drewN_drewN]⟩)
    have HBR0 := Lib.hid (show Below w.heap.size w wr by rw [hm0]; exact drewN_below HB.out m0)
    by_cases hlt : k < M.levers.length
    · have hlt' : ((k : Nat) : Int) < (M.levers.length : Int) := by omega
      obtain ⟨rfl, hbw⟩ := HA.out (by omega)
      have hT : Three wr b (off + k * 3) (lnth M.levers k).long (lnth M.levers k).lo (lnth M.levers k).hi := by rw [hm0]; exact (HC.out k hlt).below (drewN_below HB.out m0) hbw
      obtain ⟨d0, d1, d2⟩ := hT
      have hlv := hV.lev (lnth M.levers k) (by rw [lnth_lt hlt]; exact List.getElem_mem hlt)
      obtain ⟨LO, hLO⟩ : ∃ x, (lnth M.levers k).lo = x := ⟨_, rfl⟩
      obtain ⟨HH, hHH⟩ : ∃ x, (lnth M.levers k).hi = x := ⟨_, rfl⟩
      rw [hLO] at d1 hlv
      rw [hHH] at d2 hlv
      have e1 : 1 ≤ n0 * (HH - LO + 1) ∧ n0 * (HH - LO + 1) ≤ 150 * 1000 := ⟨by have := mul_mono (b := n0) (y := HH - LO + 1) (show (0 : Int) ≤ 1 by decide) (show (0 : Int) ≤ 1 by decide) hn0.1 (show 1 ≤ HH - LO + 1 by omega); omega, mul_mono (by omega) (by omega) hn0.2 (by omega)⟩
      obtain ⟨P, hP⟩ : ∃ P, n0 * (HH - LO + 1) = P := ⟨_, rfl⟩
      have w1' : wrap64 (n0 * (HH - LO + 1)) = P := by rw [hP] at e1 ⊢; exact wrap_in (by omega)
      have w2' : IntKind.i64.wrap (n0 * (HH - LO + 1)) = P := by rw [hP] at e1 ⊢; exact IntWalk.i64_in _ (by omega)
      rw [hP] at e1
      clear hP hm0 hLO hHH d0 hdr
      by_cases hp : 150 < P
      · go_wp2
        go_quiet (fail)
        go_wp2
        go_ret
        exact ⟨⟨_, rfl⟩, HBR.out _⟩
      · have hp' : P ≤ 150 := by omega
        go_wp2
        go_quiet (fail)
        go_wp2
        exact ⟨⟨k + 1, P, by omega, by go_num, rfl, ⟨e1.1, hp'⟩, HDR.out _⟩, by simp [intOf]; omega⟩
    · obtain rfl : M.levers.length = k := by omega
      clear hm0 hdr
      go_wp2
      go_ret
      exact ⟨⟨_, rfl⟩, HBR0.out⟩
def ReadyB (M : Mach) (e : Ending) : Prop := ∃ r, e = .returned (.bool r) ∧ (r = true → validMB M = true)
set_option maxRecDepth 100000 in
set_option maxHeartbeats 2000000 in
theorem ready_any (v : Value) (M : Mach) (w : World) (hx : MachAt w.heap.size w v M) :
    Calls Try.prog 11 #[v] w fun e w' => ReadyB M e ∧ Below w.heap.size w w' := by
  have HX := Lib.hid (fun W (hb : Below w.heap.size w W) => (hx.below hb).mono hb.size)
  obtain ⟨a, cap, a2, cap2, rfl⟩ := hx.form
  have HFA := Lib.hid (fun W hb => Far_any _ M W (HX.out W hb))
  have HCK := Lib.hid (fun W hb => rCheck_any _ M W (HX.out W hb))
  clear hx
  go_enter Try.func11, Try.ntmps11
  go_wp2_with fail
  refine (HFA.out _ (by go_grown)).mono ?_
  rintro e w1 ⟨⟨r, rfl⟩, hb⟩
  have HB1 := Lib.hid ((show Below w.heap.size w _ by go_grown).trans (hb.mono (by simp)))
  obtain ⟨c0, c1, c2, c3, c4, c5⟩ := cells6 ((hb.block w.heap.size (by simp)).trans (heap_new w _))
  clear hb
  cases r
  · cases hv : validMB M
    all_goals
      first | rw [chk_bad hv] at HCK | rw [chk_ok hv] at HCK
      go_wp2_with fail
      refine (HCK.out w1 HB1.out).mono ?_
      rintro e w2 ⟨rfl, hb⟩
      have HB2 := Lib.hid (HB1.out.trans (hb.mono HB1.out.size))
      clear hb
      go_wp2_with fail
      go_ret
      exact ⟨⟨_, rfl, by simp [hv]⟩, HB2.out⟩
  · go_wp2_with fail
    go_ret
    exact ⟨⟨_, rfl, by simp⟩, HB1.out⟩
end Go.Proofs.Ytomcjopcfdllgaa
