/-
  Levers, the law's own function: how many settings there are at most.
-/
import Derived.Test.YtomcjopcfdllgaaVRef3

namespace Go.Proofs.Ytomcjopcfdllgaa
open Go.RowKit Go.Shelf

/-- How many settings of short arms there are. -/
def spansT (ls : List Lev) : Int := ls.foldl (fun p l => p * (l.hi - l.lo + 1)) 1
/-- How many settings there are, of the first levers. -/
def cntTo (M : Mach) (k : Nat) : Int := (M.lkHi - M.lkLo + 1) * spansT (M.levers.take k)
theorem cntTo_succ {M : Mach} {k : Nat} (h : k < M.levers.length) : cntTo M (k + 1) = cntTo M k * ((lnth M.levers k).hi - (lnth M.levers k).lo + 1) := by
  unfold cntTo spansT
  rw [List.take_succ_eq_append_getElem h, lnth_lt h, List.foldl_append, Int.mul_assoc]
  rfl
theorem spansT_cons (l : Lev) (ls : List Lev) : spansT (l :: ls) = (l.hi - l.lo + 1) * spansT ls := by
  have h : ∀ (ls : List Lev) (p q : Int), ls.foldl (fun p l => p * (l.hi - l.lo + 1)) (p * q) = p * ls.foldl (fun p l => p * (l.hi - l.lo + 1)) q := fun ls => by
    induction ls with
    | nil => intro p q; rfl
    | cons b x ih => intro p q; simp only [List.foldl_cons]; rw [Int.mul_assoc, ih]
  have := h ls (l.hi - l.lo + 1) 1
  rw [Int.mul_one] at this
  simp only [spansT, List.foldl_cons, Int.one_mul]
  exact this
theorem flat_count {α β : Type} (f : α → List β) (c : Nat) : ∀ l : List α, (∀ x ∈ l, (f x).length = c) → (l.flatMap f).length = l.length * c
  | [], _ => by simp
  | x :: l, h => by
    have h1 := h x (by simp)
    have h2 := flat_count f c l (fun y hy => h y (by simp [hy]))
    rw [List.flatMap_cons, List.length_append, List.length_cons, Nat.add_mul]
    omega
theorem arms_count : ∀ {ls : List Lev}, (∀ l ∈ ls, l.lo ≤ l.hi) → ((armsL ls).length : Int) = spansT ls
  | [], _ => by simp [armsL, spansT]
  | l :: ls, h => by
    have ih := arms_count (ls := ls) (fun k hk => h k (.tail _ hk))
    have hl := h l (.head _)
    rw [spansT_cons, ← ih]
    have e : (armsL (l :: ls)).length = (rangeL l.lo l.hi).length * (armsL ls).length := flat_count _ _ _ (fun _ _ => by rw [List.length_map])
    rw [e, Int.natCast_mul, range_len]
    congr 1
    omega
theorem sets_count {M : Mach} (hV : ValidM M) : ((setsM M).length : Int) = cntTo M M.levers.length := by
  have e : (setsM M).length = (armsL M.levers).length * (rangeL M.lkLo M.lkHi).length := flat_count _ _ _ (fun _ _ => by rw [List.length_map])
  have h1 := arms_count (fun l hl => (hV.lev l hl).2.2.1)
  have h2 := hV.leak
  rw [e, Int.natCast_mul, h1, range_len, cntTo, List.take_length, Int.mul_comm]
  congr 1
  omega
def FarB (M : Mach) (e : Ending) : Prop := ∃ r, e = .returned (.bool r) ∧ (r = false → M.levers.length ≤ 40 ∧ M.bals.length ≤ 40 ∧ (validMB M = true → cntTo M M.levers.length ≤ 150))
set_option maxRecDepth 100000 in
set_option maxHeartbeats 4000000 in
theorem Far2_any (v : Value) (M : Mach) (w : World) (hx : MachAt w.heap.size w v M) :
    Calls Try.prog 39 #[v] w fun e w' => FarB M e ∧ Below w.heap.size w w' := by
  have HX := Lib.hid (fun W (hb : Below w.heap.size w W) => (hx.below hb).mono hb.size)
  obtain ⟨a, cap, b, off, a2, cap2, b2, off2, rfl, hm, hm2, HA, HC, HA2, HC2, HI, HI2, HW⟩ := hx.opened
  clear hx
  by_cases hn1 : M.levers.length ≤ 40
  case neg =>
    have hn1' : (40 : Int) < (M.levers.length : Int) := by omega
    go_enter Try.func39, Try.ntmps39
    go_wp2_with fail
    go_ret
    exact ⟨⟨true, rfl, fun h => by cases h⟩, by go_grown⟩
  have hn1' : ¬ (40 : Int) < (M.levers.length : Int) := by omega
  by_cases hn2 : M.bals.length ≤ 40
  case neg =>
    have hn2' : (40 : Int) < (M.bals.length : Int) := by omega
    go_enter Try.func39, Try.ntmps39
    go_wp2_with fail
    go_ret
    exact ⟨⟨true, rfl, fun h => by cases h⟩, by go_grown⟩
  have hn2' : ¬ (40 : Int) < (M.bals.length : Int) := by omega
  have HN1 := Lib.hid hn1
  have HN2 := Lib.hid hn2
  have HCK := Lib.hid (fun W hb => rCheck_any _ M W (HX.out W hb))
  cases hv : validMB M
  case false =>
    rw [chk_bad hv] at HCK
    go_enter Try.func39, Try.ntmps39
    go_wp2_with (go_at_call 41; refine (HCK.out _ (by go_grown)).mono ?_; rintro e w1 ⟨rfl, hb⟩; have HB := Lib.hid ((show Below w.heap.size w _ by go_grown).trans (hb.mono (by simp))); clear hb)
    go_ret
    exact ⟨⟨false, rfl, fun _ => ⟨HN1.out, HN2.out, fun h => by rw [hv] at h; cases h⟩⟩, HB.out⟩
  rw [chk_ok hv] at HCK
  have hV := validM_iff.1 hv
  have hlk := hV.leak
  go_enter Try.func39, Try.ntmps39
  go_wp2_with (go_at_call 41; refine (HCK.out _ (by go_grown)).mono ?_; rintro e w1 ⟨rfl, hb⟩; have HB := Lib.hid ((show Below w.heap.size w _ by go_grown).trans (hb.mono (by simp))); obtain ⟨c0, c1, c2, c3, c4, c5⟩ := cells6 ((hb.block w.heap.size (by simp)).trans (heap_new w _)); have HBX := Lib.hid ((hb.block w.heap.size (by simp)).trans (heap_new w _)); clear hb)
  have hw1 := HB.out
  obtain ⟨N0, hN0⟩ : ∃ x, M.lkHi - M.lkLo + 1 = x := ⟨_, rfl⟩
  have hN1 : 1 ≤ N0 ∧ N0 ≤ 150 := by omega
  have HZ0 := Lib.hid (show N0 = cntTo M 0 by rw [← hN0]; simp [cntTo, spansT])
  rw [hN0]
  clear hN0 c0 c1 c2 c3 c4 c5 hn1' hn2' hw1
  have hnl := hV.nl
  go_loopw [3, 4] (fun nv i wr => ∃ (k : Nat) (n0 : Int), k ≤ M.levers.length ∧ i = .int .i64 k ∧ nv = .int .i64 n0 ∧ (1 ≤ n0 ∧ n0 ≤ 150) ∧ Hid (∃ m, wr = w1.drewN m) ∧ Hid (n0 = cntTo M k)) (fun _ i _ => M.levers.length - (intOf i).toNat)
  case atStart => exact ⟨0, N0, Nat.zero_le _, rfl, rfl, hN1, Lib.hid ⟨0, rfl⟩, HZ0⟩
  case round =>
    obtain ⟨k, n0, hk, rfl, rfl, hn0, hdr, HCN⟩ := hrel
    obtain ⟨m0, hm0⟩ := hdr.out
    have c0 : wr.cell? ⟨w.heap.size, 0, none⟩ = some (.slice a M.levers.length cap) := by rw [hm0]; exact (cells6 HBX.out).1
    have HBR := Lib.hid (show ∀ p, Below w.heap.size w (wr.drewN p) from fun p => by rw [hm0]; exact drewN_below (drewN_below HB.out m0) p)
    have HDR := Lib.hid (show ∀ p, ∃ m, wr.drewN p = w1.drewN m from fun p => ⟨m0 + p, by rw [hm0, World.drewN_drewN]⟩)
    have HBR0 := Lib.hid (show Below w.heap.size w wr by rw [hm0]; exact drewN_below HB.out m0)
    by_cases hlt : k < M.levers.length
    · have hlt' : ((k : Nat) : Int) < (M.levers.length : Int) := by omega
      obtain ⟨rfl, hbw⟩ := HA.out (by omega)
      have hT : Three wr b (off + k * 3) (lnth M.levers k).long (lnth M.levers k).lo (lnth M.levers k).hi := by rw [hm0]; exact (HC.out k hlt).below (drewN_below HB.out m0) hbw
      obtain ⟨d0, d1, d2⟩ := hT
      have hlv := hV.lev (lnth M.levers k) (by rw [lnth_lt hlt]; exact List.getElem_mem hlt)
      obtain ⟨LO, hLO⟩ : ∃ x, (lnth M.levers k).lo = x := ⟨_, rfl⟩
      obtain ⟨HH, hHH⟩ : ∃ x, (lnth M.levers k).hi = x := ⟨_, rfl⟩
      rw [hLO] at d1 hlv
      rw [hHH] at d2 hlv
      have e1 : 1 ≤ n0 * (HH - LO + 1) ∧ n0 * (HH - LO + 1) ≤ 150 * 1000 := ⟨by have := mul_mono (b := n0) (y := HH - LO + 1) (show (0 : Int) ≤ 1 by decide) (show (0 : Int) ≤ 1 by decide) hn0.1 (show 1 ≤ HH - LO + 1 by omega); omega, mul_mono (by omega) (by omega) hn0.2 (by omega)⟩
      obtain ⟨P, hP⟩ : ∃ P, n0 * (HH - LO + 1) = P := ⟨_, rfl⟩
      have w1' : wrap64 (n0 * (HH - LO + 1)) = P := by rw [hP] at e1 ⊢; exact wrap_in (by omega)
      have w2' : IntKind.i64.wrap (n0 * (HH - LO + 1)) = P := by rw [hP] at e1 ⊢; exact IntWalk.i64_in _ (by omega)
      rw [hP] at e1
      have HCP := Lib.hid (show P = cntTo M (k + 1) by rw [cntTo_succ hlt, ← HCN.out, hLO, hHH, hP])
      clear hP hm0 hLO hHH d0 hdr
      by_cases hp : 150 < P
      · go_wp2
        go_quiet (fail)
        go_wp2
        go_ret
        exact ⟨⟨true, rfl, fun h => by cases h⟩, HBR.out _⟩
      · have hp' : P ≤ 150 := by omega
        go_wp2
        go_quiet (fail)
        go_wp2
        exact ⟨⟨k + 1, P, by omega, by go_num, rfl, ⟨e1.1, hp'⟩, HDR.out _, HCP⟩, by simp [intOf]; omega⟩
    · obtain rfl : M.levers.length = k := by omega
      clear hm0 hdr
      go_wp2
      go_ret
      exact ⟨⟨false, rfl, fun _ => ⟨HN1.out, HN2.out, fun _ => by rw [← HCN.out]; exact hn0.2⟩⟩, HBR0.out⟩
def Ready2 (M : Mach) (e : Ending) : Prop := ∃ r, e = .returned (.bool r) ∧ (r = true → validMB M = true ∧ cntTo M M.levers.length ≤ 150)
set_option maxRecDepth 100000 in
set_option maxHeartbeats 2000000 in
theorem ready2_any (v : Value) (M : Mach) (w : World) (hx : MachAt w.heap.size w v M) :
    Calls Try.prog 11 #[v] w fun e w' => Ready2 M e ∧ Below w.heap.size w w' := by
  have HX := Lib.hid (fun W (hb : Below w.heap.size w W) => (hx.below hb).mono hb.size)
  obtain ⟨a, cap, a2, cap2, rfl⟩ := hx.form
  have HFA := Lib.hid (fun W hb => Far2_any _ M W (HX.out W hb))
  have HCK := Lib.hid (fun W hb => rCheck_any _ M W (HX.out W hb))
  clear hx
  go_enter Try.func11, Try.ntmps11
  go_wp2_with fail
  refine (HFA.out _ (by go_grown)).mono ?_
  rintro e w1 ⟨⟨r, rfl, hfr⟩, hb⟩
  have HFR := Lib.hid hfr
  clear hfr
  have HB1 := Lib.hid ((show Below w.heap.size w _ by go_grown).trans (hb.mono (by simp)))
  obtain ⟨c0, c1, c2, c3, c4, c5⟩ := cells6 ((hb.block w.heap.size (by simp)).trans (heap_new w _))
  clear hb
  cases r
  · cases hv : validMB M
    all_goals
      first | rw [chk_bad hv] at HCK | rw [chk_ok hv] at HCK
      go_wp2_with fail
      refine (HCK.out w1 HB1.out).mono ?_
      rintro e w2 ⟨rfl, hb⟩
      have HB2 := Lib.hid (HB1.out.trans (hb.mono HB1.out.size))
      clear hb
      go_wp2_with fail
      go_ret
      exact ⟨⟨_, rfl, fun h => by first | (exfalso; simp at h; done) | exact ⟨hv, by first | exact (HFR.out rfl).2.2 hv | exact (HFR.out trivial).2.2 hv⟩⟩, HB2.out⟩
  · go_wp2_with fail
    go_ret
    exact ⟨⟨_, rfl, by simp⟩, HB1.out⟩
end Go.Proofs.Ytomcjopcfdllgaa
