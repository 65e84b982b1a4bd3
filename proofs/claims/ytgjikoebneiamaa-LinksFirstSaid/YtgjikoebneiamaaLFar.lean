/-
  Links, the law's own functions: Far, ready, isKnown; a chain in a variable.
-/
import Derived.Test.YtgjikoebneiamaaLChk
namespace Go.Proofs.Ytgjikoebneiamaa
open Go.RowKit Go.Shelf

theorem rCheck_to {v : Value} {C : Chain} {w : World} {r : Int} (h : chkS C = r) (hx : ChainAt w.heap.size w v C) :
    Calls Try.prog 17 #[v] w fun e w' => e = .returned (.int .i64 r) ∧ Below w.heap.size w w' := h ▸ rCheck_any v C w hx

def farB (C : Chain) : Bool := decide (40 < C.deeds.length) || (decide (40 < C.sights.length) || (validB C && decide (5 < unk C.deeds)))
def readyB (C : Chain) : Bool := !farB C && validB C

/-- A chain in a variable: its box, what it holds, what lies below. -/
structure LStat (w W : World) (b : Nat) (x0 x1 x2 : Value) (C : Chain) : Prop where
  blk : W.heap[b]? = some (.cells #[x0, x1, x2] 25)
  st : ChainAt W.heap.size W (.agg #[x0, x1, x2]) C
  b : Below w.heap.size w W
theorem LStat.next {w W W' : World} {b : Nat} {x0 x1 x2 : Value} {C : Chain} (h : LStat w W b x0 x1 x2 C) (hb : Below W.heap.size W W') : LStat w W' b x0 x1 x2 C :=
  ⟨(hb.block _ (heap_lt h.blk)).trans h.blk, (h.st.below hb).mono hb.size, h.b.trans (hb.mono h.b.size)⟩
theorem LStat.first {w : World} {x0 x1 x2 : Value} {C : Chain} (hx : ChainAt w.heap.size w (.agg #[x0, x1, x2]) C) : LStat w (w.alloc (.cells #[x0, x1, x2] 25)) w.heap.size x0 x1 x2 C :=
  ⟨heap_new _ _, (hx.below ((Below.refl _ _).alloc (Nat.le_refl _) _)).mono (by simp), (Below.refl _ _).alloc (Nat.le_refl _) _⟩
theorem LStat.cells {w W : World} {b : Nat} {x0 x1 x2 : Value} {C : Chain} (h : LStat w W b x0 x1 x2 C) : W.cell? ⟨b, 0, none⟩ = some x0 ∧ W.cell? ⟨b, 1, none⟩ = some x1 ∧ W.cell? ⟨b, 2, none⟩ = some x2 := box3c h.blk

set_option maxRecDepth 100000 in
set_option maxHeartbeats 2000000 in
theorem Far_any (v : Value) (C : Chain) (w : World) (hx : ChainAt w.heap.size w v C) :
    Calls Try.prog 13 #[v] w fun e w' => e = .returned (.bool (farB C)) ∧ Below w.heap.size w w' := by
  have hx' := hx
  obtain ⟨a, cap, b, off, a2, cap2, b2, off2, rfl, hm, hm2, hcap, hcapm, HA, HC, HA2, HC2, HI, HI2⟩ := hx.opened
  have HX := Lib.hid hx'
  clear hx hx' HA2 HC2 HI2 HI
  by_cases hn1 : C.deeds.length ≤ 40
  case neg =>
    have hd1 : decide (40 < (C.deeds.length : Int)) = true := by simp; omega
    have hv := Lib.hid (show farB C = true from by simp [farB]; omega)
    clear hn1
    go_enter Try.func13, Try.ntmps13
    go_wp2
    go_ret
    exact ⟨ret_bool hv.out.symm, by go_grown⟩
  have hd1 : decide (40 < (C.deeds.length : Int)) = false := by simp; omega
  have hf1 : decide (40 < C.deeds.length) = false := by simp; omega
  by_cases hn2 : C.sights.length ≤ 40
  case neg =>
    have hd2 : decide (40 < (C.sights.length : Int)) = true := by simp; omega
    have hv := Lib.hid (show farB C = true from by simp [farB]; omega)
    clear hn2 hf1
    go_enter Try.func13, Try.ntmps13
    go_wp2
    go_ret
    exact ⟨ret_bool hv.out.symm, by go_grown⟩
  have hd2 : decide (40 < (C.sights.length : Int)) = false := by simp; omega
  have hf2 : decide (40 < C.sights.length) = false := by simp; omega
  have HF := Lib.hid (show farB C = (validB C && decide (5 < unk C.deeds)) from by rw [farB, hf1, hf2]; simp)
  clear hf1 hf2
  have HS0 := Lib.hid (LStat.first HX.out)
  cases hv : validB C
  case false =>
    have HV := Lib.hid hv
    clear hv
    go_enter Try.func13, Try.ntmps13
    go_wp2_with fail
    refine (rCheck_to (chkS_bad HV.out) HS0.out.st).mono ?_
    rintro e w1 ⟨rfl, hb1⟩
    have HB := Lib.hid (HS0.out.next hb1).b
    clear hb1
    go_wp2
    go_ret
    exact ⟨ret_bool (by rw [HF.out, HV.out]; rfl), HB.out⟩
  have HV := Lib.hid hv
  have hnd := (valid_iff.1 hv).nd
  clear hv
  go_enter Try.func13, Try.ntmps13
  go_wp2_with fail
  refine (rCheck_to (chkS_ok HV.out) HS0.out.st).mono ?_
  rintro e w1 ⟨rfl, hb1⟩
  have hs := HS0.out.next hb1
  obtain ⟨c0, c1, c2⟩ := hs.cells
  have HS1 := Lib.hid hs
  clear hs hb1
  go_wp2
  go_loop [3, 4] (fun n i => ∃ j : Nat, j ≤ C.deeds.length ∧ i = .int .i64 j ∧ n = .int .i64 (unkTo C.deeds j)) (fun _ i => C.deeds.length - (intOf i).toNat)
  case atStart => exact ⟨0, Nat.zero_le _, rfl, rfl⟩
  case round =>
    obtain ⟨j, hj, rfl, rfl⟩ := hrel
    have hle := unkTo_le C.deeds j
    by_cases hlt : j < C.deeds.length
    · obtain ⟨rfl, hbB⟩ := HA.out (by omega)
      obtain ⟨d0, d1, d2, d3, d4⟩ := (HC.out j hlt).below HS1.out.b hbB
      by_cases h2 : (dnth C.deeds j).from_ = 2
      · go_wp2
        exact ⟨⟨j + 1, by omega, by go_num, by simp only [unkTo, if_pos h2]; go_num⟩, by simp [intOf]; omega⟩
      · go_wp2
        exact ⟨⟨j + 1, by omega, by go_num, by simp only [unkTo, if_neg h2] <;> go_num⟩, by simp [intOf]; omega⟩
    · obtain rfl : C.deeds.length = j := by omega
      have HU := Lib.hid (show decide (5 < unk C.deeds) = decide ((5 : Int) < (unkTo C.deeds C.deeds.length : Nat)) from by rw [unkTo_len]; exact decide_eq_decide.2 (by omega))
      go_wp2
      go_ret
      exact ⟨ret_bool (by rw [HF.out, HV.out, HU.out]; rfl), HS1.out.b⟩
theorem Far_to {v : Value} {C : Chain} {w : World} {r : Bool} (h : farB C = r) (hx : ChainAt w.heap.size w v C) :
    Calls Try.prog 13 #[v] w fun e w' => e = .returned (.bool r) ∧ Below w.heap.size w w' := h ▸ Far_any v C w hx

set_option maxHeartbeats 800000 in
theorem ready_any (v : Value) (C : Chain) (w : World) (hx : ChainAt w.heap.size w v C) :
    Calls Try.prog 44 #[v] w fun e w' => e = .returned (.bool (readyB C)) ∧ Below w.heap.size w w' := by
  have hx' := hx
  obtain ⟨a, cap, b, off, a2, cap2, b2, off2, rfl, hm, hm2, hcap, hcapm, HA, HC, HA2, HC2, HI, HI2⟩ := hx.opened
  have HS0 := Lib.hid (LStat.first hx')
  clear hx hx' HA2 HC2 HI2 HI HA HC
  cases hf : farB C
  case true =>
    have HF := Lib.hid hf
    clear hf
    go_enter Try.func44, Try.ntmps44
    go_wp2_with (go_at_call 13; go_must (refine (Far_to HF.out HS0.out.st).mono ?_); rintro e w' ⟨rfl, hb⟩)
    go_ret
    exact ⟨ret_bool (by rw [readyB, HF.out]; rfl), (HS0.out.next hb).b⟩
  have HF := Lib.hid hf
  clear hf
  cases hval : validB C
  all_goals
    have HR := Lib.hid (show readyB C = _ from by rw [readyB, HF.out, hval])
    have HVAL := Lib.hid hval
    clear hval
    go_enter Try.func44, Try.ntmps44
    go_wp2_with fail
    refine (Far_to HF.out HS0.out.st).mono ?_
    rintro e w1 ⟨rfl, hb1⟩
    have hs := HS0.out.next hb1
    obtain ⟨c0, c1, c2⟩ := hs.cells
    have HS1 := Lib.hid hs
    clear hs hb1
  · go_wp2_with (go_at_call 17; go_must (refine (rCheck_to (chkS_bad HVAL.out) HS1.out.st).mono ?_); rintro e w' ⟨rfl, hb⟩)
    go_ret
    exact ⟨ret_bool (by rw [HR.out]; rfl), (HS1.out.next hb).b⟩
  · go_wp2_with (go_at_call 17; go_must (refine (rCheck_to (chkS_ok HVAL.out) HS1.out.st).mono ?_); rintro e w' ⟨rfl, hb⟩)
    go_ret
    exact ⟨ret_bool (by rw [HR.out]; rfl), (HS1.out.next hb).b⟩
theorem ready_to {v : Value} {C : Chain} {w : World} {r : Bool} (h : readyB C = r) (hx : ChainAt w.heap.size w v C) :
    Calls Try.prog 44 #[v] w fun e w' => e = .returned (.bool r) ∧ Below w.heap.size w w' := h ▸ ready_any v C w hx
theorem ready_is {C : Chain} (h : readyB C = true) : validB C = true ∧ C.deeds.length ≤ 12 ∧ C.sights.length ≤ 8 := by
  simp only [readyB, Bool.and_eq_true, Bool.not_eq_true'] at h
  exact ⟨h.2, (valid_iff.1 h.2).nd, (valid_iff.1 h.2).ns⟩
theorem ready_of {C D : Chain} (h : readyB C = true) (hd : D.deeds = C.deeds) (hv : validB D = true) : readyB D = true := by
  have hV := valid_iff.1 hv
  have h2 : unk C.deeds ≤ 5 := by
    simp only [readyB, farB, Bool.and_eq_true, Bool.not_eq_true', Bool.or_eq_false_iff] at h
    have := h.1.2.2
    rw [h.2] at this
    simpa using this
  have := hV.nd
  have := hV.ns
  simp [readyB, farB, hv, hd]
  rw [hd] at *
  omega

theorem isKnown_any (e : Int) (w : World) : Calls Try.prog 56 #[.int .i64 e] w fun r w' => r = .returned (.bool (decide (e = 0) || decide (e = 3))) ∧ w = w' := by
  by_cases h0 : e = 0
  · subst h0
    go_enter Try.func56, Try.ntmps56
    go_wp2
    go_ret
    exact ⟨rfl, rfl⟩
  · have e0 : (e == 0) = false := by simpa using h0
    have HE := Lib.hid (show (e == 3) = (decide (e = 0) || decide (e = 3)) from by simp [h0]; rfl)
    clear h0
    go_enter Try.func56, Try.ntmps56
    go_wp2
    go_ret
    exact ⟨ret_bool HE.out, rfl⟩
theorem isKnown_to {e : Int} (h : e = 0 ∨ e = 3) (w : World) : Calls Try.prog 56 #[.int .i64 e] w fun r w' => r = .returned (.bool true) ∧ w = w' := by
  have := isKnown_any e w
  rwa [show (decide (e = 0) || decide (e = 3)) = true by simpa using h] at this

end Go.Proofs.Ytgjikoebneiamaa
