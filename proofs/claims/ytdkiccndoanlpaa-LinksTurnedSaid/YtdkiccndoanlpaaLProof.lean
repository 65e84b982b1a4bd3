/-
  Links, walks: how often and when a link was proved.
-/
import Derived.Test.YtdkiccndoanlpaaLWho

namespace Go.Proofs.Ytdkiccndoanlpaa
open Go.RowKit Go.Sort

/-- How often a link was proved by the first k deeds. -/
def timesTo (ds : List Deed) (x : List Int) (link : Int) : Nat → Int
  | 0 => 0
  | k + 1 => timesTo ds x link k + (if (dnth ds k).what = 4 ∧ inB (story ds x k) link = true then 1 else 0)
/-- By which of the first k deeds last. -/
def lastTo (ds : List Deed) (x : List Int) (link : Int) : Nat → Int
  | 0 => -1
  | k + 1 => if (dnth ds k).what = 4 ∧ inB (story ds x k) link = true then (k : Int) else lastTo ds x link k
theorem timesTo_le (ds : List Deed) (x : List Int) (link : Int) : ∀ k : Nat, 0 ≤ timesTo ds x link k ∧ timesTo ds x link k ≤ k
  | 0 => by simp [timesTo]
  | k + 1 => by have := timesTo_le ds x link k; simp only [timesTo]; push_cast; split <;> omega
theorem lastTo_le (ds : List Deed) (x : List Int) (link : Int) : ∀ k : Nat, -1 ≤ lastTo ds x link k ∧ lastTo ds x link k < k
  | 0 => by simp [lastTo]
  | k + 1 => by have := lastTo_le ds x link k; simp only [lastTo]; push_cast; split <;> omega
theorem timesTo_yes {ds : List Deed} {x : List Int} {link : Int} {k : Nat} (h1 : (dnth ds k).what = 4) (h2 : inB (story ds x k) link = true) : timesTo ds x link (k + 1) = timesTo ds x link k + 1 := by simp only [timesTo]; rw [if_pos ⟨h1, h2⟩]
theorem lastTo_yes {ds : List Deed} {x : List Int} {link : Int} {k : Nat} (h1 : (dnth ds k).what = 4) (h2 : inB (story ds x k) link = true) : lastTo ds x link (k + 1) = k := by simp only [lastTo]; rw [if_pos ⟨h1, h2⟩]
theorem timesTo_no {ds : List Deed} {x : List Int} {link : Int} {k : Nat} (h : ¬ ((dnth ds k).what = 4 ∧ inB (story ds x k) link = true)) : timesTo ds x link (k + 1) = timesTo ds x link k := by simp only [timesTo]; rw [if_neg h]; omega
theorem lastTo_no {ds : List Deed} {x : List Int} {link : Int} {k : Nat} (h : ¬ ((dnth ds k).what = 4 ∧ inB (story ds x k) link = true)) : lastTo ds x link (k + 1) = lastTo ds x link k := by simp only [lastTo]; rw [if_neg h]
theorem PastTo.intsAt {n Bp Bm : Nat} {cab : Nat → List Int} {W : World} (h : PastTo n Bp Bm cab n W) {i : Nat} (hi : i ≤ n) (hI : ∀ x ∈ cab i, I64 x) : IntsAt W.heap.size W (.slice (some ⟨Bm, i * 12, none⟩) (cab i).length 12) (cab i) := by
  have hl := h.len i hi
  have hlt := h.ltm
  obtain ⟨f, hR, hH⟩ := h.mem
  refine ⟨_, 12, Bm, i * 12, rfl, hl, by unfold maxLen; omega, fun _ => ⟨rfl, hlt⟩, fun j hj => ?_, hI⟩
  have : i * 12 + j < (n + 1) * 12 := by
    have : i * 12 ≤ n * 12 := Nat.mul_le_mul_right _ hi
    omega
  rw [hR.cell this, hH i hi j hj]

set_option maxRecDepth 100000 in
set_option maxHeartbeats 2000000 in
theorem proofs_any (dv sv mv : Value) (C : Chain) (hV : Valid C) (x : List Int) (link : Int) (Bp Bm : Nat) (w : World) (hx : BookAt w.heap.size w (.agg #[dv, sv, .int .i64 C.wrong, mv]) C)
    (hp : PastTo C.deeds.length Bp Bm (story C.deeds x) C.deeds.length w) :
    Calls Try.prog 88 #[.agg #[dv, sv, .int .i64 C.wrong, mv], pastV C.deeds.length Bp, .int .i64 link] w fun r w' => r = .returned (.tuple #[.int .i64 (timesTo C.deeds x link C.deeds.length), .int .i64 (lastTo C.deeds x link C.deeds.length)]) ∧ Below w.heap.size w w' := by
  obtain ⟨dv', sv', mv', e, hC, hM⟩ := hx
  injection e with e
  simp only [Array.mk.injEq, List.cons.injEq, and_true, true_and] at e
  obtain ⟨rfl, rfl, rfl⟩ := e
  obtain ⟨a, cap, b, off, a2, cap2, b2, off2, hv, hm, hm2, hcap, hcapm, HA, HC, HA2, HC2, HI, HI2⟩ := hC.opened
  injection hv with hv
  simp only [Array.mk.injEq, List.cons.injEq, and_true] at hv
  obtain ⟨rfl, rfl⟩ := hv
  obtain ⟨bm, rfl, hbm, hm12, hmc⟩ := hM
  have hnd := hV.nd
  have HP := Lib.hid hp
  have HV := Lib.hid hV
  clear hC hmc HA2 HC2 HI HI2 hp hV
  go_enter Try.func88, Try.ntmps88
  go_wp2_with fail
  go_loopw [6, 7, 14] (fun t l i wr => ∃ j : Nat, j ≤ C.deeds.length ∧ i = .int .i64 j ∧ t = .int .i64 (timesTo C.deeds x link j) ∧ l = .int .i64 (lastTo C.deeds x link j) ∧ Hid (Below (w.heap.size + 1) (w.alloc (.cells #[.slice a C.deeds.length cap, .slice a2 C.sights.length cap2, .int .i64 C.wrong, .slice (some ⟨bm, 0, none⟩) (weldsTo C.deeds C.deeds.length) 12] 84)) wr)) (fun _ _ i _ => C.deeds.length - (intOf i).toNat)
  case atStart => exact ⟨0, Nat.zero_le _, rfl, rfl, rfl, Below.refl _ _⟩
  case round =>
    obtain ⟨j, hj, rfl, rfl, rfl, hbl⟩ := hrel
    have hszr := boxed_size hbl.out
    have ht := timesTo_le C.deeds x link j
    by_cases hlt : j < C.deeds.length
    · obtain ⟨rfl, hb⟩ := HA.out (by omega)
      obtain ⟨d0, d1, d2, d3, d4⟩ := (HC.out j hlt).below (boxed hbl.out) hb
      have HP' := Lib.hid (HP.out.kept (own := fun _ => False) (KeptBut.of_below (boxed hbl.out)) (fun h => h) (fun h => h))
      have y0 := hdr_cell HP'.out (Nat.le_of_lt hlt)
      have hlp := HP'.out.ltp
      have HPD := Lib.hid (fun o => (HP'.out.kept (own := fun _ => False) (KeptBut.of_below ((Below.refl _ wr).alloc (Nat.le_refl _) o)) (fun h => h) (fun h => h)).intsAt (Nat.le_of_lt hlt) (story_i64 HV.out x (Nat.le_of_lt hlt)))
      by_cases h4 : (dnth C.deeds j).what = 4
      · obtain ⟨q, hq⟩ : ∃ q, inB (story C.deeds x j) link = q := ⟨_, rfl⟩
        have HQ := Lib.hid hq
        have H4 := Lib.hid h4
        cases q
        · have HN := Lib.hid (show ¬ ((dnth C.deeds j).what = 4 ∧ inB (story C.deeds x j) link = true) from fun h => by rw [hq] at h; exact absurd h.2 (by simp))
          clear hq
          go_wp2_with (go_at_call 115; refine (contains_to HQ.out (HPD.out _)).mono ?_; rintro e w' ⟨rfl, rfl⟩)
          exact ⟨⟨j + 1, by omega, by go_num, by rw [timesTo_no HN.out], by rw [lastTo_no HN.out], hbl.out.alloc hszr _⟩, by simp [intOf]; omega⟩
        · clear hq
          go_wp2_with (go_at_call 115; refine (contains_to HQ.out (HPD.out _)).mono ?_; rintro e w' ⟨rfl, rfl⟩)
          exact ⟨⟨j + 1, by omega, by go_num, by rw [timesTo_yes H4.out HQ.out], by rw [lastTo_yes H4.out HQ.out], hbl.out.alloc hszr _⟩, by simp [intOf]; omega⟩
      · have HN := Lib.hid (show ¬ ((dnth C.deeds j).what = 4 ∧ inB (story C.deeds x j) link = true) from fun h => h4 h.1)
        go_wp2_with fail
        exact ⟨⟨j + 1, by omega, by go_num, by rw [timesTo_no HN.out], by rw [lastTo_no HN.out], hbl.out.alloc hszr _⟩, by simp [intOf]; omega⟩
    · obtain rfl : C.deeds.length = j := by omega
      go_wp2_with fail
      go_ret2
      exact ⟨rfl, boxed hbl.out⟩

set_option maxHeartbeats 1000000 in
theorem proofsAsk_any (dv sv mv : Value) (C : Chain) (hV : Valid C) (x : List Int) (link : Int) (Bp Bm bb bx : Nat) (w : World) (hx : BookAt w.heap.size w (.agg #[dv, sv, .int .i64 C.wrong, mv]) C)
    (hp : PastTo C.deeds.length Bp Bm (story C.deeds x) C.deeds.length w) (hbb : w.heap[bb]? = some (.cells #[dv, sv, .int .i64 C.wrong, mv] 84)) (hbx : w.cell? ⟨bx, 0, none⟩ = some (.int .i64 link)) :
    Calls Try.prog 87 #[pastV C.deeds.length Bp, .pointer (some ⟨bb, 0, none⟩), .pointer (some ⟨bx, 0, none⟩)] w fun e w' => e = .returned (.int .i64 (timesTo C.deeds x link C.deeds.length)) ∧ Below w.heap.size w w' := by
  have HC := Lib.hid (proofs_any dv sv mv C hV x link Bp Bm w hx hp)
  obtain ⟨c0, c1, c2, c3⟩ := box4' hbb
  clear hx hp hbb
  go_enter Try.func87, Try.ntmps87
  go_wp2_with fail
  refine HC.out.mono ?_
  rintro e w1 ⟨rfl, hb⟩
  have HB := Lib.hid hb
  clear hb
  go_wp2_with fail
  go_ret
  exact ⟨rfl, HB.out⟩
set_option maxHeartbeats 1000000 in
theorem lastAsk_any (dv sv mv : Value) (C : Chain) (hV : Valid C) (x : List Int) (link : Int) (Bp Bm bb bx : Nat) (w : World) (hx : BookAt w.heap.size w (.agg #[dv, sv, .int .i64 C.wrong, mv]) C)
    (hp : PastTo C.deeds.length Bp Bm (story C.deeds x) C.deeds.length w) (hbb : w.heap[bb]? = some (.cells #[dv, sv, .int .i64 C.wrong, mv] 84)) (hbx : w.cell? ⟨bx, 0, none⟩ = some (.int .i64 link)) :
    Calls Try.prog 89 #[pastV C.deeds.length Bp, .pointer (some ⟨bb, 0, none⟩), .pointer (some ⟨bx, 0, none⟩)] w fun e w' => e = .returned (.int .i64 (lastTo C.deeds x link C.deeds.length)) ∧ Below w.heap.size w w' := by
  have HC := Lib.hid (proofs_any dv sv mv C hV x link Bp Bm w hx hp)
  obtain ⟨c0, c1, c2, c3⟩ := box4' hbb
  clear hx hp hbb
  go_enter Try.func89, Try.ntmps89
  go_wp2_with fail
  refine HC.out.mono ?_
  rintro e w1 ⟨rfl, hb⟩
  have HB := Lib.hid hb
  clear hb
  go_wp2_with fail
  go_ret
  exact ⟨rfl, HB.out⟩

end Go.Proofs.Ytdkiccndoanlpaa
