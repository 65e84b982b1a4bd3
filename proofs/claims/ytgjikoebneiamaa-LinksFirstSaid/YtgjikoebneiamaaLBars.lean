/-
  Links, walks: the questions of Bars, Smiths and Alike.
  Links, walks: Bars and Smiths.
  Links, walks: Bars and Smiths at any number.
  Links, walks: when a link was proved last.
  Links, walks: whether the links at two places are of the same bar.
-/
import Derived.Test.YtgjikoebneiamaaLProof
import Derived.Test.YtgjikoebneiamaaLErr

namespace Go.Proofs.Ytgjikoebneiamaa
open Go.RowKit Go.Sort

/-- The bar, and the smith, of a past's link at a place. -/
def barOf (C : Chain) (at_ : Nat) (x : List Int) : Int := (markD C.deeds (linkAt C at_ x)).bar
def smithOf (C : Chain) (at_ : Nat) (x : List Int) : Int := (markD C.deeds (linkAt C at_ x)).smith
/-- Whether two links are of one bar: 1, or 2. -/
def alikeOf (C : Chain) (a b : Nat) (x : List Int) : Int := if barOf C a x = barOf C b x then 1 else 2

/-- What a question reads. -/
structure AskAt (C : Chain) (x : List Int) (Bp Bm bb bm bx at_ : Nat) (w : World) : Prop where
  mkc : w.cell? ⟨bb, 3, none⟩ = some (.slice (some ⟨bm, 0, none⟩) (weldsTo C.deeds C.deeds.length) 12)
  atc : w.cell? ⟨bx, 0, none⟩ = some (.int .i64 at_)
  lk : ∃ q : Nat, q < weldsTo C.deeds C.deeds.length ∧ w.cell? ⟨Bm, C.deeds.length * 12 + at_, none⟩ = some (.int .i64 q) ∧ w.cell? ⟨bm, q * 2, none⟩ = some (.int .i64 (barOf C at_ x)) ∧ w.cell? ⟨bm, q * 2 + 1, none⟩ = some (.int .i64 (smithOf C at_ x))
theorem askAt {dv sv : Value} {bm : Nat} {C : Chain} (hV : Valid C) {x : List Int} {Bp Bm bb bx at_ : Nat} {w : World} (hx : BookAt w.heap.size w (.agg #[dv, sv, .int .i64 C.wrong, .slice (some ⟨bm, 0, none⟩) (weldsTo C.deeds C.deeds.length) 12]) C)
    (hp : PastTo C.deeds.length Bp Bm (story C.deeds x) C.deeds.length w) (hbb : w.heap[bb]? = some (.cells #[dv, sv, .int .i64 C.wrong, .slice (some ⟨bm, 0, none⟩) (weldsTo C.deeds C.deeds.length) 12] 84)) (hbx : w.cell? ⟨bx, 0, none⟩ = some (.int .i64 at_))
    (hat : at_ < (story C.deeds x C.deeds.length).length) : AskAt C x Bp Bm bb bm bx at_ w := by
  obtain ⟨dv', sv', mv', e, hC, hM⟩ := hx
  injection e with e
  simp only [Array.mk.injEq, List.cons.injEq, and_true, true_and] at e
  obtain ⟨rfl, rfl, rfl⟩ := e
  obtain ⟨bm', hv, hbm, hm12, hmc⟩ := hM
  injection hv with h1 _ _
  injection h1 with h1
  injection h1 with h1
  subst h1
  obtain ⟨q, hq, hqw⟩ := story_link hV x (Nat.le_refl _) hat
  have hl := hp.len C.deeds.length (Nat.le_refl _)
  obtain ⟨f, hR, hH⟩ := hp.mem
  obtain ⟨m0, m1⟩ := hmc q hqw
  obtain ⟨_, _, _, c3⟩ := box4' hbb
  have hlq : linkAt C at_ x = q := hq
  refine ⟨c3, hbx, q, hqw, by rw [hR.cell (by omega), hH _ (Nat.le_refl _) at_ hat, hq], ?_, ?_⟩
  · rw [m0, barOf, hlq]; rfl
  · rw [m1, smithOf, hlq]; rfl

set_option maxHeartbeats 1000000 in
theorem barsAsk_any (C : Chain) (hV : Valid C) (x : List Int) (Bp Bm bb bm bx at_ : Nat) (w : World) (hp : PastTo C.deeds.length Bp Bm (story C.deeds x) C.deeds.length w) (ha : AskAt C x Bp Bm bb bm bx at_ w) (hat : at_ < (story C.deeds x C.deeds.length).length) :
    Calls Try.prog 82 #[pastV C.deeds.length Bp, .pointer (some ⟨bb, 0, none⟩), .pointer (some ⟨bx, 0, none⟩)] w fun e w' => e = .returned (.int .i64 (barOf C at_ x)) ∧ Below w.heap.size w w' := by
  have hnd := hV.nd
  have hw12 := weldsTo_le C.deeds C.deeds.length
  have HLAST := Lib.hid (fun d => last_any C.deeds.length Bp Bm (story C.deeds x) (w.drewN d) hnd (hp.kept (own := fun _ => False) (kept_drewN w d) (fun h => h) (fun h => h)))
  have hl := hp.len C.deeds.length (Nat.le_refl _)
  obtain ⟨a0, a1, q, hq, a2, a3, _⟩ := ha
  clear hp
  generalize barOf C at_ x = y at a3 ⊢
  generalize weldsTo C.deeds C.deeds.length = N at a0 hq hw12
  generalize (story C.deeds x C.deeds.length).length = L at hat hl HLAST
  generalize C.deeds.length = nd at a2 hnd HLAST hw12 ⊢
  go_enter Try.func82, Try.ntmps82
  go_wp2_with fail
  go_quiet ((go_at_call 80; exact Calls.quiet_of_same (HLAST.out _)))
  go_wp2_with fail
  go_ret
  exact ⟨rfl, drewN_below (Below.refl _ _) _⟩
set_option maxHeartbeats 1000000 in
theorem smithsAsk_any (C : Chain) (hV : Valid C) (x : List Int) (Bp Bm bb bm bx at_ : Nat) (w : World) (hp : PastTo C.deeds.length Bp Bm (story C.deeds x) C.deeds.length w) (ha : AskAt C x Bp Bm bb bm bx at_ w) (hat : at_ < (story C.deeds x C.deeds.length).length) :
    Calls Try.prog 83 #[pastV C.deeds.length Bp, .pointer (some ⟨bb, 0, none⟩), .pointer (some ⟨bx, 0, none⟩)] w fun e w' => e = .returned (.int .i64 (smithOf C at_ x)) ∧ Below w.heap.size w w' := by
  have hnd := hV.nd
  have hw12 := weldsTo_le C.deeds C.deeds.length
  have HLAST := Lib.hid (fun d => last_any C.deeds.length Bp Bm (story C.deeds x) (w.drewN d) hnd (hp.kept (own := fun _ => False) (kept_drewN w d) (fun h => h) (fun h => h)))
  have hl := hp.len C.deeds.length (Nat.le_refl _)
  obtain ⟨a0, a1, q, hq, a2, _, a3⟩ := ha
  clear hp
  generalize smithOf C at_ x = y at a3 ⊢
  generalize weldsTo C.deeds C.deeds.length = N at a0 hq hw12
  generalize (story C.deeds x C.deeds.length).length = L at hat hl HLAST
  generalize C.deeds.length = nd at a2 hnd HLAST hw12 ⊢
  go_enter Try.func83, Try.ntmps83
  go_wp2_with fail
  go_quiet ((go_at_call 80; exact Calls.quiet_of_same (HLAST.out _)))
  go_wp2_with fail
  go_ret
  exact ⟨rfl, drewN_below (Below.refl _ _) _⟩
set_option maxHeartbeats 2000000 in
theorem alikeAsk_any (C : Chain) (hV : Valid C) (x : List Int) (Bp Bm bb bm bx by_ a b : Nat) (w : World) (hp : PastTo C.deeds.length Bp Bm (story C.deeds x) C.deeds.length w) (ha : AskAt C x Bp Bm bb bm bx a w) (hb : AskAt C x Bp Bm bb bm by_ b w)
    (hat : a < (story C.deeds x C.deeds.length).length) (hbt : b < (story C.deeds x C.deeds.length).length) :
    Calls Try.prog 90 #[pastV C.deeds.length Bp, .pointer (some ⟨bb, 0, none⟩), .pointer (some ⟨bx, 0, none⟩), .pointer (some ⟨by_, 0, none⟩)] w fun e w' => e = .returned (.int .i64 (alikeOf C a b x)) ∧ Below w.heap.size w w' := by
  have hnd := hV.nd
  have hw12 := weldsTo_le C.deeds C.deeds.length
  have HLAST := Lib.hid (last_any C.deeds.length Bp Bm (story C.deeds x) w hnd hp)
  have hl := hp.len C.deeds.length (Nat.le_refl _)
  obtain ⟨a0, a1, q, hq, a2, a3, _⟩ := ha
  obtain ⟨-, b1, r, hr, b2, b3, _⟩ := hb
  clear hp
  unfold alikeOf
  generalize barOf C a x = y at a3 ⊢
  generalize barOf C b x = z at b3 ⊢
  generalize weldsTo C.deeds C.deeds.length = N at a0 hq hr hw12
  generalize (story C.deeds x C.deeds.length).length = L at hat hbt hl HLAST
  generalize C.deeds.length = nd at a2 b2 hnd HLAST hw12 ⊢
  by_cases he : y = z
  · rw [if_pos he]
    have hyz : (y == z) = true := by simpa using he
    clear he
    go_enter Try.func90, Try.ntmps90
    go_wp2_with (go_at_call 80; refine HLAST.out.mono ?_; rintro e w' ⟨rfl, rfl⟩)
    go_quiet (fail)
    go_wp2_with fail
    go_ret
    exact ⟨rfl, drewN_below (Below.refl _ _) _⟩
  · rw [if_neg he]
    have hyz : (y == z) = false := by simpa using he
    clear he
    go_enter Try.func90, Try.ntmps90
    go_wp2_with (go_at_call 80; refine HLAST.out.mono ?_; rintro e w' ⟨rfl, rfl⟩)
    go_quiet (fail)
    go_wp2_with fail
    go_ret
    exact ⟨rfl, drewN_below (Below.refl _ _) _⟩

end Go.Proofs.Ytgjikoebneiamaa

namespace Go.Proofs.Ytgjikoebneiamaa
open Go.RowKit Go.Sort

theorem mark_ok {C : Chain} (hV : Valid C) {q : Nat} (hq : q < weldsTo C.deeds C.deeds.length) : (0 ≤ (dnth (weldL C.deeds) q).bar ∧ (dnth (weldL C.deeds) q).bar ≤ 99) ∧ 0 ≤ (dnth (weldL C.deeds) q).smith ∧ (dnth (weldL C.deeds) q).smith ≤ 99 := by
  have hl : q < (weldL C.deeds).length := by rw [weldL_len]; exact hq
  have e : dnth (weldL C.deeds) q = (weldL C.deeds)[q] := by simp [dnth, List.getD_eq_getElem?_getD, hl]
  have hm : (weldL C.deeds)[q] ∈ weldL C.deeds := List.getElem_mem hl
  rw [← e] at hm
  obtain ⟨hd, h1⟩ := List.mem_filter.1 hm
  obtain ⟨i, hi, hie⟩ := List.getElem_of_mem hd
  have hk := hV.deed i hi
  have e2 : dnth C.deeds i = dnth (weldL C.deeds) q := by rw [← hie]; simp [dnth, List.getD_eq_getElem?_getD, hi]
  rw [e2] at hk
  have h1' : (dnth (weldL C.deeds) q).what = 1 := by simpa using h1
  simp only [deedOk, if_pos h1', Bool.and_eq_true, wB_iff] at hk
  exact ⟨hk.1.2, hk.2⟩
theorem bar_ok {C : Chain} (hV : Valid C) {at_ : Nat} (hat : (at_ : Int) < lenTo C.deeds C.deeds.length) (x : List Int) : (0 ≤ barOf C at_ x ∧ barOf C at_ x ≤ 99) ∧ 0 ≤ smithOf C at_ x ∧ smithOf C at_ x ≤ 99 := by
  obtain ⟨q, hq, hqw⟩ := story_link hV x (Nat.le_refl _) (j := at_) (by have := (story_ok (ends := x) hV.deed _ (Nat.le_refl _)).1; omega)
  have hlq : linkAt C at_ x = q := hq
  have := mark_ok hV hqw
  simp only [barOf, smithOf, markD, hlq, Int.toNat_natCast]
  exact this
theorem barOf_i64 {C : Chain} (hV : Valid C) {at_ : Nat} (hat : (at_ : Int) < lenTo C.deeds C.deeds.length) (x : List Int) : I64 (barOf C at_ x) := by
  have := bar_ok hV hat x
  unfold I64; omega
theorem smithOf_i64 {C : Chain} (hV : Valid C) {at_ : Nat} (hat : (at_ : Int) < lenTo C.deeds C.deeds.length) (x : List Int) : I64 (smithOf C at_ x) := by
  have := bar_ok hV hat x
  unfold I64; omega
theorem askAt' {dv sv : Value} {bm N : Nat} {C : Chain} (hN : weldsTo C.deeds C.deeds.length = N) (hV : Valid C) {x : List Int} {Bp Bm bb bx at_ : Nat} {w : World} (hx : BookAt w.heap.size w (.agg #[dv, sv, .int .i64 C.wrong, .slice (some ⟨bm, 0, none⟩) N 12]) C)
    (hp : PastTo C.deeds.length Bp Bm (story C.deeds x) C.deeds.length w) (hbb : w.heap[bb]? = some (.cells #[dv, sv, .int .i64 C.wrong, .slice (some ⟨bm, 0, none⟩) N 12] 84)) (hbx : w.cell? ⟨bx, 0, none⟩ = some (.int .i64 at_))
    (hat : at_ < (story C.deeds x C.deeds.length).length) : AskAt C x Bp Bm bb bm bx at_ w := by
  subst hN
  exact askAt hV hx hp hbb hbx hat

set_option maxRecDepth 100000 in
set_option maxHeartbeats 4000000 in
theorem Bars_ok (a a2 : Option Addr) (cap cap2 : Nat) (C : Chain) (at_ : Nat) (w : World)
    (hx : ChainAt w.heap.size w (.agg #[.slice a C.deeds.length cap, .slice a2 C.sights.length cap2, .int .i64 C.wrong]) C) (hV : validB C = true) (hat : (at_ : Int) < lenTo C.deeds C.deeds.length) :
    Calls Try.prog 27 #[.agg #[.slice a C.deeds.length cap, .slice a2 C.sights.length cap2, .int .i64 C.wrong], .int .i64 at_] w fun e w' => ∃ v, e = .returned (.tuple #[v, .int .i64 (noneE (truthsP C).length)]) ∧ IntsAt w'.heap.size w' v (srt ((truthsP C).map (barOf C at_))) ∧ Below w.heap.size w w' := by
  have hV' := valid_iff.1 hV
  have hnd := hV'.nd
  have hle := lenTo_le C.deeds C.deeds.length
  have HX := Lib.hid (fun W (hb : Below w.heap.size w W) => (hx.below hb).mono hb.size)
  have HV := Lib.hid hV
  have HV' := Lib.hid hV'
  have HAT := Lib.hid hat
  have HATS := Lib.hid (fun x => show at_ < (story C.deeds x C.deeds.length).length by have := (story_ok (ends := x) hV'.deed _ (Nat.le_refl _)).1; omega)
  have ha64 : I64 (at_ : Int) := by unfold I64; omega
  have HI := Lib.hid (show allTo (fun i => wB (nth [(at_ : Int)] i) 0 (lenTo C.deeds C.deeds.length - 1)) [(at_ : Int)].length = true from allTo_iff.2 (fun i hi => by
    obtain rfl : i = 0 := by simpa using hi
    rw [wB_iff]; show 0 ≤ (at_ : Int) ∧ (at_ : Int) ≤ _; omega))
  clear hx hV hV' hle hat
  go_enter Try.func27, Try.ntmps27
  go_wp2_with fail
  refine (openAt_ok a a2 cap cap2 C _ [(at_ : Int)] _ (HX.out _ (by go_grown)) (one_ints (by simp) ha64) HV.out HI.out).mono ?_
  rintro e w1 ⟨bm, rfl, hbk, hb1⟩
  have hb1s := hb1.out.size
  simp only [World.size_alloc] at hb1s
  have hbw : Below w.heap.size w w1 := ((((Below.refl _ w).alloc (Nat.le_refl _) _).alloc (by simp) _).alloc (by simp; omega) _).trans (hb1.out.mono (by simp; omega))
  have e1 := (hb1.out.block (w.heap.size + 1) (by simp)).trans ((Below.heap_alloc _ _ _ (by simp)).trans (heap_new1 w _ _))
  have HBW := Lib.hid hbw
  have HE1 := Lib.hid e1
  obtain ⟨N, hN⟩ : ∃ N, weldsTo C.deeds C.deeds.length = N := ⟨_, rfl⟩
  have HN := Lib.hid hN
  rw [hN] at hbk ⊢
  clear hbw e1 hb1 hN
  go_wp2_with fail
  obtain ⟨w2, hw2⟩ : ∃ w2, w2 = w1.alloc (.cells #[.slice a C.deeds.length cap, .slice a2 C.sights.length cap2, .int .i64 C.wrong, .slice (some ⟨bm, 0, none⟩) N 12] 84) := ⟨_, rfl⟩
  rw [← hw2]
  have hb2 : Below w1.heap.size w1 w2 := hw2 ▸ (Below.refl _ w1).alloc (Nat.le_refl _) _
  have hbb2 : w2.heap[w1.heap.size]? = some (.cells #[.slice a C.deeds.length cap, .slice a2 C.sights.length cap2, .int .i64 C.wrong, .slice (some ⟨bm, 0, none⟩) N 12] 84) := by rw [hw2]; exact heap_new _ _
  have HB2 := Lib.hid hb2
  have hbk2 : BookAt w2.heap.size w2 (.agg #[.slice a C.deeds.length cap, .slice a2 C.sights.length cap2, .int .i64 C.wrong, .slice (some ⟨bm, 0, none⟩) N 12]) C := (hbk.out.below hb2).mono hb2.size
  have hlt1 := heap_lt hbb2
  clear hw2 hb2
  refine (answers_any _ _ _ C HV'.out 82 #[.pointer (some ⟨w1.heap.size, 0, none⟩), .pointer (some ⟨w.heap.size + 1, 0, none⟩)] (barOf C at_) w2 hbk2 (fun x _ => barOf_i64 HV'.out HAT.out x) (enters_of Try.func82 (by kernel_rfl) rfl) (fun x _ Bp Bm W hW hp =>
    barsAsk_any C HV'.out x Bp Bm w1.heap.size bm (w.heap.size + 1) at_ W hp (askAt' HN.out HV'.out ((hbk2.below hW).mono hW.size) hp ((hW.block _ hlt1).trans hbb2) (cell1_of ((hW.block (w.heap.size + 1) (by have := HB2.out.size; omega)).trans ((HB2.out.block _ (by omega)).trans HE1.out))).1 (HATS.out x)) (HATS.out x))).mono ?_
  rintro e w3 ⟨v, rfl, hv, hb3⟩
  have hfin : Below w.heap.size w w3 := (HBW.out.trans (HB2.out.mono HBW.out.size)).trans (hb3.mono (by have := HBW.out.size; have := HB2.out.size; omega))
  have HF := Lib.hid hfin
  have HVV := Lib.hid hv
  clear hfin hv hb3 hbk2 hbb2
  go_wp2_with fail
  go_ret2
  exact ⟨v, rfl, HVV.out, HF.out⟩

set_option maxRecDepth 100000 in
set_option maxHeartbeats 4000000 in
theorem Smiths_ok (a a2 : Option Addr) (cap cap2 : Nat) (C : Chain) (at_ : Nat) (w : World)
    (hx : ChainAt w.heap.size w (.agg #[.slice a C.deeds.length cap, .slice a2 C.sights.length cap2, .int .i64 C.wrong]) C) (hV : validB C = true) (hat : (at_ : Int) < lenTo C.deeds C.deeds.length) :
    Calls Try.prog 29 #[.agg #[.slice a C.deeds.length cap, .slice a2 C.sights.length cap2, .int .i64 C.wrong], .int .i64 at_] w fun e w' => ∃ v, e = .returned (.tuple #[v, .int .i64 (noneE (truthsP C).length)]) ∧ IntsAt w'.heap.size w' v (srt ((truthsP C).map (smithOf C at_))) ∧ Below w.heap.size w w' := by
  have hV' := valid_iff.1 hV
  have hnd := hV'.nd
  have hle := lenTo_le C.deeds C.deeds.length
  have HX := Lib.hid (fun W (hb : Below w.heap.size w W) => (hx.below hb).mono hb.size)
  have HV := Lib.hid hV
  have HV' := Lib.hid hV'
  have HAT := Lib.hid hat
  have HATS := Lib.hid (fun x => show at_ < (story C.deeds x C.deeds.length).length by have := (story_ok (ends := x) hV'.deed _ (Nat.le_refl _)).1; omega)
  have ha64 : I64 (at_ : Int) := by unfold I64; omega
  have HI := Lib.hid (show allTo (fun i => wB (nth [(at_ : Int)] i) 0 (lenTo C.deeds C.deeds.length - 1)) [(at_ : Int)].length = true from allTo_iff.2 (fun i hi => by
    obtain rfl : i = 0 := by simpa using hi
    rw [wB_iff]; show 0 ≤ (at_ : Int) ∧ (at_ : Int) ≤ _; omega))
  clear hx hV hV' hle hat
  go_enter Try.func29, Try.ntmps29
  go_wp2_with fail
  refine (openAt_ok a a2 cap cap2 C _ [(at_ : Int)] _ (HX.out _ (by go_grown)) (one_ints (by simp) ha64) HV.out HI.out).mono ?_
  rintro e w1 ⟨bm, rfl, hbk, hb1⟩
  have hb1s := hb1.out.size
  simp only [World.size_alloc] at hb1s
  have hbw : Below w.heap.size w w1 := ((((Below.refl _ w).alloc (Nat.le_refl _) _).alloc (by simp) _).alloc (by simp; omega) _).trans (hb1.out.mono (by simp; omega))
  have e1 := (hb1.out.block (w.heap.size + 1) (by simp)).trans ((Below.heap_alloc _ _ _ (by simp)).trans (heap_new1 w _ _))
  have HBW := Lib.hid hbw
  have HE1 := Lib.hid e1
  obtain ⟨N, hN⟩ : ∃ N, weldsTo C.deeds C.deeds.length = N := ⟨_, rfl⟩
  have HN := Lib.hid hN
  rw [hN] at hbk ⊢
  clear hbw e1 hb1 hN
  go_wp2_with fail
  obtain ⟨w2, hw2⟩ : ∃ w2, w2 = w1.alloc (.cells #[.slice a C.deeds.length cap, .slice a2 C.sights.length cap2, .int .i64 C.wrong, .slice (some ⟨bm, 0, none⟩) N 12] 84) := ⟨_, rfl⟩
  rw [← hw2]
  have hb2 : Below w1.heap.size w1 w2 := hw2 ▸ (Below.refl _ w1).alloc (Nat.le_refl _) _
  have hbb2 : w2.heap[w1.heap.size]? = some (.cells #[.slice a C.deeds.length cap, .slice a2 C.sights.length cap2, .int .i64 C.wrong, .slice (some ⟨bm, 0, none⟩) N 12] 84) := by rw [hw2]; exact heap_new _ _
  have HB2 := Lib.hid hb2
  have hbk2 : BookAt w2.heap.size w2 (.agg #[.slice a C.deeds.length cap, .slice a2 C.sights.length cap2, .int .i64 C.wrong, .slice (some ⟨bm, 0, none⟩) N 12]) C := (hbk.out.below hb2).mono hb2.size
  have hlt1 := heap_lt hbb2
  clear hw2 hb2
  refine (answers_any _ _ _ C HV'.out 83 #[.pointer (some ⟨w1.heap.size, 0, none⟩), .pointer (some ⟨w.heap.size + 1, 0, none⟩)] (smithOf C at_) w2 hbk2 (fun x _ => smithOf_i64 HV'.out HAT.out x) (enters_of Try.func83 (by kernel_rfl) rfl) (fun x _ Bp Bm W hW hp =>
    smithsAsk_any C HV'.out x Bp Bm w1.heap.size bm (w.heap.size + 1) at_ W hp (askAt' HN.out HV'.out ((hbk2.below hW).mono hW.size) hp ((hW.block _ hlt1).trans hbb2) (cell1_of ((hW.block (w.heap.size + 1) (by have := HB2.out.size; omega)).trans ((HB2.out.block _ (by omega)).trans HE1.out))).1 (HATS.out x)) (HATS.out x))).mono ?_
  rintro e w3 ⟨v, rfl, hv, hb3⟩
  have hfin : Below w.heap.size w w3 := (HBW.out.trans (HB2.out.mono HBW.out.size)).trans (hb3.mono (by have := HBW.out.size; have := HB2.out.size; omega))
  have HF := Lib.hid hfin
  have HVV := Lib.hid hv
  clear hfin hv hb3 hbk2 hbb2
  go_wp2_with fail
  go_ret2
  exact ⟨v, rfl, HVV.out, HF.out⟩

end Go.Proofs.Ytgjikoebneiamaa

namespace Go.Proofs.Ytgjikoebneiamaa
open Go.RowKit Go.Sort

set_option maxHeartbeats 1000000 in
theorem Bars_arg (a a2 : Option Addr) (cap cap2 : Nat) (C : Chain) (at_ : Int) (w : World)
    (hx : ChainAt w.heap.size w (.agg #[.slice a C.deeds.length cap, .slice a2 C.sights.length cap2, .int .i64 C.wrong]) C) (hV : validB C = true) (hI : I64 at_) (hat : placeB C at_ = false) :
    Calls Try.prog 27 #[.agg #[.slice a C.deeds.length cap, .slice a2 C.sights.length cap2, .int .i64 C.wrong], .int .i64 at_] w fun e w' => e = .returned (.tuple #[.slice none 0 0, .int .i64 1]) ∧ Below w.heap.size w w' := by
  have HX := Lib.hid (fun W (hb : Below w.heap.size w W) => (hx.below hb).mono hb.size)
  have HV := Lib.hid hV
  have HII := Lib.hid hI
  have HI := Lib.hid (show allTo (fun i => wB (nth [at_] i) 0 (lenTo C.deeds C.deeds.length - 1)) [at_].length = false from allTo_false (j := 0) (by simp) hat)
  clear hx hV hat hI
  go_enter Try.func27, Try.ntmps27
  go_wp2_with fail
  refine (openAt_arg a a2 cap cap2 C _ [at_] _ (HX.out _ (by go_grown)) (one_ints (by simp) HII.out) HV.out HI.out).mono ?_
  rintro e w1 ⟨rfl, hb1⟩
  have hb1s := hb1.out.size
  simp only [World.size_alloc] at hb1s
  have HBW := Lib.hid (show Below w.heap.size w w1 from ((((Below.refl _ w).alloc (Nat.le_refl _) _).alloc (by simp) _).alloc (by simp; omega) _).trans (hb1.out.mono (by simp; omega)))
  have hws := HBW.out.size
  clear hb1
  unfold noBook
  go_wp2_with fail
  go_ret2
  exact ⟨rfl, by
    first
      | exact HBW.out
      | exact HBW.out.alloc hws _⟩
set_option maxHeartbeats 1000000 in
theorem Smiths_arg (a a2 : Option Addr) (cap cap2 : Nat) (C : Chain) (at_ : Int) (w : World)
    (hx : ChainAt w.heap.size w (.agg #[.slice a C.deeds.length cap, .slice a2 C.sights.length cap2, .int .i64 C.wrong]) C) (hV : validB C = true) (hI : I64 at_) (hat : placeB C at_ = false) :
    Calls Try.prog 29 #[.agg #[.slice a C.deeds.length cap, .slice a2 C.sights.length cap2, .int .i64 C.wrong], .int .i64 at_] w fun e w' => e = .returned (.tuple #[.slice none 0 0, .int .i64 1]) ∧ Below w.heap.size w w' := by
  have HX := Lib.hid (fun W (hb : Below w.heap.size w W) => (hx.below hb).mono hb.size)
  have HV := Lib.hid hV
  have HII := Lib.hid hI
  have HI := Lib.hid (show allTo (fun i => wB (nth [at_] i) 0 (lenTo C.deeds C.deeds.length - 1)) [at_].length = false from allTo_false (j := 0) (by simp) hat)
  clear hx hV hat hI
  go_enter Try.func29, Try.ntmps29
  go_wp2_with fail
  refine (openAt_arg a a2 cap cap2 C _ [at_] _ (HX.out _ (by go_grown)) (one_ints (by simp) HII.out) HV.out HI.out).mono ?_
  rintro e w1 ⟨rfl, hb1⟩
  have hb1s := hb1.out.size
  simp only [World.size_alloc] at hb1s
  have HBW := Lib.hid (show Below w.heap.size w w1 from ((((Below.refl _ w).alloc (Nat.le_refl _) _).alloc (by simp) _).alloc (by simp; omega) _).trans (hb1.out.mono (by simp; omega)))
  have hws := HBW.out.size
  clear hb1
  unfold noBook
  go_wp2_with fail
  go_ret2
  exact ⟨rfl, by
    first
      | exact HBW.out
      | exact HBW.out.alloc hws _⟩
theorem Bars_v {a a2 : Option Addr} {n m cap cap2 : Nat} {at_ : Int} {C : Chain} {w : World} {L : List Int} {y : Int} (hf : ansV C (placeB C at_) (barOf C at_.toNat) = L) (he : ansE C (placeB C at_) = y) (hn : n = C.deeds.length) (hm : m = C.sights.length)
    (hx : ChainAt w.heap.size w (.agg #[.slice a n cap, .slice a2 m cap2, .int .i64 C.wrong]) C) (hV : validB C = true) (hI : I64 at_) :
    Calls Try.prog 27 #[.agg #[.slice a n cap, .slice a2 m cap2, .int .i64 C.wrong], .int .i64 at_] w fun e w' => ∃ v, e = .returned (.tuple #[v, .int .i64 y]) ∧ IntsAt w'.heap.size w' v L ∧ Below w.heap.size w w' := by
  subst hn hm hf he
  cases h : placeB C at_
  · refine (Bars_arg a a2 cap cap2 C at_ w hx hV hI h).mono ?_
    rintro e w' ⟨rfl, hb⟩
    exact ⟨_, rfl, ints_nil' _ _, hb⟩
  · have hw := wB_iff.1 h
    obtain ⟨k, rfl⟩ := Int.eq_ofNat_of_zero_le hw.1
    refine (Bars_ok a a2 cap cap2 C k w hx hV (by omega)).mono ?_
    rintro e w' ⟨v, rfl, hv, hb⟩
    exact ⟨_, rfl, hv, hb⟩
theorem Smiths_v {a a2 : Option Addr} {n m cap cap2 : Nat} {at_ : Int} {C : Chain} {w : World} {L : List Int} {y : Int} (hf : ansV C (placeB C at_) (smithOf C at_.toNat) = L) (he : ansE C (placeB C at_) = y) (hn : n = C.deeds.length) (hm : m = C.sights.length)
    (hx : ChainAt w.heap.size w (.agg #[.slice a n cap, .slice a2 m cap2, .int .i64 C.wrong]) C) (hV : validB C = true) (hI : I64 at_) :
    Calls Try.prog 29 #[.agg #[.slice a n cap, .slice a2 m cap2, .int .i64 C.wrong], .int .i64 at_] w fun e w' => ∃ v, e = .returned (.tuple #[v, .int .i64 y]) ∧ IntsAt w'.heap.size w' v L ∧ Below w.heap.size w w' := by
  subst hn hm hf he
  cases h : placeB C at_
  · refine (Smiths_arg a a2 cap cap2 C at_ w hx hV hI h).mono ?_
    rintro e w' ⟨rfl, hb⟩
    exact ⟨_, rfl, ints_nil' _ _, hb⟩
  · have hw := wB_iff.1 h
    obtain ⟨k, rfl⟩ := Int.eq_ofNat_of_zero_le hw.1
    refine (Smiths_ok a a2 cap cap2 C k w hx hV (by omega)).mono ?_
    rintro e w' ⟨v, rfl, hv, hb⟩
    exact ⟨_, rfl, hv, hb⟩

end Go.Proofs.Ytgjikoebneiamaa

namespace Go.Proofs.Ytgjikoebneiamaa
open Go.RowKit Go.Sort

/-- By which deed a link was proved last in a past. -/
def lastOf (C : Chain) (link : Int) (x : List Int) : Int := lastTo C.deeds x link C.deeds.length
theorem lastOf_i64 {C : Chain} (hV : Valid C) (link : Int) (x : List Int) : I64 (lastOf C link x) := by
  have := lastTo_le C.deeds x link C.deeds.length
  have := hV.nd
  unfold I64 lastOf; omega

set_option maxRecDepth 100000 in
set_option maxHeartbeats 4000000 in
theorem Last_ok (a a2 : Option Addr) (cap cap2 : Nat) (C : Chain) (link : Int) (w : World)
    (hx : ChainAt w.heap.size w (.agg #[.slice a C.deeds.length cap, .slice a2 C.sights.length cap2, .int .i64 C.wrong]) C) (hV : validB C = true) (hi : wB link 0 ((weldsTo C.deeds C.deeds.length : Int) - 1) = true) :
    Calls Try.prog 36 #[.agg #[.slice a C.deeds.length cap, .slice a2 C.sights.length cap2, .int .i64 C.wrong], .int .i64 link] w fun e w' => ∃ v, e = .returned (.tuple #[v, .int .i64 (noneE (truthsP C).length)]) ∧ IntsAt w'.heap.size w' v (srt ((truthsP C).map (lastOf C link))) ∧ Below w.heap.size w w' := by
  have hV' := valid_iff.1 hV
  have HX := Lib.hid (fun W (hb : Below w.heap.size w W) => (hx.below hb).mono hb.size)
  have HV := Lib.hid hV
  have HV' := Lib.hid hV'
  have HI := Lib.hid hi
  clear hx hV hV' hi
  go_enter Try.func36, Try.ntmps36
  go_wp2_with fail
  refine (openLink_ok a a2 cap cap2 C link _ (HX.out _ (by go_grown)) HV.out HI.out).mono ?_
  rintro e w1 ⟨bm, rfl, hbk, hb1⟩
  have hb1s := hb1.out.size
  simp only [World.size_alloc] at hb1s
  have hbw : Below w.heap.size w w1 := (((Below.refl _ w).alloc (Nat.le_refl _) _).alloc (by simp) _).trans (hb1.out.mono (by simp; omega))
  have e1 := (hb1.out.block (w.heap.size + 1) (by simp)).trans (heap_new1 w _ _)
  have HBW := Lib.hid hbw
  have HE1 := Lib.hid e1
  obtain ⟨N, hN⟩ : ∃ N, weldsTo C.deeds C.deeds.length = N := ⟨_, rfl⟩
  have HN := Lib.hid hN
  rw [hN] at hbk ⊢
  clear hbw e1 hb1 hN
  go_wp2_with fail
  obtain ⟨w2, hw2⟩ : ∃ w2, w2 = w1.alloc (.cells #[.slice a C.deeds.length cap, .slice a2 C.sights.length cap2, .int .i64 C.wrong, .slice (some ⟨bm, 0, none⟩) N 12] 84) := ⟨_, rfl⟩
  rw [← hw2]
  have hb2 : Below w1.heap.size w1 w2 := hw2 ▸ (Below.refl _ w1).alloc (Nat.le_refl _) _
  have hbb2 : w2.heap[w1.heap.size]? = some (.cells #[.slice a C.deeds.length cap, .slice a2 C.sights.length cap2, .int .i64 C.wrong, .slice (some ⟨bm, 0, none⟩) N 12] 84) := by rw [hw2]; exact heap_new _ _
  have HB2 := Lib.hid hb2
  have hbk2 : BookAt w2.heap.size w2 (.agg #[.slice a C.deeds.length cap, .slice a2 C.sights.length cap2, .int .i64 C.wrong, .slice (some ⟨bm, 0, none⟩) N 12]) C := (hbk.out.below hb2).mono hb2.size
  have hlt1 := heap_lt hbb2
  clear hw2 hb2
  refine (answers_any _ _ _ C HV'.out 89 #[.pointer (some ⟨w1.heap.size, 0, none⟩), .pointer (some ⟨w.heap.size + 1, 0, none⟩)] (lastOf C link) w2 hbk2 (fun x _ => lastOf_i64 HV'.out link x) (enters_of Try.func89 (by kernel_rfl) rfl) (fun x _ Bp Bm W hW hp =>
    lastAsk_any _ _ _ C HV'.out x link Bp Bm w1.heap.size (w.heap.size + 1) W ((hbk2.below hW).mono hW.size) hp ((hW.block _ hlt1).trans hbb2) (cell1_of ((hW.block (w.heap.size + 1) (by have := HB2.out.size; omega)).trans ((HB2.out.block _ (by omega)).trans HE1.out))).1)).mono ?_
  rintro e w3 ⟨v, rfl, hv, hb3⟩
  have hfin : Below w.heap.size w w3 := (HBW.out.trans (HB2.out.mono HBW.out.size)).trans (hb3.mono (by have := HBW.out.size; have := HB2.out.size; omega))
  have HF := Lib.hid hfin
  have HVV := Lib.hid hv
  clear hfin hv hb3 hbk2 hbb2
  go_wp2_with fail
  go_ret2
  exact ⟨v, rfl, HVV.out, HF.out⟩

set_option maxHeartbeats 1000000 in
theorem Last_arg (a a2 : Option Addr) (cap cap2 : Nat) (C : Chain) (link : Int) (w : World)
    (hx : ChainAt w.heap.size w (.agg #[.slice a C.deeds.length cap, .slice a2 C.sights.length cap2, .int .i64 C.wrong]) C) (hV : validB C = true) (hi : linkB C link = false) :
    Calls Try.prog 36 #[.agg #[.slice a C.deeds.length cap, .slice a2 C.sights.length cap2, .int .i64 C.wrong], .int .i64 link] w fun e w' => e = .returned (.tuple #[.slice none 0 0, .int .i64 1]) ∧ Below w.heap.size w w' := by
  have HX := Lib.hid (fun W (hb : Below w.heap.size w W) => (hx.below hb).mono hb.size)
  have HV := Lib.hid hV
  have HI := Lib.hid hi
  clear hx hV hi
  go_enter Try.func36, Try.ntmps36
  go_wp2_with fail
  refine (openLink_arg a a2 cap cap2 C link _ (HX.out _ (by go_grown)) HV.out HI.out).mono ?_
  rintro e w1 ⟨rfl, hb1⟩
  have hb1s := hb1.out.size
  simp only [World.size_alloc] at hb1s
  have HBW := Lib.hid (show Below w.heap.size w w1 from (((Below.refl _ w).alloc (Nat.le_refl _) _).alloc (by simp) _).trans (hb1.out.mono (by simp; omega)))
  have hws := HBW.out.size
  clear hb1
  unfold noBook
  go_wp2_with fail
  go_ret2
  exact ⟨rfl, by
    first
      | exact HBW.out
      | exact HBW.out.alloc hws _⟩
theorem Last_v {a a2 : Option Addr} {n m cap cap2 : Nat} {link : Int} {C : Chain} {w : World} {L : List Int} {y : Int} (hf : ansV C (linkB C link) (lastOf C link) = L) (he : ansE C (linkB C link) = y) (hn : n = C.deeds.length) (hm : m = C.sights.length)
    (hx : ChainAt w.heap.size w (.agg #[.slice a n cap, .slice a2 m cap2, .int .i64 C.wrong]) C) (hV : validB C = true) :
    Calls Try.prog 36 #[.agg #[.slice a n cap, .slice a2 m cap2, .int .i64 C.wrong], .int .i64 link] w fun e w' => ∃ v, e = .returned (.tuple #[v, .int .i64 y]) ∧ IntsAt w'.heap.size w' v L ∧ Below w.heap.size w w' := by
  subst hn hm hf he
  cases h : linkB C link
  · refine (Last_arg a a2 cap cap2 C link w hx hV h).mono ?_
    rintro e w' ⟨rfl, hb⟩
    exact ⟨_, rfl, ints_nil' _ _, hb⟩
  · exact Last_ok a a2 cap cap2 C link w hx hV h

end Go.Proofs.Ytgjikoebneiamaa

namespace Go.Proofs.Ytgjikoebneiamaa
open Go.RowKit Go.Sort

theorem two_ints {w : World} {b : Nat} {y z : Int} (hb : b = w.heap.size) (hy : I64 y) (hz : I64 z) : IntsAt (w.alloc (.cells #[.int .i64 y, .int .i64 z] 3)).heap.size (w.alloc (.cells #[.int .i64 y, .int .i64 z] 3)) (.slice (some ⟨b, 0, none⟩) 2 2) [y, z] := by
  subst hb
  refine ⟨_, 2, w.heap.size, 0, rfl, by simp, by unfold maxLen; omega, fun _ => ⟨rfl, by simp⟩, fun i hi => ?_, by simpa using ⟨hy, hz⟩⟩
  obtain ⟨c0, c1, _⟩ := cell2f (heap_new w (.cells #[.int .i64 y, .int .i64 z] 3))
  have : i = 0 ∨ i = 1 := by simp at hi; omega
  obtain rfl | rfl := this
  · exact c0
  · exact c1
theorem alikeOf_i64 (C : Chain) (a b : Nat) (x : List Int) : I64 (alikeOf C a b x) := by
  unfold I64 alikeOf; split <;> omega
/-- What is known of some answers: the one, or 3. -/
def oneL (L : List Int) : Int := if 1 < L.length then 3 else nth L 0

set_option maxRecDepth 100000 in
set_option maxHeartbeats 4000000 in
theorem Alike_ok (a a2 : Option Addr) (cap cap2 : Nat) (C : Chain) (at_ ot : Nat) (w : World)
    (hx : ChainAt w.heap.size w (.agg #[.slice a C.deeds.length cap, .slice a2 C.sights.length cap2, .int .i64 C.wrong]) C) (hV : validB C = true) (hat : (at_ : Int) < lenTo C.deeds C.deeds.length) (hot : (ot : Int) < lenTo C.deeds C.deeds.length) :
    Calls Try.prog 38 #[.agg #[.slice a C.deeds.length cap, .slice a2 C.sights.length cap2, .int .i64 C.wrong], .int .i64 at_, .int .i64 ot] w fun e w' => e = .returned (.tuple #[.int .i64 (if (truthsP C).length = 0 then 0 else oneL (srt ((truthsP C).map (alikeOf C at_ ot)))), .int .i64 (noneE (truthsP C).length)]) ∧ Below w.heap.size w w' := by
  have hV' := valid_iff.1 hV
  have hnd := hV'.nd
  have hle := lenTo_le C.deeds C.deeds.length
  have HX := Lib.hid (fun W (hb : Below w.heap.size w W) => (hx.below hb).mono hb.size)
  have HV := Lib.hid hV
  have HV' := Lib.hid hV'
  have HATS := Lib.hid (fun x => show at_ < (story C.deeds x C.deeds.length).length by have := (story_ok (ends := x) hV'.deed _ (Nat.le_refl _)).1; omega)
  have HOTS := Lib.hid (fun x => show ot < (story C.deeds x C.deeds.length).length by have := (story_ok (ends := x) hV'.deed _ (Nat.le_refl _)).1; omega)
  have ha64 : I64 (at_ : Int) := by unfold I64; omega
  have ho64 : I64 (ot : Int) := by unfold I64; omega
  have HI := Lib.hid (show allTo (fun i => wB (nth [(at_ : Int), (ot : Int)] i) 0 (lenTo C.deeds C.deeds.length - 1)) [(at_ : Int), (ot : Int)].length = true from allTo_iff.2 (fun i hi => by
    have : i = 0 ∨ i = 1 := by simp at hi; omega
    obtain rfl | rfl := this
    · rw [wB_iff]; show 0 ≤ (at_ : Int) ∧ (at_ : Int) ≤ _; omega
    · rw [wB_iff]; show 0 ≤ (ot : Int) ∧ (ot : Int) ≤ _; omega))
  obtain ⟨L, hL⟩ : ∃ L, srt ((truthsP C).map (alikeOf C at_ ot)) = L := ⟨_, rfl⟩
  obtain ⟨M, hM⟩ : ∃ M, (truthsP C).length = M := ⟨_, rfl⟩
  have hln := srt_nil (l := truthsP C) (f := alikeOf C at_ ot)
  rw [hL, hM] at hln
  have HL := Lib.hid hL
  have HM := Lib.hid hM
  rw [hL, hM]
  obtain ⟨Y, hY⟩ : ∃ Y, oneL L = Y := ⟨_, rfl⟩
  have HY := Lib.hid hY
  rw [hY]
  obtain ⟨Z, hZ⟩ : ∃ Z, (if M = 0 then 0 else Y) = Z := ⟨_, rfl⟩
  have HZ := Lib.hid hZ
  rw [hZ]
  obtain ⟨V, hV3⟩ : ∃ V, noneE M = V := ⟨_, rfl⟩
  have HV3 := Lib.hid hV3
  rw [hV3]
  clear hx hV hV' hle hat hot hL hM hY hZ hV3
  go_enter Try.func38, Try.ntmps38
  go_wp2_with fail
  refine (openAt_ok a a2 cap cap2 C _ [(at_ : Int), (ot : Int)] _ (HX.out _ (by go_grown)) (two_ints (by simp) ha64 ho64) HV.out HI.out).mono ?_
  rintro e w1 ⟨bm, rfl, hbk, hb1⟩
  have hb1s := hb1.out.size
  simp only [World.size_alloc] at hb1s
  obtain ⟨g0, g1, g2, g3, gs⟩ := heap3 w (.cells #[.slice a C.deeds.length cap, .slice a2 C.sights.length cap2, .int .i64 C.wrong] 25) (.cells #[.int .i64 at_] 3) (.cells #[.int .i64 ot] 3)
  have hbw : Below w.heap.size w w1 := (g3.alloc (by omega) _).trans (hb1.out.mono (by simp; omega))
  have e1 := (hb1.out.block (w.heap.size + 1) (by simp)).trans ((Below.heap_alloc _ _ _ (by omega)).trans g1)
  have e2 := (hb1.out.block (w.heap.size + 1 + 1) (by simp)).trans ((Below.heap_alloc _ _ _ (by omega)).trans g2)
  have HBW := Lib.hid hbw
  have HE1 := Lib.hid e1
  have HE2 := Lib.hid e2
  obtain ⟨N, hN⟩ : ∃ N, weldsTo C.deeds C.deeds.length = N := ⟨_, rfl⟩
  have HN := Lib.hid hN
  rw [hN] at hbk ⊢
  clear hbw e1 e2 hb1 hN g0 g1 g2 g3
  go_wp2_with fail
  obtain ⟨w2, hw2⟩ : ∃ w2, w2 = w1.alloc (.cells #[.slice a C.deeds.length cap, .slice a2 C.sights.length cap2, .int .i64 C.wrong, .slice (some ⟨bm, 0, none⟩) N 12] 84) := ⟨_, rfl⟩
  rw [← hw2]
  have hb2 : Below w1.heap.size w1 w2 := hw2 ▸ (Below.refl _ w1).alloc (Nat.le_refl _) _
  have hbb2 : w2.heap[w1.heap.size]? = some (.cells #[.slice a C.deeds.length cap, .slice a2 C.sights.length cap2, .int .i64 C.wrong, .slice (some ⟨bm, 0, none⟩) N 12] 84) := by rw [hw2]; exact heap_new _ _
  have HB2 := Lib.hid hb2
  have hbk2 : BookAt w2.heap.size w2 (.agg #[.slice a C.deeds.length cap, .slice a2 C.sights.length cap2, .int .i64 C.wrong, .slice (some ⟨bm, 0, none⟩) N 12]) C := (hbk.out.below hb2).mono hb2.size
  have hlt1 := heap_lt hbb2
  clear hw2 hb2
  refine (answers_any _ _ _ C HV'.out 90 #[.pointer (some ⟨w1.heap.size, 0, none⟩), .pointer (some ⟨w.heap.size + 1, 0, none⟩), .pointer (some ⟨w.heap.size + 1 + 1, 0, none⟩)] (alikeOf C at_ ot) w2 hbk2 (fun x _ => alikeOf_i64 C at_ ot x) (enters_of Try.func90 (by kernel_rfl) rfl) (fun x _ Bp Bm W hW hp =>
    alikeAsk_any C HV'.out x Bp Bm w1.heap.size bm (w.heap.size + 1) (w.heap.size + 1 + 1) at_ ot W hp
      (askAt' HN.out HV'.out ((hbk2.below hW).mono hW.size) hp ((hW.block _ hlt1).trans hbb2) (cell1_of ((hW.block (w.heap.size + 1) (by omega)).trans ((HB2.out.block _ (by omega)).trans HE1.out))).1 (HATS.out x))
      (askAt' HN.out HV'.out ((hbk2.below hW).mono hW.size) hp ((hW.block _ hlt1).trans hbb2) (cell1_of ((hW.block (w.heap.size + 1 + 1) (by omega)).trans ((HB2.out.block _ (by omega)).trans HE2.out))).1 (HOTS.out x))
      (HATS.out x) (HOTS.out x))).mono ?_
  rintro e w3 ⟨v, rfl, hv, hb3⟩
  have hfin : Below w.heap.size w w3 := (HBW.out.trans (HB2.out.mono HBW.out.size)).trans (hb3.mono (by have := HBW.out.size; have := HB2.out.size; omega))
  rw [HL.out] at hv
  rw [HM.out]
  obtain ⟨la, lk, lb, lo, rfl, hl63, hla, hlc, _⟩ := hv.opened
  have HF := Lib.hid hfin
  clear hfin hv hb3 hbk2 hbb2 hbk
  by_cases hM0 : M = 0
  · obtain rfl : (0 : Int) = Z := by rw [← HZ.out, if_pos hM0]
    obtain rfl : (3 : Int) = V := by rw [← HV3.out, hM0]; rfl
    rw [show noneE M = 3 by rw [hM0]; rfl]
    clear hln hla hlc
    go_wp2_with fail
    go_ret2
    exact ⟨rfl, HF.out⟩
  · have hLp : 0 < L.length := by
      have : L.length ≠ 0 := fun e => hM0 (hln.1 e)
      omega
    obtain ⟨rfl, hlb⟩ := hla.out hLp
    have l0 : w3.cell? ⟨lb, lo, none⟩ = some (.int .i64 (nth L 0)) := by simpa using hlc.out 0 hLp
    rw [noneE_pos hM0]
    obtain rfl : (0 : Int) = V := by rw [← HV3.out, noneE_pos hM0]
    obtain rfl : Y = Z := by rw [← HZ.out, if_neg hM0]
    have hi0 : (0 : Int) < (L.length : Int) := by omega
    have HH := Lib.hid hM0
    clear hln hla hlc hM0
    by_cases h1 : 1 < L.length
    · have hi1 : (1 : Int) < (L.length : Int) := by omega
      obtain rfl : (3 : Int) = Y := by rw [← HY.out, oneL, if_pos h1]
      go_wp2_with fail
      go_ret2
      exact ⟨rfl, HF.out⟩
    · have hi1 : ¬ (1 : Int) < (L.length : Int) := by omega
      obtain rfl : nth L 0 = Y := by rw [← HY.out, oneL, if_neg h1]
      go_wp2_with fail
      go_ret2
      exact ⟨rfl, HF.out⟩

end Go.Proofs.Ytgjikoebneiamaa
