/-
  Links, walks: how often and when a link was proved.
  Links, walks: Proofs: the least and the greatest number of times that a link was proved.
-/
import Derived.Test.YtgjikoebneiamaaLWho
import Derived.Test.YtgjikoebneiamaaLErr
import Derived.Test.YtgjikoebneiamaaLWorks
import Derived.Deep.RegionHeld3

namespace Go.Proofs.Ytgjikoebneiamaa
open Go.RowKit Go.Sort

/-- How often a link was proved by the first k deeds. -/
def timesTo (ds : List Deed) (x : List Int) (link : Int) : Nat → Int
  | 0 => 0
  | k + 1 => timesTo ds x link k + (if (dnth ds k).what = 4 ∧ inB (story ds x k) link = true then 1 else 0)
/-- By which of the first k deeds last. -/
def lastTo (ds : List Deed) (x : List Int) (link : Int) : Nat → Int
  | 0 => -1
  | k + 1 => if (dnth ds k).what = 4 ∧ inB (story ds x k) link = true then (k : Int) else lastTo ds x link k
theorem timesTo_le (ds : List Deed) (x : List Int) (link : Int) : ∀ k : Nat, 0 ≤ timesTo ds x link k ∧ timesTo ds x link k ≤ k
  | 0 => by simp [timesTo]
  | k + 1 => by have := timesTo_le ds x link k; simp only [timesTo]; push_cast; split <;> omega
theorem lastTo_le (ds : List Deed) (x : List Int) (link : Int) : ∀ k : Nat, -1 ≤ lastTo ds x link k ∧ lastTo ds x link k < k
  | 0 => by simp [lastTo]
  | k + 1 => by have := lastTo_le ds x link k; simp only [lastTo]; push_cast; split <;> omega
theorem timesTo_yes {ds : List Deed} {x : List Int} {link : Int} {k : Nat} (h1 : (dnth ds k).what = 4) (h2 : inB (story ds x k) link = true) : timesTo ds x link (k + 1) = timesTo ds x link k + 1 := by simp only [timesTo]; rw [if_pos ⟨h1, h2⟩]
theorem lastTo_yes {ds : List Deed} {x : List Int} {link : Int} {k : Nat} (h1 : (dnth ds k).what = 4) (h2 : inB (story ds x k) link = true) : lastTo ds x link (k + 1) = k := by simp only [lastTo]; rw [if_pos ⟨h1, h2⟩]
theorem timesTo_no {ds : List Deed} {x : List Int} {link : Int} {k : Nat} (h : ¬ ((dnth ds k).what = 4 ∧ inB (story ds x k) link = true)) : timesTo ds x link (k + 1) = timesTo ds x link k := by simp only [timesTo]; rw [if_neg h]; omega
theorem lastTo_no {ds : List Deed} {x : List Int} {link : Int} {k : Nat} (h : ¬ ((dnth ds k).what = 4 ∧ inB (story ds x k) link = true)) : lastTo ds x link (k + 1) = lastTo ds x link k := by simp only [lastTo]; rw [if_neg h]
theorem PastTo.intsAt {n Bp Bm : Nat} {cab : Nat → List Int} {W : World} (h : PastTo n Bp Bm cab n W) {i : Nat} (hi : i ≤ n) (hI : ∀ x ∈ cab i, I64 x) : IntsAt W.heap.size W (.slice (some ⟨Bm, i * 12, none⟩) (cab i).length 12) (cab i) := by
  have hl := h.len i hi
  have hlt := h.ltm
  obtain ⟨f, hR, hH⟩ := h.mem
  refine ⟨_, 12, Bm, i * 12, rfl, hl, by unfold maxLen; omega, fun _ => ⟨rfl, hlt⟩, fun j hj => ?_, hI⟩
  have : i * 12 + j < (n + 1) * 12 := by
    have : i * 12 ≤ n * 12 := Nat.mul_le_mul_right _ hi
    omega
  rw [hR.cell this, hH i hi j hj]

set_option maxRecDepth 100000 in
set_option maxHeartbeats 2000000 in
theorem proofs_any (dv sv mv : Value) (C : Chain) (hV : Valid C) (x : List Int) (link : Int) (Bp Bm : Nat) (w : World) (hx : BookAt w.heap.size w (.agg #[dv, sv, .int .i64 C.wrong, mv]) C)
    (hp : PastTo C.deeds.length Bp Bm (story C.deeds x) C.deeds.length w) :
    Calls Try.prog 88 #[.agg #[dv, sv, .int .i64 C.wrong, mv], pastV C.deeds.length Bp, .int .i64 link] w fun r w' => r = .returned (.tuple #[.int .i64 (timesTo C.deeds x link C.deeds.length), .int .i64 (lastTo C.deeds x link C.deeds.length)]) ∧ Below w.heap.size w w' := by
  obtain ⟨dv', sv', mv', e, hC, hM⟩ := hx
  injection e with e
  simp only [Array.mk.injEq, List.cons.injEq, and_true, true_and] at e
  obtain ⟨rfl, rfl, rfl⟩ := e
  obtain ⟨a, cap, b, off, a2, cap2, b2, off2, hv, hm, hm2, hcap, hcapm, HA, HC, HA2, HC2, HI, HI2⟩ := hC.opened
  injection hv with hv
  simp only [Array.mk.injEq, List.cons.injEq, and_true] at hv
  obtain ⟨rfl, rfl⟩ := hv
  obtain ⟨bm, rfl, hbm, hm12, hmc⟩ := hM
  have hnd := hV.nd
  have HP := Lib.hid hp
  have HV := Lib.hid hV
  clear hC hmc HA2 HC2 HI HI2 hp hV
  go_enter Try.func88, Try.ntmps88
  go_wp2_with fail
  go_loopw [6, 7, 14] (fun t l i wr => ∃ j : Nat, j ≤ C.deeds.length ∧ i = .int .i64 j ∧ t = .int .i64 (timesTo C.deeds x link j) ∧ l = .int .i64 (lastTo C.deeds x link j) ∧ Hid (Below (w.heap.size + 1) (w.alloc (.cells #[.slice a C.deeds.length cap, .slice a2 C.sights.length cap2, .int .i64 C.wrong, .slice (some ⟨bm, 0, none⟩) (weldsTo C.deeds C.deeds.length) 12] 84)) wr)) (fun _ _ i _ => C.deeds.length - (intOf i).toNat)
  case atStart => exact ⟨0, Nat.zero_le _, rfl, rfl, rfl, Below.refl _ _⟩
  case round =>
    obtain ⟨j, hj, rfl, rfl, rfl, hbl⟩ := hrel
    have hszr := boxed_size hbl.out
    have ht := timesTo_le C.deeds x link j
    by_cases hlt : j < C.deeds.length
    · obtain ⟨rfl, hb⟩ := HA.out (by omega)
      obtain ⟨d0, d1, d2, d3, d4⟩ := (HC.out j hlt).below (boxed hbl.out) hb
      have HP' := Lib.hid (HP.out.kept (own := fun _ => False) (KeptBut.of_below (boxed hbl.out)) (fun h => h) (fun h => h))
      have y0 := hdr_cell HP'.out (Nat.le_of_lt hlt)
      have hlp := HP'.out.ltp
      have HPD := Lib.hid (fun o => (HP'.out.kept (own := fun _ => False) (KeptBut.of_below ((Below.refl _ wr).alloc (Nat.le_refl _) o)) (fun h => h) (fun h => h)).intsAt (Nat.le_of_lt hlt) (story_i64 HV.out x (Nat.le_of_lt hlt)))
      by_cases h4 : (dnth C.deeds j).what = 4
      · obtain ⟨q, hq⟩ : ∃ q, inB (story C.deeds x j) link = q := ⟨_, rfl⟩
        have HQ := Lib.hid hq
        have H4 := Lib.hid h4
        cases q
        · have HN := Lib.hid (show ¬ ((dnth C.deeds j).what = 4 ∧ inB (story C.deeds x j) link = true) from fun h => by rw [hq] at h; exact absurd h.2 (by simp))
          clear hq
          go_wp2_with (go_at_call 115; refine (contains_to HQ.out (HPD.out _)).mono ?_; rintro e w' ⟨rfl, rfl⟩)
          exact ⟨⟨j + 1, by omega, by go_num, by rw [timesTo_no HN.out], by rw [lastTo_no HN.out], hbl.out.alloc hszr _⟩, by simp [intOf]; omega⟩
        · clear hq
          go_wp2_with (go_at_call 115; refine (contains_to HQ.out (HPD.out _)).mono ?_; rintro e w' ⟨rfl, rfl⟩)
          exact ⟨⟨j + 1, by omega, by go_num, by rw [timesTo_yes H4.out HQ.out], by rw [lastTo_yes H4.out HQ.out], hbl.out.alloc hszr _⟩, by simp [intOf]; omega⟩
      · have HN := Lib.hid (show ¬ ((dnth C.deeds j).what = 4 ∧ inB (story C.deeds x j) link = true) from fun h => h4 h.1)
        go_wp2_with fail
        exact ⟨⟨j + 1, by omega, by go_num, by rw [timesTo_no HN.out], by rw [lastTo_no HN.out], hbl.out.alloc hszr _⟩, by simp [intOf]; omega⟩
    · obtain rfl : C.deeds.length = j := by omega
      go_wp2_with fail
      go_ret2
      exact ⟨rfl, boxed hbl.out⟩

set_option maxHeartbeats 1000000 in
theorem proofsAsk_any (dv sv mv : Value) (C : Chain) (hV : Valid C) (x : List Int) (link : Int) (Bp Bm bb bx : Nat) (w : World) (hx : BookAt w.heap.size w (.agg #[dv, sv, .int .i64 C.wrong, mv]) C)
    (hp : PastTo C.deeds.length Bp Bm (story C.deeds x) C.deeds.length w) (hbb : w.heap[bb]? = some (.cells #[dv, sv, .int .i64 C.wrong, mv] 84)) (hbx : w.cell? ⟨bx, 0, none⟩ = some (.int .i64 link)) :
    Calls Try.prog 87 #[pastV C.deeds.length Bp, .pointer (some ⟨bb, 0, none⟩), .pointer (some ⟨bx, 0, none⟩)] w fun e w' => e = .returned (.int .i64 (timesTo C.deeds x link C.deeds.length)) ∧ Below w.heap.size w w' := by
  have HC := Lib.hid (proofs_any dv sv mv C hV x link Bp Bm w hx hp)
  obtain ⟨c0, c1, c2, c3⟩ := box4' hbb
  clear hx hp hbb
  go_enter Try.func87, Try.ntmps87
  go_wp2_with fail
  refine HC.out.mono ?_
  rintro e w1 ⟨rfl, hb⟩
  have HB := Lib.hid hb
  clear hb
  go_wp2_with fail
  go_ret
  exact ⟨rfl, HB.out⟩
set_option maxHeartbeats 1000000 in
theorem lastAsk_any (dv sv mv : Value) (C : Chain) (hV : Valid C) (x : List Int) (link : Int) (Bp Bm bb bx : Nat) (w : World) (hx : BookAt w.heap.size w (.agg #[dv, sv, .int .i64 C.wrong, mv]) C)
    (hp : PastTo C.deeds.length Bp Bm (story C.deeds x) C.deeds.length w) (hbb : w.heap[bb]? = some (.cells #[dv, sv, .int .i64 C.wrong, mv] 84)) (hbx : w.cell? ⟨bx, 0, none⟩ = some (.int .i64 link)) :
    Calls Try.prog 89 #[pastV C.deeds.length Bp, .pointer (some ⟨bb, 0, none⟩), .pointer (some ⟨bx, 0, none⟩)] w fun e w' => e = .returned (.int .i64 (lastTo C.deeds x link C.deeds.length)) ∧ Below w.heap.size w w' := by
  have HC := Lib.hid (proofs_any dv sv mv C hV x link Bp Bm w hx hp)
  obtain ⟨c0, c1, c2, c3⟩ := box4' hbb
  clear hx hp hbb
  go_enter Try.func89, Try.ntmps89
  go_wp2_with fail
  refine HC.out.mono ?_
  rintro e w1 ⟨rfl, hb⟩
  have HB := Lib.hid hb
  clear hb
  go_wp2_with fail
  go_ret
  exact ⟨rfl, HB.out⟩

end Go.Proofs.Ytgjikoebneiamaa

namespace Go.Proofs.Ytgjikoebneiamaa
open Go.RowKit Go.Sort

def timesOf (C : Chain) (link : Int) (x : List Int) : Int := timesTo C.deeds x link C.deeds.length
theorem timesOf_i64 {C : Chain} (hV : Valid C) (link : Int) (x : List Int) : I64 (timesOf C link x) := by
  have := timesTo_le C.deeds x link C.deeds.length
  have := hV.nd
  unfold I64 timesOf; omega
theorem cell2f {w : World} {b : Nat} {v0 v1 : Value} {t : TypeId} (e : w.heap[b]? = some (.cells #[v0, v1] t)) :
    w.cell? ⟨b, 0, none⟩ = some v0 ∧ w.cell? ⟨b, 1, none⟩ = some v1 ∧ w.frozen? ⟨b, 0, none⟩ = false ∧ w.frozen? ⟨b, 1, none⟩ = false := by
  refine ⟨?_, ?_, ?_, ?_⟩ <;> simp [World.cell?, World.frozen?, e]
theorem span_far {w : World} {p q o : Nat} (hne : q ≠ p) (u v : Value) : ((w.setCell ⟨p, 0, none⟩ u).setCell ⟨p, 1, none⟩ v).drew.cell? ⟨q, o, none⟩ = w.cell? ⟨q, o, none⟩ := by
  show ((w.setCell ⟨p, 0, none⟩ u).setCell ⟨p, 1, none⟩ v).cell? ⟨q, o, none⟩ = _
  rw [World.cell?_setCell_far _ ⟨p, 1, none⟩ ⟨q, o, none⟩ v (Ne.symm hne), World.cell?_setCell_far _ ⟨p, 0, none⟩ ⟨q, o, none⟩ u (Ne.symm hne)]
/-- The least and the greatest of some numbers that are in order. -/
def spanL (L : List Int) : Value := .agg #[.int .i64 (nth L 0), .int .i64 (nth L (L.length - 1))]
theorem srt_nil {α : Type} {l : List α} {f : α → Int} : (srt (l.map f)).length = 0 ↔ l.length = 0 := by
  constructor
  · intro h
    refine Classical.byContradiction fun hl => ?_
    obtain ⟨x, hx⟩ := List.exists_mem_of_ne_nil l (fun e => hl (by rw [e]; rfl))
    have := mem_srt.2 (List.mem_map.2 ⟨x, hx, rfl⟩ : f x ∈ l.map f)
    rw [List.length_eq_zero_iff.1 h] at this
    cases this
  · intro h
    rw [List.length_eq_zero_iff.1 h, srt_len]
    rfl

set_option maxRecDepth 100000 in
set_option maxHeartbeats 4000000 in
theorem Proofs_ok (a a2 : Option Addr) (cap cap2 : Nat) (C : Chain) (link : Int) (w : World)
    (hx : ChainAt w.heap.size w (.agg #[.slice a C.deeds.length cap, .slice a2 C.sights.length cap2, .int .i64 C.wrong]) C) (hV : validB C = true) (hi : wB link 0 ((weldsTo C.deeds C.deeds.length : Int) - 1) = true) :
    Calls Try.prog 34 #[.agg #[.slice a C.deeds.length cap, .slice a2 C.sights.length cap2, .int .i64 C.wrong], .int .i64 link] w fun e w' => e = .returned (.tuple #[spanL (srt ((truthsP C).map (timesOf C link))), .int .i64 (noneE (truthsP C).length)]) ∧ Below w.heap.size w w' := by
  have hV' := valid_iff.1 hV
  have HX := Lib.hid (fun W (hb : Below w.heap.size w W) => (hx.below hb).mono hb.size)
  have HV := Lib.hid hV
  have HV' := Lib.hid hV'
  have HI := Lib.hid hi
  obtain ⟨L, hL⟩ : ∃ L, srt ((truthsP C).map (timesOf C link)) = L := ⟨_, rfl⟩
  obtain ⟨M, hM⟩ : ∃ M, (truthsP C).length = M := ⟨_, rfl⟩
  have hln := srt_nil (l := truthsP C) (f := timesOf C link)
  rw [hL, hM] at hln
  have HL := Lib.hid hL
  have HM := Lib.hid hM
  rw [hL, hM]
  clear hx hV hV' hi hL hM
  go_enter Try.func34, Try.ntmps34
  go_wp2_with fail
  refine (openLink_ok a a2 cap cap2 C link _ (HX.out _ (by go_grown)) HV.out HI.out).mono ?_
  rintro e w1 ⟨bm, rfl, hbk, hb1⟩
  have hb1s := hb1.out.size
  simp only [World.size_alloc] at hb1s
  obtain ⟨g0, g1, g2, g3, gs⟩ := heap3 w (.cells #[.slice a C.deeds.length cap, .slice a2 C.sights.length cap2, .int .i64 C.wrong] 25) (.cells #[.int .i64 link] 3) (.cells #[.int .i64 0, .int .i64 0] 42)
  have hbw : Below w.heap.size w w1 := g3.trans (hb1.out.mono (by omega))
  have e1 := (hb1.out.block (w.heap.size + 1) (by omega)).trans g1
  have e2 := (hb1.out.block (w.heap.size + 1 + 1) (by omega)).trans g2
  have HBW := Lib.hid hbw
  have HE1 := Lib.hid e1
  have HE2 := Lib.hid e2
  obtain ⟨N, hN⟩ : ∃ N, weldsTo C.deeds C.deeds.length = N := ⟨_, rfl⟩
  rw [hN] at hbk ⊢
  clear hbw e1 e2 hb1 hN g0 g1 g2 g3
  go_wp2_with fail
  obtain ⟨w2, hw2⟩ : ∃ w2, w2 = w1.alloc (.cells #[.slice a C.deeds.length cap, .slice a2 C.sights.length cap2, .int .i64 C.wrong, .slice (some ⟨bm, 0, none⟩) N 12] 84) := ⟨_, rfl⟩
  rw [← hw2]
  have hb2 : Below w1.heap.size w1 w2 := hw2 ▸ (Below.refl _ w1).alloc (Nat.le_refl _) _
  have hbb2 : w2.heap[w1.heap.size]? = some (.cells #[.slice a C.deeds.length cap, .slice a2 C.sights.length cap2, .int .i64 C.wrong, .slice (some ⟨bm, 0, none⟩) N 12] 84) := by rw [hw2]; exact heap_new _ _
  have HB2 := Lib.hid hb2
  have hbk2 : BookAt w2.heap.size w2 (.agg #[.slice a C.deeds.length cap, .slice a2 C.sights.length cap2, .int .i64 C.wrong, .slice (some ⟨bm, 0, none⟩) N 12]) C := (hbk.out.below hb2).mono hb2.size
  have hlt1 := heap_lt hbb2
  clear hw2 hb2
  refine (answers_own _ _ _ C HV'.out 87 #[.pointer (some ⟨w1.heap.size, 0, none⟩), .pointer (some ⟨w.heap.size + 1, 0, none⟩)] (timesOf C link) w2 hbk2 (fun x _ => timesOf_i64 HV'.out link x) (enters_of Try.func87 (by kernel_rfl) rfl) (fun x _ Bp Bm W hW hp =>
    proofsAsk_any _ _ _ C HV'.out x link Bp Bm w1.heap.size (w.heap.size + 1) W ((hbk2.below hW).mono hW.size) hp ((hW.block _ hlt1).trans hbb2) (cell1_of ((hW.block (w.heap.size + 1) (by omega)).trans ((HB2.out.block _ (by omega)).trans HE1.out))).1)).mono ?_
  rintro e w3 ⟨v, rfl, ⟨hv, hfresh⟩, hb3⟩
  have hfin : Below w.heap.size w w3 := (HBW.out.trans (HB2.out.mono HBW.out.size)).trans (hb3.mono (by have := HBW.out.size; have := HB2.out.size; omega))
  have e2 := (hb3.block (w.heap.size + 1 + 1) (by omega)).trans ((HB2.out.block _ (by omega)).trans HE2.out)
  rw [HL.out] at hv
  rw [HM.out]
  obtain ⟨la, lk, lb, lo, rfl, hl63, hla, hlc, _⟩ := hv.opened
  have HF := Lib.hid hfin
  have HE2 := Lib.hid e2
  obtain ⟨r0, r1, rf0, rf1⟩ := cell2f e2
  clear hfin hv hb3 hbk2 hbb2 e2 hbk
  by_cases hM0 : M = 0
  · have hL0 : L = [] := List.length_eq_zero_iff.1 (hln.2 hM0)
    subst hL0 hM0
    clear hln
    simp only [noneE, if_pos]
    go_wp2_with fail
    refine bodyPost_ret (v := .tuple #[.agg #[.int .i64 0, .int .i64 0], .int .i64 3]) (by simp [results, Try.results34, go_sem, r0, r1]) rfl ⟨rfl, ?_⟩
    exact below_setCell (below_setCell HF.out (by omega)) (by omega)
  · have hLp : 0 < L.length := by
      have : L.length ≠ 0 := fun e => hM0 (hln.1 e)
      omega
    obtain ⟨rfl, hlb⟩ := hla.out hLp
    have hlw : w2.heap.size ≤ lb := hfresh lb rfl
    have hne : lb ≠ w.heap.size + 1 + 1 := by have := HB2.out.size; omega
    have l0 : w3.cell? ⟨lb, lo, none⟩ = some (.int .i64 (nth L 0)) := by simpa using hlc.out 0 hLp
    have l1 : w3.cell? ⟨lb, lo + (L.length - 1), none⟩ = some (.int .i64 (nth L (L.length - 1))) := hlc.out _ (by omega)
    have hs1 : IntKind.i64.wrap ((L.length : Int) - 1) = ((L.length - 1 : Nat) : Int) := by rw [IntWalk.i64_in _ (by omega)]; omega
    have HM0 := Lib.hid (noneE_pos hM0)
    rw [noneE_pos hM0]
    have hi0 : (0 : Int) < (L.length : Int) := by omega
    have hi1 : (0 : Int) ≤ ((L.length - 1 : Nat) : Int) := by omega
    have hi2 : ((L.length - 1 : Nat) : Int) < (L.length : Int) := by omega
    clear hln hla hlc hfresh
    go_wp2_with fail
    go_region_held3 (fun w' => w'.cell? ⟨lb, lo, none⟩ = some (.int .i64 (nth L 0)) ∧ w'.cell? ⟨lb, lo + (L.length - 1), none⟩ = some (.int .i64 (nth L (L.length - 1))))
      (first | exact ⟨l0, l1⟩ | exact ⟨(span_far hne _ _).trans l0, (span_far hne _ _).trans l1⟩)
      (fail)
    go_wp2_with fail
    have hxx : ((w3.setCell ⟨w.heap.size + 1 + 1, 0, none⟩ (.int .i64 (nth L 0))).setCell ⟨w.heap.size + 1 + 1, 1, none⟩ (.int .i64 (nth L (L.length - 1)))).heap[w.heap.size + 1 + 1]? = some (.cells #[.int .i64 (nth L 0), .int .i64 (nth L (L.length - 1))] 42) := by
      rw [heap_setCell_same (heap_setCell_same HE2.out)]; rfl
    have y0 : (((w3.setCell ⟨w.heap.size + 1 + 1, 0, none⟩ (.int .i64 (nth L 0))).setCell ⟨w.heap.size + 1 + 1, 1, none⟩ (.int .i64 (nth L (L.length - 1)))).drew).cell? ⟨w.heap.size + 1 + 1, 0, none⟩ = some (.int .i64 (nth L 0)) := cells_of (i := 0) hxx rfl
    have y1 : (((w3.setCell ⟨w.heap.size + 1 + 1, 0, none⟩ (.int .i64 (nth L 0))).setCell ⟨w.heap.size + 1 + 1, 1, none⟩ (.int .i64 (nth L (L.length - 1)))).drew).cell? ⟨w.heap.size + 1 + 1, 1, none⟩ = some (.int .i64 (nth L (L.length - 1))) := cells_of (i := 1) hxx rfl
    clear hxx
    refine bodyPost_ret (v := .tuple #[.agg #[.int .i64 (nth L 0), .int .i64 (nth L (L.length - 1))], .int .i64 0]) (by simp [results, Try.results34, go_sem, y0, y1]) rfl ⟨by rw [HM0.out]; rfl, ?_⟩
    exact (below_setCell (below_setCell HF.out (by omega)) (by omega)).drew

set_option maxHeartbeats 1000000 in
theorem Proofs_arg (a a2 : Option Addr) (cap cap2 : Nat) (C : Chain) (link : Int) (w : World)
    (hx : ChainAt w.heap.size w (.agg #[.slice a C.deeds.length cap, .slice a2 C.sights.length cap2, .int .i64 C.wrong]) C) (hV : validB C = true) (hi : linkB C link = false) :
    Calls Try.prog 34 #[.agg #[.slice a C.deeds.length cap, .slice a2 C.sights.length cap2, .int .i64 C.wrong], .int .i64 link] w fun e w' => e = .returned (.tuple #[spanL [], .int .i64 1]) ∧ Below w.heap.size w w' := by
  have HX := Lib.hid (fun W (hb : Below w.heap.size w W) => (hx.below hb).mono hb.size)
  have HV := Lib.hid hV
  have HI := Lib.hid hi
  clear hx hV hi
  go_enter Try.func34, Try.ntmps34
  go_wp2_with fail
  refine (openLink_arg a a2 cap cap2 C link _ (HX.out _ (by go_grown)) HV.out HI.out).mono ?_
  rintro e w1 ⟨rfl, hb1⟩
  have hb1s := hb1.out.size
  simp only [World.size_alloc] at hb1s
  obtain ⟨g0, g1, g2, g3, gs⟩ := heap3 w (.cells #[.slice a C.deeds.length cap, .slice a2 C.sights.length cap2, .int .i64 C.wrong] 25) (.cells #[.int .i64 link] 3) (.cells #[.int .i64 0, .int .i64 0] 42)
  have HBW := Lib.hid (g3.trans (hb1.out.mono (by omega)))
  have e2 := (hb1.out.block (w.heap.size + 1 + 1) (by omega)).trans g2
  obtain ⟨r0, r1, rf0, rf1⟩ := cell2f ((Below.heap_alloc w1 (.cells #[.slice none 0 0, .slice none 0 0, .int .i64 0, .slice none 0 0] 84) _ (heap_lt e2)).trans e2)
  clear hb1 g0 g1 g2 g3 e2
  unfold noBook
  go_wp2_with fail
  refine bodyPost_ret (v := .tuple #[.agg #[.int .i64 0, .int .i64 0], .int .i64 1]) (by simp [results, Try.results34, go_sem, r0, r1]) rfl ⟨rfl, ?_⟩
  first
    | exact below_setCell (below_setCell HBW.out (by omega)) (by omega)
    | exact below_setCell (below_setCell (HBW.out.alloc (by omega) _) (by omega)) (by omega)
theorem Proofs_v {a a2 : Option Addr} {n m cap cap2 : Nat} {link : Int} {C : Chain} {w : World} {L : List Int} {y : Int} (hf : ansV C (linkB C link) (timesOf C link) = L) (he : ansE C (linkB C link) = y) (hn : n = C.deeds.length) (hm : m = C.sights.length)
    (hx : ChainAt w.heap.size w (.agg #[.slice a n cap, .slice a2 m cap2, .int .i64 C.wrong]) C) (hV : validB C = true) :
    Calls Try.prog 34 #[.agg #[.slice a n cap, .slice a2 m cap2, .int .i64 C.wrong], .int .i64 link] w fun e w' => e = .returned (.tuple #[spanL L, .int .i64 y]) ∧ Below w.heap.size w w' := by
  subst hn hm hf he
  cases h : linkB C link
  · exact Proofs_arg a a2 cap cap2 C link w hx hV h
  · exact Proofs_ok a a2 cap cap2 C link w hx hV h

end Go.Proofs.Ytgjikoebneiamaa
