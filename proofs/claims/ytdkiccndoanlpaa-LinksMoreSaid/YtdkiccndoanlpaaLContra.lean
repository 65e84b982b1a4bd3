/-
  A law's body: the first contradiction (P2.14).
-/
import Derived.Test.YtdkiccndoanlpaaLTwo
import Derived.Test.YtdkiccndoanlpaaLContraM
import Derived.Test.YtdkiccndoanlpaaLWorks
import Derived.Deep.DeepCutAuto
namespace Go.Proofs.Ytdkiccndoanlpaa
open Go.RowKit

theorem Fewest_l {a a2 : Option Addr} {n m cap cap2 : Nat} {C : Chain} {w : World} {x : Int} (hf : fewV C = x) (hn : n = C.deeds.length) (hm : m = C.sights.length)
    (hx : ChainAt w.heap.size w (.agg #[.slice a n cap, .slice a2 m cap2, .int .i64 C.wrong]) C) (hV : validB C = true) :
    Calls Try.prog 20 #[.agg #[.slice a n cap, .slice a2 m cap2, .int .i64 C.wrong]] w fun e w' => e = .returned (.tuple #[.int .i64 x, .int .i64 0]) ∧ Below w.heap.size w w' := by
  subst hn hm hf
  exact Fewest_any a a2 cap cap2 C w hx hV
theorem First_l {a a2 : Option Addr} {n m cap cap2 : Nat} {C : Chain} {w : World} {x y : Int} (hf : firstV C = x) (he : firstE C = y) (hn : n = C.deeds.length) (hm : m = C.sights.length)
    (hx : ChainAt w.heap.size w (.agg #[.slice a n cap, .slice a2 m cap2, .int .i64 C.wrong]) C) (hV : validB C = true) :
    Calls Try.prog 40 #[.agg #[.slice a n cap, .slice a2 m cap2, .int .i64 C.wrong]] w fun e w' => e = .returned (.tuple #[.int .i64 x, .int .i64 y]) ∧ Below w.heap.size w w' := by
  subst hn hm hf he
  exact First_any a a2 cap cap2 C w hx hV
theorem LStat.slice {w W : World} {b : Nat} {x0 x1 x2 : Value} {C : Chain} (h : LStat w W b x0 x1 x2 C) : ∃ a cap a2 cap2, x0 = .slice a C.deeds.length cap ∧ x1 = .slice a2 C.sights.length cap2 ∧ x2 = .int .i64 C.wrong := by
  obtain ⟨dv, sv, e, ⟨a, cap, b, off, h1, _⟩, ⟨a2, cap2, b2, off2, h2, _⟩, _⟩ := h.st
  injection e with e
  simp only [Array.mk.injEq, List.cons.injEq, and_true] at e
  exact ⟨a, cap, a2, cap2, e.1.trans h1, e.2.1.trans h2, e.2.2⟩

theorem cut_chain {lo n p1 p2 k : Nat} {W : World} {f1 f2 : Option Addr} {C : Chain} (h : CopyAt lo W (.agg #[.slice f1 n p1, .slice f2 C.sights.length p2, .int .i64 C.wrong]) C) (hk : k ≤ C.sights.length) : ChainAt W.heap.size W (.agg #[.slice f1 n p1, .slice f2 k p2, .int .i64 (cutS C k).wrong]) (cutS C k) := by
  obtain ⟨dv, sv, e, h1, h2, h3⟩ := h.chain
  injection e with e
  simp only [Array.mk.injEq, List.cons.injEq, and_true] at e
  obtain ⟨rfl, rfl⟩ := e
  exact ⟨_, _, rfl, h1, h2.take hk, h3⟩
/-- The kinds of the operations of two copies in one statement. -/
def kd2 : Nat → Nat
  | 0 => 0
  | 1 => 1
  | 2 => 0
  | 3 => 1
  | _ => 2

set_option maxRecDepth 100000 in
set_option maxHeartbeats 8000000 in
theorem LinksContradict_any (v : Value) (C : Chain) (w : World) (hx : ChainAt w.heap.size w v C) :
    Calls Try.prog 8 #[v] w fun e w' => e = .returned (.bool true) ∧ Below w.heap.size w w' := by
  have hx' := hx
  obtain ⟨a, cap, b, off, a2, cap2, b2, off2, rfl, hm, hm2, hcap, hcapm, HA, HC, HA2, HC2, HI, HI2⟩ := hx.opened
  have hs := LStat.first hx'
  obtain ⟨c0, c1, c2⟩ := hs.cells
  have HS0 := Lib.hid hs
  have HX := Lib.hid hx'
  clear hx hx' HA2 HC2 HI2 HI HA HC hs
  cases hr : readyB C
  case false =>
    have HR := Lib.hid hr
    clear hr
    go_enter Try.func8, Try.ntmps8
    go_wp2_with fail
    refine (ready_to HR.out HS0.out.st).mono ?_
    rintro e w1 ⟨rfl, hb⟩
    have HS1 := Lib.hid (HS0.out.next hb)
    clear hb c0 c1 c2
    go_wp2_with fail
    refine (works_any _).mono ?_
    rintro e w2 ⟨rfl, hb⟩
    have HB := Lib.hid (HS1.out.next hb).b
    clear hb
    go_wp2
    go_ret
    exact ⟨rfl, HB.out⟩
  obtain ⟨hV, hnd, hns⟩ := ready_is hr
  have HR := Lib.hid hr
  have HV := Lib.hid hV
  clear hr hV
  cases hg : someGood C
  case true =>
    have HF0 := Lib.hid (few_pos.1 hg)
    have HF1 := Lib.hid (show firstV C = 0 by simp [firstV, hg])
    have HF2 := Lib.hid (show firstE C = 3 by simp [firstE, hg])
    clear hg
    go_enter Try.func8, Try.ntmps8
    go_wp2_with fail
    refine (ready_to HR.out HS0.out.st).mono ?_
    rintro e w1 ⟨rfl, hb⟩
    have hs := HS0.out.next hb
    clear hb c0 c1 c2
    obtain ⟨c0, c1, c2⟩ := hs.cells
    have HS1 := Lib.hid hs
    clear hs
    go_wp2_with fail
    refine (Fewest_l HF0.out rfl rfl HS1.out.st HV.out).mono ?_
    rintro e w2 ⟨rfl, hb⟩
    have hs := HS1.out.next hb
    clear hb c0 c1 c2
    obtain ⟨c0, c1, c2⟩ := hs.cells
    have HS2 := Lib.hid hs
    clear hs
    go_wp2_with fail
    refine (First_l HF1.out HF2.out rfl rfl HS2.out.st HV.out).mono ?_
    rintro e w3 ⟨rfl, hb⟩
    have HS3 := Lib.hid (HS2.out.next hb)
    clear hb c0 c1 c2
    go_wp2_with (first | (go_at_call 56; refine (isKnown_to (by first | exact .inl rfl | exact .inr rfl) _).mono ?_; rintro e wk ⟨rfl, rfl⟩) | (go_at_call 14; refine (works_any _).mono ?_; rintro e wz ⟨rfl, hb⟩; have HB := Lib.hid (HS3.out.next hb).b; clear hb))
    go_ret
    exact ⟨rfl, HB.out⟩
  obtain ⟨k, hk, hfv, hfe, hall, hex⟩ := first_is hg
  obtain ⟨q1, q2, q3, q4, q5⟩ := contra hk hall hex
  obtain ⟨N, hN⟩ : ∃ N, fewV C = N := ⟨_, rfl⟩
  have hN0 : 0 < N := by
    have h1 := (fewV_bound C).1
    have : fewV C ≠ 0 := fun e => by rw [few_pos.2 e] at hg; cases hg
    omega
  have HFN := Lib.hid hN
  have HFV := Lib.hid hfv
  have HFE := Lib.hid hfe
  have Q1 := Lib.hid q1
  have Q2 := Lib.hid q2
  have Q3 := Lib.hid q3
  have Q4 := Lib.hid q4
  have Q5 := Lib.hid q5
  clear hg hall hex q1 q2 q3 q4 q5 hN hfv hfe
  go_enter Try.func8, Try.ntmps8
  go_wp2_with fail
  refine (ready_to HR.out HS0.out.st).mono ?_
  rintro e w1 ⟨rfl, hb⟩
  have hs := HS0.out.next hb
  clear hb c0 c1 c2
  obtain ⟨c0, c1, c2⟩ := hs.cells
  have HS1 := Lib.hid hs
  clear hs
  go_wp2_with fail
  refine (Fewest_l HFN.out rfl rfl HS1.out.st HV.out).mono ?_
  rintro e w2 ⟨rfl, hb⟩
  have hs := HS1.out.next hb
  clear hb c0 c1 c2
  obtain ⟨c0, c1, c2⟩ := hs.cells
  have HS2 := Lib.hid hs
  clear hs
  go_wp2_with fail
  refine (First_l HFV.out HFE.out rfl rfl HS2.out.st HV.out).mono ?_
  rintro e w3 ⟨rfl, hb⟩
  have hs := HS2.out.next hb
  clear hb c0 c1 c2
  obtain ⟨c0, c1, c2⟩ := hs.cells
  have HS3 := Lib.hid hs
  clear hs
  go_upto_region 9 with (go_at_call 56; refine (isKnown_to (by first | exact .inl rfl | exact .inr rfl) _).mono ?_; rintro e wk ⟨rfl, rfl⟩)
  refine wp_region_vals _ [63, 64, 65, 66, 7, 8] (cpPd w3.heap.size C (.agg #[.slice a C.deeds.length cap, .slice a2 C.sights.length cap2, .int .i64 C.wrong]) kd2) (fun i => decide (kd2 i = 2)) (by kernel_rfl) (by kernel_rfl) (by kernel_rfl) (by decide) (by decide) (by simp) cpPd_st cpPd_fr ?step ?rest
  case step =>
    intro i vs W hi hvl hb hdep
    have hs := HS3.out.next hb
    have hlo := hb.size
    clear c0 c1 c2
    obtain ⟨v0, v1, v2, v3, v4, v5, rfl⟩ : ∃ v0 v1 v2 v3 v4 v5, vs = [v0, v1, v2, v3, v4, v5] := by
      match vs, hvl with
      | [v0, v1, v2, v3, v4, v5], _ => exact ⟨v0, v1, v2, v3, v4, v5, rfl⟩
    have hi' : i = 0 ∨ i = 1 ∨ i = 2 ∨ i = 3 ∨ i = 4 ∨ i = 5 := by simp at hi; omega
    rcases hi' with rfl | rfl | rfl | rfl | rfl | rfl
    · exact cp_load (s := 1) rfl rfl rfl rfl rfl (by simp [putL, Act.put, Act.eval, ptr]) hs.blk
    · obtain ⟨u, e1, e2, _⟩ := hdep _ rfl ⟨0, .data⟩ (by simp) rfl (by simp)
      have e2 := e2 rfl
      simp at e1
      subst e1 e2
      exact cp_call (s := 63) rfl rfl rfl rfl rfl (by simp [putL, Act.put, Act.eval]) hs.st (by omega) (by omega) hlo
    · exact cp_load (s := 1) rfl rfl rfl rfl rfl (by simp [putL, Act.put, Act.eval, ptr]) hs.blk
    · obtain ⟨u, e1, e2, _⟩ := hdep _ rfl ⟨2, .data⟩ (by simp) rfl (by simp)
      have e2 := e2 rfl
      simp at e1
      subst e1 e2
      exact cp_call (s := 65) rfl rfl rfl rfl rfl (by simp [putL, Act.put, Act.eval]) hs.st (by omega) (by omega) hlo
    · exact cp_alloc rfl rfl rfl rfl rfl hlo
    · exact cp_alloc rfl rfl rfl rfl rfl hlo
  case rest =>
    intro vs W hvl hb hval hfar
    obtain ⟨v0, v1, v2, v3, v4, v5, rfl⟩ : ∃ v0 v1 v2 v3 v4 v5, vs = [v0, v1, v2, v3, v4, v5] := by
      match vs, hvl with
      | [v0, v1, v2, v3, v4, v5], _ => exact ⟨v0, v1, v2, v3, v4, v5, rfl⟩
    obtain ⟨u1, e1, _, k1, _⟩ := hval 1 (by simp)
    obtain ⟨u3, e3, _, k3, _⟩ := hval 3 (by simp)
    obtain ⟨u4, e4, _, _, k4⟩ := hval 4 (by simp)
    obtain ⟨u5, e5, _, _, k5⟩ := hval 5 (by simp)
    have h45 := hfar 4 5 v4 v5 (by simp) (by simp) (by decide) (by decide) (by decide) rfl rfl
    simp at e1 e3 e4 e5
    subst e1 e3 e4 e5
    have k1 := k1 rfl
    have k3 := k3 rfl
    obtain ⟨B, rfl, hB, hBb⟩ := k4 rfl
    obtain ⟨U, rfl, hU, hUb⟩ := k5 rfl
    have hne : B ≠ U := fun e => h45 (by rw [e])
    obtain ⟨f1, p1, f2, p2, rfl, hp1, hp2⟩ := k1.shape
    obtain ⟨g1, m1, g2, m2, rfl, hm1, hm2'⟩ := k3.shape
    have hs := HS3.out.next hb
    clear c0 c1 c2 hval hfar h45
    obtain ⟨c0, c1, c2⟩ := hs.cells
    have K1 := Lib.hid k1
    have K3 := Lib.hid k3
    have HB := Lib.hid hb
    have HBb := Lib.hid hBb
    have HUb := Lib.hid hUb
    clear k1 k3 hb hs
    have hBW := heap_lt hBb
    have hUW := heap_lt hUb
    obtain ⟨⟨x0, x1, x2⟩, xf⟩ := box3f_of hBb
    obtain ⟨⟨y0, y1, y2⟩, yf⟩ := box3f_of hUb
    have xf0 := xf 0
    have xf1 := xf 1
    have xf2 := xf 2
    have yf0 := yf 0
    have yf1 := yf 1
    have yf2 := yf 2
    clear xf yf hBb hUb
    simp only [putL, ptr, Act.put, List.drop, List.length_cons, List.length_nil, Nat.reduceAdd]
    go_upto_region 10 with fail
    obtain ⟨Y, hY⟩ : ∃ Y, Y = put3 (put3 W B (.slice f1 C.deeds.length p1) (.slice f2 C.sights.length p2) (.int .i64 C.wrong)) U (.slice g1 C.deeds.length m1) (.slice g2 C.sights.length m2) (.int .i64 C.wrong) := ⟨_, rfl⟩
    have hYB : Y.heap[B]? = some (.cells #[.slice f1 C.deeds.length p1, .slice f2 C.sights.length p2, .int .i64 C.wrong] 25) := by rw [hY, put3_other hne]; exact put3_heap HBb.out
    have hYU : Y.heap[U]? = some (.cells #[.slice g1 C.deeds.length m1, .slice g2 C.sights.length m2, .int .i64 C.wrong] 25) := by rw [hY]; exact put3_heap ((put3_other (Ne.symm hne)).trans HUb.out)
    have hYb : Below w3.heap.size w3 Y := by rw [hY]; exact put3_below (put3_below HB.out hB) hU
    have hY1 : CopyAt w3.heap.size Y (.agg #[.slice f1 C.deeds.length p1, .slice f2 C.sights.length p2, .int .i64 C.wrong]) C := by rw [hY]; exact (K1.out.put3 HBb.out).put3 ((put3_other (Ne.symm hne)).trans HUb.out)
    have hY3 : CopyAt w3.heap.size Y (.agg #[.slice g1 C.deeds.length m1, .slice g2 C.sights.length m2, .int .i64 C.wrong]) C := by rw [hY]; exact (K3.out.put3 HBb.out).put3 ((put3_other (Ne.symm hne)).trans HUb.out)
    unfold put3 at hY
    rw [← hY]
    clear hY x0 x1 x2 y0 y1 y2 xf0 xf1 xf2 yf0 yf1 yf2 c0 c1 c2
    obtain ⟨⟨x0, x1, x2⟩, xf⟩ := box3f_of hYB
    obtain ⟨⟨y0, y1, y2⟩, yf⟩ := box3f_of hYU
    have xf1 := xf 1
    have yf1 := yf 1
    have HYB := Lib.hid hYB
    have HYU := Lib.hid hYU
    have HYb := Lib.hid hYb
    have HY1 := Lib.hid hY1
    have HY3 := Lib.hid hY3
    clear xf yf hYB hYU hYb hY1 hY3
    have hk0 : (0 : Int) ≤ (k : Int) := by omega
    have hk1 : (k : Int) ≤ (p2 : Int) := by omega
    have hk2 : (0 : Int) ≤ (k : Int) + 1 := by omega
    have hk3 : (k : Int) + 1 ≤ (m2 : Int) := by omega
    go_region
    obtain ⟨Z, hZ⟩ : ∃ Z, Z = ((Y.setCell ⟨B, 1, none⟩ (.slice f2 k p2)).setCell ⟨U, 1, none⟩ (.slice g2 (k + 1) m2)).drew := ⟨_, rfl⟩
    have hUY : (Y.setCell ⟨B, 1, none⟩ (.slice f2 k p2)).heap[U]? = some (.cells #[.slice g1 C.deeds.length m1, .slice g2 C.sights.length m2, .int .i64 C.wrong] 25) := (heap_setCell_other hne).trans HYU.out
    have hZB : Z.heap[B]? = some (.cells #[.slice f1 C.deeds.length p1, .slice f2 k p2, .int .i64 C.wrong] 25) := by
      rw [hZ]
      show ((Y.setCell ⟨B, 1, none⟩ (.slice f2 k p2)).setCell ⟨U, 1, none⟩ (.slice g2 (k + 1) m2)).heap[B]? = _
      rw [heap_setCell_other (Ne.symm hne), heap_setCell_same HYB.out]; rfl
    have hZU : Z.heap[U]? = some (.cells #[.slice g1 C.deeds.length m1, .slice g2 (k + 1) m2, .int .i64 C.wrong] 25) := by
      rw [hZ]
      show ((Y.setCell ⟨B, 1, none⟩ (.slice f2 k p2)).setCell ⟨U, 1, none⟩ (.slice g2 (k + 1) m2)).heap[U]? = _
      rw [heap_setCell_same hUY]; rfl
    have hZb : Below w.heap.size w Z := by
      rw [hZ]
      have h1 := HS3.out.b.trans (HYb.out.mono HS3.out.b.size)
      exact (below_setCell (below_setCell h1 (by have := HS3.out.b.size; omega)) (by have := HS3.out.b.size; omega)).drew
    have hZ1 : CopyAt w3.heap.size Z (.agg #[.slice f1 C.deeds.length p1, .slice f2 C.sights.length p2, .int .i64 C.wrong]) C := by rw [hZ]; exact (HY1.out.setBox HYB.out).setBox hUY
    have hZ3 : CopyAt w3.heap.size Z (.agg #[.slice g1 C.deeds.length m1, .slice g2 C.sights.length m2, .int .i64 C.wrong]) C := by rw [hZ]; exact (HY3.out.setBox HYB.out).setBox hUY
    rw [← hZ]
    have HB0 := Lib.hid (show LStat w Z B (.slice f1 C.deeds.length p1) (.slice f2 k p2) (.int .i64 (cutS C k).wrong) (cutS C k) from ⟨hZB, cut_chain hZ1 (by omega), hZb⟩)
    have HU0 := Lib.hid (show LStat w Z U (.slice g1 C.deeds.length m1) (.slice g2 (k + 1) m2) (.int .i64 (cutS C (k + 1)).wrong) (cutS C (k + 1)) from ⟨hZU, cut_chain hZ3 (by omega), hZb⟩)
    clear hZ hZB hZU hZb hZ1 hZ3 hUY x0 x1 x2 y0 y1 y2 xf1 yf1 HYB HYU HYb HY1 HY3 HBb HUb K1 K3 hk0 hk1 hk2 hk3 HB
    obtain ⟨x0, x1, x2⟩ := HB0.out.cells
    obtain ⟨y0, y1, y2⟩ := HU0.out.cells
    have hl1 := cutS_len (C := C) (k := k) (by omega)
    have hl2 := cutS_len (C := C) (k := k + 1) (by omega)
    have HV1 := Lib.hid (valid_iff.2 (cutS_valid (k := k) (valid_iff.1 HV.out) (by omega)))
    have HV2 := Lib.hid (valid_iff.2 (cutS_valid (k := k + 1) (valid_iff.1 HV.out) (by omega)))
    have L1 := Lib.hid hl1.symm
    have L2 := Lib.hid hl2.symm
    clear hl1 hl2
    go_wp2_with fail
    refine (Fewest_l Q1.out rfl L1.out HB0.out.st HV1.out).mono ?_
    rintro e z1 ⟨rfl, hb⟩
    have HB1 := Lib.hid (HB0.out.next hb)
    have HU1 := Lib.hid (HU0.out.next hb)
    clear hb x0 x1 x2 y0 y1 y2
    obtain ⟨x0, x1, x2⟩ := HB1.out.cells
    obtain ⟨y0, y1, y2⟩ := HU1.out.cells
    go_wp2_with fail
    refine (Fewest_l Q2.out rfl L2.out HU1.out.st HV2.out).mono ?_
    rintro e z2 ⟨rfl, hb⟩
    have HB2 := Lib.hid (HB1.out.next hb)
    have HU2 := Lib.hid (HU1.out.next hb)
    clear hb x0 x1 x2 y0 y1 y2
    obtain ⟨x0, x1, x2⟩ := HB2.out.cells
    obtain ⟨y0, y1, y2⟩ := HU2.out.cells
    go_wp2_with fail
    refine (First_l Q3.out Q4.out rfl L2.out HU2.out.st HV2.out).mono ?_
    rintro e z3 ⟨rfl, hb⟩
    have HB3 := Lib.hid (HB2.out.next hb)
    have HU3 := Lib.hid (HU2.out.next hb)
    clear hb x0 x1 x2 y0 y1 y2
    obtain ⟨x0, x1, x2⟩ := HB3.out.cells
    obtain ⟨y0, y1, y2⟩ := HU3.out.cells
    go_wp2_with fail
    refine (First_l (y := 3) rfl Q5.out rfl L1.out HB3.out.st HV1.out).mono ?_
    rintro e z4 ⟨rfl, hb⟩
    have HB4 := Lib.hid (HB3.out.next hb)
    clear hb x0 x1 x2 y0 y1 y2
    go_wp2_with (go_at_call 14; refine (works_any _).mono ?_; rintro e wz ⟨rfl, hb⟩; have HBZ := Lib.hid (HB4.out.next hb).b; clear hb)
    go_ret
    exact ⟨rfl, HBZ.out⟩

end Go.Proofs.Ytdkiccndoanlpaa
