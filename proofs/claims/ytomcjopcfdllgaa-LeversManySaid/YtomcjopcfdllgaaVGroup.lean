/-
  Levers, walks: a group of settings.
-/
import Derived.Test.YtomcjopcfdllgaaVGroupM
import Derived.Test.YtomcjopcfdllgaaVBelow
import Derived.Deep.DeepCutAuto

namespace Go.Proofs.Ytomcjopcfdllgaa
open Go.RowKit

def put9 (w : World) (b : Nat) (v0 v1 v2 v3 v4 v5 v6 v7 v8 : Value) : World := ((((put4 w b v0 v1 v2 v3).setCell ⟨b, 4, none⟩ v4).setCell ⟨b, 5, none⟩ v5).setCell ⟨b, 6, none⟩ v6).setCell ⟨b, 7, none⟩ v7 |>.setCell ⟨b, 8, none⟩ v8
theorem put9_heap {w : World} {b : Nat} {v0 v1 v2 v3 v4 v5 v6 v7 v8 z0 z1 z2 z3 z4 z5 z6 z7 z8 : Value} {t : TypeId} (h : w.heap[b]? = some (.cells #[z0, z1, z2, z3, z4, z5, z6, z7, z8] t)) : (put9 w b v0 v1 v2 v3 v4 v5 v6 v7 v8).heap[b]? = some (.cells #[v0, v1, v2, v3, v4, v5, v6, v7, v8] t) := by
  unfold put9 put4
  have h0 : (w.setCell ⟨b, 0, none⟩ v0).heap[b]? = some (.cells #[v0, z1, z2, z3, z4, z5, z6, z7, z8] t) := (heap_setCell_same h).trans rfl
  have h1 : ((w.setCell ⟨b, 0, none⟩ v0).setCell ⟨b, 1, none⟩ v1).heap[b]? = some (.cells #[v0, v1, z2, z3, z4, z5, z6, z7, z8] t) := (heap_setCell_same h0).trans rfl
  have h2 : (((w.setCell ⟨b, 0, none⟩ v0).setCell ⟨b, 1, none⟩ v1).setCell ⟨b, 2, none⟩ v2).heap[b]? = some (.cells #[v0, v1, v2, z3, z4, z5, z6, z7, z8] t) := (heap_setCell_same h1).trans rfl
  have h3 : ((((w.setCell ⟨b, 0, none⟩ v0).setCell ⟨b, 1, none⟩ v1).setCell ⟨b, 2, none⟩ v2).setCell ⟨b, 3, none⟩ v3).heap[b]? = some (.cells #[v0, v1, v2, v3, z4, z5, z6, z7, z8] t) := (heap_setCell_same h2).trans rfl
  have h4 : (((((w.setCell ⟨b, 0, none⟩ v0).setCell ⟨b, 1, none⟩ v1).setCell ⟨b, 2, none⟩ v2).setCell ⟨b, 3, none⟩ v3).setCell ⟨b, 4, none⟩ v4).heap[b]? = some (.cells #[v0, v1, v2, v3, v4, z5, z6, z7, z8] t) := (heap_setCell_same h3).trans rfl
  have h5 : ((((((w.setCell ⟨b, 0, none⟩ v0).setCell ⟨b, 1, none⟩ v1).setCell ⟨b, 2, none⟩ v2).setCell ⟨b, 3, none⟩ v3).setCell ⟨b, 4, none⟩ v4).setCell ⟨b, 5, none⟩ v5).heap[b]? = some (.cells #[v0, v1, v2, v3, v4, v5, z6, z7, z8] t) := (heap_setCell_same h4).trans rfl
  have h6 : (((((((w.setCell ⟨b, 0, none⟩ v0).setCell ⟨b, 1, none⟩ v1).setCell ⟨b, 2, none⟩ v2).setCell ⟨b, 3, none⟩ v3).setCell ⟨b, 4, none⟩ v4).setCell ⟨b, 5, none⟩ v5).setCell ⟨b, 6, none⟩ v6).heap[b]? = some (.cells #[v0, v1, v2, v3, v4, v5, v6, z7, z8] t) := (heap_setCell_same h5).trans rfl
  have h7 : ((((((((w.setCell ⟨b, 0, none⟩ v0).setCell ⟨b, 1, none⟩ v1).setCell ⟨b, 2, none⟩ v2).setCell ⟨b, 3, none⟩ v3).setCell ⟨b, 4, none⟩ v4).setCell ⟨b, 5, none⟩ v5).setCell ⟨b, 6, none⟩ v6).setCell ⟨b, 7, none⟩ v7).heap[b]? = some (.cells #[v0, v1, v2, v3, v4, v5, v6, v7, z8] t) := (heap_setCell_same h6).trans rfl
  have h8 : (((((((((w.setCell ⟨b, 0, none⟩ v0).setCell ⟨b, 1, none⟩ v1).setCell ⟨b, 2, none⟩ v2).setCell ⟨b, 3, none⟩ v3).setCell ⟨b, 4, none⟩ v4).setCell ⟨b, 5, none⟩ v5).setCell ⟨b, 6, none⟩ v6).setCell ⟨b, 7, none⟩ v7).setCell ⟨b, 8, none⟩ v8).heap[b]? = some (.cells #[v0, v1, v2, v3, v4, v5, v6, v7, v8] t) := (heap_setCell_same h7).trans rfl
  exact h8
theorem put9_below {B : Nat} {w W : World} {b : Nat} {v0 v1 v2 v3 v4 v5 v6 v7 v8 : Value} (h : Below B w W) (hb : B ≤ b) : Below B w (put9 W b v0 v1 v2 v3 v4 v5 v6 v7 v8) :=
  below_setCell (below_setCell (below_setCell (below_setCell (below_setCell (put4_below h hb) hb) hb) hb) hb) hb
theorem cells9 {W : World} {b : Nat} {v0 v1 v2 v3 v4 v5 v6 v7 v8 : Value} {t : TypeId} (e : W.heap[b]? = some (.cells #[v0, v1, v2, v3, v4, v5, v6, v7, v8] t)) :
    W.cell? ⟨b, 0, none⟩ = some v0 ∧ W.cell? ⟨b, 1, none⟩ = some v1 ∧ W.cell? ⟨b, 2, none⟩ = some v2 ∧ W.cell? ⟨b, 3, none⟩ = some v3 ∧ W.cell? ⟨b, 4, none⟩ = some v4 ∧ W.cell? ⟨b, 5, none⟩ = some v5 ∧ W.cell? ⟨b, 6, none⟩ = some v6 ∧ W.cell? ⟨b, 7, none⟩ = some v7 ∧ W.cell? ⟨b, 8, none⟩ = some v8 := by
  refine ⟨?_, ?_, ?_, ?_, ?_, ?_, ?_, ?_, ?_⟩ <;> (rw [cell_of e]; rfl)
/-- An empty group. -/
def zeroG : Value := .agg #[.int .i64 0, .int .i64 0, .int .i64 0, .int .i64 0, .int .i64 0, .int .i64 0, .int .i64 0, .int .i64 0, .int .i64 0]

set_option maxRecDepth 100000 in
set_option maxHeartbeats 8000000 in
theorem group_any (M : Mach) (hV : ValidM M) (lev : Nat) (hl : lev < 3) (pb : Nat) (k a : Int) (p : Int × Int) (w : World) (hw : WorkAt w.heap.size w pb M lev) (hp : 1 ≤ p.1 ∧ p.1 ≤ p.2 ∧ p.2 ≤ 1000000000) (ha : (shortOf M.levers lev).1 ≤ a ∧ a ≤ (shortOf M.levers lev).2) :
    Calls Try.prog 82 #[.pointer (some ⟨pb, 0, none⟩), .int .i64 k, .int .i64 a, .agg #[.int .i64 p.1, .int .i64 p.2]] w fun e w' => ∃ v, e = .returned v ∧
      (0 < groupN (shortOf M.levers ((lev + 1) % 3)) (shortOf M.levers ((lev + 2) % 3)) a p → v = grpV M lev (grpAt (shortOf M.levers ((lev + 1) % 3)) (shortOf M.levers ((lev + 2) % 3)) k p a)) ∧
      (groupN (shortOf M.levers ((lev + 1) % 3)) (shortOf M.levers ((lev + 2) % 3)) a p = 0 → v = zeroG) ∧ Below w.heap.size w w' := by
  obtain ⟨hpbl, lv, bv, av, mv, sv, hblk, hbal, harm, hmany, hless⟩ := hw
  have hs0 := short_ok hV lev
  have hsB := short_ok hV ((lev + 1) % 3)
  have hsD := short_ok hV ((lev + 2) % 3)
  have ha1 : 1 ≤ a ∧ a ≤ 1000 := by omega
  obtain ⟨hgv1, hgv2⟩ := group_vals hsB.1 hsD.1 ha1.1 (p := p)
  have hel := ends_le (shortOf M.levers ((lev + 1) % 3)) (shortOf M.levers ((lev + 2) % 3)) a p
  have hgl := group_le (B := shortOf M.levers ((lev + 1) % 3)) (D := shortOf M.levers ((lev + 2) % 3)) ⟨hsB.1, hsB.2.2⟩ ⟨hsD.1, hsD.2.2⟩ a p
  obtain ⟨hr1, hr2, hr3⟩ := room_le hsB hsD
  have hal : (armsOf (shortOf M.levers ((lev + 1) % 3)) (shortOf M.levers ((lev + 2) % 3))).length ≤ 1000000 := by unfold armsOf; rw [used_len]; exact Nat.le_trans (posTo_le _ _) hr1
  have hU0 : 0 ≤ upD p.1 a := Int.ediv_nonneg (by omega) (by omega)
  have hU1 : upD p.1 a ≤ p.1 + a - 1 := Int.ediv_le_self _ (by omega)
  have hQ0 : 0 ≤ p.2 / a := Int.ediv_nonneg (by omega) (by omega)
  have hQ1 : p.2 / a ≤ p.2 := Int.ediv_le_self _ (by omega)
  have HRU := Lib.hid (fun W => roundedUp_any p.1 a W (by omega) (by omega))
  have HBF := Lib.hid (fun (W : World) (hW : Below w.heap.size w W) => below_any (shortOf M.levers ((lev + 1) % 3)) (shortOf M.levers ((lev + 2) % 3)) av mv sv (upD p.1 a) W (by omega) (by omega) (by omega) ((hless.below hW).mono hW.size))
  have HBE := Lib.hid (fun (W : World) (hW : Below w.heap.size w W) => below_any (shortOf M.levers ((lev + 1) % 3)) (shortOf M.levers ((lev + 2) % 3)) av mv sv (p.2 / a + 1) W (by omega) (by omega) (by omega) ((hless.below hW).mono hW.size))
  obtain ⟨⟨_, _, _, _, _, _⟩, _, ⟨_, c13, c14, c15⟩, c16, c17, c18, c19⟩ := cells20 hblk
  have HSET := Lib.hid (fun (q : Int × Int) (W : World) (hW : Below w.heap.size w W) => setting_any pb lev hl k a q W (by have := hW.size; omega) ((hW.cell hpbl).trans c13) ((hW.cell hpbl).trans c14) ((hW.cell hpbl).trans c15))
  obtain ⟨fr, hfr⟩ : ∃ fr, fromF (shortOf M.levers ((lev + 1) % 3)) (shortOf M.levers ((lev + 2) % 3)) a p = fr := ⟨_, rfl⟩
  obtain ⟨en, hen⟩ : ∃ en, endF (shortOf M.levers ((lev + 1) % 3)) (shortOf M.levers ((lev + 2) % 3)) a p = en := ⟨_, rfl⟩
  obtain ⟨LE, hLE⟩ : ∃ LE, (shortOf M.levers ((lev + 1) % 3)).1 * (shortOf M.levers ((lev + 2) % 3)).1 = LE := ⟨_, rfl⟩
  obtain ⟨U, hU⟩ : ∃ U, upD p.1 a = U := ⟨_, rfl⟩
  have hfr' : posTo (wayN (shortOf M.levers ((lev + 1) % 3)) (shortOf M.levers ((lev + 2) % 3))) (clampN (shortOf M.levers ((lev + 1) % 3)) (shortOf M.levers ((lev + 2) % 3)) (upD p.1 a)) = fr := hfr
  have hen' : posTo (wayN (shortOf M.levers ((lev + 1) % 3)) (shortOf M.levers ((lev + 2) % 3))) (clampN (shortOf M.levers ((lev + 1) % 3)) (shortOf M.levers ((lev + 2) % 3)) (p.2 / a + 1)) = en := hen
  rw [hfr', hLE, hU] at HBF
  rw [hen', hLE] at HBE
  rw [hU] at HRU hU0 hU1
  rw [hfr, hen] at hgv1 hgv2 hel
  rw [hLE] at c18
  have HP2 := Lib.hid hp
  have qt : p.2.tdiv a = p.2 / a := Int.tdiv_eq_ediv_of_nonneg (by omega)
  have qw : IntKind.i64.wrap (p.2 / a) = p.2 / a := IntWalk.i64_in _ (by omega)
  have qw2 : IntKind.i64.wrap (p.2 / a + 1) = p.2 / a + 1 := IntWalk.i64_in _ (by omega)
  have ha0 : ¬ a = 0 := by omega
  have HGV1 := Lib.hid hgv1
  have HGV2 := Lib.hid hgv2
  have HARM := Lib.hid harm
  have HMANY := Lib.hid hmany
  clear hgv1 hgv2 harm hmany hless hbal hblk hfr' hen' hLE hU c13 c14 c15 hr1 hr2 hr3 hs0
  obtain ⟨p1, p2⟩ := p
  dsimp only at HRU HBF HBE hp hU0 hU1 hQ0 hQ1 qt qw qw2 ⊢
  go_enter Try.func82, Try.ntmps82
  go_wp2_with fail
  obtain ⟨w1, hw1⟩ : ∃ w1, w1 = (w.alloc (.cells #[.int .i64 p1, .int .i64 p2] 24)).alloc (.cells #[.int .i64 0, .int .i64 0, .int .i64 0, .int .i64 0, .int .i64 0, .int .i64 0, .int .i64 0, .int .i64 0, .int .i64 0] 88) := ⟨_, rfl⟩
  have hbw : Below w.heap.size w w1 := by rw [hw1]; go_grown
  have hres : w1.heap[w.heap.size + 1]? = some (.cells #[.int .i64 0, .int .i64 0, .int .i64 0, .int .i64 0, .int .i64 0, .int .i64 0, .int .i64 0, .int .i64 0, .int .i64 0] 88) := by rw [hw1]; exact new2 w _ _
  have hspan : w1.heap[w.heap.size]? = some (.cells #[.int .i64 p1, .int .i64 p2] 24) := by rw [hw1]; exact (Below.heap_alloc _ _ _ (by simp)).trans (heap_new w _)
  rw [← hw1]
  clear hw1
  obtain ⟨s0, s1⟩ := cell2_of hspan
  have k16 := (hbw.cell hpbl).trans c16
  have k17 := (hbw.cell hpbl).trans c17
  have k18 := (hbw.cell hpbl).trans c18
  have k19 := (hbw.cell hpbl).trans c19
  have HBW := Lib.hid hbw
  have HRES := Lib.hid hres
  have HPB := Lib.hid (show pb < w1.heap.size by have := hbw.size; omega)
  have HSB := Lib.hid (heap_lt hspan)
  clear hbw hres hspan c16 c17 c18 c19
  --R1--
  refine wp_region_facts _ 9 [11, 12, 13, 14, 15, 16, 17, 18, 19] [isV (.pointer (some ⟨pb, 0, none⟩)), isV (.pointer (some ⟨pb, 0, none⟩)), isV (.pointer (some ⟨pb, 16, none⟩)), isV (.agg #[av, mv, .int .i64 LE, sv]), isV (.pointer (some ⟨w.heap.size, 0, none⟩)), isV (.int .i64 p1), isV (.int .i64 a), isV (.int .i64 U), isV (.int .i64 (fr : Nat))] (by kernel_rfl) (by kernel_rfl) (by kernel_rfl) rfl (by decide) (by decide) (by simp) ?stepA ?restA
  case stepA =>
    intro i ac W d hi hd hb hoff hdep
    have x16 := (hb.cell (p := ⟨pb, 16, none⟩) HPB.out).trans k16
    have x17 := (hb.cell (p := ⟨pb, 17, none⟩) HPB.out).trans k17
    have x18 := (hb.cell (p := ⟨pb, 18, none⟩) HPB.out).trans k18
    have x19 := (hb.cell (p := ⟨pb, 19, none⟩) HPB.out).trans k19
    have y0 := (hb.cell (p := ⟨w.heap.size, 0, none⟩) HSB.out).trans s0
    have y1 := (hb.cell (p := ⟨w.heap.size, 1, none⟩) HSB.out).trans s1
    have hi2 : i = 0 ∨ i = 1 ∨ i = 2 ∨ i = 3 ∨ i = 4 ∨ i = 5 ∨ i = 6 ∨ i = 7 ∨ i = 8 := by omega
    rcases hi2 with rfl | rfl | rfl | rfl | rfl | rfl | rfl | rfl | rfl
    · obtain rfl : 11 = d := by simpa using hd
      have q0 : ac.tmps[0]?.getD undef = .pointer (some ⟨pb, 0, none⟩) := (eval_tmp _ _).symm.trans <| (hoff 0 (by decide)).trans rfl
      refine fact_value rfl rfl rfl (v := .pointer (some ⟨pb, 0, none⟩)) (W' := W) ?_ (Below.refl _ _) rfl
      simp only [execOp]
      go_simp
    · obtain rfl : 12 = d := by simpa using hd
      have q11 : ac.tmps[11]?.getD undef = .pointer (some ⟨pb, 0, none⟩) := (eval_tmp _ _).symm.trans (hdep 0 11 rfl rfl)
      refine fact_value rfl rfl rfl (v := .pointer (some ⟨pb, 0, none⟩)) (W' := W) ?_ (Below.refl _ _) rfl
      simp only [execOp]
      go_simp
    · obtain rfl : 13 = d := by simpa using hd
      have q12 : ac.tmps[12]?.getD undef = .pointer (some ⟨pb, 0, none⟩) := (eval_tmp _ _).symm.trans (hdep 1 12 rfl rfl)
      refine fact_value rfl rfl rfl (v := .pointer (some ⟨pb, 16, none⟩)) (W' := W) ?_ (Below.refl _ _) rfl
      simp only [execOp]
      go_simp
    · obtain rfl : 14 = d := by simpa using hd
      have q13 : ac.tmps[13]?.getD undef = .pointer (some ⟨pb, 16, none⟩) := (eval_tmp _ _).symm.trans (hdep 2 13 rfl rfl)
      refine fact_value rfl rfl rfl (v := .agg #[av, mv, .int .i64 LE, sv]) (W' := W) ?_ (Below.refl _ _) rfl
      simp only [execOp]
      go_simp
    · obtain rfl : 15 = d := by simpa using hd
      have q7 : ac.tmps[7]?.getD undef = .pointer (some ⟨w.heap.size, 0, none⟩) := (eval_tmp _ _).symm.trans <| (hoff 7 (by decide)).trans rfl
      refine fact_value rfl rfl rfl (v := .pointer (some ⟨w.heap.size, 0, none⟩)) (W' := W) ?_ (Below.refl _ _) rfl
      simp only [execOp]
      go_simp
    · obtain rfl : 16 = d := by simpa using hd
      have q15 : ac.tmps[15]?.getD undef = .pointer (some ⟨w.heap.size, 0, none⟩) := (eval_tmp _ _).symm.trans (hdep 4 15 rfl rfl)
      refine fact_value rfl rfl rfl (v := .int .i64 p1) (W' := W) ?_ (Below.refl _ _) rfl
      simp only [execOp]
      go_simp
    · obtain rfl : 17 = d := by simpa using hd
      have q2 : ac.tmps[2]?.getD undef = .int .i64 a := (eval_tmp _ _).symm.trans <| (hoff 2 (by decide)).trans rfl
      refine fact_value rfl rfl rfl (v := .int .i64 a) (W' := W) ?_ (Below.refl _ _) rfl
      simp only [execOp]
      go_simp
    · obtain rfl : 18 = d := by simpa using hd
      have q16 : ac.tmps[16]?.getD undef = .int .i64 p1 := (eval_tmp _ _).symm.trans (hdep 5 16 rfl rfl)
      have q17 : ac.tmps[17]?.getD undef = .int .i64 a := (eval_tmp _ _).symm.trans (hdep 6 17 rfl rfl)
      refine fact_call rfl rfl rfl (f := 63) (args := #[.int .i64 p1, .int .i64 a]) ?_ ?_
      · simp only [execOp]
        go_simp
      · refine (HRU.out W).mono ?_
        rintro e W' ⟨rfl, rfl⟩
        exact ⟨_, rfl, Below.refl _ _, rfl⟩
    · obtain rfl : 19 = d := by simpa using hd
      have q14 : ac.tmps[14]?.getD undef = .agg #[av, mv, .int .i64 LE, sv] := (eval_tmp _ _).symm.trans (hdep 3 14 rfl rfl)
      have q18 : ac.tmps[18]?.getD undef = .int .i64 U := (eval_tmp _ _).symm.trans (hdep 7 18 rfl rfl)
      refine fact_call rfl rfl rfl (f := 88) (args := #[.agg #[av, mv, .int .i64 LE, sv], .int .i64 U]) ?_ ?_
      · simp only [execOp]
        go_simp
      · refine (HBF.out W (HBW.out.trans (hb.mono HBW.out.size))).mono ?_
        rintro e W' ⟨rfl, hbk⟩
        exact ⟨_, rfl, hbk, rfl⟩
  case restA =>
    intro vs W1 hvl hb1 hval
    obtain ⟨l0, l1, l2, l3, l4, l5, l6, l7, l8, rfl⟩ : ∃ l0 l1 l2 l3 l4 l5 l6 l7 l8, vs = [l0, l1, l2, l3, l4, l5, l6, l7, l8] := by
      match vs, hvl with
      | [l0, l1, l2, l3, l4, l5, l6, l7, l8], _ => exact ⟨l0, l1, l2, l3, l4, l5, l6, l7, l8, rfl⟩
    obtain rfl : l0 = .pointer (some ⟨pb, 0, none⟩) := by obtain ⟨u, e, h⟩ := hval 0 (by omega); have e2 : some l0 = some u := e; injection e2 with e2; subst e2; exact h
    obtain rfl : l1 = .pointer (some ⟨pb, 0, none⟩) := by obtain ⟨u, e, h⟩ := hval 1 (by omega); have e2 : some l1 = some u := e; injection e2 with e2; subst e2; exact h
    obtain rfl : l2 = .pointer (some ⟨pb, 16, none⟩) := by obtain ⟨u, e, h⟩ := hval 2 (by omega); have e2 : some l2 = some u := e; injection e2 with e2; subst e2; exact h
    obtain rfl : l3 = .agg #[av, mv, .int .i64 LE, sv] := by obtain ⟨u, e, h⟩ := hval 3 (by omega); have e2 : some l3 = some u := e; injection e2 with e2; subst e2; exact h
    obtain rfl : l4 = .pointer (some ⟨w.heap.size, 0, none⟩) := by obtain ⟨u, e, h⟩ := hval 4 (by omega); have e2 : some l4 = some u := e; injection e2 with e2; subst e2; exact h
    obtain rfl : l5 = .int .i64 p1 := by obtain ⟨u, e, h⟩ := hval 5 (by omega); have e2 : some l5 = some u := e; injection e2 with e2; subst e2; exact h
    obtain rfl : l6 = .int .i64 a := by obtain ⟨u, e, h⟩ := hval 6 (by omega); have e2 : some l6 = some u := e; injection e2 with e2; subst e2; exact h
    obtain rfl : l7 = .int .i64 U := by obtain ⟨u, e, h⟩ := hval 7 (by omega); have e2 : some l7 = some u := e; injection e2 with e2; subst e2; exact h
    obtain rfl : l8 = .int .i64 (fr : Nat) := by obtain ⟨u, e, h⟩ := hval 8 (by omega); have e2 : some l8 = some u := e; injection e2 with e2; subst e2; exact h
    clear hval hvl
    simp only [putL, Act.put, List.drop, List.setIfInBounds_toArray, List.set_cons_zero, List.set_cons_succ]
  --E1--
    have HBW1 := Lib.hid (HBW.out.trans (hb1.mono HBW.out.size))
    have HPB1 := Lib.hid (show pb < W1.heap.size by have := hb1.size; have := HPB.out; omega)
    have HSB1 := Lib.hid (show w.heap.size < W1.heap.size by have := hb1.size; have := HSB.out; omega)
    have HRES1 := Lib.hid ((hb1.block _ (heap_lt HRES.out)).trans HRES.out)
    replace k16 := (hb1.cell (p := ⟨pb, 16, none⟩) HPB.out).trans k16
    replace k17 := (hb1.cell (p := ⟨pb, 17, none⟩) HPB.out).trans k17
    replace k18 := (hb1.cell (p := ⟨pb, 18, none⟩) HPB.out).trans k18
    replace k19 := (hb1.cell (p := ⟨pb, 19, none⟩) HPB.out).trans k19
    replace s0 := (hb1.cell (p := ⟨w.heap.size, 0, none⟩) HSB.out).trans s0
    replace s1 := (hb1.cell (p := ⟨w.heap.size, 1, none⟩) HSB.out).trans s1
    clear HPB HSB HBW HRES hb1
    have HPB := HPB1
    have HSB := HSB1
    have HBW := HBW1
    have HRES := HRES1
    clear HPB1 HSB1 HBW1 HRES1
    go_upto_region 2 with fail
    --R2--
    refine wp_region_facts _ 10 [20, 21, 22, 23, 24, 25, 26, 27, 28, 29] [isV (.pointer (some ⟨pb, 0, none⟩)), isV (.pointer (some ⟨pb, 0, none⟩)), isV (.pointer (some ⟨pb, 16, none⟩)), isV (.agg #[av, mv, .int .i64 LE, sv]), isV (.pointer (some ⟨w.heap.size, 1, none⟩)), isV (.int .i64 p2), isV (.int .i64 a), isV (.int .i64 (p2 / a)), isV (.int .i64 (p2 / a + 1)), isV (.int .i64 (en : Nat))] (by kernel_rfl) (by kernel_rfl) (by kernel_rfl) rfl (by decide) (by decide) (by simp) ?stepB ?restB
    case stepB =>
      intro i ac W d hi hd hb hoff hdep
      have x16 := (hb.cell (p := ⟨pb, 16, none⟩) HPB.out).trans k16
      have x17 := (hb.cell (p := ⟨pb, 17, none⟩) HPB.out).trans k17
      have x18 := (hb.cell (p := ⟨pb, 18, none⟩) HPB.out).trans k18
      have x19 := (hb.cell (p := ⟨pb, 19, none⟩) HPB.out).trans k19
      have y0 := (hb.cell (p := ⟨w.heap.size, 0, none⟩) HSB.out).trans s0
      have y1 := (hb.cell (p := ⟨w.heap.size, 1, none⟩) HSB.out).trans s1
      have hi2 : i = 0 ∨ i = 1 ∨ i = 2 ∨ i = 3 ∨ i = 4 ∨ i = 5 ∨ i = 6 ∨ i = 7 ∨ i = 8 ∨ i = 9 := by omega
      rcases hi2 with rfl | rfl | rfl | rfl | rfl | rfl | rfl | rfl | rfl | rfl
      · obtain rfl : 20 = d := by simpa using hd
        have q0 : ac.tmps[0]?.getD undef = .pointer (some ⟨pb, 0, none⟩) := (eval_tmp _ _).symm.trans <| (hoff 0 (by decide)).trans rfl
        refine fact_value rfl rfl rfl (v := .pointer (some ⟨pb, 0, none⟩)) (W' := W) ?_ (Below.refl _ _) rfl
        simp only [execOp]
        go_simp
      · obtain rfl : 21 = d := by simpa using hd
        have q20 : ac.tmps[20]?.getD undef = .pointer (some ⟨pb, 0, none⟩) := (eval_tmp _ _).symm.trans (hdep 0 20 rfl rfl)
        refine fact_value rfl rfl rfl (v := .pointer (some ⟨pb, 0, none⟩)) (W' := W) ?_ (Below.refl _ _) rfl
        simp only [execOp]
        go_simp
      · obtain rfl : 22 = d := by simpa using hd
        have q21 : ac.tmps[21]?.getD undef = .pointer (some ⟨pb, 0, none⟩) := (eval_tmp _ _).symm.trans (hdep 1 21 rfl rfl)
        refine fact_value rfl rfl rfl (v := .pointer (some ⟨pb, 16, none⟩)) (W' := W) ?_ (Below.refl _ _) rfl
        simp only [execOp]
        go_simp
      · obtain rfl : 23 = d := by simpa using hd
        have q22 : ac.tmps[22]?.getD undef = .pointer (some ⟨pb, 16, none⟩) := (eval_tmp _ _).symm.trans (hdep 2 22 rfl rfl)
        refine fact_value rfl rfl rfl (v := .agg #[av, mv, .int .i64 LE, sv]) (W' := W) ?_ (Below.refl _ _) rfl
        simp only [execOp]
        go_simp
      · obtain rfl : 24 = d := by simpa using hd
        have q7 : ac.tmps[7]?.getD undef = .pointer (some ⟨w.heap.size, 0, none⟩) := (eval_tmp _ _).symm.trans <| (hoff 7 (by decide)).trans rfl
        refine fact_value rfl rfl rfl (v := .pointer (some ⟨w.heap.size, 1, none⟩)) (W' := W) ?_ (Below.refl _ _) rfl
        simp only [execOp]
        go_simp
      · obtain rfl : 25 = d := by simpa using hd
        have q24 : ac.tmps[24]?.getD undef = .pointer (some ⟨w.heap.size, 1, none⟩) := (eval_tmp _ _).symm.trans (hdep 4 24 rfl rfl)
        refine fact_value rfl rfl rfl (v := .int .i64 p2) (W' := W) ?_ (Below.refl _ _) rfl
        simp only [execOp]
        go_simp
      · obtain rfl : 26 = d := by simpa using hd
        have q2 : ac.tmps[2]?.getD undef = .int .i64 a := (eval_tmp _ _).symm.trans <| (hoff 2 (by decide)).trans rfl
        refine fact_value rfl rfl rfl (v := .int .i64 a) (W' := W) ?_ (Below.refl _ _) rfl
        simp only [execOp]
        go_simp
      · obtain rfl : 27 = d := by simpa using hd
        have q25 : ac.tmps[25]?.getD undef = .int .i64 p2 := (eval_tmp _ _).symm.trans (hdep 5 25 rfl rfl)
        have q26 : ac.tmps[26]?.getD undef = .int .i64 a := (eval_tmp _ _).symm.trans (hdep 6 26 rfl rfl)
        refine fact_value rfl rfl rfl (v := .int .i64 (p2 / a)) (W' := W) ?_ (Below.refl _ _) rfl
        simp only [execOp]
        go_simp
      · obtain rfl : 28 = d := by simpa using hd
        have q27 : ac.tmps[27]?.getD undef = .int .i64 (p2 / a) := (eval_tmp _ _).symm.trans (hdep 7 27 rfl rfl)
        refine fact_value rfl rfl rfl (v := .int .i64 (p2 / a + 1)) (W' := W) ?_ (Below.refl _ _) rfl
        simp only [execOp]
        go_simp
      · obtain rfl : 29 = d := by simpa using hd
        have q23 : ac.tmps[23]?.getD undef = .agg #[av, mv, .int .i64 LE, sv] := (eval_tmp _ _).symm.trans (hdep 3 23 rfl rfl)
        have q28 : ac.tmps[28]?.getD undef = .int .i64 (p2 / a + 1) := (eval_tmp _ _).symm.trans (hdep 8 28 rfl rfl)
        refine fact_call rfl rfl rfl (f := 88) (args := #[.agg #[av, mv, .int .i64 LE, sv], .int .i64 (p2 / a + 1)]) ?_ ?_
        · simp only [execOp]
          go_simp
        · refine (HBE.out W (HBW.out.trans (hb.mono HBW.out.size))).mono ?_
          rintro e W' ⟨rfl, hbk⟩
          exact ⟨_, rfl, hbk, rfl⟩
    case restB =>
      intro vs W2 hvl hb2 hval
      obtain ⟨m0, m1, m2, m3, m4, m5, m6, m7, m8, m9, rfl⟩ : ∃ m0 m1 m2 m3 m4 m5 m6 m7 m8 m9, vs = [m0, m1, m2, m3, m4, m5, m6, m7, m8, m9] := by
        match vs, hvl with
        | [m0, m1, m2, m3, m4, m5, m6, m7, m8, m9], _ => exact ⟨m0, m1, m2, m3, m4, m5, m6, m7, m8, m9, rfl⟩
      obtain rfl : m0 = .pointer (some ⟨pb, 0, none⟩) := by obtain ⟨u, e, h⟩ := hval 0 (by omega); have e2 : some m0 = some u := e; injection e2 with e2; subst e2; exact h
      obtain rfl : m1 = .pointer (some ⟨pb, 0, none⟩) := by obtain ⟨u, e, h⟩ := hval 1 (by omega); have e2 : some m1 = some u := e; injection e2 with e2; subst e2; exact h
      obtain rfl : m2 = .pointer (some ⟨pb, 16, none⟩) := by obtain ⟨u, e, h⟩ := hval 2 (by omega); have e2 : some m2 = some u := e; injection e2 with e2; subst e2; exact h
      obtain rfl : m3 = .agg #[av, mv, .int .i64 LE, sv] := by obtain ⟨u, e, h⟩ := hval 3 (by omega); have e2 : some m3 = some u := e; injection e2 with e2; subst e2; exact h
      obtain rfl : m4 = .pointer (some ⟨w.heap.size, 1, none⟩) := by obtain ⟨u, e, h⟩ := hval 4 (by omega); have e2 : some m4 = some u := e; injection e2 with e2; subst e2; exact h
      obtain rfl : m5 = .int .i64 p2 := by obtain ⟨u, e, h⟩ := hval 5 (by omega); have e2 : some m5 = some u := e; injection e2 with e2; subst e2; exact h
      obtain rfl : m6 = .int .i64 a := by obtain ⟨u, e, h⟩ := hval 6 (by omega); have e2 : some m6 = some u := e; injection e2 with e2; subst e2; exact h
      obtain rfl : m7 = .int .i64 (p2 / a) := by obtain ⟨u, e, h⟩ := hval 7 (by omega); have e2 : some m7 = some u := e; injection e2 with e2; subst e2; exact h
      obtain rfl : m8 = .int .i64 (p2 / a + 1) := by obtain ⟨u, e, h⟩ := hval 8 (by omega); have e2 : some m8 = some u := e; injection e2 with e2; subst e2; exact h
      obtain rfl : m9 = .int .i64 (en : Nat) := by obtain ⟨u, e, h⟩ := hval 9 (by omega); have e2 : some m9 = some u := e; injection e2 with e2; subst e2; exact h
      clear hval hvl
      simp only [putL, Act.put, List.drop, List.setIfInBounds_toArray, List.set_cons_zero, List.set_cons_succ]
    --E2--
      have HBW2 := Lib.hid (HBW.out.trans (hb2.mono HBW.out.size))
      have HPB2 := Lib.hid (show pb < W2.heap.size by have := hb2.size; have := HPB.out; omega)
      have HRES2 := Lib.hid ((hb2.block _ (heap_lt HRES.out)).trans HRES.out)
      replace k16 := (hb2.cell (p := ⟨pb, 16, none⟩) HPB.out).trans k16
      replace k17 := (hb2.cell (p := ⟨pb, 17, none⟩) HPB.out).trans k17
      clear HPB HSB HBW HRES hb2 k18 k19 s0 s1
      have HPB := HPB2
      have HBW := HBW2
      have HRES := HRES2
      clear HPB2 HBW2 HRES2
      have hszw2 := HBW.out.size
      by_cases hlt : fr < en
      · have hlt' : ((fr : Nat) : Int) < ((en : Nat) : Int) := by omega
        have hg0 : 0 < groupN (shortOf M.levers ((lev + 1) % 3)) (shortOf M.levers ((lev + 2) % 3)) a (p1, p2) := HGV1.out.2 hlt
        obtain ⟨hqa, hqd, hgn, hml1, hml2⟩ := HGV2.out hg0
        obtain ⟨e1, he1⟩ : ∃ e : Nat, en = e + 1 := ⟨en - 1, by omega⟩
        obtain ⟨qa, hqae⟩ : ∃ q, (armsOf (shortOf M.levers ((lev + 1) % 3)) (shortOf M.levers ((lev + 2) % 3))).getD fr (0, 0) = q := ⟨_, rfl⟩
        obtain ⟨qd, hqde⟩ : ∃ q, (armsOf (shortOf M.levers ((lev + 1) % 3)) (shortOf M.levers ((lev + 2) % 3))).getD e1 (0, 0) = q := ⟨_, rfl⟩
        rw [hqae] at hqa
        rw [he1, Nat.add_sub_cancel, hqde] at hqd
        obtain ⟨ab, aoff, acap, rfl, hab, ha0c, ha1c⟩ := HARM.out.at (i := fr) (by omega)
        obtain ⟨ab', aoff', acap', hav', hab', ha2c, ha3c⟩ := HARM.out.at (i := e1) (by omega)
        injection hav' with hav' _ _
        injection hav' with hav'
        injection hav' with hav1 hav2
        subst hav1 hav2
        rw [hqae] at ha0c ha1c
        rw [hqde] at ha2c ha3c
        obtain ⟨ma, mcap, mb, moff, rfl, hmln, HMA, HMC, _⟩ := HMANY.out.opened
        obtain ⟨rfl, hmb⟩ := HMA.out (by omega)
        have hm0c := HMC.out en hml1
        have hm1c := HMC.out fr hml2
        obtain ⟨s2, hs2⟩ : ∃ x, nth (manyI (shortOf M.levers ((lev + 1) % 3)) (shortOf M.levers ((lev + 2) % 3))) en = x := ⟨_, rfl⟩
        obtain ⟨s1, hs1⟩ : ∃ x, nth (manyI (shortOf M.levers ((lev + 1) % 3)) (shortOf M.levers ((lev + 2) % 3))) fr = x := ⟨_, rfl⟩
        obtain ⟨gn, hgnn⟩ : ∃ n, groupN (shortOf M.levers ((lev + 1) % 3)) (shortOf M.levers ((lev + 2) % 3)) a (p1, p2) = n := ⟨_, rfl⟩
        rw [hs2] at hm0c hgn
        rw [hs1] at hm1c hgn
        rw [hgnn] at hgn hgl hg0
        have hgw : IntKind.i64.wrap (s2 - s1) = (gn : Int) := by rw [hgn]; exact IntWalk.i64_in _ (by omega)
        have hgw2 : wrap64 (s2 - s1) = (gn : Int) := by rw [hgn]; exact wrap_in (by omega)
        have a0 := (HBW.out.cell (p := ⟨ab, aoff + fr * 2, none⟩) hab).trans ha0c
        have a1 := (HBW.out.cell (p := ⟨ab, aoff + fr * 2 + 1, none⟩) hab).trans ha1c
        have a2 := (HBW.out.cell (p := ⟨ab, aoff + e1 * 2, none⟩) hab).trans ha2c
        have a3 := (HBW.out.cell (p := ⟨ab, aoff + e1 * 2 + 1, none⟩) hab).trans ha3c
        have m0 := (HBW.out.cell (p := ⟨mb, moff + en, none⟩) hmb).trans hm0c
        have m1 := (HBW.out.cell (p := ⟨mb, moff + fr, none⟩) hmb).trans hm1c
        have HAB := Lib.hid (show ab < W2.heap.size by omega)
        have HMB := Lib.hid (show mb < W2.heap.size by omega)
        obtain ⟨an, han⟩ : ∃ n, (armsOf (shortOf M.levers ((lev + 1) % 3)) (shortOf M.levers ((lev + 2) % 3))).length = n := ⟨_, rfl⟩
        obtain ⟨mn, hmn⟩ : ∃ n, (manyI (shortOf M.levers ((lev + 1) % 3)) (shortOf M.levers ((lev + 2) % 3))).length = n := ⟨_, rfl⟩
        rw [han] at k16 hel hal
        rw [hmn] at k17 hml1 hml2 hmln
        have w1a : ((fr : Nat) : Int) < (an : Int) := by omega
        have w1b : ((e1 : Nat) : Int) < (an : Int) := by omega
        have w1c : ((en : Nat) : Int) < (mn : Int) := by omega
        have w1d : ((fr : Nat) : Int) < (mn : Int) := by omega
        have w1e : ((en : Nat) : Int) - 1 = (e1 : Int) := by omega
        have w1g : IntKind.i64.wrap (e1 : Int) = (e1 : Int) := IntWalk.i64_in _ (by omega)
        have w1f : (0 : Int) ≤ (fr : Int) ∧ (0 : Int) ≤ (en : Int) ∧ (0 : Int) ≤ (e1 : Int) := by omega
        have HVAL := Lib.hid (show grpV M lev (grpAt (shortOf M.levers ((lev + 1) % 3)) (shortOf M.levers ((lev + 2) % 3)) k (p1, p2) a) = .agg #[.int .i64 (armOf lev a qa 0), .int .i64 (armOf lev a qa 1), .int .i64 (armOf lev a qa 2), .int .i64 k, .int .i64 (armOf lev a qd 0), .int .i64 (armOf lev a qd 1), .int .i64 (armOf lev a qd 2), .int .i64 k, .int .i64 (gn : Nat)] by
          unfold grpV grpAt
          dsimp only
          rw [← hqa, ← hqd, hgnn])
        have HG0 := Lib.hid hgnn
        have hg0' := hg0
        clear hqa hqd hgn hab hab' ha0c ha1c ha2c ha3c hmb hm0c hm1c hs1 hs2 hgnn hqae hqde he1 han hmn HMA HMC HARM HMANY HGV1 HGV2
        go_upto_region 5 with fail
        --R5--
        refine wp_region_facts _ 43 [34, 35, 36, 37, 38, 39, 40, 41, 42, 43, 44, 45, 46, 47, 48, 49, 50, 51, 52, 53, 54, 55, 56, 57, 58, 59, 60, 61, 62, 63, 64, 65, 66, 67, 68, 69, 70, 71, 72, 73, 74, 75, 76] [isV (.pointer (some ⟨pb, 0, none⟩)), isV (.int .i64 k), isV (.int .i64 a), isV (.pointer (some ⟨pb, 0, none⟩)), isV (.pointer (some ⟨pb, 0, none⟩)), isV (.pointer (some ⟨pb, 16, none⟩)), isV (.pointer (some ⟨pb, 16, none⟩)), isV (.slice (some ⟨ab, aoff, none⟩) an acap), isV (.int .i64 (fr : Nat)), isV (.pointer (some ⟨ab, aoff + fr * 2, none⟩)), isV (.agg #[.int .i64 qa.1, .int .i64 qa.2]), isV (.agg #[.int .i64 (armOf lev a qa 0), .int .i64 (armOf lev a qa 1), .int .i64 (armOf lev a qa 2), .int .i64 k]), isV (.pointer (some ⟨pb, 0, none⟩)), isV (.int .i64 k), isV (.int .i64 a), isV (.pointer (some ⟨pb, 0, none⟩)), isV (.pointer (some ⟨pb, 0, none⟩)), isV (.pointer (some ⟨pb, 16, none⟩)), isV (.pointer (some ⟨pb, 16, none⟩)), isV (.slice (some ⟨ab, aoff, none⟩) an acap), isV (.int .i64 (en : Nat)), isV (.int .i64 (e1 : Nat)), isV (.pointer (some ⟨ab, aoff + e1 * 2, none⟩)), isV (.agg #[.int .i64 qd.1, .int .i64 qd.2]), isV (.agg #[.int .i64 (armOf lev a qd 0), .int .i64 (armOf lev a qd 1), .int .i64 (armOf lev a qd 2), .int .i64 k]), isV (.pointer (some ⟨pb, 0, none⟩)), isV (.pointer (some ⟨pb, 0, none⟩)), isV (.pointer (some ⟨pb, 16, none⟩)), isV (.pointer (some ⟨pb, 17, none⟩)), isV (.slice (some ⟨mb, moff, none⟩) mn mcap), isV (.int .i64 (en : Nat)), isV (.pointer (some ⟨mb, moff + en, none⟩)), isV (.int .i64 s2), isV (.pointer (some ⟨pb, 0, none⟩)), isV (.pointer (some ⟨pb, 0, none⟩)), isV (.pointer (some ⟨pb, 16, none⟩)), isV (.pointer (some ⟨pb, 17, none⟩)), isV (.slice (some ⟨mb, moff, none⟩) mn mcap), isV (.int .i64 (fr : Nat)), isV (.pointer (some ⟨mb, moff + fr, none⟩)), isV (.int .i64 s1), isV (.int .i64 (gn : Nat)), isV (.agg #[.int .i64 (armOf lev a qa 0), .int .i64 (armOf lev a qa 1), .int .i64 (armOf lev a qa 2), .int .i64 k, .int .i64 (armOf lev a qd 0), .int .i64 (armOf lev a qd 1), .int .i64 (armOf lev a qd 2), .int .i64 k, .int .i64 (gn : Nat)])] (by kernel_rfl) (by kernel_rfl) (by kernel_rfl) rfl (by decide) (by decide) (by simp) ?stepC ?restC
        case stepC =>
          intro i ac W d hi hd hb hoff hdep
          have x16 := (hb.cell (p := ⟨pb, 16, none⟩) HPB.out).trans k16
          have x17 := (hb.cell (p := ⟨pb, 17, none⟩) HPB.out).trans k17
          have z0 := (hb.cell (p := ⟨ab, aoff + fr * 2, none⟩) HAB.out).trans a0
          have z1 := (hb.cell (p := ⟨ab, aoff + fr * 2 + 1, none⟩) HAB.out).trans a1
          have z2 := (hb.cell (p := ⟨ab, aoff + e1 * 2, none⟩) HAB.out).trans a2
          have z3 := (hb.cell (p := ⟨ab, aoff + e1 * 2 + 1, none⟩) HAB.out).trans a3
          have z4 := (hb.cell (p := ⟨mb, moff + en, none⟩) HMB.out).trans m0
          have z5 := (hb.cell (p := ⟨mb, moff + fr, none⟩) HMB.out).trans m1
          have hi2 : i = 0 ∨ i = 1 ∨ i = 2 ∨ i = 3 ∨ i = 4 ∨ i = 5 ∨ i = 6 ∨ i = 7 ∨ i = 8 ∨ i = 9 ∨ i = 10 ∨ i = 11 ∨ i = 12 ∨ i = 13 ∨ i = 14 ∨ i = 15 ∨ i = 16 ∨ i = 17 ∨ i = 18 ∨ i = 19 ∨ i = 20 ∨ i = 21 ∨ i = 22 ∨ i = 23 ∨ i = 24 ∨ i = 25 ∨ i = 26 ∨ i = 27 ∨ i = 28 ∨ i = 29 ∨ i = 30 ∨ i = 31 ∨ i = 32 ∨ i = 33 ∨ i = 34 ∨ i = 35 ∨ i = 36 ∨ i = 37 ∨ i = 38 ∨ i = 39 ∨ i = 40 ∨ i = 41 ∨ i = 42 := by omega
          rcases hi2 with rfl | rfl | rfl | rfl | rfl | rfl | rfl | rfl | rfl | rfl | rfl | rfl | rfl | rfl | rfl | rfl | rfl | rfl | rfl | rfl | rfl | rfl | rfl | rfl | rfl | rfl | rfl | rfl | rfl | rfl | rfl | rfl | rfl | rfl | rfl | rfl | rfl | rfl | rfl | rfl | rfl | rfl | rfl
          · obtain rfl : 34 = d := by simpa using hd
            have q0 : ac.tmps[0]?.getD undef = .pointer (some ⟨pb, 0, none⟩) := (eval_tmp _ _).symm.trans <| (hoff 0 (by decide)).trans rfl
            refine fact_value rfl rfl rfl (v := .pointer (some ⟨pb, 0, none⟩)) (W' := W) ?_ (Below.refl _ _) rfl
            simp only [execOp]
            go_simp
          · obtain rfl : 35 = d := by simpa using hd
            have q1 : ac.tmps[1]?.getD undef = .int .i64 k := (eval_tmp _ _).symm.trans <| (hoff 1 (by decide)).trans rfl
            refine fact_value rfl rfl rfl (v := .int .i64 k) (W' := W) ?_ (Below.refl _ _) rfl
            simp only [execOp]
            go_simp
          · obtain rfl : 36 = d := by simpa using hd
            have q2 : ac.tmps[2]?.getD undef = .int .i64 a := (eval_tmp _ _).symm.trans <| (hoff 2 (by decide)).trans rfl
            refine fact_value rfl rfl rfl (v := .int .i64 a) (W' := W) ?_ (Below.refl _ _) rfl
            simp only [execOp]
            go_simp
          · obtain rfl : 37 = d := by simpa using hd
            have q0 : ac.tmps[0]?.getD undef = .pointer (some ⟨pb, 0, none⟩) := (eval_tmp _ _).symm.trans <| (hoff 0 (by decide)).trans rfl
            refine fact_value rfl rfl rfl (v := .pointer (some ⟨pb, 0, none⟩)) (W' := W) ?_ (Below.refl _ _) rfl
            simp only [execOp]
            go_simp
          · obtain rfl : 38 = d := by simpa using hd
            have q37 : ac.tmps[37]?.getD undef = .pointer (some ⟨pb, 0, none⟩) := (eval_tmp _ _).symm.trans (hdep 3 37 rfl rfl)
            refine fact_value rfl rfl rfl (v := .pointer (some ⟨pb, 0, none⟩)) (W' := W) ?_ (Below.refl _ _) rfl
            simp only [execOp]
            go_simp
          · obtain rfl : 39 = d := by simpa using hd
            have q38 : ac.tmps[38]?.getD undef = .pointer (some ⟨pb, 0, none⟩) := (eval_tmp _ _).symm.trans (hdep 4 38 rfl rfl)
            refine fact_value rfl rfl rfl (v := .pointer (some ⟨pb, 16, none⟩)) (W' := W) ?_ (Below.refl _ _) rfl
            simp only [execOp]
            go_simp
          · obtain rfl : 40 = d := by simpa using hd
            have q39 : ac.tmps[39]?.getD undef = .pointer (some ⟨pb, 16, none⟩) := (eval_tmp _ _).symm.trans (hdep 5 39 rfl rfl)
            refine fact_value rfl rfl rfl (v := .pointer (some ⟨pb, 16, none⟩)) (W' := W) ?_ (Below.refl _ _) rfl
            simp only [execOp]
            go_simp
          · obtain rfl : 41 = d := by simpa using hd
            have q40 : ac.tmps[40]?.getD undef = .pointer (some ⟨pb, 16, none⟩) := (eval_tmp _ _).symm.trans (hdep 6 40 rfl rfl)
            refine fact_value rfl rfl rfl (v := .slice (some ⟨ab, aoff, none⟩) an acap) (W' := W) ?_ (Below.refl _ _) rfl
            simp only [execOp]
            go_simp
          · obtain rfl : 42 = d := by simpa using hd
            have q9 : ac.tmps[9]?.getD undef = .int .i64 (fr : Nat) := (eval_tmp _ _).symm.trans <| (hoff 9 (by decide)).trans rfl
            refine fact_value rfl rfl rfl (v := .int .i64 (fr : Nat)) (W' := W) ?_ (Below.refl _ _) rfl
            simp only [execOp]
            go_simp
          · obtain rfl : 43 = d := by simpa using hd
            have q41 : ac.tmps[41]?.getD undef = .slice (some ⟨ab, aoff, none⟩) an acap := (eval_tmp _ _).symm.trans (hdep 7 41 rfl rfl)
            have q42 : ac.tmps[42]?.getD undef = .int .i64 (fr : Nat) := (eval_tmp _ _).symm.trans (hdep 8 42 rfl rfl)
            refine fact_value rfl rfl rfl (v := .pointer (some ⟨ab, aoff + fr * 2, none⟩)) (W' := W) ?_ (Below.refl _ _) rfl
            simp only [execOp]
            go_simp
          · obtain rfl : 44 = d := by simpa using hd
            have q43 : ac.tmps[43]?.getD undef = .pointer (some ⟨ab, aoff + fr * 2, none⟩) := (eval_tmp _ _).symm.trans (hdep 9 43 rfl rfl)
            refine fact_value rfl rfl rfl (v := .agg #[.int .i64 qa.1, .int .i64 qa.2]) (W' := W) ?_ (Below.refl _ _) rfl
            simp only [execOp]
            go_simp
          · obtain rfl : 45 = d := by simpa using hd
            have q34 : ac.tmps[34]?.getD undef = .pointer (some ⟨pb, 0, none⟩) := (eval_tmp _ _).symm.trans (hdep 0 34 rfl rfl)
            have q35 : ac.tmps[35]?.getD undef = .int .i64 k := (eval_tmp _ _).symm.trans (hdep 1 35 rfl rfl)
            have q36 : ac.tmps[36]?.getD undef = .int .i64 a := (eval_tmp _ _).symm.trans (hdep 2 36 rfl rfl)
            have q44 : ac.tmps[44]?.getD undef = .agg #[.int .i64 qa.1, .int .i64 qa.2] := (eval_tmp _ _).symm.trans (hdep 10 44 rfl rfl)
            refine fact_call rfl rfl rfl (f := 89) (args := #[.pointer (some ⟨pb, 0, none⟩), .int .i64 k, .int .i64 a, .agg #[.int .i64 qa.1, .int .i64 qa.2]]) ?_ ?_
            · simp only [execOp]
              go_simp
            · refine (HSET.out qa W (HBW.out.trans (hb.mono HBW.out.size))).mono ?_
              rintro e W' ⟨rfl, hbk⟩
              exact ⟨_, rfl, hbk, rfl⟩
          · obtain rfl : 46 = d := by simpa using hd
            have q0 : ac.tmps[0]?.getD undef = .pointer (some ⟨pb, 0, none⟩) := (eval_tmp _ _).symm.trans <| (hoff 0 (by decide)).trans rfl
            refine fact_value rfl rfl rfl (v := .pointer (some ⟨pb, 0, none⟩)) (W' := W) ?_ (Below.refl _ _) rfl
            simp only [execOp]
            go_simp
          · obtain rfl : 47 = d := by simpa using hd
            have q1 : ac.tmps[1]?.getD undef = .int .i64 k := (eval_tmp _ _).symm.trans <| (hoff 1 (by decide)).trans rfl
            refine fact_value rfl rfl rfl (v := .int .i64 k) (W' := W) ?_ (Below.refl _ _) rfl
            simp only [execOp]
            go_simp
          · obtain rfl : 48 = d := by simpa using hd
            have q2 : ac.tmps[2]?.getD undef = .int .i64 a := (eval_tmp _ _).symm.trans <| (hoff 2 (by decide)).trans rfl
            refine fact_value rfl rfl rfl (v := .int .i64 a) (W' := W) ?_ (Below.refl _ _) rfl
            simp only [execOp]
            go_simp
          · obtain rfl : 49 = d := by simpa using hd
            have q0 : ac.tmps[0]?.getD undef = .pointer (some ⟨pb, 0, none⟩) := (eval_tmp _ _).symm.trans <| (hoff 0 (by decide)).trans rfl
            refine fact_value rfl rfl rfl (v := .pointer (some ⟨pb, 0, none⟩)) (W' := W) ?_ (Below.refl _ _) rfl
            simp only [execOp]
            go_simp
          · obtain rfl : 50 = d := by simpa using hd
            have q49 : ac.tmps[49]?.getD undef = .pointer (some ⟨pb, 0, none⟩) := (eval_tmp _ _).symm.trans (hdep 15 49 rfl rfl)
            refine fact_value rfl rfl rfl (v := .pointer (some ⟨pb, 0, none⟩)) (W' := W) ?_ (Below.refl _ _) rfl
            simp only [execOp]
            go_simp
          · obtain rfl : 51 = d := by simpa using hd
            have q50 : ac.tmps[50]?.getD undef = .pointer (some ⟨pb, 0, none⟩) := (eval_tmp _ _).symm.trans (hdep 16 50 rfl rfl)
            refine fact_value rfl rfl rfl (v := .pointer (some ⟨pb, 16, none⟩)) (W' := W) ?_ (Below.refl _ _) rfl
            simp only [execOp]
            go_simp
          · obtain rfl : 52 = d := by simpa using hd
            have q51 : ac.tmps[51]?.getD undef = .pointer (some ⟨pb, 16, none⟩) := (eval_tmp _ _).symm.trans (hdep 17 51 rfl rfl)
            refine fact_value rfl rfl rfl (v := .pointer (some ⟨pb, 16, none⟩)) (W' := W) ?_ (Below.refl _ _) rfl
            simp only [execOp]
            go_simp
          · obtain rfl : 53 = d := by simpa using hd
            have q52 : ac.tmps[52]?.getD undef = .pointer (some ⟨pb, 16, none⟩) := (eval_tmp _ _).symm.trans (hdep 18 52 rfl rfl)
            refine fact_value rfl rfl rfl (v := .slice (some ⟨ab, aoff, none⟩) an acap) (W' := W) ?_ (Below.refl _ _) rfl
            simp only [execOp]
            go_simp
          · obtain rfl : 54 = d := by simpa using hd
            have q10 : ac.tmps[10]?.getD undef = .int .i64 (en : Nat) := (eval_tmp _ _).symm.trans <| (hoff 10 (by decide)).trans rfl
            refine fact_value rfl rfl rfl (v := .int .i64 (en : Nat)) (W' := W) ?_ (Below.refl _ _) rfl
            simp only [execOp]
            go_simp
          · obtain rfl : 55 = d := by simpa using hd
            have q54 : ac.tmps[54]?.getD undef = .int .i64 (en : Nat) := (eval_tmp _ _).symm.trans (hdep 20 54 rfl rfl)
            refine fact_value rfl rfl rfl (v := .int .i64 (e1 : Nat)) (W' := W) ?_ (Below.refl _ _) rfl
            simp only [execOp]
            go_simp
          · obtain rfl : 56 = d := by simpa using hd
            have q53 : ac.tmps[53]?.getD undef = .slice (some ⟨ab, aoff, none⟩) an acap := (eval_tmp _ _).symm.trans (hdep 19 53 rfl rfl)
            have q55 : ac.tmps[55]?.getD undef = .int .i64 (e1 : Nat) := (eval_tmp _ _).symm.trans (hdep 21 55 rfl rfl)
            refine fact_value rfl rfl rfl (v := .pointer (some ⟨ab, aoff + e1 * 2, none⟩)) (W' := W) ?_ (Below.refl _ _) rfl
            simp only [execOp]
            go_simp
          · obtain rfl : 57 = d := by simpa using hd
            have q56 : ac.tmps[56]?.getD undef = .pointer (some ⟨ab, aoff + e1 * 2, none⟩) := (eval_tmp _ _).symm.trans (hdep 22 56 rfl rfl)
            refine fact_value rfl rfl rfl (v := .agg #[.int .i64 qd.1, .int .i64 qd.2]) (W' := W) ?_ (Below.refl _ _) rfl
            simp only [execOp]
            go_simp
          · obtain rfl : 58 = d := by simpa using hd
            have q46 : ac.tmps[46]?.getD undef = .pointer (some ⟨pb, 0, none⟩) := (eval_tmp _ _).symm.trans (hdep 12 46 rfl rfl)
            have q47 : ac.tmps[47]?.getD undef = .int .i64 k := (eval_tmp _ _).symm.trans (hdep 13 47 rfl rfl)
            have q48 : ac.tmps[48]?.getD undef = .int .i64 a := (eval_tmp _ _).symm.trans (hdep 14 48 rfl rfl)
            have q57 : ac.tmps[57]?.getD undef = .agg #[.int .i64 qd.1, .int .i64 qd.2] := (eval_tmp _ _).symm.trans (hdep 23 57 rfl rfl)
            refine fact_call rfl rfl rfl (f := 89) (args := #[.pointer (some ⟨pb, 0, none⟩), .int .i64 k, .int .i64 a, .agg #[.int .i64 qd.1, .int .i64 qd.2]]) ?_ ?_
            · simp only [execOp]
              go_simp
            · refine (HSET.out qd W (HBW.out.trans (hb.mono HBW.out.size))).mono ?_
              rintro e W' ⟨rfl, hbk⟩
              exact ⟨_, rfl, hbk, rfl⟩
          · obtain rfl : 59 = d := by simpa using hd
            have q0 : ac.tmps[0]?.getD undef = .pointer (some ⟨pb, 0, none⟩) := (eval_tmp _ _).symm.trans <| (hoff 0 (by decide)).trans rfl
            refine fact_value rfl rfl rfl (v := .pointer (some ⟨pb, 0, none⟩)) (W' := W) ?_ (Below.refl _ _) rfl
            simp only [execOp]
            go_simp
          · obtain rfl : 60 = d := by simpa using hd
            have q59 : ac.tmps[59]?.getD undef = .pointer (some ⟨pb, 0, none⟩) := (eval_tmp _ _).symm.trans (hdep 25 59 rfl rfl)
            refine fact_value rfl rfl rfl (v := .pointer (some ⟨pb, 0, none⟩)) (W' := W) ?_ (Below.refl _ _) rfl
            simp only [execOp]
            go_simp
          · obtain rfl : 61 = d := by simpa using hd
            have q60 : ac.tmps[60]?.getD undef = .pointer (some ⟨pb, 0, none⟩) := (eval_tmp _ _).symm.trans (hdep 26 60 rfl rfl)
            refine fact_value rfl rfl rfl (v := .pointer (some ⟨pb, 16, none⟩)) (W' := W) ?_ (Below.refl _ _) rfl
            simp only [execOp]
            go_simp
          · obtain rfl : 62 = d := by simpa using hd
            have q61 : ac.tmps[61]?.getD undef = .pointer (some ⟨pb, 16, none⟩) := (eval_tmp _ _).symm.trans (hdep 27 61 rfl rfl)
            refine fact_value rfl rfl rfl (v := .pointer (some ⟨pb, 17, none⟩)) (W' := W) ?_ (Below.refl _ _) rfl
            simp only [execOp]
            go_simp
          · obtain rfl : 63 = d := by simpa using hd
            have q62 : ac.tmps[62]?.getD undef = .pointer (some ⟨pb, 17, none⟩) := (eval_tmp _ _).symm.trans (hdep 28 62 rfl rfl)
            refine fact_value rfl rfl rfl (v := .slice (some ⟨mb, moff, none⟩) mn mcap) (W' := W) ?_ (Below.refl _ _) rfl
            simp only [execOp]
            go_simp
          · obtain rfl : 64 = d := by simpa using hd
            have q10 : ac.tmps[10]?.getD undef = .int .i64 (en : Nat) := (eval_tmp _ _).symm.trans <| (hoff 10 (by decide)).trans rfl
            refine fact_value rfl rfl rfl (v := .int .i64 (en : Nat)) (W' := W) ?_ (Below.refl _ _) rfl
            simp only [execOp]
            go_simp
          · obtain rfl : 65 = d := by simpa using hd
            have q63 : ac.tmps[63]?.getD undef = .slice (some ⟨mb, moff, none⟩) mn mcap := (eval_tmp _ _).symm.trans (hdep 29 63 rfl rfl)
            have q64 : ac.tmps[64]?.getD undef = .int .i64 (en : Nat) := (eval_tmp _ _).symm.trans (hdep 30 64 rfl rfl)
            refine fact_value rfl rfl rfl (v := .pointer (some ⟨mb, moff + en, none⟩)) (W' := W) ?_ (Below.refl _ _) rfl
            simp only [execOp]
            go_simp
          · obtain rfl : 66 = d := by simpa using hd
            have q65 : ac.tmps[65]?.getD undef = .pointer (some ⟨mb, moff + en, none⟩) := (eval_tmp _ _).symm.trans (hdep 31 65 rfl rfl)
            refine fact_value rfl rfl rfl (v := .int .i64 s2) (W' := W) ?_ (Below.refl _ _) rfl
            simp only [execOp]
            go_simp
          · obtain rfl : 67 = d := by simpa using hd
            have q0 : ac.tmps[0]?.getD undef = .pointer (some ⟨pb, 0, none⟩) := (eval_tmp _ _).symm.trans <| (hoff 0 (by decide)).trans rfl
            refine fact_value rfl rfl rfl (v := .pointer (some ⟨pb, 0, none⟩)) (W' := W) ?_ (Below.refl _ _) rfl
            simp only [execOp]
            go_simp
          · obtain rfl : 68 = d := by simpa using hd
            have q67 : ac.tmps[67]?.getD undef = .pointer (some ⟨pb, 0, none⟩) := (eval_tmp _ _).symm.trans (hdep 33 67 rfl rfl)
            refine fact_value rfl rfl rfl (v := .pointer (some ⟨pb, 0, none⟩)) (W' := W) ?_ (Below.refl _ _) rfl
            simp only [execOp]
            go_simp
          · obtain rfl : 69 = d := by simpa using hd
            have q68 : ac.tmps[68]?.getD undef = .pointer (some ⟨pb, 0, none⟩) := (eval_tmp _ _).symm.trans (hdep 34 68 rfl rfl)
            refine fact_value rfl rfl rfl (v := .pointer (some ⟨pb, 16, none⟩)) (W' := W) ?_ (Below.refl _ _) rfl
            simp only [execOp]
            go_simp
          · obtain rfl : 70 = d := by simpa using hd
            have q69 : ac.tmps[69]?.getD undef = .pointer (some ⟨pb, 16, none⟩) := (eval_tmp _ _).symm.trans (hdep 35 69 rfl rfl)
            refine fact_value rfl rfl rfl (v := .pointer (some ⟨pb, 17, none⟩)) (W' := W) ?_ (Below.refl _ _) rfl
            simp only [execOp]
            go_simp
          · obtain rfl : 71 = d := by simpa using hd
            have q70 : ac.tmps[70]?.getD undef = .pointer (some ⟨pb, 17, none⟩) := (eval_tmp _ _).symm.trans (hdep 36 70 rfl rfl)
            refine fact_value rfl rfl rfl (v := .slice (some ⟨mb, moff, none⟩) mn mcap) (W' := W) ?_ (Below.refl _ _) rfl
            simp only [execOp]
            go_simp
          · obtain rfl : 72 = d := by simpa using hd
            have q9 : ac.tmps[9]?.getD undef = .int .i64 (fr : Nat) := (eval_tmp _ _).symm.trans <| (hoff 9 (by decide)).trans rfl
            refine fact_value rfl rfl rfl (v := .int .i64 (fr : Nat)) (W' := W) ?_ (Below.refl _ _) rfl
            simp only [execOp]
            go_simp
          · obtain rfl : 73 = d := by simpa using hd
            have q71 : ac.tmps[71]?.getD undef = .slice (some ⟨mb, moff, none⟩) mn mcap := (eval_tmp _ _).symm.trans (hdep 37 71 rfl rfl)
            have q72 : ac.tmps[72]?.getD undef = .int .i64 (fr : Nat) := (eval_tmp _ _).symm.trans (hdep 38 72 rfl rfl)
            refine fact_value rfl rfl rfl (v := .pointer (some ⟨mb, moff + fr, none⟩)) (W' := W) ?_ (Below.refl _ _) rfl
            simp only [execOp]
            go_simp
          · obtain rfl : 74 = d := by simpa using hd
            have q73 : ac.tmps[73]?.getD undef = .pointer (some ⟨mb, moff + fr, none⟩) := (eval_tmp _ _).symm.trans (hdep 39 73 rfl rfl)
            refine fact_value rfl rfl rfl (v := .int .i64 s1) (W' := W) ?_ (Below.refl _ _) rfl
            simp only [execOp]
            go_simp
          · obtain rfl : 75 = d := by simpa using hd
            have q66 : ac.tmps[66]?.getD undef = .int .i64 s2 := (eval_tmp _ _).symm.trans (hdep 32 66 rfl rfl)
            have q74 : ac.tmps[74]?.getD undef = .int .i64 s1 := (eval_tmp _ _).symm.trans (hdep 40 74 rfl rfl)
            refine fact_value rfl rfl rfl (v := .int .i64 (gn : Nat)) (W' := W) ?_ (Below.refl _ _) rfl
            simp only [execOp]
            go_simp
          · obtain rfl : 76 = d := by simpa using hd
            have q45 : ac.tmps[45]?.getD undef = .agg #[.int .i64 (armOf lev a qa 0), .int .i64 (armOf lev a qa 1), .int .i64 (armOf lev a qa 2), .int .i64 k] := (eval_tmp _ _).symm.trans (hdep 11 45 rfl rfl)
            have q58 : ac.tmps[58]?.getD undef = .agg #[.int .i64 (armOf lev a qd 0), .int .i64 (armOf lev a qd 1), .int .i64 (armOf lev a qd 2), .int .i64 k] := (eval_tmp _ _).symm.trans (hdep 24 58 rfl rfl)
            have q75 : ac.tmps[75]?.getD undef = .int .i64 (gn : Nat) := (eval_tmp _ _).symm.trans (hdep 41 75 rfl rfl)
            refine fact_value rfl rfl rfl (v := .agg #[.int .i64 (armOf lev a qa 0), .int .i64 (armOf lev a qa 1), .int .i64 (armOf lev a qa 2), .int .i64 k, .int .i64 (armOf lev a qd 0), .int .i64 (armOf lev a qd 1), .int .i64 (armOf lev a qd 2), .int .i64 k, .int .i64 (gn : Nat)]) (W' := W) ?_ (Below.refl _ _) rfl
            simp only [execOp]
            go_simp
        case restC =>
          intro vs W3 hvl hb3 hval
          obtain ⟨n0, tl0, rfl, hl0⟩ := len_more hvl
          obtain ⟨n1, tl1, rfl, hl1⟩ := len_more hl0
          obtain ⟨n2, tl2, rfl, hl2⟩ := len_more hl1
          obtain ⟨n3, tl3, rfl, hl3⟩ := len_more hl2
          obtain ⟨n4, tl4, rfl, hl4⟩ := len_more hl3
          obtain ⟨n5, tl5, rfl, hl5⟩ := len_more hl4
          obtain ⟨n6, tl6, rfl, hl6⟩ := len_more hl5
          obtain ⟨n7, tl7, rfl, hl7⟩ := len_more hl6
          obtain ⟨n8, tl8, rfl, hl8⟩ := len_more hl7
          obtain ⟨n9, tl9, rfl, hl9⟩ := len_more hl8
          obtain ⟨n10, tl10, rfl, hl10⟩ := len_more hl9
          obtain ⟨n11, tl11, rfl, hl11⟩ := len_more hl10
          obtain ⟨n12, tl12, rfl, hl12⟩ := len_more hl11
          obtain ⟨n13, tl13, rfl, hl13⟩ := len_more hl12
          obtain ⟨n14, tl14, rfl, hl14⟩ := len_more hl13
          obtain ⟨n15, tl15, rfl, hl15⟩ := len_more hl14
          obtain ⟨n16, tl16, rfl, hl16⟩ := len_more hl15
          obtain ⟨n17, tl17, rfl, hl17⟩ := len_more hl16
          obtain ⟨n18, tl18, rfl, hl18⟩ := len_more hl17
          obtain ⟨n19, tl19, rfl, hl19⟩ := len_more hl18
          obtain ⟨n20, tl20, rfl, hl20⟩ := len_more hl19
          obtain ⟨n21, tl21, rfl, hl21⟩ := len_more hl20
          obtain ⟨n22, tl22, rfl, hl22⟩ := len_more hl21
          obtain ⟨n23, tl23, rfl, hl23⟩ := len_more hl22
          obtain ⟨n24, tl24, rfl, hl24⟩ := len_more hl23
          obtain ⟨n25, tl25, rfl, hl25⟩ := len_more hl24
          obtain ⟨n26, tl26, rfl, hl26⟩ := len_more hl25
          obtain ⟨n27, tl27, rfl, hl27⟩ := len_more hl26
          obtain ⟨n28, tl28, rfl, hl28⟩ := len_more hl27
          obtain ⟨n29, tl29, rfl, hl29⟩ := len_more hl28
          obtain ⟨n30, tl30, rfl, hl30⟩ := len_more hl29
          obtain ⟨n31, tl31, rfl, hl31⟩ := len_more hl30
          obtain ⟨n32, tl32, rfl, hl32⟩ := len_more hl31
          obtain ⟨n33, tl33, rfl, hl33⟩ := len_more hl32
          obtain ⟨n34, tl34, rfl, hl34⟩ := len_more hl33
          obtain ⟨n35, tl35, rfl, hl35⟩ := len_more hl34
          obtain ⟨n36, tl36, rfl, hl36⟩ := len_more hl35
          obtain ⟨n37, tl37, rfl, hl37⟩ := len_more hl36
          obtain ⟨n38, tl38, rfl, hl38⟩ := len_more hl37
          obtain ⟨n39, tl39, rfl, hl39⟩ := len_more hl38
          obtain ⟨n40, tl40, rfl, hl40⟩ := len_more hl39
          obtain ⟨n41, tl41, rfl, hl41⟩ := len_more hl40
          obtain ⟨n42, tl42, rfl, hl42⟩ := len_more hl41
          obtain rfl := List.length_eq_zero_iff.1 hl42
          clear hl0 hl1 hl2 hl3 hl4 hl5 hl6 hl7 hl8 hl9 hl10 hl11 hl12 hl13 hl14 hl15 hl16 hl17 hl18 hl19 hl20 hl21 hl22 hl23 hl24 hl25 hl26 hl27 hl28 hl29 hl30 hl31 hl32 hl33 hl34 hl35 hl36 hl37 hl38 hl39 hl40 hl41
          obtain rfl : n0 = .pointer (some ⟨pb, 0, none⟩) := by obtain ⟨u, e, h⟩ := hval 0 (by omega); have e2 : some n0 = some u := e; injection e2 with e2; subst e2; exact h
          obtain rfl : n1 = .int .i64 k := by obtain ⟨u, e, h⟩ := hval 1 (by omega); have e2 : some n1 = some u := e; injection e2 with e2; subst e2; exact h
          obtain rfl : n2 = .int .i64 a := by obtain ⟨u, e, h⟩ := hval 2 (by omega); have e2 : some n2 = some u := e; injection e2 with e2; subst e2; exact h
          obtain rfl : n3 = .pointer (some ⟨pb, 0, none⟩) := by obtain ⟨u, e, h⟩ := hval 3 (by omega); have e2 : some n3 = some u := e; injection e2 with e2; subst e2; exact h
          obtain rfl : n4 = .pointer (some ⟨pb, 0, none⟩) := by obtain ⟨u, e, h⟩ := hval 4 (by omega); have e2 : some n4 = some u := e; injection e2 with e2; subst e2; exact h
          obtain rfl : n5 = .pointer (some ⟨pb, 16, none⟩) := by obtain ⟨u, e, h⟩ := hval 5 (by omega); have e2 : some n5 = some u := e; injection e2 with e2; subst e2; exact h
          obtain rfl : n6 = .pointer (some ⟨pb, 16, none⟩) := by obtain ⟨u, e, h⟩ := hval 6 (by omega); have e2 : some n6 = some u := e; injection e2 with e2; subst e2; exact h
          obtain rfl : n7 = .slice (some ⟨ab, aoff, none⟩) an acap := by obtain ⟨u, e, h⟩ := hval 7 (by omega); have e2 : some n7 = some u := e; injection e2 with e2; subst e2; exact h
          obtain rfl : n8 = .int .i64 (fr : Nat) := by obtain ⟨u, e, h⟩ := hval 8 (by omega); have e2 : some n8 = some u := e; injection e2 with e2; subst e2; exact h
          obtain rfl : n9 = .pointer (some ⟨ab, aoff + fr * 2, none⟩) := by obtain ⟨u, e, h⟩ := hval 9 (by omega); have e2 : some n9 = some u := e; injection e2 with e2; subst e2; exact h
          obtain rfl : n10 = .agg #[.int .i64 qa.1, .int .i64 qa.2] := by obtain ⟨u, e, h⟩ := hval 10 (by omega); have e2 : some n10 = some u := e; injection e2 with e2; subst e2; exact h
          obtain rfl : n11 = .agg #[.int .i64 (armOf lev a qa 0), .int .i64 (armOf lev a qa 1), .int .i64 (armOf lev a qa 2), .int .i64 k] := by obtain ⟨u, e, h⟩ := hval 11 (by omega); have e2 : some n11 = some u := e; injection e2 with e2; subst e2; exact h
          obtain rfl : n12 = .pointer (some ⟨pb, 0, none⟩) := by obtain ⟨u, e, h⟩ := hval 12 (by omega); have e2 : some n12 = some u := e; injection e2 with e2; subst e2; exact h
          obtain rfl : n13 = .int .i64 k := by obtain ⟨u, e, h⟩ := hval 13 (by omega); have e2 : some n13 = some u := e; injection e2 with e2; subst e2; exact h
          obtain rfl : n14 = .int .i64 a := by obtain ⟨u, e, h⟩ := hval 14 (by omega); have e2 : some n14 = some u := e; injection e2 with e2; subst e2; exact h
          obtain rfl : n15 = .pointer (some ⟨pb, 0, none⟩) := by obtain ⟨u, e, h⟩ := hval 15 (by omega); have e2 : some n15 = some u := e; injection e2 with e2; subst e2; exact h
          obtain rfl : n16 = .pointer (some ⟨pb, 0, none⟩) := by obtain ⟨u, e, h⟩ := hval 16 (by omega); have e2 : some n16 = some u := e; injection e2 with e2; subst e2; exact h
          obtain rfl : n17 = .pointer (some ⟨pb, 16, none⟩) := by obtain ⟨u, e, h⟩ := hval 17 (by omega); have e2 : some n17 = some u := e; injection e2 with e2; subst e2; exact h
          obtain rfl : n18 = .pointer (some ⟨pb, 16, none⟩) := by obtain ⟨u, e, h⟩ := hval 18 (by omega); have e2 : some n18 = some u := e; injection e2 with e2; subst e2; exact h
          obtain rfl : n19 = .slice (some ⟨ab, aoff, none⟩) an acap := by obtain ⟨u, e, h⟩ := hval 19 (by omega); have e2 : some n19 = some u := e; injection e2 with e2; subst e2; exact h
          obtain rfl : n20 = .int .i64 (en : Nat) := by obtain ⟨u, e, h⟩ := hval 20 (by omega); have e2 : some n20 = some u := e; injection e2 with e2; subst e2; exact h
          obtain rfl : n21 = .int .i64 (e1 : Nat) := by obtain ⟨u, e, h⟩ := hval 21 (by omega); have e2 : some n21 = some u := e; injection e2 with e2; subst e2; exact h
          obtain rfl : n22 = .pointer (some ⟨ab, aoff + e1 * 2, none⟩) := by obtain ⟨u, e, h⟩ := hval 22 (by omega); have e2 : some n22 = some u := e; injection e2 with e2; subst e2; exact h
          obtain rfl : n23 = .agg #[.int .i64 qd.1, .int .i64 qd.2] := by obtain ⟨u, e, h⟩ := hval 23 (by omega); have e2 : some n23 = some u := e; injection e2 with e2; subst e2; exact h
          obtain rfl : n24 = .agg #[.int .i64 (armOf lev a qd 0), .int .i64 (armOf lev a qd 1), .int .i64 (armOf lev a qd 2), .int .i64 k] := by obtain ⟨u, e, h⟩ := hval 24 (by omega); have e2 : some n24 = some u := e; injection e2 with e2; subst e2; exact h
          obtain rfl : n25 = .pointer (some ⟨pb, 0, none⟩) := by obtain ⟨u, e, h⟩ := hval 25 (by omega); have e2 : some n25 = some u := e; injection e2 with e2; subst e2; exact h
          obtain rfl : n26 = .pointer (some ⟨pb, 0, none⟩) := by obtain ⟨u, e, h⟩ := hval 26 (by omega); have e2 : some n26 = some u := e; injection e2 with e2; subst e2; exact h
          obtain rfl : n27 = .pointer (some ⟨pb, 16, none⟩) := by obtain ⟨u, e, h⟩ := hval 27 (by omega); have e2 : some n27 = some u := e; injection e2 with e2; subst e2; exact h
          obtain rfl : n28 = .pointer (some ⟨pb, 17, none⟩) := by obtain ⟨u, e, h⟩ := hval 28 (by omega); have e2 : some n28 = some u := e; injection e2 with e2; subst e2; exact h
          obtain rfl : n29 = .slice (some ⟨mb, moff, none⟩) mn mcap := by obtain ⟨u, e, h⟩ := hval 29 (by omega); have e2 : some n29 = some u := e; injection e2 with e2; subst e2; exact h
          obtain rfl : n30 = .int .i64 (en : Nat) := by obtain ⟨u, e, h⟩ := hval 30 (by omega); have e2 : some n30 = some u := e; injection e2 with e2; subst e2; exact h
          obtain rfl : n31 = .pointer (some ⟨mb, moff + en, none⟩) := by obtain ⟨u, e, h⟩ := hval 31 (by omega); have e2 : some n31 = some u := e; injection e2 with e2; subst e2; exact h
          obtain rfl : n32 = .int .i64 s2 := by obtain ⟨u, e, h⟩ := hval 32 (by omega); have e2 : some n32 = some u := e; injection e2 with e2; subst e2; exact h
          obtain rfl : n33 = .pointer (some ⟨pb, 0, none⟩) := by obtain ⟨u, e, h⟩ := hval 33 (by omega); have e2 : some n33 = some u := e; injection e2 with e2; subst e2; exact h
          obtain rfl : n34 = .pointer (some ⟨pb, 0, none⟩) := by obtain ⟨u, e, h⟩ := hval 34 (by omega); have e2 : some n34 = some u := e; injection e2 with e2; subst e2; exact h
          obtain rfl : n35 = .pointer (some ⟨pb, 16, none⟩) := by obtain ⟨u, e, h⟩ := hval 35 (by omega); have e2 : some n35 = some u := e; injection e2 with e2; subst e2; exact h
          obtain rfl : n36 = .pointer (some ⟨pb, 17, none⟩) := by obtain ⟨u, e, h⟩ := hval 36 (by omega); have e2 : some n36 = some u := e; injection e2 with e2; subst e2; exact h
          obtain rfl : n37 = .slice (some ⟨mb, moff, none⟩) mn mcap := by obtain ⟨u, e, h⟩ := hval 37 (by omega); have e2 : some n37 = some u := e; injection e2 with e2; subst e2; exact h
          obtain rfl : n38 = .int .i64 (fr : Nat) := by obtain ⟨u, e, h⟩ := hval 38 (by omega); have e2 : some n38 = some u := e; injection e2 with e2; subst e2; exact h
          obtain rfl : n39 = .pointer (some ⟨mb, moff + fr, none⟩) := by obtain ⟨u, e, h⟩ := hval 39 (by omega); have e2 : some n39 = some u := e; injection e2 with e2; subst e2; exact h
          obtain rfl : n40 = .int .i64 s1 := by obtain ⟨u, e, h⟩ := hval 40 (by omega); have e2 : some n40 = some u := e; injection e2 with e2; subst e2; exact h
          obtain rfl : n41 = .int .i64 (gn : Nat) := by obtain ⟨u, e, h⟩ := hval 41 (by omega); have e2 : some n41 = some u := e; injection e2 with e2; subst e2; exact h
          obtain rfl : n42 = .agg #[.int .i64 (armOf lev a qa 0), .int .i64 (armOf lev a qa 1), .int .i64 (armOf lev a qa 2), .int .i64 k, .int .i64 (armOf lev a qd 0), .int .i64 (armOf lev a qd 1), .int .i64 (armOf lev a qd 2), .int .i64 k, .int .i64 (gn : Nat)] := by obtain ⟨u, e, h⟩ := hval 42 (by omega); have e2 : some n42 = some u := e; injection e2 with e2; subst e2; exact h
          clear hval
          simp only [putL, Act.put, List.drop, List.setIfInBounds_toArray, List.set_cons_zero, List.set_cons_succ]
        --E5--
          have hres := (hb3.block _ (heap_lt HRES.out)).trans HRES.out
          obtain ⟨x0, x1, x2, x3, x4, x5, x6, x7, x8⟩ := cells9 hres
          have xf := froz hres
          have hput := put9_heap (v0 := .int .i64 (armOf lev a qa 0)) (v1 := .int .i64 (armOf lev a qa 1)) (v2 := .int .i64 (armOf lev a qa 2)) (v3 := .int .i64 k) (v4 := .int .i64 (armOf lev a qd 0)) (v5 := .int .i64 (armOf lev a qd 1)) (v6 := .int .i64 (armOf lev a qd 2)) (v7 := .int .i64 k) (v8 := .int .i64 (gn : Nat)) hres
          have hbf := put9_below (v0 := .int .i64 (armOf lev a qa 0)) (v1 := .int .i64 (armOf lev a qa 1)) (v2 := .int .i64 (armOf lev a qa 2)) (v3 := .int .i64 k) (v4 := .int .i64 (armOf lev a qd 0)) (v5 := .int .i64 (armOf lev a qd 1)) (v6 := .int .i64 (armOf lev a qd 2)) (v7 := .int .i64 k) (v8 := .int .i64 (gn : Nat)) (HBW.out.trans (hb3.mono HBW.out.size)) (show w.heap.size ≤ w.heap.size + 1 by omega)
          have HPUT := Lib.hid hput
          have HBF := Lib.hid hbf
          clear hput hbf hres hb3
          go_wp2_with fail
          obtain ⟨r0, r1, r2, r3, r4, r5, r6, r7, r8⟩ := cells9 HPUT.out
          have hbf := HBF.out
          unfold put9 put4 at r0 r1 r2 r3 r4 r5 r6 r7 r8 hbf
          refine bodyPost_ret (v := .agg #[.int .i64 (armOf lev a qa 0), .int .i64 (armOf lev a qa 1), .int .i64 (armOf lev a qa 2), .int .i64 k, .int .i64 (armOf lev a qd 0), .int .i64 (armOf lev a qd 1), .int .i64 (armOf lev a qd 2), .int .i64 k, .int .i64 (gn : Nat)]) (by simp [results, Try.results82, go_sem, r0, r1, r2, r3, r4, r5, r6, r7, r8]) rfl ?_
          exact ⟨_, rfl, fun _ => HVAL.out.symm, fun h => by rw [HG0.out] at h; omega, hbf⟩
      · have hlt' : ((en : Nat) : Int) ≤ ((fr : Nat) : Int) := by omega
        have HN := Lib.hid (show ¬ 0 < groupN (shortOf M.levers ((lev + 1) % 3)) (shortOf M.levers ((lev + 2) % 3)) a (p1, p2) from fun h => hlt (HGV1.out.1 h))
        obtain ⟨x0, x1, x2, x3, x4, x5, x6, x7, x8⟩ := cells9 HRES.out
        have xf := froz HRES.out
        have HPUT := Lib.hid (put9_heap (v0 := .int .i64 0) (v1 := .int .i64 0) (v2 := .int .i64 0) (v3 := .int .i64 0) (v4 := .int .i64 0) (v5 := .int .i64 0) (v6 := .int .i64 0) (v7 := .int .i64 0) (v8 := .int .i64 0) HRES.out)
        have HBF := Lib.hid (put9_below (v0 := .int .i64 0) (v1 := .int .i64 0) (v2 := .int .i64 0) (v3 := .int .i64 0) (v4 := .int .i64 0) (v5 := .int .i64 0) (v6 := .int .i64 0) (v7 := .int .i64 0) (v8 := .int .i64 0) HBW.out (show w.heap.size ≤ w.heap.size + 1 by omega))
        go_wp2_with fail
        obtain ⟨r0, r1, r2, r3, r4, r5, r6, r7, r8⟩ := cells9 HPUT.out
        have hbf := HBF.out
        unfold put9 put4 at r0 r1 r2 r3 r4 r5 r6 r7 r8 hbf
        refine bodyPost_ret (v := zeroG) (by simp [results, Try.results82, go_sem, zeroG, r0, r1, r2, r3, r4, r5, r6, r7, r8]) rfl ?_
        exact ⟨_, rfl, fun h => absurd h HN.out, fun _ => rfl, hbf⟩
end Go.Proofs.Ytomcjopcfdllgaa
