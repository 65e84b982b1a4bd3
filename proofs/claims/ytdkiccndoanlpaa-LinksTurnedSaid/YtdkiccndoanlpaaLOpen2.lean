/-
  Links, walks: a chain's book for a link, and for places.
-/
import Derived.Test.YtdkiccndoanlpaaLOpen

namespace Go.Proofs.Ytdkiccndoanlpaa
open Go.RowKit Go.Sort

set_option maxHeartbeats 2000000 in
theorem open_mk (dv sv : Value) (C : Chain) (w : World) (hx : ChainAt w.heap.size w (.agg #[dv, sv, .int .i64 C.wrong]) C) (hV : validB C = true) :
    Calls Try.prog 71 #[.agg #[dv, sv, .int .i64 C.wrong]] w fun e w' => ∃ bm, e = .returned (.tuple #[.agg #[dv, sv, .int .i64 C.wrong, .slice (some ⟨bm, 0, none⟩) (weldsTo C.deeds C.deeds.length) 12], .int .i64 0]) ∧ w.heap.size ≤ bm ∧ MarksAt w'.heap.size w' (.slice (some ⟨bm, 0, none⟩) (weldsTo C.deeds C.deeds.length) 12) C.deeds ∧ Below w.heap.size w w' := by
  have hx' := hx
  obtain ⟨a, cap, b, off, a2, cap2, b2, off2, hveq, hm, hm2, hcap, hcapm, HA, HC, HA2, HC2, HI, HI2⟩ := hx.opened
  cases hveq
  have HX := Lib.hid (fun W (hb : Below w.heap.size w W) => (hx'.below hb).mono hb.size)
  have HV := Lib.hid hV
  clear hx hx' hV
  go_enter Try.func71, Try.ntmps71
  go_wp2_with fail
  refine (valid_to HV.out _ (HX.out _ (by go_grown))).mono ?_
  rintro e w1 ⟨rfl, hb1⟩
  have hsz := hb1.size
  simp only [World.size_alloc] at hsz
  have e0 : w1.heap[w.heap.size]? = some (.cells #[.slice a C.deeds.length cap, .slice a2 C.sights.length cap2, .int .i64 C.wrong] 25) :=
    (hb1.block w.heap.size (by simp; omega)).trans ((Below.heap_alloc _ _ _ (by simp)).trans (heap_new w _))
  have e1 : w1.heap[w.heap.size + 1]? = some (.cells #[.slice none 0 0, .slice none 0 0, .int .i64 0, .slice none 0 0] 84) :=
    (hb1.block (w.heap.size + 1) (by simp)).trans (heap_new1 w _ _)
  have hlt0 : w.heap.size < w1.heap.size := by omega
  have hbw : Below w.heap.size w w1 := ((((Below.refl _ w).alloc (Nat.le_refl _) _).alloc (by simp) _)).trans (hb1.mono (by simp; omega))
  have c0 : w1.cell? ⟨w.heap.size, 0, none⟩ = some (.slice a C.deeds.length cap) := by simp [World.cell?, e0]
  have c1 : w1.cell? ⟨w.heap.size, 1, none⟩ = some (.slice a2 C.sights.length cap2) := by simp [World.cell?, e0]
  have c2 : w1.cell? ⟨w.heap.size, 2, none⟩ = some (.int .i64 C.wrong) := by simp [World.cell?, e0]
  have hmk : ∀ w, (Instr.makeSlice 82 (.int .i64 0) (.int .i64 12)).run Try.prog w = .ok (.slice (some ⟨w.heap.size, 0, none⟩) 0 12) (w.alloc (.cells (Array.replicate 24 (.int .i64 0)) 99)) := fun _ => by kernel_rfl
  go_wp2_with fail
  go_cut [4] from 11 to 13 (fun s4 wx => ∃ bb bm : Nat, s4 = .pointer (some ⟨bb, 0, none⟩) ∧ Hid (OpenSt w1 wx bb bm (.slice a C.deeds.length cap) (.slice a2 C.sights.length cap2) (.int .i64 C.wrong) C.deeds 0))
  case first =>
    go_region
    all_goals go_wp2_with fail
    all_goals go_meet
    · exact ⟨w1.heap.size + 1, w1.heap.size, rfl, ⟨by omega, by omega, by omega, by simp; try omega, by go_grown, heap_new1 _ _ _, ⟨_, heap_old1 _ _ _, rfl, fun i hi => by simp [weldsTo] at hi⟩⟩⟩
    · exact ⟨w1.heap.size, w1.heap.size + 1, rfl, ⟨by omega, by omega, by omega, by simp; try omega, by go_grown, heap_old1 _ _ _, ⟨_, heap_new1 _ _ _, rfl, fun i hi => by simp [weldsTo] at hi⟩⟩⟩
  case rest =>
  obtain ⟨bb, bm, rfl, hst⟩ := hcut
  have hnd := (valid_iff.1 HV.out).nd
  have HB := Lib.hid hbw
  have HE1 := Lib.hid e1
  clear c0 c1 c2 e0 e1 hmk hb1 hbw
  have hst0 := hst.out
  have t0 : wc.cell? ⟨bb, 0, none⟩ = some (.slice a C.deeds.length cap) := by simp [World.cell?, hst0.box]
  clear hst0
  go_wp2_with fail
  go_loopw [18] (fun i wr => ∃ j : Nat, j ≤ C.deeds.length ∧ i = .int .i64 j ∧ Hid (OpenSt w1 wr bb bm (.slice a C.deeds.length cap) (.slice a2 C.sights.length cap2) (.int .i64 C.wrong) C.deeds j)) (fun i _ => C.deeds.length - (intOf i).toNat)
  case atStart => exact ⟨0, Nat.zero_le _, rfl, hst⟩
  case round =>
    clear t0 hst
    obtain ⟨j, hj, rfl, hst⟩ := hrel
    have hbx := hst.out.box
    have t0 : wr.cell? ⟨bb, 0, none⟩ = some (.slice a C.deeds.length cap) := by simp [World.cell?, hbx]
    have t1 : wr.cell? ⟨bb, 1, none⟩ = some (.slice a2 C.sights.length cap2) := by simp [World.cell?, hbx]
    have t2 : wr.cell? ⟨bb, 2, none⟩ = some (.int .i64 C.wrong) := by simp [World.cell?, hbx]
    have t3 : wr.cell? ⟨bb, 3, none⟩ = some (.slice (some ⟨bm, 0, none⟩) (weldsTo C.deeds j) 12) := by simp [World.cell?, hbx]
    have hwr : Below w.heap.size w wr := HB.out.trans (hst.out.kept.mono HB.out.size)
    have hszr := hst.out.kept.size
    have hwle := weldsTo_le C.deeds j
    have hbblt := hst.out.lt
    have hlb := hst.out.lb
    have hlm := hst.out.lm
    have hne := hst.out.ne
    have HBX := Lib.hid hbx
    clear hbx
    by_cases hlt : j < C.deeds.length
    · obtain ⟨rfl, hb⟩ := HA.out (by omega)
      obtain ⟨d0, d1, d2, d3, d4⟩ := (HC.out j hlt).below hwr hb
      by_cases hw1 : (dnth C.deeds j).what = 1
      · obtain ⟨arr, ha1, ha2, ha3⟩ := hst.out.mem
        have hbm : bm < wr.heap.size := (Array.getElem?_eq_some_iff.1 ha1).1
        obtain ⟨u0, s0⟩ := Option.isSome_iff_exists.1 (show (wr.cell? ⟨bm, weldsTo C.deeds j * 2, none⟩).isSome = true by simp [World.cell?, ha1, ha2]; omega)
        obtain ⟨u1, s1⟩ := Option.isSome_iff_exists.1 (show (wr.cell? ⟨bm, weldsTo C.deeds j * 2 + 1, none⟩).isSome = true by simp [World.cell?, ha1, ha2]; omega)
        have s2 : wr.frozen? ⟨bm, weldsTo C.deeds j * 2, none⟩ = false := by simp [World.frozen?, ha1]
        have s3 : wr.frozen? ⟨bm, weldsTo C.deeds j * 2 + 1, none⟩ = false := by simp [World.frozen?, ha1]
        have s4 : wr.frozen? ⟨bb, 3, none⟩ = false := by simp [World.frozen?, HBX.out]
        have HAR := Lib.hid (show wr.heap[bm]? = some (.cells arr 99) ∧ arr.size = 24 ∧ ∀ i, i < weldsTo C.deeds j → arr[i * 2]? = some (.int .i64 (dnth (weldL C.deeds) i).bar) ∧ arr[i * 2 + 1]? = some (.int .i64 (dnth (weldL C.deeds) i).smith) from ⟨ha1, ha2, ha3⟩)
        clear ha1 ha2 ha3
        go_wp2_with fail
        exact ⟨⟨j + 1, by omega, by go_num, (hst.out.put hlt hnd hw1).grow (by go_grown)⟩, by simp [intOf]; omega⟩
      · go_wp2_with fail
        exact ⟨⟨j + 1, by omega, by go_num, (hst.out.skip hw1).grow (by go_grown)⟩, by simp [intOf]; omega⟩
    · obtain rfl : C.deeds.length = j := by omega
      have e1r := (hst.out.kept.block (w.heap.size + 1) (by omega)).trans HE1.out
      have r0 : wr.cell? ⟨w.heap.size + 1, 0, none⟩ = some (.slice none 0 0) := by simp [World.cell?, e1r]
      have r1 : wr.cell? ⟨w.heap.size + 1, 1, none⟩ = some (.slice none 0 0) := by simp [World.cell?, e1r]
      have r2 : wr.cell? ⟨w.heap.size + 1, 2, none⟩ = some (.int .i64 0) := by simp [World.cell?, e1r]
      have r3 : wr.cell? ⟨w.heap.size + 1, 3, none⟩ = some (.slice none 0 0) := by simp [World.cell?, e1r]
      have z0 : wr.frozen? ⟨w.heap.size + 1, 0, none⟩ = false := by simp [World.frozen?, e1r]
      have z1 : wr.frozen? ⟨w.heap.size + 1, 1, none⟩ = false := by simp [World.frozen?, e1r]
      have z2 : wr.frozen? ⟨w.heap.size + 1, 2, none⟩ = false := by simp [World.frozen?, e1r]
      have z3 : wr.frozen? ⟨w.heap.size + 1, 3, none⟩ = false := by simp [World.frozen?, e1r]
      have hn1 : ¬ bb = w.heap.size + 1 := by omega
      obtain ⟨W, hW⟩ : ∃ W, W = (((wr.setCell ⟨w.heap.size + 1, 0, none⟩ (.slice a C.deeds.length cap)).setCell ⟨w.heap.size + 1, 1, none⟩ (.slice a2 C.sights.length cap2)).setCell ⟨w.heap.size + 1, 2, none⟩ (.int .i64 C.wrong)).setCell ⟨w.heap.size + 1, 3, none⟩ (.slice (some ⟨bm, 0, none⟩) (weldsTo C.deeds C.deeds.length) 12) := ⟨_, rfl⟩
      have hbW : Below w.heap.size w W := hW ▸ below_setCell (below_setCell (below_setCell (below_setCell hwr (by omega)) (by omega)) (by omega)) (by omega)
      have hsW : W.heap.size = wr.heap.size := by rw [hW]; simp only [size_setCell]
      have hbk : MarksAt W.heap.size W (.slice (some ⟨bm, 0, none⟩) (weldsTo C.deeds C.deeds.length) 12) C.deeds := by
        obtain ⟨arr, ha1, ha2, ha3⟩ := hst.out.mem
        have hWm : W.heap[bm]? = some (.cells arr 99) := by
          rw [hW, heap_setCell_other (by omega), heap_setCell_other (by omega), heap_setCell_other (by omega), heap_setCell_other (by omega)]; exact ha1
        exact ⟨bm, rfl, heap_lt hWm, by omega, fun i hi => by rw [cell_of hWm, cell_of hWm]; exact ha3 i hi⟩
      have HBK := Lib.hid hbk
      have HBW := Lib.hid hbW
      clear hbk hbW hsW
      go_wp2_with fail
      rw [← hW]
      have hWr : W.heap[w.heap.size + 1]? = some (.cells #[.slice a C.deeds.length cap, .slice a2 C.sights.length cap2, .int .i64 C.wrong, .slice (some ⟨bm, 0, none⟩) (weldsTo C.deeds C.deeds.length) 12] 84) := by
        rw [hW]; exact heap_setCell_same (heap_setCell_same (heap_setCell_same (heap_setCell_same e1r)))
      have y0 := (cell_of hWr 0).trans (show _ = some (.slice a C.deeds.length cap) from rfl)
      have y1 := (cell_of hWr 1).trans (show _ = some (.slice a2 C.sights.length cap2) from rfl)
      have y2 := (cell_of hWr 2).trans (show _ = some (.int .i64 C.wrong) from rfl)
      have y3 := (cell_of hWr 3).trans (show _ = some (.slice (some ⟨bm, 0, none⟩) (weldsTo C.deeds C.deeds.length) 12) from rfl)
      refine bodyPost_ret (v := .tuple #[.agg #[.slice a C.deeds.length cap, .slice a2 C.sights.length cap2, .int .i64 C.wrong, .slice (some ⟨bm, 0, none⟩) (weldsTo C.deeds C.deeds.length) 12], .int .i64 0]) (by simp [results, Try.results71, go_sem, y0, y1, y2, y3]) rfl ⟨_, rfl, by have := HB.out.size; omega, HBK.out, HBW.out⟩

/-- How a function ends that hands back a book in a cell. -/
theorem four_set {W : World} {b : Nat} {u0 u1 u2 u3 v0 v1 v2 v3 : Value} {t : TypeId} (h : W.heap[b]? = some (.cells #[u0, u1, u2, u3] t)) :
    ((((W.setCell ⟨b, 0, none⟩ v0).setCell ⟨b, 1, none⟩ v1).setCell ⟨b, 2, none⟩ v2).setCell ⟨b, 3, none⟩ v3).heap[b]? = some (.cells #[v0, v1, v2, v3] t) :=
  heap_setCell_same (heap_setCell_same (heap_setCell_same (heap_setCell_same h)))
theorem four_below {B : Nat} {a W : World} {b : Nat} {v0 v1 v2 v3 : Value} (h : Below B a W) (hb : B ≤ b) : Below B a ((((W.setCell ⟨b, 0, none⟩ v0).setCell ⟨b, 1, none⟩ v1).setCell ⟨b, 2, none⟩ v2).setCell ⟨b, 3, none⟩ v3) :=
  below_setCell (below_setCell (below_setCell (below_setCell h hb) hb) hb) hb
theorem box4f {W : World} {b : Nat} {v0 v1 v2 v3 : Value} {t : TypeId} (e : W.heap[b]? = some (.cells #[v0, v1, v2, v3] t)) :
    W.cell? ⟨b, 0, none⟩ = some v0 ∧ W.cell? ⟨b, 1, none⟩ = some v1 ∧ W.cell? ⟨b, 2, none⟩ = some v2 ∧ W.cell? ⟨b, 3, none⟩ = some v3 ∧
    W.frozen? ⟨b, 0, none⟩ = false ∧ W.frozen? ⟨b, 1, none⟩ = false ∧ W.frozen? ⟨b, 2, none⟩ = false ∧ W.frozen? ⟨b, 3, none⟩ = false := by
  refine ⟨?_, ?_, ?_, ?_, ?_, ?_, ?_, ?_⟩ <;> simp [World.cell?, World.frozen?, e]

set_option maxHeartbeats 2000000 in
theorem openLink_ok (a a2 : Option Addr) (cap cap2 : Nat) (C : Chain) (link : Int) (w : World) (hx : ChainAt w.heap.size w (.agg #[.slice a C.deeds.length cap, .slice a2 C.sights.length cap2, .int .i64 C.wrong]) C) (hV : validB C = true) (hi : wB link 0 ((weldsTo C.deeds C.deeds.length : Int) - 1) = true) :
    Calls Try.prog 84 #[.agg #[.slice a C.deeds.length cap, .slice a2 C.sights.length cap2, .int .i64 C.wrong], .int .i64 link] w fun e w' => ∃ bm, e = .returned (.tuple #[(.agg #[.slice a C.deeds.length cap, .slice a2 C.sights.length cap2, .int .i64 C.wrong, .slice (some ⟨bm, 0, none⟩) (weldsTo C.deeds C.deeds.length) 12]), .int .i64 0]) ∧ Hid (BookAt w'.heap.size w' (.agg #[.slice a C.deeds.length cap, .slice a2 C.sights.length cap2, .int .i64 C.wrong, .slice (some ⟨bm, 0, none⟩) (weldsTo C.deeds C.deeds.length) 12]) C) ∧ Hid (Below w.heap.size w w') := by
  have HX := Lib.hid (fun W (hb : Below w.heap.size w W) => (hx.below hb).mono hb.size)
  have HV := Lib.hid hV
  have hw12 : weldsTo C.deeds C.deeds.length ≤ 12 := Nat.le_trans (weldsTo_le _ _) (valid_iff.1 hV).nd
  obtain ⟨N, hN⟩ : ∃ N, weldsTo C.deeds C.deeds.length = N := ⟨_, rfl⟩
  have HN := Lib.hid hN
  rw [hN] at hw12 hi ⊢
  clear hx hV hN
  go_enter Try.func84, Try.ntmps84
  go_wp2_with fail
  refine (open_mk _ _ C _ (HX.out _ (by go_grown)) HV.out).mono ?_
  rintro e w1 ⟨bm, rfl, hbm, hmk, hb1⟩
  rw [HN.out] at hmk ⊢
  have hsz := hb1.size
  simp only [World.size_alloc] at hsz hbm
  have e1 : w1.heap[w.heap.size + 1]? = some (.cells #[.slice none 0 0, .slice none 0 0, .int .i64 0, .slice none 0 0] 84) :=
    (hb1.block (w.heap.size + 1) (by simp)).trans (heap_new1 w _ _)
  have hbw : Below w.heap.size w w1 := ((((Below.refl _ w).alloc (Nat.le_refl _) _).alloc (by simp) _)).trans (hb1.mono (by simp; omega))
  obtain ⟨r0, r1, r2, r3, z0, z1, z2, z3⟩ := box4f e1
  have hlt1 : w.heap.size + 1 < w1.heap.size := heap_lt e1
  have HE1 := Lib.hid e1
  have HMK := Lib.hid hmk
  have HBW := Lib.hid hbw
  have hwr : IntKind.i64.wrap ((N : Int) - 1) = (N : Int) - 1 := IntWalk.i64_in _ (by omega)
  clear hb1 hmk e1 hbw hsz
  go_wp2_with (go_at_call 109; refine (within_to (by with_reducible assumption) _).mono ?_; rintro e w' ⟨rfl, rfl⟩)
  obtain ⟨X, hX⟩ : ∃ X, X = (((w1.setCell ⟨w.heap.size + 1, 0, none⟩ (.slice a C.deeds.length cap)).setCell ⟨w.heap.size + 1, 1, none⟩ (.slice a2 C.sights.length cap2)).setCell ⟨w.heap.size + 1, 2, none⟩ (.int .i64 C.wrong)).setCell ⟨w.heap.size + 1, 3, none⟩ (.slice (some ⟨bm, 0, none⟩) N 12) := ⟨_, rfl⟩
  have hXr := four_set (v0 := .slice a C.deeds.length cap) (v1 := .slice a2 C.sights.length cap2) (v2 := .int .i64 C.wrong) (v3 := .slice (some ⟨bm, 0, none⟩) N 12) HE1.out
  rw [← hX] at hXr
  have hXB := four_below (v0 := .slice a C.deeds.length cap) (v1 := .slice a2 C.sights.length cap2) (v2 := .int .i64 C.wrong) (v3 := .slice (some ⟨bm, 0, none⟩) N 12) HBW.out (show w.heap.size ≤ w.heap.size + 1 by omega)
  rw [← hX] at hXB
  have hXm : X.heap[bm]? = w1.heap[bm]? := by rw [hX, heap_setCell_other (by omega), heap_setCell_other (by omega), heap_setCell_other (by omega), heap_setCell_other (by omega)]
  have hXs : X.heap.size = w1.heap.size := by rw [hX]; simp only [size_setCell]
  rw [← hX]
  obtain ⟨Y, hY⟩ : ∃ Y, Y = X.alloc (.cells #[.slice a C.deeds.length cap, .slice a2 C.sights.length cap2, .int .i64 C.wrong, .slice (some ⟨bm, 0, none⟩) N 12] 84) := ⟨_, rfl⟩
  have hbY : Below X.heap.size X Y := hY ▸ (Below.refl _ X).alloc (Nat.le_refl _) _
  rw [← hY]
  have hYr := (hbY.block _ (heap_lt hXr)).trans hXr
  obtain ⟨y0, y1, y2, y3, _⟩ := box4f hYr
  have hYw : Below w.heap.size w Y := hXB.trans (hbY.mono (by omega))
  have hmY : MarksAt Y.heap.size Y (.slice (some ⟨bm, 0, none⟩) N 12) C.deeds := by
    obtain ⟨bm', hv, hlt, h12, hc⟩ := HMK.out
    cases hv
    have hk : Y.heap[bm]? = w1.heap[bm]? := (hbY.block bm (by omega)).trans hXm
    exact ⟨bm, by rw [HN.out], by have := hbY.size; omega, h12, fun i hi => ⟨(World.cell?_of_block (a := ⟨bm, i * 2, none⟩) hk).trans (hc i hi).1, (World.cell?_of_block (a := ⟨bm, i * 2 + 1, none⟩) hk).trans (hc i hi).2⟩⟩
  refine bodyPost_ret (v := .tuple #[.agg #[.slice a C.deeds.length cap, .slice a2 C.sights.length cap2, .int .i64 C.wrong, .slice (some ⟨bm, 0, none⟩) N 12], .int .i64 0]) (by simp [results, Try.results84, go_sem, y0, y1, y2, y3]) rfl ⟨bm, rfl, ⟨_, _, _, rfl, HX.out Y hYw, hmY⟩, hYw⟩

set_option maxHeartbeats 2000000 in
theorem openLink_arg (a a2 : Option Addr) (cap cap2 : Nat) (C : Chain) (link : Int) (w : World) (hx : ChainAt w.heap.size w (.agg #[.slice a C.deeds.length cap, .slice a2 C.sights.length cap2, .int .i64 C.wrong]) C) (hV : validB C = true) (hi : wB link 0 ((weldsTo C.deeds C.deeds.length : Int) - 1) = false) :
    Calls Try.prog 84 #[.agg #[.slice a C.deeds.length cap, .slice a2 C.sights.length cap2, .int .i64 C.wrong], .int .i64 link] w fun e w' => e = .returned (.tuple #[noBook, .int .i64 1]) ∧ Hid (Below w.heap.size w w') := by
  have HX := Lib.hid (fun W (hb : Below w.heap.size w W) => (hx.below hb).mono hb.size)
  have HV := Lib.hid hV
  have hw12 : weldsTo C.deeds C.deeds.length ≤ 12 := Nat.le_trans (weldsTo_le _ _) (valid_iff.1 hV).nd
  obtain ⟨N, hN⟩ : ∃ N, weldsTo C.deeds C.deeds.length = N := ⟨_, rfl⟩
  have HN := Lib.hid hN
  rw [hN] at hw12 hi
  clear hx hV hN
  go_enter Try.func84, Try.ntmps84
  go_wp2_with fail
  refine (open_mk _ _ C _ (HX.out _ (by go_grown)) HV.out).mono ?_
  rintro e w1 ⟨bm, rfl, hbm, hmk, hb1⟩
  rw [HN.out] at hmk ⊢
  have hsz := hb1.size
  simp only [World.size_alloc] at hsz hbm
  have e1 : w1.heap[w.heap.size + 1]? = some (.cells #[.slice none 0 0, .slice none 0 0, .int .i64 0, .slice none 0 0] 84) :=
    (hb1.block (w.heap.size + 1) (by simp)).trans (heap_new1 w _ _)
  have hbw : Below w.heap.size w w1 := ((((Below.refl _ w).alloc (Nat.le_refl _) _).alloc (by simp) _)).trans (hb1.mono (by simp; omega))
  obtain ⟨r0, r1, r2, r3, z0, z1, z2, z3⟩ := box4f e1
  have hlt1 : w.heap.size + 1 < w1.heap.size := heap_lt e1
  have HE1 := Lib.hid e1
  have HMK := Lib.hid hmk
  have HBW := Lib.hid hbw
  have hwr : IntKind.i64.wrap ((N : Int) - 1) = (N : Int) - 1 := IntWalk.i64_in _ (by omega)
  clear hb1 hmk e1 hbw hsz
  go_wp2_with (go_at_call 109; refine (within_to (by with_reducible assumption) _).mono ?_; rintro e w' ⟨rfl, rfl⟩)
  obtain ⟨X, hX⟩ : ∃ X, X = (((w1.setCell ⟨w.heap.size + 1, 0, none⟩ (.slice none 0 0)).setCell ⟨w.heap.size + 1, 1, none⟩ (.slice none 0 0)).setCell ⟨w.heap.size + 1, 2, none⟩ (.int .i64 0)).setCell ⟨w.heap.size + 1, 3, none⟩ (.slice none 0 0) := ⟨_, rfl⟩
  have hXr := four_set (v0 := .slice none 0 0) (v1 := .slice none 0 0) (v2 := .int .i64 0) (v3 := .slice none 0 0) HE1.out
  rw [← hX] at hXr
  have hXB := four_below (v0 := .slice none 0 0) (v1 := .slice none 0 0) (v2 := .int .i64 0) (v3 := .slice none 0 0) HBW.out (show w.heap.size ≤ w.heap.size + 1 by omega)
  rw [← hX] at hXB
  have hXm : X.heap[bm]? = w1.heap[bm]? := by rw [hX, heap_setCell_other (by omega), heap_setCell_other (by omega), heap_setCell_other (by omega), heap_setCell_other (by omega)]
  have hXs : X.heap.size = w1.heap.size := by rw [hX]; simp only [size_setCell]
  rw [← hX]
  obtain ⟨Y, hY⟩ : ∃ Y, Y = X.alloc (.cells #[.slice a C.deeds.length cap, .slice a2 C.sights.length cap2, .int .i64 C.wrong, .slice (some ⟨bm, 0, none⟩) N 12] 84) := ⟨_, rfl⟩
  have hbY : Below X.heap.size X Y := hY ▸ (Below.refl _ X).alloc (Nat.le_refl _) _
  rw [← hY]
  have hYr := (hbY.block _ (heap_lt hXr)).trans hXr
  obtain ⟨y0, y1, y2, y3, _⟩ := box4f hYr
  have hYw : Below w.heap.size w Y := hXB.trans (hbY.mono (by omega))
  refine bodyPost_ret (v := .tuple #[noBook, .int .i64 1]) (by simp [results, Try.results84, go_sem, y0, y1, y2, y3]) rfl ⟨rfl, hYw⟩

end Go.Proofs.Ytdkiccndoanlpaa
