/-
  Links, walks: a chain's book: the chain and the marks of its links.
-/
import Derived.Test.YtdkiccndoanlpaaLW2
import Derived.Test.YtdkiccndoanlpaaLKeep
import Derived.Deep.DeepCutAuto

namespace Go.Proofs.Ytdkiccndoanlpaa
open Go.RowKit Go.Sort

/-- The book while it is made: its box, and the marks of the links so far. -/
structure OpenSt (w1 W : World) (bb bm : Nat) (x0 x1 x2 : Value) (ds : List Deed) (j : Nat) : Prop where
  lb : w1.heap.size ≤ bb
  lm : w1.heap.size ≤ bm
  ne : bb ≠ bm
  lt : bb < W.heap.size
  kept : Below w1.heap.size w1 W
  box : W.heap[bb]? = some (.cells #[x0, x1, x2, .slice (some ⟨bm, 0, none⟩) (weldsTo ds j) 12] 84)
  mem : ∃ arr, W.heap[bm]? = some (.cells arr 99) ∧ arr.size = 24 ∧ ∀ i, i < weldsTo ds j → arr[i * 2]? = some (.int .i64 (dnth (weldL ds) i).bar) ∧ arr[i * 2 + 1]? = some (.int .i64 (dnth (weldL ds) i).smith)

theorem OpenSt.grow {w1 W W' : World} {bb bm : Nat} {x0 x1 x2 : Value} {ds : List Deed} {j : Nat} (h : OpenSt w1 W bb bm x0 x1 x2 ds j) (hb : Below W.heap.size W W') : OpenSt w1 W' bb bm x0 x1 x2 ds j := by
  obtain ⟨arr, h1, h2, h3⟩ := h.mem
  exact ⟨h.lb, h.lm, h.ne, Nat.lt_of_lt_of_le h.lt hb.size, h.kept.trans (hb.mono h.kept.size), (hb.block _ h.lt).trans h.box, ⟨arr, (hb.block _ (heap_lt h1)).trans h1, h2, h3⟩⟩
theorem OpenSt.skip {w1 W : World} {bb bm : Nat} {x0 x1 x2 : Value} {ds : List Deed} {j : Nat} (h : OpenSt w1 W bb bm x0 x1 x2 ds j) (hw : ¬ (dnth ds j).what = 1) : OpenSt w1 W bb bm x0 x1 x2 ds (j + 1) := by
  have e : weldsTo ds (j + 1) = weldsTo ds j := by simp [weldsTo, hw]
  exact ⟨h.lb, h.lm, h.ne, h.lt, h.kept, e ▸ h.box, e ▸ h.mem⟩
theorem weld_nth {ds : List Deed} {k : Nat} (hk : k < ds.length) (h : (dnth ds k).what = 1) : dnth (weldL ds) (weldsTo ds k) = dnth ds k := by
  have e1 : weldL ds = weldL (ds.take k) ++ weldL (ds.drop k) := by rw [weldL, weldL, weldL, ← List.filter_append, List.take_append_drop]
  have e2 : ds.drop k = dnth ds k :: ds.drop (k + 1) := by rw [dnth_lt hk]; exact List.drop_eq_getElem_cons hk
  have e3 : weldL (ds.drop k) = dnth ds k :: weldL (ds.drop (k + 1)) := by rw [e2, weldL, List.filter_cons, if_pos (by simpa using h)]; rfl
  rw [e1, e3, ← weldL_take ds k (by omega)]
  simp [dnth]

theorem OpenSt.put {w1 W : World} {bb bm : Nat} {x0 x1 x2 : Value} {ds : List Deed} {j : Nat} (h : OpenSt w1 W bb bm x0 x1 x2 ds j) (hj : j < ds.length) (h12 : ds.length ≤ 12) (hw : (dnth ds j).what = 1) :
    OpenSt w1 (((W.setCell ⟨bm, weldsTo ds j * 2, none⟩ (.int .i64 (dnth ds j).bar)).setCell ⟨bm, weldsTo ds j * 2 + 1, none⟩ (.int .i64 (dnth ds j).smith)).setCell ⟨bb, 3, none⟩ (.slice (some ⟨bm, 0, none⟩) (weldsTo ds j + 1) 12)) bb bm x0 x1 x2 ds (j + 1) := by
  have e : weldsTo ds (j + 1) = weldsTo ds j + 1 := by simp [weldsTo, hw]
  obtain ⟨arr, h1, h2, h3⟩ := h.mem
  have hle := weldsTo_le ds j
  have hwn := weld_nth hj hw
  refine ⟨h.lb, h.lm, h.ne, by rw [size_setCell, size_setCell, size_setCell]; exact h.lt, below_setCell (below_setCell (below_setCell h.kept h.lm) h.lm) h.lb, ?_, ?_⟩
  · have hb : ((W.setCell ⟨bm, weldsTo ds j * 2, none⟩ (.int .i64 (dnth ds j).bar)).setCell ⟨bm, weldsTo ds j * 2 + 1, none⟩ (.int .i64 (dnth ds j).smith)).heap[bb]? = some (.cells #[x0, x1, x2, .slice (some ⟨bm, 0, none⟩) (weldsTo ds j) 12] 84) :=
      ((heap_setCell_other (Ne.symm h.ne)).trans (heap_setCell_other (Ne.symm h.ne))).trans h.box
    rw [heap_setCell_same hb, e]
    rfl
  · refine ⟨(arr.setIfInBounds (weldsTo ds j * 2) (.int .i64 (dnth ds j).bar)).setIfInBounds (weldsTo ds j * 2 + 1) (.int .i64 (dnth ds j).smith), (heap_setCell_other h.ne).trans (heap_setCell_same (heap_setCell_same h1)), by simp [h2], fun i hi => ?_⟩
    rw [e] at hi
    by_cases hk : i = weldsTo ds j
    · subst hk
      rw [hwn]
      simp [Array.getElem?_setIfInBounds, h2]
      omega
    · have := h3 i (by omega)
      constructor
      · rw [Array.getElem?_setIfInBounds_ne (by omega), Array.getElem?_setIfInBounds_ne (by omega)]; exact this.1
      · rw [Array.getElem?_setIfInBounds_ne (by omega), Array.getElem?_setIfInBounds_ne (by omega)]; exact this.2

theorem heap_new1 (w : World) (o o' : Obj) : ((w.alloc o).alloc o').heap[w.heap.size + 1]? = some o' := by
  have := heap_new (w.alloc o) o'
  rwa [World.size_alloc] at this
theorem heap_old1 (w : World) (o o' : Obj) : ((w.alloc o).alloc o').heap[w.heap.size]? = some o :=
  (Below.heap_alloc _ _ _ (by simp)).trans (heap_new w o)

/-- A []mark that holds the marks of the links. -/
def MarksAt (B : Nat) (w : World) (v : Value) (ds : List Deed) : Prop :=
  ∃ bm, v = .slice (some ⟨bm, 0, none⟩) (weldsTo ds ds.length) 12 ∧ bm < B ∧ weldsTo ds ds.length ≤ 12 ∧
    ∀ i, i < weldsTo ds ds.length → w.cell? ⟨bm, i * 2, none⟩ = some (.int .i64 (dnth (weldL ds) i).bar) ∧ w.cell? ⟨bm, i * 2 + 1, none⟩ = some (.int .i64 (dnth (weldL ds) i).smith)
def BookAt (B : Nat) (w : World) (v : Value) (C : Chain) : Prop :=
  ∃ dv sv mv, v = .agg #[dv, sv, .int .i64 C.wrong, mv] ∧ ChainAt B w (.agg #[dv, sv, .int .i64 C.wrong]) C ∧ MarksAt B w mv C.deeds
theorem MarksAt.below {B : Nat} {w w' : World} {v : Value} {ds : List Deed} (h : MarksAt B w v ds) (hb : Below B w w') : MarksAt B w' v ds := by
  obtain ⟨bm, hv, hlt, h12, hc⟩ := h
  exact ⟨bm, hv, hlt, h12, fun i hi => ⟨(hb.cell (p := ⟨bm, i * 2, none⟩) hlt).trans (hc i hi).1, (hb.cell (p := ⟨bm, i * 2 + 1, none⟩) hlt).trans (hc i hi).2⟩⟩
theorem MarksAt.mono {B B' : Nat} {w : World} {v : Value} {ds : List Deed} (h : MarksAt B w v ds) (hb : B ≤ B') : MarksAt B' w v ds := by
  obtain ⟨bm, hv, hlt, h12, hc⟩ := h
  exact ⟨bm, hv, by omega, h12, hc⟩
theorem BookAt.below {B : Nat} {w w' : World} {v : Value} {C : Chain} (h : BookAt B w v C) (hb : Below B w w') : BookAt B w' v C := by
  obtain ⟨dv, sv, mv, hv, h1, h2⟩ := h
  exact ⟨dv, sv, mv, hv, h1.below hb, h2.below hb⟩
theorem BookAt.mono {B B' : Nat} {w : World} {v : Value} {C : Chain} (h : BookAt B w v C) (hb : B ≤ B') : BookAt B' w v C := by
  obtain ⟨dv, sv, mv, hv, h1, h2⟩ := h
  exact ⟨dv, sv, mv, hv, h1.mono hb, h2.mono hb⟩

set_option maxHeartbeats 2000000 in
theorem open_any (v : Value) (C : Chain) (w : World) (hx : ChainAt w.heap.size w v C) (hV : validB C = true) :
    Calls Try.prog 71 #[v] w fun e w' => ∃ bv, e = .returned (.tuple #[bv, .int .i64 0]) ∧ BookAt w'.heap.size w' bv C ∧ Below w.heap.size w w' := by
  have hx' := hx
  obtain ⟨a, cap, b, off, a2, cap2, b2, off2, rfl, hm, hm2, hcap, hcapm, HA, HC, HA2, HC2, HI, HI2⟩ := hx.opened
  have HX := Lib.hid (fun W (hb : Below w.heap.size w W) => (hx'.below hb).mono hb.size)
  have HV := Lib.hid hV
  clear hx hx' hV
  go_enter Try.func71, Try.ntmps71
  go_wp2_with fail
  refine (valid_to HV.out _ (HX.out _ (by go_grown))).mono ?_
  rintro e w1 ⟨rfl, hb1⟩
  have hsz := hb1.size
  simp only [World.size_alloc] at hsz
  have e0 : w1.heap[w.heap.size]? = some (.cells #[.slice a C.deeds.length cap, .slice a2 C.sights.length cap2, .int .i64 C.wrong] 25) :=
    (hb1.block w.heap.size (by simp; omega)).trans ((Below.heap_alloc _ _ _ (by simp)).trans (heap_new w _))
  have e1 : w1.heap[w.heap.size + 1]? = some (.cells #[.slice none 0 0, .slice none 0 0, .int .i64 0, .slice none 0 0] 84) :=
    (hb1.block (w.heap.size + 1) (by simp)).trans (heap_new1 w _ _)
  have hlt0 : w.heap.size < w1.heap.size := by omega
  have hbw : Below w.heap.size w w1 := ((((Below.refl _ w).alloc (Nat.le_refl _) _).alloc (by simp) _)).trans (hb1.mono (by simp; omega))
  have c0 : w1.cell? ⟨w.heap.size, 0, none⟩ = some (.slice a C.deeds.length cap) := by simp [World.cell?, e0]
  have c1 : w1.cell? ⟨w.heap.size, 1, none⟩ = some (.slice a2 C.sights.length cap2) := by simp [World.cell?, e0]
  have c2 : w1.cell? ⟨w.heap.size, 2, none⟩ = some (.int .i64 C.wrong) := by simp [World.cell?, e0]
  have hmk : ∀ w, (Instr.makeSlice 82 (.int .i64 0) (.int .i64 12)).run Try.prog w = .ok (.slice (some ⟨w.heap.size, 0, none⟩) 0 12) (w.alloc (.cells (Array.replicate 24 (.int .i64 0)) 99)) := fun _ => by kernel_rfl
  go_wp2_with fail
  go_cut [4] from 11 to 13 (fun s4 wx => ∃ bb bm : Nat, s4 = .pointer (some ⟨bb, 0, none⟩) ∧ Hid (OpenSt w1 wx bb bm (.slice a C.deeds.length cap) (.slice a2 C.sights.length cap2) (.int .i64 C.wrong) C.deeds 0))
  case first =>
    go_region
    all_goals go_wp2_with fail
    all_goals go_meet
    · exact ⟨w1.heap.size + 1, w1.heap.size, rfl, ⟨by omega, by omega, by omega, by simp; try omega, by go_grown, heap_new1 _ _ _, ⟨_, heap_old1 _ _ _, rfl, fun i hi => by simp [weldsTo] at hi⟩⟩⟩
    · exact ⟨w1.heap.size, w1.heap.size + 1, rfl, ⟨by omega, by omega, by omega, by simp; try omega, by go_grown, heap_old1 _ _ _, ⟨_, heap_new1 _ _ _, rfl, fun i hi => by simp [weldsTo] at hi⟩⟩⟩
  case rest =>
  obtain ⟨bb, bm, rfl, hst⟩ := hcut
  have hnd := (valid_iff.1 HV.out).nd
  have HB := Lib.hid hbw
  have HE1 := Lib.hid e1
  clear c0 c1 c2 e0 e1 hmk hb1 hbw
  have hst0 := hst.out
  have t0 : wc.cell? ⟨bb, 0, none⟩ = some (.slice a C.deeds.length cap) := by simp [World.cell?, hst0.box]
  clear hst0
  go_wp2_with fail
  go_loopw [18] (fun i wr => ∃ j : Nat, j ≤ C.deeds.length ∧ i = .int .i64 j ∧ Hid (OpenSt w1 wr bb bm (.slice a C.deeds.length cap) (.slice a2 C.sights.length cap2) (.int .i64 C.wrong) C.deeds j)) (fun i _ => C.deeds.length - (intOf i).toNat)
  case atStart => exact ⟨0, Nat.zero_le _, rfl, hst⟩
  case round =>
    clear t0 hst
    obtain ⟨j, hj, rfl, hst⟩ := hrel
    have hbx := hst.out.box
    have t0 : wr.cell? ⟨bb, 0, none⟩ = some (.slice a C.deeds.length cap) := by simp [World.cell?, hbx]
    have t1 : wr.cell? ⟨bb, 1, none⟩ = some (.slice a2 C.sights.length cap2) := by simp [World.cell?, hbx]
    have t2 : wr.cell? ⟨bb, 2, none⟩ = some (.int .i64 C.wrong) := by simp [World.cell?, hbx]
    have t3 : wr.cell? ⟨bb, 3, none⟩ = some (.slice (some ⟨bm, 0, none⟩) (weldsTo C.deeds j) 12) := by simp [World.cell?, hbx]
    have hwr : Below w.heap.size w wr := HB.out.trans (hst.out.kept.mono HB.out.size)
    have hszr := hst.out.kept.size
    have hwle := weldsTo_le C.deeds j
    have hbblt := hst.out.lt
    have hlb := hst.out.lb
    have hlm := hst.out.lm
    have hne := hst.out.ne
    have HBX := Lib.hid hbx
    clear hbx
    by_cases hlt : j < C.deeds.length
    · obtain ⟨rfl, hb⟩ := HA.out (by omega)
      obtain ⟨d0, d1, d2, d3, d4⟩ := (HC.out j hlt).below hwr hb
      by_cases hw1 : (dnth C.deeds j).what = 1
      · obtain ⟨arr, ha1, ha2, ha3⟩ := hst.out.mem
        have hbm : bm < wr.heap.size := (Array.getElem?_eq_some_iff.1 ha1).1
        obtain ⟨u0, s0⟩ := Option.isSome_iff_exists.1 (show (wr.cell? ⟨bm, weldsTo C.deeds j * 2, none⟩).isSome = true by simp [World.cell?, ha1, ha2]; omega)
        obtain ⟨u1, s1⟩ := Option.isSome_iff_exists.1 (show (wr.cell? ⟨bm, weldsTo C.deeds j * 2 + 1, none⟩).isSome = true by simp [World.cell?, ha1, ha2]; omega)
        have s2 : wr.frozen? ⟨bm, weldsTo C.deeds j * 2, none⟩ = false := by simp [World.frozen?, ha1]
        have s3 : wr.frozen? ⟨bm, weldsTo C.deeds j * 2 + 1, none⟩ = false := by simp [World.frozen?, ha1]
        have s4 : wr.frozen? ⟨bb, 3, none⟩ = false := by simp [World.frozen?, HBX.out]
        have HAR := Lib.hid (show wr.heap[bm]? = some (.cells arr 99) ∧ arr.size = 24 ∧ ∀ i, i < weldsTo C.deeds j → arr[i * 2]? = some (.int .i64 (dnth (weldL C.deeds) i).bar) ∧ arr[i * 2 + 1]? = some (.int .i64 (dnth (weldL C.deeds) i).smith) from ⟨ha1, ha2, ha3⟩)
        clear ha1 ha2 ha3
        go_wp2_with fail
        exact ⟨⟨j + 1, by omega, by go_num, (hst.out.put hlt hnd hw1).grow (by go_grown)⟩, by simp [intOf]; omega⟩
      · go_wp2_with fail
        exact ⟨⟨j + 1, by omega, by go_num, (hst.out.skip hw1).grow (by go_grown)⟩, by simp [intOf]; omega⟩
    · obtain rfl : C.deeds.length = j := by omega
      have e1r := (hst.out.kept.block (w.heap.size + 1) (by omega)).trans HE1.out
      have r0 : wr.cell? ⟨w.heap.size + 1, 0, none⟩ = some (.slice none 0 0) := by simp [World.cell?, e1r]
      have r1 : wr.cell? ⟨w.heap.size + 1, 1, none⟩ = some (.slice none 0 0) := by simp [World.cell?, e1r]
      have r2 : wr.cell? ⟨w.heap.size + 1, 2, none⟩ = some (.int .i64 0) := by simp [World.cell?, e1r]
      have r3 : wr.cell? ⟨w.heap.size + 1, 3, none⟩ = some (.slice none 0 0) := by simp [World.cell?, e1r]
      have z0 : wr.frozen? ⟨w.heap.size + 1, 0, none⟩ = false := by simp [World.frozen?, e1r]
      have z1 : wr.frozen? ⟨w.heap.size + 1, 1, none⟩ = false := by simp [World.frozen?, e1r]
      have z2 : wr.frozen? ⟨w.heap.size + 1, 2, none⟩ = false := by simp [World.frozen?, e1r]
      have z3 : wr.frozen? ⟨w.heap.size + 1, 3, none⟩ = false := by simp [World.frozen?, e1r]
      have hn1 : ¬ bb = w.heap.size + 1 := by omega
      obtain ⟨W, hW⟩ : ∃ W, W = (((wr.setCell ⟨w.heap.size + 1, 0, none⟩ (.slice a C.deeds.length cap)).setCell ⟨w.heap.size + 1, 1, none⟩ (.slice a2 C.sights.length cap2)).setCell ⟨w.heap.size + 1, 2, none⟩ (.int .i64 C.wrong)).setCell ⟨w.heap.size + 1, 3, none⟩ (.slice (some ⟨bm, 0, none⟩) (weldsTo C.deeds C.deeds.length) 12) := ⟨_, rfl⟩
      have hbW : Below w.heap.size w W := hW ▸ below_setCell (below_setCell (below_setCell (below_setCell hwr (by omega)) (by omega)) (by omega)) (by omega)
      have hsW : W.heap.size = wr.heap.size := by rw [hW]; simp only [size_setCell]
      have hbk : BookAt W.heap.size W (.agg #[.slice a C.deeds.length cap, .slice a2 C.sights.length cap2, .int .i64 C.wrong, .slice (some ⟨bm, 0, none⟩) (weldsTo C.deeds C.deeds.length) 12]) C := by
        obtain ⟨arr, ha1, ha2, ha3⟩ := hst.out.mem
        have hWm : W.heap[bm]? = some (.cells arr 99) := by
          rw [hW, heap_setCell_other (by omega), heap_setCell_other (by omega), heap_setCell_other (by omega), heap_setCell_other (by omega)]; exact ha1
        exact ⟨_, _, _, rfl, HX.out _ hbW, bm, rfl, heap_lt hWm, by omega, fun i hi => by rw [cell_of hWm, cell_of hWm]; exact ha3 i hi⟩
      have HBK := Lib.hid hbk
      have HBW := Lib.hid hbW
      clear hbk hbW hsW
      go_wp2_with fail
      rw [← hW]
      have hWr : W.heap[w.heap.size + 1]? = some (.cells #[.slice a C.deeds.length cap, .slice a2 C.sights.length cap2, .int .i64 C.wrong, .slice (some ⟨bm, 0, none⟩) (weldsTo C.deeds C.deeds.length) 12] 84) := by
        rw [hW]; exact heap_setCell_same (heap_setCell_same (heap_setCell_same (heap_setCell_same e1r)))
      have y0 := (cell_of hWr 0).trans (show _ = some (.slice a C.deeds.length cap) from rfl)
      have y1 := (cell_of hWr 1).trans (show _ = some (.slice a2 C.sights.length cap2) from rfl)
      have y2 := (cell_of hWr 2).trans (show _ = some (.int .i64 C.wrong) from rfl)
      have y3 := (cell_of hWr 3).trans (show _ = some (.slice (some ⟨bm, 0, none⟩) (weldsTo C.deeds C.deeds.length) 12) from rfl)
      refine bodyPost_ret (v := .tuple #[.agg #[.slice a C.deeds.length cap, .slice a2 C.sights.length cap2, .int .i64 C.wrong, .slice (some ⟨bm, 0, none⟩) (weldsTo C.deeds C.deeds.length) 12], .int .i64 0]) (by simp [results, Try.results71, go_sem, y0, y1, y2, y3]) rfl ⟨_, rfl, HBK.out, HBW.out⟩

abbrev noBook : Value := .agg #[.slice none 0 0, .slice none 0 0, .int .i64 0, .slice none 0 0]

set_option maxHeartbeats 2000000 in
theorem open_bad (v : Value) (C : Chain) (w : World) (hx : ChainAt w.heap.size w v C) (hV : validB C = false) :
    Calls Try.prog 71 #[v] w fun e w' => e = .returned (.tuple #[noBook, .int .i64 20]) ∧ Below w.heap.size w w' := by
  have hx' := hx
  obtain ⟨a, cap, b, off, a2, cap2, b2, off2, rfl, hm, hm2, hcap, hcapm, HA, HC, HA2, HC2, HI, HI2⟩ := hx.opened
  have HX := Lib.hid (fun W (hb : Below w.heap.size w W) => (hx'.below hb).mono hb.size)
  have HV := Lib.hid hV
  clear hx hx' hV HA HC HA2 HC2 HI HI2
  go_enter Try.func71, Try.ntmps71
  go_wp2_with fail
  refine (valid_to HV.out _ (HX.out _ (by go_grown))).mono ?_
  rintro e w1 ⟨rfl, hb1⟩
  have hsz := hb1.size
  simp only [World.size_alloc] at hsz
  have e1 : w1.heap[w.heap.size + 1]? = some (.cells #[.slice none 0 0, .slice none 0 0, .int .i64 0, .slice none 0 0] 84) :=
    (hb1.block (w.heap.size + 1) (by simp)).trans (heap_new1 w _ _)
  have hbw : Below w.heap.size w w1 := ((((Below.refl _ w).alloc (Nat.le_refl _) _).alloc (by simp) _)).trans (hb1.mono (by simp; omega))
  have r0 := (cell_of e1 0).trans (show _ = some (.slice none 0 0) from rfl)
  have r1 := (cell_of e1 1).trans (show _ = some (.slice none 0 0) from rfl)
  have r2 := (cell_of e1 2).trans (show _ = some (.int .i64 0) from rfl)
  have r3 := (cell_of e1 3).trans (show _ = some (.slice none 0 0) from rfl)
  have z0 := frozen_of e1 0
  have z1 := frozen_of e1 1
  have z2 := frozen_of e1 2
  have z3 := frozen_of e1 3
  obtain ⟨W, hW⟩ : ∃ W, W = (((w1.setCell ⟨w.heap.size + 1, 0, none⟩ (.slice none 0 0)).setCell ⟨w.heap.size + 1, 1, none⟩ (.slice none 0 0)).setCell ⟨w.heap.size + 1, 2, none⟩ (.int .i64 0)).setCell ⟨w.heap.size + 1, 3, none⟩ (.slice none 0 0) := ⟨_, rfl⟩
  have hbW : Below w.heap.size w W := hW ▸ below_setCell (below_setCell (below_setCell (below_setCell hbw (by omega)) (by omega)) (by omega)) (by omega)
  have HBW := Lib.hid hbW
  clear hbW hbw hb1
  go_wp2_with fail
  rw [← hW]
  have hWr : W.heap[w.heap.size + 1]? = some (.cells #[.slice none 0 0, .slice none 0 0, .int .i64 0, .slice none 0 0] 84) := by
    rw [hW]; exact heap_setCell_same (heap_setCell_same (heap_setCell_same (heap_setCell_same e1)))
  have y0 := (cell_of hWr 0).trans (show _ = some (.slice none 0 0) from rfl)
  have y1 := (cell_of hWr 1).trans (show _ = some (.slice none 0 0) from rfl)
  have y2 := (cell_of hWr 2).trans (show _ = some (.int .i64 0) from rfl)
  have y3 := (cell_of hWr 3).trans (show _ = some (.slice none 0 0) from rfl)
  refine bodyPost_ret (v := .tuple #[noBook, .int .i64 20]) (by simp [results, Try.results71, go_sem, y0, y1, y2, y3]) rfl ⟨rfl, HBW.out⟩

end Go.Proofs.Ytdkiccndoanlpaa
