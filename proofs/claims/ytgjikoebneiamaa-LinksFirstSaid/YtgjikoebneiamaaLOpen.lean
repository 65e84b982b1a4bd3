/-
  Links, walks: a chain's book: the chain and the marks of its links.
  Links, walks: a chain's book for a link, and for places.
  Links, walks: a chain's book for places.
  Links, walks: no book of a chain that is not valid.
-/
import Derived.Test.YtgjikoebneiamaaLW2
import Derived.Test.YtgjikoebneiamaaLKeep
import Derived.Deep.DeepCutAuto

namespace Go.Proofs.Ytgjikoebneiamaa
open Go.RowKit Go.Sort

/-- The book while it is made: its box, and the marks of the links so far. -/
structure OpenSt (w1 W : World) (bb bm : Nat) (x0 x1 x2 : Value) (ds : List Deed) (j : Nat) : Prop where
  lb : w1.heap.size ≤ bb
  lm : w1.heap.size ≤ bm
  ne : bb ≠ bm
  lt : bb < W.heap.size
  kept : Below w1.heap.size w1 W
  box : W.heap[bb]? = some (.cells #[x0, x1, x2, .slice (some ⟨bm, 0, none⟩) (weldsTo ds j) 12] 84)
  mem : ∃ arr, W.heap[bm]? = some (.cells arr 99) ∧ arr.size = 24 ∧ ∀ i, i < weldsTo ds j → arr[i * 2]? = some (.int .i64 (dnth (weldL ds) i).bar) ∧ arr[i * 2 + 1]? = some (.int .i64 (dnth (weldL ds) i).smith)

theorem OpenSt.grow {w1 W W' : World} {bb bm : Nat} {x0 x1 x2 : Value} {ds : List Deed} {j : Nat} (h : OpenSt w1 W bb bm x0 x1 x2 ds j) (hb : Below W.heap.size W W') : OpenSt w1 W' bb bm x0 x1 x2 ds j := by
  obtain ⟨arr, h1, h2, h3⟩ := h.mem
  exact ⟨h.lb, h.lm, h.ne, Nat.lt_of_lt_of_le h.lt hb.size, h.kept.trans (hb.mono h.kept.size), (hb.block _ h.lt).trans h.box, ⟨arr, (hb.block _ (heap_lt h1)).trans h1, h2, h3⟩⟩
theorem OpenSt.skip {w1 W : World} {bb bm : Nat} {x0 x1 x2 : Value} {ds : List Deed} {j : Nat} (h : OpenSt w1 W bb bm x0 x1 x2 ds j) (hw : ¬ (dnth ds j).what = 1) : OpenSt w1 W bb bm x0 x1 x2 ds (j + 1) := by
  have e : weldsTo ds (j + 1) = weldsTo ds j := by simp [weldsTo, hw]
  exact ⟨h.lb, h.lm, h.ne, h.lt, h.kept, e ▸ h.box, e ▸ h.mem⟩
theorem weld_nth {ds : List Deed} {k : Nat} (hk : k < ds.length) (h : (dnth ds k).what = 1) : dnth (weldL ds) (weldsTo ds k) = dnth ds k := by
  have e1 : weldL ds = weldL (ds.take k) ++ weldL (ds.drop k) := by rw [weldL, weldL, weldL, ← List.filter_append, List.take_append_drop]
  have e2 : ds.drop k = dnth ds k :: ds.drop (k + 1) := by rw [dnth_lt hk]; exact List.drop_eq_getElem_cons hk
  have e3 : weldL (ds.drop k) = dnth ds k :: weldL (ds.drop (k + 1)) := by rw [e2, weldL, List.filter_cons, if_pos (by simpa using h)]; rfl
  rw [e1, e3, ← weldL_take ds k (by omega)]
  simp [dnth]

theorem OpenSt.put {w1 W : World} {bb bm : Nat} {x0 x1 x2 : Value} {ds : List Deed} {j : Nat} (h : OpenSt w1 W bb bm x0 x1 x2 ds j) (hj : j < ds.length) (h12 : ds.length ≤ 12) (hw : (dnth ds j).what = 1) :
    OpenSt w1 (((W.setCell ⟨bm, weldsTo ds j * 2, none⟩ (.int .i64 (dnth ds j).bar)).setCell ⟨bm, weldsTo ds j * 2 + 1, none⟩ (.int .i64 (dnth ds j).smith)).setCell ⟨bb, 3, none⟩ (.slice (some ⟨bm, 0, none⟩) (weldsTo ds j + 1) 12)) bb bm x0 x1 x2 ds (j + 1) := by
  have e : weldsTo ds (j + 1) = weldsTo ds j + 1 := by simp [weldsTo, hw]
  obtain ⟨arr, h1, h2, h3⟩ := h.mem
  have hle := weldsTo_le ds j
  have hwn := weld_nth hj hw
  refine ⟨h.lb, h.lm, h.ne, by rw [size_setCell, size_setCell, size_setCell]; exact h.lt, below_setCell (below_setCell (below_setCell h.kept h.lm) h.lm) h.lb, ?_, ?_⟩
  · have hb : ((W.setCell ⟨bm, weldsTo ds j * 2, none⟩ (.int .i64 (dnth ds j).bar)).setCell ⟨bm, weldsTo ds j * 2 + 1, none⟩ (.int .i64 (dnth ds j).smith)).heap[bb]? = some (.cells #[x0, x1, x2, .slice (some ⟨bm, 0, none⟩) (weldsTo ds j) 12] 84) :=
      ((heap_setCell_other (Ne.symm h.ne)).trans (heap_setCell_other (Ne.symm h.ne))).trans h.box
    rw [heap_setCell_same hb, e]
    rfl
  · refine ⟨(arr.setIfInBounds (weldsTo ds j * 2) (.int .i64 (dnth ds j).bar)).setIfInBounds (weldsTo ds j * 2 + 1) (.int .i64 (dnth ds j).smith), (heap_setCell_other h.ne).trans (heap_setCell_same (heap_setCell_same h1)), by simp [h2], fun i hi => ?_⟩
    rw [e] at hi
    by_cases hk : i = weldsTo ds j
    · subst hk
      rw [hwn]
      simp [Array.getElem?_setIfInBounds, h2]
      omega
    · have := h3 i (by omega)
      constructor
      · rw [Array.getElem?_setIfInBounds_ne (by omega), Array.getElem?_setIfInBounds_ne (by omega)]; exact this.1
      · rw [Array.getElem?_setIfInBounds_ne (by omega), Array.getElem?_setIfInBounds_ne (by omega)]; exact this.2

theorem heap_new1 (w : World) (o o' : Obj) : ((w.alloc o).alloc o').heap[w.heap.size + 1]? = some o' := by
  have := heap_new (w.alloc o) o'
  rwa [World.size_alloc] at this
theorem heap_old1 (w : World) (o o' : Obj) : ((w.alloc o).alloc o').heap[w.heap.size]? = some o :=
  (Below.heap_alloc _ _ _ (by simp)).trans (heap_new w o)

/-- A []mark that holds the marks of the links. -/
def MarksAt (B : Nat) (w : World) (v : Value) (ds : List Deed) : Prop :=
  ∃ bm, v = .slice (some ⟨bm, 0, none⟩) (weldsTo ds ds.length) 12 ∧ bm < B ∧ weldsTo ds ds.length ≤ 12 ∧
    ∀ i, i < weldsTo ds ds.length → w.cell? ⟨bm, i * 2, none⟩ = some (.int .i64 (dnth (weldL ds) i).bar) ∧ w.cell? ⟨bm, i * 2 + 1, none⟩ = some (.int .i64 (dnth (weldL ds) i).smith)
def BookAt (B : Nat) (w : World) (v : Value) (C : Chain) : Prop :=
  ∃ dv sv mv, v = .agg #[dv, sv, .int .i64 C.wrong, mv] ∧ ChainAt B w (.agg #[dv, sv, .int .i64 C.wrong]) C ∧ MarksAt B w mv C.deeds
theorem MarksAt.below {B : Nat} {w w' : World} {v : Value} {ds : List Deed} (h : MarksAt B w v ds) (hb : Below B w w') : MarksAt B w' v ds := by
  obtain ⟨bm, hv, hlt, h12, hc⟩ := h
  exact ⟨bm, hv, hlt, h12, fun i hi => ⟨(hb.cell (p := ⟨bm, i * 2, none⟩) hlt).trans (hc i hi).1, (hb.cell (p := ⟨bm, i * 2 + 1, none⟩) hlt).trans (hc i hi).2⟩⟩
theorem MarksAt.mono {B B' : Nat} {w : World} {v : Value} {ds : List Deed} (h : MarksAt B w v ds) (hb : B ≤ B') : MarksAt B' w v ds := by
  obtain ⟨bm, hv, hlt, h12, hc⟩ := h
  exact ⟨bm, hv, by omega, h12, hc⟩
theorem BookAt.below {B : Nat} {w w' : World} {v : Value} {C : Chain} (h : BookAt B w v C) (hb : Below B w w') : BookAt B w' v C := by
  obtain ⟨dv, sv, mv, hv, h1, h2⟩ := h
  exact ⟨dv, sv, mv, hv, h1.below hb, h2.below hb⟩
theorem BookAt.mono {B B' : Nat} {w : World} {v : Value} {C : Chain} (h : BookAt B w v C) (hb : B ≤ B') : BookAt B' w v C := by
  obtain ⟨dv, sv, mv, hv, h1, h2⟩ := h
  exact ⟨dv, sv, mv, hv, h1.mono hb, h2.mono hb⟩

set_option maxHeartbeats 2000000 in
theorem open_any (v : Value) (C : Chain) (w : World) (hx : ChainAt w.heap.size w v C) (hV : validB C = true) :
    Calls Try.prog 71 #[v] w fun e w' => ∃ bv, e = .returned (.tuple #[bv, .int .i64 0]) ∧ BookAt w'.heap.size w' bv C ∧ Below w.heap.size w w' := by
  have hx' := hx
  obtain ⟨a, cap, b, off, a2, cap2, b2, off2, rfl, hm, hm2, hcap, hcapm, HA, HC, HA2, HC2, HI, HI2⟩ := hx.opened
  have HX := Lib.hid (fun W (hb : Below w.heap.size w W) => (hx'.below hb).mono hb.size)
  have HV := Lib.hid hV
  clear hx hx' hV
  go_enter Try.func71, Try.ntmps71
  go_wp2_with fail
  refine (valid_to HV.out _ (HX.out _ (by go_grown))).mono ?_
  rintro e w1 ⟨rfl, hb1⟩
  have hsz := hb1.size
  simp only [World.size_alloc] at hsz
  have e0 : w1.heap[w.heap.size]? = some (.cells #[.slice a C.deeds.length cap, .slice a2 C.sights.length cap2, .int .i64 C.wrong] 25) :=
    (hb1.block w.heap.size (by simp; omega)).trans ((Below.heap_alloc _ _ _ (by simp)).trans (heap_new w _))
  have e1 : w1.heap[w.heap.size + 1]? = some (.cells #[.slice none 0 0, .slice none 0 0, .int .i64 0, .slice none 0 0] 84) :=
    (hb1.block (w.heap.size + 1) (by simp)).trans (heap_new1 w _ _)
  have hlt0 : w.heap.size < w1.heap.size := by omega
  have hbw : Below w.heap.size w w1 := ((((Below.refl _ w).alloc (Nat.le_refl _) _).alloc (by simp) _)).trans (hb1.mono (by simp; omega))
  have c0 : w1.cell? ⟨w.heap.size, 0, none⟩ = some (.slice a C.deeds.length cap) := by simp [World.cell?, e0]
  have c1 : w1.cell? ⟨w.heap.size, 1, none⟩ = some (.slice a2 C.sights.length cap2) := by simp [World.cell?, e0]
  have c2 : w1.cell? ⟨w.heap.size, 2, none⟩ = some (.int .i64 C.wrong) := by simp [World.cell?, e0]
  have hmk : ∀ w, (Instr.makeSlice 82 (.int .i64 0) (.int .i64 12)).run Try.prog w = .ok (.slice (some ⟨w.heap.size, 0, none⟩) 0 12) (w.alloc (.cells (Array.replicate 24 (.int .i64 0)) 99)) := fun _ => by kernel_rfl
  go_wp2_with fail
  go_cut [4] from 11 to 13 (fun s4 wx => ∃ bb bm : Nat, s4 = .pointer (some ⟨bb, 0, none⟩) ∧ Hid (OpenSt w1 wx bb bm (.slice a C.deeds.length cap) (.slice a2 C.sights.length cap2) (.int .i64 C.wrong) C.deeds 0))
  case first =>
    go_region
    all_goals go_wp2_with fail
    all_goals go_meet
    · exact ⟨w1.heap.size + 1, w1.heap.size, rfl, ⟨by omega, by omega, by omega, by simp; try omega, by go_grown, heap_new1 _ _ _, ⟨_, heap_old1 _ _ _, rfl, fun i hi => by simp [weldsTo] at hi⟩⟩⟩
    · exact ⟨w1.heap.size, w1.heap.size + 1, rfl, ⟨by omega, by omega, by omega, by simp; try omega, by go_grown, heap_old1 _ _ _, ⟨_, heap_new1 _ _ _, rfl, fun i hi => by simp [weldsTo] at hi⟩⟩⟩
  case rest =>
  obtain ⟨bb, bm, rfl, hst⟩ := hcut
  have hnd := (valid_iff.1 HV.out).nd
  have HB := Lib.hid hbw
  have HE1 := Lib.hid e1
  clear c0 c1 c2 e0 e1 hmk hb1 hbw
  have hst0 := hst.out
  have t0 : wc.cell? ⟨bb, 0, none⟩ = some (.slice a C.deeds.length cap) := by simp [World.cell?, hst0.box]
  clear hst0
  go_wp2_with fail
  go_loopw [18] (fun i wr => ∃ j : Nat, j ≤ C.deeds.length ∧ i = .int .i64 j ∧ Hid (OpenSt w1 wr bb bm (.slice a C.deeds.length cap) (.slice a2 C.sights.length cap2) (.int .i64 C.wrong) C.deeds j)) (fun i _ => C.deeds.length - (intOf i).toNat)
  case atStart => exact ⟨0, Nat.zero_le _, rfl, hst⟩
  case round =>
    clear t0 hst
    obtain ⟨j, hj, rfl, hst⟩ := hrel
    have hbx := hst.out.box
    have t0 : wr.cell? ⟨bb, 0, none⟩ = some (.slice a C.deeds.length cap) := by simp [World.cell?, hbx]
    have t1 : wr.cell? ⟨bb, 1, none⟩ = some (.slice a2 C.sights.length cap2) := by simp [World.cell?, hbx]
    have t2 : wr.cell? ⟨bb, 2, none⟩ = some (.int .i64 C.wrong) := by simp [World.cell?, hbx]
    have t3 : wr.cell? ⟨bb, 3, none⟩ = some (.slice (some ⟨bm, 0, none⟩) (weldsTo C.deeds j) 12) := by simp [World.cell?, hbx]
    have hwr : Below w.heap.size w wr := HB.out.trans (hst.out.kept.mono HB.out.size)
    have hszr := hst.out.kept.size
    have hwle := weldsTo_le C.deeds j
    have hbblt := hst.out.lt
    have hlb := hst.out.lb
    have hlm := hst.out.lm
    have hne := hst.out.ne
    have HBX := Lib.hid hbx
    clear hbx
    by_cases hlt : j < C.deeds.length
    · obtain ⟨rfl, hb⟩ := HA.out (by omega)
      obtain ⟨d0, d1, d2, d3, d4⟩ := (HC.out j hlt).below hwr hb
      by_cases hw1 : (dnth C.deeds j).what = 1
      · obtain ⟨arr, ha1, ha2, ha3⟩ := hst.out.mem
        have hbm : bm < wr.heap.size := (Array.getElem?_eq_some_iff.1 ha1).1
        obtain ⟨u0, s0⟩ := Option.isSome_iff_exists.1 (show (wr.cell? ⟨bm, weldsTo C.deeds j * 2, none⟩).isSome = true by simp [World.cell?, ha1, ha2]; omega)
        obtain ⟨u1, s1⟩ := Option.isSome_iff_exists.1 (show (wr.cell? ⟨bm, weldsTo C.deeds j * 2 + 1, none⟩).isSome = true by simp [World.cell?, ha1, ha2]; omega)
        have s2 : wr.frozen? ⟨bm, weldsTo C.deeds j * 2, none⟩ = false := by simp [World.frozen?, ha1]
        have s3 : wr.frozen? ⟨bm, weldsTo C.deeds j * 2 + 1, none⟩ = false := by simp [World.frozen?, ha1]
        have s4 : wr.frozen? ⟨bb, 3, none⟩ = false := by simp [World.frozen?, HBX.out]
        have HAR := Lib.hid (show wr.heap[bm]? = some (.cells arr 99) ∧ arr.size = 24 ∧ ∀ i, i < weldsTo C.deeds j → arr[i * 2]? = some (.int .i64 (dnth (weldL C.deeds) i).bar) ∧ arr[i * 2 + 1]? = some (.int .i64 (dnth (weldL C.deeds) i).smith) from ⟨ha1, ha2, ha3⟩)
        clear ha1 ha2 ha3
        go_wp2_with fail
        exact ⟨⟨j + 1, by omega, by go_num, (hst.out.put hlt hnd hw1).grow (by go_grown)⟩, by simp [intOf]; omega⟩
      · go_wp2_with fail
        exact ⟨⟨j + 1, by omega, by go_num, (hst.out.skip hw1).grow (by go_grown)⟩, by simp [intOf]; omega⟩
    · obtain rfl : C.deeds.length = j := by omega
      have e1r := (hst.out.kept.block (w.heap.size + 1) (by omega)).trans HE1.out
      have r0 : wr.cell? ⟨w.heap.size + 1, 0, none⟩ = some (.slice none 0 0) := by simp [World.cell?, e1r]
      have r1 : wr.cell? ⟨w.heap.size + 1, 1, none⟩ = some (.slice none 0 0) := by simp [World.cell?, e1r]
      have r2 : wr.cell? ⟨w.heap.size + 1, 2, none⟩ = some (.int .i64 0) := by simp [World.cell?, e1r]
      have r3 : wr.cell? ⟨w.heap.size + 1, 3, none⟩ = some (.slice none 0 0) := by simp [World.cell?, e1r]
      have z0 : wr.frozen? ⟨w.heap.size + 1, 0, none⟩ = false := by simp [World.frozen?, e1r]
      have z1 : wr.frozen? ⟨w.heap.size + 1, 1, none⟩ = false := by simp [World.frozen?, e1r]
      have z2 : wr.frozen? ⟨w.heap.size + 1, 2, none⟩ = false := by simp [World.frozen?, e1r]
      have z3 : wr.frozen? ⟨w.heap.size + 1, 3, none⟩ = false := by simp [World.frozen?, e1r]
      have hn1 : ¬ bb = w.heap.size + 1 := by omega
      obtain ⟨W, hW⟩ : ∃ W, W = (((wr.setCell ⟨w.heap.size + 1, 0, none⟩ (.slice a C.deeds.length cap)).setCell ⟨w.heap.size + 1, 1, none⟩ (.slice a2 C.sights.length cap2)).setCell ⟨w.heap.size + 1, 2, none⟩ (.int .i64 C.wrong)).setCell ⟨w.heap.size + 1, 3, none⟩ (.slice (some ⟨bm, 0, none⟩) (weldsTo C.deeds C.deeds.length) 12) := ⟨_, rfl⟩
      have hbW : Below w.heap.size w W := hW ▸ below_setCell (below_setCell (below_setCell (below_setCell hwr (by omega)) (by omega)) (by omega)) (by omega)
      have hsW : W.heap.size = wr.heap.size := by rw [hW]; simp only [size_setCell]
      have hbk : BookAt W.heap.size W (.agg #[.slice a C.deeds.length cap, .slice a2 C.sights.length cap2, .int .i64 C.wrong, .slice (some ⟨bm, 0, none⟩) (weldsTo C.deeds C.deeds.length) 12]) C := by
        obtain ⟨arr, ha1, ha2, ha3⟩ := hst.out.mem
        have hWm : W.heap[bm]? = some (.cells arr 99) := by
          rw [hW, heap_setCell_other (by omega), heap_setCell_other (by omega), heap_setCell_other (by omega), heap_setCell_other (by omega)]; exact ha1
        exact ⟨_, _, _, rfl, HX.out _ hbW, bm, rfl, heap_lt hWm, by omega, fun i hi => by rw [cell_of hWm, cell_of hWm]; exact ha3 i hi⟩
      have HBK := Lib.hid hbk
      have HBW := Lib.hid hbW
      clear hbk hbW hsW
      go_wp2_with fail
      rw [← hW]
      have hWr : W.heap[w.heap.size + 1]? = some (.cells #[.slice a C.deeds.length cap, .slice a2 C.sights.length cap2, .int .i64 C.wrong, .slice (some ⟨bm, 0, none⟩) (weldsTo C.deeds C.deeds.length) 12] 84) := by
        rw [hW]; exact heap_setCell_same (heap_setCell_same (heap_setCell_same (heap_setCell_same e1r)))
      have y0 := (cell_of hWr 0).trans (show _ = some (.slice a C.deeds.length cap) from rfl)
      have y1 := (cell_of hWr 1).trans (show _ = some (.slice a2 C.sights.length cap2) from rfl)
      have y2 := (cell_of hWr 2).trans (show _ = some (.int .i64 C.wrong) from rfl)
      have y3 := (cell_of hWr 3).trans (show _ = some (.slice (some ⟨bm, 0, none⟩) (weldsTo C.deeds C.deeds.length) 12) from rfl)
      refine bodyPost_ret (v := .tuple #[.agg #[.slice a C.deeds.length cap, .slice a2 C.sights.length cap2, .int .i64 C.wrong, .slice (some ⟨bm, 0, none⟩) (weldsTo C.deeds C.deeds.length) 12], .int .i64 0]) (by simp [results, Try.results71, go_sem, y0, y1, y2, y3]) rfl ⟨_, rfl, HBK.out, HBW.out⟩

abbrev noBook : Value := .agg #[.slice none 0 0, .slice none 0 0, .int .i64 0, .slice none 0 0]

set_option maxHeartbeats 2000000 in
theorem open_bad (v : Value) (C : Chain) (w : World) (hx : ChainAt w.heap.size w v C) (hV : validB C = false) :
    Calls Try.prog 71 #[v] w fun e w' => e = .returned (.tuple #[noBook, .int .i64 20]) ∧ Below w.heap.size w w' := by
  have hx' := hx
  obtain ⟨a, cap, b, off, a2, cap2, b2, off2, rfl, hm, hm2, hcap, hcapm, HA, HC, HA2, HC2, HI, HI2⟩ := hx.opened
  have HX := Lib.hid (fun W (hb : Below w.heap.size w W) => (hx'.below hb).mono hb.size)
  have HV := Lib.hid hV
  clear hx hx' hV HA HC HA2 HC2 HI HI2
  go_enter Try.func71, Try.ntmps71
  go_wp2_with fail
  refine (valid_to HV.out _ (HX.out _ (by go_grown))).mono ?_
  rintro e w1 ⟨rfl, hb1⟩
  have hsz := hb1.size
  simp only [World.size_alloc] at hsz
  have e1 : w1.heap[w.heap.size + 1]? = some (.cells #[.slice none 0 0, .slice none 0 0, .int .i64 0, .slice none 0 0] 84) :=
    (hb1.block (w.heap.size + 1) (by simp)).trans (heap_new1 w _ _)
  have hbw : Below w.heap.size w w1 := ((((Below.refl _ w).alloc (Nat.le_refl _) _).alloc (by simp) _)).trans (hb1.mono (by simp; omega))
  have r0 := (cell_of e1 0).trans (show _ = some (.slice none 0 0) from rfl)
  have r1 := (cell_of e1 1).trans (show _ = some (.slice none 0 0) from rfl)
  have r2 := (cell_of e1 2).trans (show _ = some (.int .i64 0) from rfl)
  have r3 := (cell_of e1 3).trans (show _ = some (.slice none 0 0) from rfl)
  have z0 := frozen_of e1 0
  have z1 := frozen_of e1 1
  have z2 := frozen_of e1 2
  have z3 := frozen_of e1 3
  obtain ⟨W, hW⟩ : ∃ W, W = (((w1.setCell ⟨w.heap.size + 1, 0, none⟩ (.slice none 0 0)).setCell ⟨w.heap.size + 1, 1, none⟩ (.slice none 0 0)).setCell ⟨w.heap.size + 1, 2, none⟩ (.int .i64 0)).setCell ⟨w.heap.size + 1, 3, none⟩ (.slice none 0 0) := ⟨_, rfl⟩
  have hbW : Below w.heap.size w W := hW ▸ below_setCell (below_setCell (below_setCell (below_setCell hbw (by omega)) (by omega)) (by omega)) (by omega)
  have HBW := Lib.hid hbW
  clear hbW hbw hb1
  go_wp2_with fail
  rw [← hW]
  have hWr : W.heap[w.heap.size + 1]? = some (.cells #[.slice none 0 0, .slice none 0 0, .int .i64 0, .slice none 0 0] 84) := by
    rw [hW]; exact heap_setCell_same (heap_setCell_same (heap_setCell_same (heap_setCell_same e1)))
  have y0 := (cell_of hWr 0).trans (show _ = some (.slice none 0 0) from rfl)
  have y1 := (cell_of hWr 1).trans (show _ = some (.slice none 0 0) from rfl)
  have y2 := (cell_of hWr 2).trans (show _ = some (.int .i64 0) from rfl)
  have y3 := (cell_of hWr 3).trans (show _ = some (.slice none 0 0) from rfl)
  refine bodyPost_ret (v := .tuple #[noBook, .int .i64 20]) (by simp [results, Try.results71, go_sem, y0, y1, y2, y3]) rfl ⟨rfl, HBW.out⟩

end Go.Proofs.Ytgjikoebneiamaa

namespace Go.Proofs.Ytgjikoebneiamaa
open Go.RowKit Go.Sort

set_option maxHeartbeats 2000000 in
theorem open_mk (dv sv : Value) (C : Chain) (w : World) (hx : ChainAt w.heap.size w (.agg #[dv, sv, .int .i64 C.wrong]) C) (hV : validB C = true) :
    Calls Try.prog 71 #[.agg #[dv, sv, .int .i64 C.wrong]] w fun e w' => ∃ bm, e = .returned (.tuple #[.agg #[dv, sv, .int .i64 C.wrong, .slice (some ⟨bm, 0, none⟩) (weldsTo C.deeds C.deeds.length) 12], .int .i64 0]) ∧ w.heap.size ≤ bm ∧ MarksAt w'.heap.size w' (.slice (some ⟨bm, 0, none⟩) (weldsTo C.deeds C.deeds.length) 12) C.deeds ∧ Below w.heap.size w w' := by
  have hx' := hx
  obtain ⟨a, cap, b, off, a2, cap2, b2, off2, hveq, hm, hm2, hcap, hcapm, HA, HC, HA2, HC2, HI, HI2⟩ := hx.opened
  cases hveq
  have HX := Lib.hid (fun W (hb : Below w.heap.size w W) => (hx'.below hb).mono hb.size)
  have HV := Lib.hid hV
  clear hx hx' hV
  go_enter Try.func71, Try.ntmps71
  go_wp2_with fail
  refine (valid_to HV.out _ (HX.out _ (by go_grown))).mono ?_
  rintro e w1 ⟨rfl, hb1⟩
  have hsz := hb1.size
  simp only [World.size_alloc] at hsz
  have e0 : w1.heap[w.heap.size]? = some (.cells #[.slice a C.deeds.length cap, .slice a2 C.sights.length cap2, .int .i64 C.wrong] 25) :=
    (hb1.block w.heap.size (by simp; omega)).trans ((Below.heap_alloc _ _ _ (by simp)).trans (heap_new w _))
  have e1 : w1.heap[w.heap.size + 1]? = some (.cells #[.slice none 0 0, .slice none 0 0, .int .i64 0, .slice none 0 0] 84) :=
    (hb1.block (w.heap.size + 1) (by simp)).trans (heap_new1 w _ _)
  have hlt0 : w.heap.size < w1.heap.size := by omega
  have hbw : Below w.heap.size w w1 := ((((Below.refl _ w).alloc (Nat.le_refl _) _).alloc (by simp) _)).trans (hb1.mono (by simp; omega))
  have c0 : w1.cell? ⟨w.heap.size, 0, none⟩ = some (.slice a C.deeds.length cap) := by simp [World.cell?, e0]
  have c1 : w1.cell? ⟨w.heap.size, 1, none⟩ = some (.slice a2 C.sights.length cap2) := by simp [World.cell?, e0]
  have c2 : w1.cell? ⟨w.heap.size, 2, none⟩ = some (.int .i64 C.wrong) := by simp [World.cell?, e0]
  have hmk : ∀ w, (Instr.makeSlice 82 (.int .i64 0) (.int .i64 12)).run Try.prog w = .ok (.slice (some ⟨w.heap.size, 0, none⟩) 0 12) (w.alloc (.cells (Array.replicate 24 (.int .i64 0)) 99)) := fun _ => by kernel_rfl
  go_wp2_with fail
  go_cut [4] from 11 to 13 (fun s4 wx => ∃ bb bm : Nat, s4 = .pointer (some ⟨bb, 0, none⟩) ∧ Hid (OpenSt w1 wx bb bm (.slice a C.deeds.length cap) (.slice a2 C.sights.length cap2) (.int .i64 C.wrong) C.deeds 0))
  case first =>
    go_region
    all_goals go_wp2_with fail
    all_goals go_meet
    · exact ⟨w1.heap.size + 1, w1.heap.size, rfl, ⟨by omega, by omega, by omega, by simp; try omega, by go_grown, heap_new1 _ _ _, ⟨_, heap_old1 _ _ _, rfl, fun i hi => by simp [weldsTo] at hi⟩⟩⟩
    · exact ⟨w1.heap.size, w1.heap.size + 1, rfl, ⟨by omega, by omega, by omega, by simp; try omega, by go_grown, heap_old1 _ _ _, ⟨_, heap_new1 _ _ _, rfl, fun i hi => by simp [weldsTo] at hi⟩⟩⟩
  case rest =>
  obtain ⟨bb, bm, rfl, hst⟩ := hcut
  have hnd := (valid_iff.1 HV.out).nd
  have HB := Lib.hid hbw
  have HE1 := Lib.hid e1
  clear c0 c1 c2 e0 e1 hmk hb1 hbw
  have hst0 := hst.out
  have t0 : wc.cell? ⟨bb, 0, none⟩ = some (.slice a C.deeds.length cap) := by simp [World.cell?, hst0.box]
  clear hst0
  go_wp2_with fail
  go_loopw [18] (fun i wr => ∃ j : Nat, j ≤ C.deeds.length ∧ i = .int .i64 j ∧ Hid (OpenSt w1 wr bb bm (.slice a C.deeds.length cap) (.slice a2 C.sights.length cap2) (.int .i64 C.wrong) C.deeds j)) (fun i _ => C.deeds.length - (intOf i).toNat)
  case atStart => exact ⟨0, Nat.zero_le _, rfl, hst⟩
  case round =>
    clear t0 hst
    obtain ⟨j, hj, rfl, hst⟩ := hrel
    have hbx := hst.out.box
    have t0 : wr.cell? ⟨bb, 0, none⟩ = some (.slice a C.deeds.length cap) := by simp [World.cell?, hbx]
    have t1 : wr.cell? ⟨bb, 1, none⟩ = some (.slice a2 C.sights.length cap2) := by simp [World.cell?, hbx]
    have t2 : wr.cell? ⟨bb, 2, none⟩ = some (.int .i64 C.wrong) := by simp [World.cell?, hbx]
    have t3 : wr.cell? ⟨bb, 3, none⟩ = some (.slice (some ⟨bm, 0, none⟩) (weldsTo C.deeds j) 12) := by simp [World.cell?, hbx]
    have hwr : Below w.heap.size w wr := HB.out.trans (hst.out.kept.mono HB.out.size)
    have hszr := hst.out.kept.size
    have hwle := weldsTo_le C.deeds j
    have hbblt := hst.out.lt
    have hlb := hst.out.lb
    have hlm := hst.out.lm
    have hne := hst.out.ne
    have HBX := Lib.hid hbx
    clear hbx
    by_cases hlt : j < C.deeds.length
    · obtain ⟨rfl, hb⟩ := HA.out (by omega)
      obtain ⟨d0, d1, d2, d3, d4⟩ := (HC.out j hlt).below hwr hb
      by_cases hw1 : (dnth C.deeds j).what = 1
      · obtain ⟨arr, ha1, ha2, ha3⟩ := hst.out.mem
        have hbm : bm < wr.heap.size := (Array.getElem?_eq_some_iff.1 ha1).1
        obtain ⟨u0, s0⟩ := Option.isSome_iff_exists.1 (show (wr.cell? ⟨bm, weldsTo C.deeds j * 2, none⟩).isSome = true by simp [World.cell?, ha1, ha2]; omega)
        obtain ⟨u1, s1⟩ := Option.isSome_iff_exists.1 (show (wr.cell? ⟨bm, weldsTo C.deeds j * 2 + 1, none⟩).isSome = true by simp [World.cell?, ha1, ha2]; omega)
        have s2 : wr.frozen? ⟨bm, weldsTo C.deeds j * 2, none⟩ = false := by simp [World.frozen?, ha1]
        have s3 : wr.frozen? ⟨bm, weldsTo C.deeds j * 2 + 1, none⟩ = false := by simp [World.frozen?, ha1]
        have s4 : wr.frozen? ⟨bb, 3, none⟩ = false := by simp [World.frozen?, HBX.out]
        have HAR := Lib.hid (show wr.heap[bm]? = some (.cells arr 99) ∧ arr.size = 24 ∧ ∀ i, i < weldsTo C.deeds j → arr[i * 2]? = some (.int .i64 (dnth (weldL C.deeds) i).bar) ∧ arr[i * 2 + 1]? = some (.int .i64 (dnth (weldL C.deeds) i).smith) from ⟨ha1, ha2, ha3⟩)
        clear ha1 ha2 ha3
        go_wp2_with fail
        exact ⟨⟨j + 1, by omega, by go_num, (hst.out.put hlt hnd hw1).grow (by go_grown)⟩, by simp [intOf]; omega⟩
      · go_wp2_with fail
        exact ⟨⟨j + 1, by omega, by go_num, (hst.out.skip hw1).grow (by go_grown)⟩, by simp [intOf]; omega⟩
    · obtain rfl : C.deeds.length = j := by omega
      have e1r := (hst.out.kept.block (w.heap.size + 1) (by omega)).trans HE1.out
      have r0 : wr.cell? ⟨w.heap.size + 1, 0, none⟩ = some (.slice none 0 0) := by simp [World.cell?, e1r]
      have r1 : wr.cell? ⟨w.heap.size + 1, 1, none⟩ = some (.slice none 0 0) := by simp [World.cell?, e1r]
      have r2 : wr.cell? ⟨w.heap.size + 1, 2, none⟩ = some (.int .i64 0) := by simp [World.cell?, e1r]
      have r3 : wr.cell? ⟨w.heap.size + 1, 3, none⟩ = some (.slice none 0 0) := by simp [World.cell?, e1r]
      have z0 : wr.frozen? ⟨w.heap.size + 1, 0, none⟩ = false := by simp [World.frozen?, e1r]
      have z1 : wr.frozen? ⟨w.heap.size + 1, 1, none⟩ = false := by simp [World.frozen?, e1r]
      have z2 : wr.frozen? ⟨w.heap.size + 1, 2, none⟩ = false := by simp [World.frozen?, e1r]
      have z3 : wr.frozen? ⟨w.heap.size + 1, 3, none⟩ = false := by simp [World.frozen?, e1r]
      have hn1 : ¬ bb = w.heap.size + 1 := by omega
      obtain ⟨W, hW⟩ : ∃ W, W = (((wr.setCell ⟨w.heap.size + 1, 0, none⟩ (.slice a C.deeds.length cap)).setCell ⟨w.heap.size + 1, 1, none⟩ (.slice a2 C.sights.length cap2)).setCell ⟨w.heap.size + 1, 2, none⟩ (.int .i64 C.wrong)).setCell ⟨w.heap.size + 1, 3, none⟩ (.slice (some ⟨bm, 0, none⟩) (weldsTo C.deeds C.deeds.length) 12) := ⟨_, rfl⟩
      have hbW : Below w.heap.size w W := hW ▸ below_setCell (below_setCell (below_setCell (below_setCell hwr (by omega)) (by omega)) (by omega)) (by omega)
      have hsW : W.heap.size = wr.heap.size := by rw [hW]; simp only [size_setCell]
      have hbk : MarksAt W.heap.size W (.slice (some ⟨bm, 0, none⟩) (weldsTo C.deeds C.deeds.length) 12) C.deeds := by
        obtain ⟨arr, ha1, ha2, ha3⟩ := hst.out.mem
        have hWm : W.heap[bm]? = some (.cells arr 99) := by
          rw [hW, heap_setCell_other (by omega), heap_setCell_other (by omega), heap_setCell_other (by omega), heap_setCell_other (by omega)]; exact ha1
        exact ⟨bm, rfl, heap_lt hWm, by omega, fun i hi => by rw [cell_of hWm, cell_of hWm]; exact ha3 i hi⟩
      have HBK := Lib.hid hbk
      have HBW := Lib.hid hbW
      clear hbk hbW hsW
      go_wp2_with fail
      rw [← hW]
      have hWr : W.heap[w.heap.size + 1]? = some (.cells #[.slice a C.deeds.length cap, .slice a2 C.sights.length cap2, .int .i64 C.wrong, .slice (some ⟨bm, 0, none⟩) (weldsTo C.deeds C.deeds.length) 12] 84) := by
        rw [hW]; exact heap_setCell_same (heap_setCell_same (heap_setCell_same (heap_setCell_same e1r)))
      have y0 := (cell_of hWr 0).trans (show _ = some (.slice a C.deeds.length cap) from rfl)
      have y1 := (cell_of hWr 1).trans (show _ = some (.slice a2 C.sights.length cap2) from rfl)
      have y2 := (cell_of hWr 2).trans (show _ = some (.int .i64 C.wrong) from rfl)
      have y3 := (cell_of hWr 3).trans (show _ = some (.slice (some ⟨bm, 0, none⟩) (weldsTo C.deeds C.deeds.length) 12) from rfl)
      refine bodyPost_ret (v := .tuple #[.agg #[.slice a C.deeds.length cap, .slice a2 C.sights.length cap2, .int .i64 C.wrong, .slice (some ⟨bm, 0, none⟩) (weldsTo C.deeds C.deeds.length) 12], .int .i64 0]) (by simp [results, Try.results71, go_sem, y0, y1, y2, y3]) rfl ⟨_, rfl, by have := HB.out.size; omega, HBK.out, HBW.out⟩

/-- How a function ends that hands back a book in a cell. -/
theorem four_set {W : World} {b : Nat} {u0 u1 u2 u3 v0 v1 v2 v3 : Value} {t : TypeId} (h : W.heap[b]? = some (.cells #[u0, u1, u2, u3] t)) :
    ((((W.setCell ⟨b, 0, none⟩ v0).setCell ⟨b, 1, none⟩ v1).setCell ⟨b, 2, none⟩ v2).setCell ⟨b, 3, none⟩ v3).heap[b]? = some (.cells #[v0, v1, v2, v3] t) :=
  heap_setCell_same (heap_setCell_same (heap_setCell_same (heap_setCell_same h)))
theorem four_below {B : Nat} {a W : World} {b : Nat} {v0 v1 v2 v3 : Value} (h : Below B a W) (hb : B ≤ b) : Below B a ((((W.setCell ⟨b, 0, none⟩ v0).setCell ⟨b, 1, none⟩ v1).setCell ⟨b, 2, none⟩ v2).setCell ⟨b, 3, none⟩ v3) :=
  below_setCell (below_setCell (below_setCell (below_setCell h hb) hb) hb) hb
theorem box4f {W : World} {b : Nat} {v0 v1 v2 v3 : Value} {t : TypeId} (e : W.heap[b]? = some (.cells #[v0, v1, v2, v3] t)) :
    W.cell? ⟨b, 0, none⟩ = some v0 ∧ W.cell? ⟨b, 1, none⟩ = some v1 ∧ W.cell? ⟨b, 2, none⟩ = some v2 ∧ W.cell? ⟨b, 3, none⟩ = some v3 ∧
    W.frozen? ⟨b, 0, none⟩ = false ∧ W.frozen? ⟨b, 1, none⟩ = false ∧ W.frozen? ⟨b, 2, none⟩ = false ∧ W.frozen? ⟨b, 3, none⟩ = false := by
  refine ⟨?_, ?_, ?_, ?_, ?_, ?_, ?_, ?_⟩ <;> simp [World.cell?, World.frozen?, e]

set_option maxHeartbeats 2000000 in
theorem openLink_ok (a a2 : Option Addr) (cap cap2 : Nat) (C : Chain) (link : Int) (w : World) (hx : ChainAt w.heap.size w (.agg #[.slice a C.deeds.length cap, .slice a2 C.sights.length cap2, .int .i64 C.wrong]) C) (hV : validB C = true) (hi : wB link 0 ((weldsTo C.deeds C.deeds.length : Int) - 1) = true) :
    Calls Try.prog 84 #[.agg #[.slice a C.deeds.length cap, .slice a2 C.sights.length cap2, .int .i64 C.wrong], .int .i64 link] w fun e w' => ∃ bm, e = .returned (.tuple #[(.agg #[.slice a C.deeds.length cap, .slice a2 C.sights.length cap2, .int .i64 C.wrong, .slice (some ⟨bm, 0, none⟩) (weldsTo C.deeds C.deeds.length) 12]), .int .i64 0]) ∧ Hid (BookAt w'.heap.size w' (.agg #[.slice a C.deeds.length cap, .slice a2 C.sights.length cap2, .int .i64 C.wrong, .slice (some ⟨bm, 0, none⟩) (weldsTo C.deeds C.deeds.length) 12]) C) ∧ Hid (Below w.heap.size w w') := by
  have HX := Lib.hid (fun W (hb : Below w.heap.size w W) => (hx.below hb).mono hb.size)
  have HV := Lib.hid hV
  have hw12 : weldsTo C.deeds C.deeds.length ≤ 12 := Nat.le_trans (weldsTo_le _ _) (valid_iff.1 hV).nd
  obtain ⟨N, hN⟩ : ∃ N, weldsTo C.deeds C.deeds.length = N := ⟨_, rfl⟩
  have HN := Lib.hid hN
  rw [hN] at hw12 hi ⊢
  clear hx hV hN
  go_enter Try.func84, Try.ntmps84
  go_wp2_with fail
  refine (open_mk _ _ C _ (HX.out _ (by go_grown)) HV.out).mono ?_
  rintro e w1 ⟨bm, rfl, hbm, hmk, hb1⟩
  rw [HN.out] at hmk ⊢
  have hsz := hb1.size
  simp only [World.size_alloc] at hsz hbm
  have e1 : w1.heap[w.heap.size + 1]? = some (.cells #[.slice none 0 0, .slice none 0 0, .int .i64 0, .slice none 0 0] 84) :=
    (hb1.block (w.heap.size + 1) (by simp)).trans (heap_new1 w _ _)
  have hbw : Below w.heap.size w w1 := ((((Below.refl _ w).alloc (Nat.le_refl _) _).alloc (by simp) _)).trans (hb1.mono (by simp; omega))
  obtain ⟨r0, r1, r2, r3, z0, z1, z2, z3⟩ := box4f e1
  have hlt1 : w.heap.size + 1 < w1.heap.size := heap_lt e1
  have HE1 := Lib.hid e1
  have HMK := Lib.hid hmk
  have HBW := Lib.hid hbw
  have hwr : IntKind.i64.wrap ((N : Int) - 1) = (N : Int) - 1 := IntWalk.i64_in _ (by omega)
  clear hb1 hmk e1 hbw hsz
  go_wp2_with (go_at_call 109; refine (within_to (by with_reducible assumption) _).mono ?_; rintro e w' ⟨rfl, rfl⟩)
  obtain ⟨X, hX⟩ : ∃ X, X = (((w1.setCell ⟨w.heap.size + 1, 0, none⟩ (.slice a C.deeds.length cap)).setCell ⟨w.heap.size + 1, 1, none⟩ (.slice a2 C.sights.length cap2)).setCell ⟨w.heap.size + 1, 2, none⟩ (.int .i64 C.wrong)).setCell ⟨w.heap.size + 1, 3, none⟩ (.slice (some ⟨bm, 0, none⟩) N 12) := ⟨_, rfl⟩
  have hXr := four_set (v0 := .slice a C.deeds.length cap) (v1 := .slice a2 C.sights.length cap2) (v2 := .int .i64 C.wrong) (v3 := .slice (some ⟨bm, 0, none⟩) N 12) HE1.out
  rw [← hX] at hXr
  have hXB := four_below (v0 := .slice a C.deeds.length cap) (v1 := .slice a2 C.sights.length cap2) (v2 := .int .i64 C.wrong) (v3 := .slice (some ⟨bm, 0, none⟩) N 12) HBW.out (show w.heap.size ≤ w.heap.size + 1 by omega)
  rw [← hX] at hXB
  have hXm : X.heap[bm]? = w1.heap[bm]? := by rw [hX, heap_setCell_other (by omega), heap_setCell_other (by omega), heap_setCell_other (by omega), heap_setCell_other (by omega)]
  have hXs : X.heap.size = w1.heap.size := by rw [hX]; simp only [size_setCell]
  rw [← hX]
  obtain ⟨Y, hY⟩ : ∃ Y, Y = X.alloc (.cells #[.slice a C.deeds.length cap, .slice a2 C.sights.length cap2, .int .i64 C.wrong, .slice (some ⟨bm, 0, none⟩) N 12] 84) := ⟨_, rfl⟩
  have hbY : Below X.heap.size X Y := hY ▸ (Below.refl _ X).alloc (Nat.le_refl _) _
  rw [← hY]
  have hYr := (hbY.block _ (heap_lt hXr)).trans hXr
  obtain ⟨y0, y1, y2, y3, _⟩ := box4f hYr
  have hYw : Below w.heap.size w Y := hXB.trans (hbY.mono (by omega))
  have hmY : MarksAt Y.heap.size Y (.slice (some ⟨bm, 0, none⟩) N 12) C.deeds := by
    obtain ⟨bm', hv, hlt, h12, hc⟩ := HMK.out
    cases hv
    have hk : Y.heap[bm]? = w1.heap[bm]? := (hbY.block bm (by omega)).trans hXm
    exact ⟨bm, by rw [HN.out], by have := hbY.size; omega, h12, fun i hi => ⟨(World.cell?_of_block (a := ⟨bm, i * 2, none⟩) hk).trans (hc i hi).1, (World.cell?_of_block (a := ⟨bm, i * 2 + 1, none⟩) hk).trans (hc i hi).2⟩⟩
  refine bodyPost_ret (v := .tuple #[.agg #[.slice a C.deeds.length cap, .slice a2 C.sights.length cap2, .int .i64 C.wrong, .slice (some ⟨bm, 0, none⟩) N 12], .int .i64 0]) (by simp [results, Try.results84, go_sem, y0, y1, y2, y3]) rfl ⟨bm, rfl, ⟨_, _, _, rfl, HX.out Y hYw, hmY⟩, hYw⟩

set_option maxHeartbeats 2000000 in
theorem openLink_arg (a a2 : Option Addr) (cap cap2 : Nat) (C : Chain) (link : Int) (w : World) (hx : ChainAt w.heap.size w (.agg #[.slice a C.deeds.length cap, .slice a2 C.sights.length cap2, .int .i64 C.wrong]) C) (hV : validB C = true) (hi : wB link 0 ((weldsTo C.deeds C.deeds.length : Int) - 1) = false) :
    Calls Try.prog 84 #[.agg #[.slice a C.deeds.length cap, .slice a2 C.sights.length cap2, .int .i64 C.wrong], .int .i64 link] w fun e w' => e = .returned (.tuple #[noBook, .int .i64 1]) ∧ Hid (Below w.heap.size w w') := by
  have HX := Lib.hid (fun W (hb : Below w.heap.size w W) => (hx.below hb).mono hb.size)
  have HV := Lib.hid hV
  have hw12 : weldsTo C.deeds C.deeds.length ≤ 12 := Nat.le_trans (weldsTo_le _ _) (valid_iff.1 hV).nd
  obtain ⟨N, hN⟩ : ∃ N, weldsTo C.deeds C.deeds.length = N := ⟨_, rfl⟩
  have HN := Lib.hid hN
  rw [hN] at hw12 hi
  clear hx hV hN
  go_enter Try.func84, Try.ntmps84
  go_wp2_with fail
  refine (open_mk _ _ C _ (HX.out _ (by go_grown)) HV.out).mono ?_
  rintro e w1 ⟨bm, rfl, hbm, hmk, hb1⟩
  rw [HN.out] at hmk ⊢
  have hsz := hb1.size
  simp only [World.size_alloc] at hsz hbm
  have e1 : w1.heap[w.heap.size + 1]? = some (.cells #[.slice none 0 0, .slice none 0 0, .int .i64 0, .slice none 0 0] 84) :=
    (hb1.block (w.heap.size + 1) (by simp)).trans (heap_new1 w _ _)
  have hbw : Below w.heap.size w w1 := ((((Below.refl _ w).alloc (Nat.le_refl _) _).alloc (by simp) _)).trans (hb1.mono (by simp; omega))
  obtain ⟨r0, r1, r2, r3, z0, z1, z2, z3⟩ := box4f e1
  have hlt1 : w.heap.size + 1 < w1.heap.size := heap_lt e1
  have HE1 := Lib.hid e1
  have HMK := Lib.hid hmk
  have HBW := Lib.hid hbw
  have hwr : IntKind.i64.wrap ((N : Int) - 1) = (N : Int) - 1 := IntWalk.i64_in _ (by omega)
  clear hb1 hmk e1 hbw hsz
  go_wp2_with (go_at_call 109; refine (within_to (by with_reducible assumption) _).mono ?_; rintro e w' ⟨rfl, rfl⟩)
  obtain ⟨X, hX⟩ : ∃ X, X = (((w1.setCell ⟨w.heap.size + 1, 0, none⟩ (.slice none 0 0)).setCell ⟨w.heap.size + 1, 1, none⟩ (.slice none 0 0)).setCell ⟨w.heap.size + 1, 2, none⟩ (.int .i64 0)).setCell ⟨w.heap.size + 1, 3, none⟩ (.slice none 0 0) := ⟨_, rfl⟩
  have hXr := four_set (v0 := .slice none 0 0) (v1 := .slice none 0 0) (v2 := .int .i64 0) (v3 := .slice none 0 0) HE1.out
  rw [← hX] at hXr
  have hXB := four_below (v0 := .slice none 0 0) (v1 := .slice none 0 0) (v2 := .int .i64 0) (v3 := .slice none 0 0) HBW.out (show w.heap.size ≤ w.heap.size + 1 by omega)
  rw [← hX] at hXB
  have hXm : X.heap[bm]? = w1.heap[bm]? := by rw [hX, heap_setCell_other (by omega), heap_setCell_other (by omega), heap_setCell_other (by omega), heap_setCell_other (by omega)]
  have hXs : X.heap.size = w1.heap.size := by rw [hX]; simp only [size_setCell]
  rw [← hX]
  obtain ⟨Y, hY⟩ : ∃ Y, Y = X.alloc (.cells #[.slice a C.deeds.length cap, .slice a2 C.sights.length cap2, .int .i64 C.wrong, .slice (some ⟨bm, 0, none⟩) N 12] 84) := ⟨_, rfl⟩
  have hbY : Below X.heap.size X Y := hY ▸ (Below.refl _ X).alloc (Nat.le_refl _) _
  rw [← hY]
  have hYr := (hbY.block _ (heap_lt hXr)).trans hXr
  obtain ⟨y0, y1, y2, y3, _⟩ := box4f hYr
  have hYw : Below w.heap.size w Y := hXB.trans (hbY.mono (by omega))
  refine bodyPost_ret (v := .tuple #[noBook, .int .i64 1]) (by simp [results, Try.results84, go_sem, y0, y1, y2, y3]) rfl ⟨rfl, hYw⟩

end Go.Proofs.Ytgjikoebneiamaa

namespace Go.Proofs.Ytgjikoebneiamaa
open Go.RowKit Go.Sort

set_option maxHeartbeats 2000000 in
theorem openAt_ok (a a2 : Option Addr) (cap cap2 : Nat) (C : Chain) (pv : Value) (xs : List Int) (w : World) (hx : ChainAt w.heap.size w (.agg #[.slice a C.deeds.length cap, .slice a2 C.sights.length cap2, .int .i64 C.wrong]) C) (hpv : IntsAt w.heap.size w pv xs) (hV : validB C = true)
    (hi : allTo (fun i => wB (nth xs i) 0 (lenTo C.deeds C.deeds.length - 1)) xs.length = true) :
    Calls Try.prog 77 #[(.agg #[.slice a C.deeds.length cap, .slice a2 C.sights.length cap2, .int .i64 C.wrong]), pv] w fun e w' => ∃ bm, e = .returned (.tuple #[(.agg #[.slice a C.deeds.length cap, .slice a2 C.sights.length cap2, .int .i64 C.wrong, .slice (some ⟨bm, 0, none⟩) (weldsTo C.deeds C.deeds.length) 12]), .int .i64 0]) ∧ Hid (BookAt w'.heap.size w' (.agg #[.slice a C.deeds.length cap, .slice a2 C.sights.length cap2, .int .i64 C.wrong, .slice (some ⟨bm, 0, none⟩) (weldsTo C.deeds C.deeds.length) 12]) C) ∧ Hid (Below w.heap.size w w') := by
  have hpv' := hpv
  obtain ⟨pa, pcap, pb, poff, rfl, hpm, HPA, HPC, _⟩ := hpv.opened
  have HX := Lib.hid (fun W (hb : Below w.heap.size w W) => (hx.below hb).mono hb.size)
  have HV := Lib.hid hV
  have hnd := (valid_iff.1 hV).nd
  have hw12 : weldsTo C.deeds C.deeds.length ≤ 12 := Nat.le_trans (weldsTo_le _ _) hnd
  have hle := lenTo_le C.deeds C.deeds.length
  obtain ⟨N, hN⟩ : ∃ N, weldsTo C.deeds C.deeds.length = N := ⟨_, rfl⟩
  have HN := Lib.hid hN
  obtain ⟨L, hL⟩ : ∃ L, lenTo C.deeds C.deeds.length = L := ⟨_, rfl⟩
  have HL := Lib.hid hL
  have HLA := Lib.hid (show ∀ W, DeedsTo W.heap.size W (.slice a C.deeds.length cap) C.deeds C.deeds.length → Calls Try.prog 70 #[.slice a C.deeds.length cap] W fun e w' => e = .returned (.int .i64 L) ∧ Below W.heap.size W w' from
    fun W h => hL ▸ lengthAfter_any _ C.deeds C.deeds.length W hnd h)
  rw [hN] at hw12 ⊢
  rw [hL] at hi hle
  have HI := Lib.hid hi
  clear hx hV hN hL hpv hpv' hi
  go_enter Try.func77, Try.ntmps77
  go_wp2_with fail
  refine (open_mk _ _ C _ (HX.out _ (by go_grown)) HV.out).mono ?_
  rintro e w1 ⟨bm, rfl, hbm, hmk, hb1⟩
  rw [HN.out] at hmk ⊢
  have hsz := hb1.size
  simp only [World.size_alloc] at hsz hbm
  have e1 : w1.heap[w.heap.size + 1]? = some (.cells #[.slice none 0 0, .slice none 0 0, .int .i64 0, .slice none 0 0] 84) :=
    (hb1.block (w.heap.size + 1) (by simp)).trans (heap_new1 w _ _)
  have hbw : Below w.heap.size w w1 := ((((Below.refl _ w).alloc (Nat.le_refl _) _).alloc (by simp) _)).trans (hb1.mono (by simp; omega))
  have hlt1 : w.heap.size + 1 < w1.heap.size := heap_lt e1
  have HE1 := Lib.hid e1
  have HMK := Lib.hid hmk
  have HBW := Lib.hid hbw
  clear hb1 hmk e1 hbw hsz
  go_wp2_with fail
  obtain ⟨w2, hw2⟩ : ∃ w2, w2 = w1.alloc (.cells #[.slice a C.deeds.length cap, .slice a2 C.sights.length cap2, .int .i64 C.wrong, .slice (some ⟨bm, 0, none⟩) N 12] 84) := ⟨_, rfl⟩
  rw [← hw2]
  have hb2 : Below w1.heap.size w1 w2 := hw2 ▸ (Below.refl _ w1).alloc (Nat.le_refl _) _
  have e2 : w2.heap[w1.heap.size]? = some (.cells #[.slice a C.deeds.length cap, .slice a2 C.sights.length cap2, .int .i64 C.wrong, .slice (some ⟨bm, 0, none⟩) N 12] 84) := hw2 ▸ heap_new w1 _
  have hbw2 : Below w.heap.size w w2 := HBW.out.trans (hb2.mono (by omega))
  have hD2 : DeedsTo w2.heap.size w2 (.slice a C.deeds.length cap) C.deeds C.deeds.length := by
    obtain ⟨dv, sv, hv, hD, _⟩ := HX.out w2 hbw2
    cases hv
    exact hD
  refine (HLA.out w2 hD2).mono ?_
  rintro e w3 ⟨rfl, hb3⟩
  have hsz2 := hb2.size
  have hlt2 := heap_lt e2
  have e3 := (hb3.block w1.heap.size hlt2).trans e2
  have er := (hb3.block (w.heap.size + 1) (by omega)).trans ((hb2.block (w.heap.size + 1) hlt1).trans HE1.out)
  have hbw3 : Below w.heap.size w w3 := hbw2.trans (hb3.mono (by omega))
  have hbmlt : bm < w1.heap.size := by
    obtain ⟨_, hv, hlt, _⟩ := HMK.out
    cases hv
    exact hlt
  have hmk3 := (HMK.out.below hb2).below (hb3.mono hsz2)
  obtain ⟨r0, r1, r2, r3, z0, z1, z2, z3⟩ := box4f er
  obtain ⟨c0, c1, c2, c3, _⟩ := box4f e3
  have hlt3 : w.heap.size + 1 < w3.heap.size := heap_lt er
  have hs3 : w1.heap.size ≤ w3.heap.size := by have := hb3.size; omega
  have HE3 := Lib.hid er
  have HMK3 := Lib.hid (hmk3.mono hs3)
  have HBW3 := Lib.hid hbw3
  have hwr : IntKind.i64.wrap (L - 1) = L - 1 := IntWalk.i64_in _ (by omega)
  clear hb2 e2 hbw2 hD2 hb3 e3 er hbw3 hmk3 hw2 HLA
  go_wp2_with fail
  go_loop [26] (fun i => ∃ k : Nat, k ≤ xs.length ∧ i = .int .i64 k ∧ Hid (allTo (fun i => wB (nth xs i) 0 (L - 1)) k = true)) (fun i => xs.length - (intOf i).toNat)
  case atStart => exact ⟨0, Nat.zero_le _, rfl, rfl⟩
  case round =>
    obtain ⟨k, hk, rfl, hall⟩ := hrel
    by_cases hlt : k < xs.length
    · obtain ⟨rfl, hpb⟩ := HPA.out (by omega)
      have d0 := (HBW3.out.cell (p := ⟨pb, poff + k, none⟩) hpb).trans (HPC.out k hlt)
      cases hr : wB (nth xs k) 0 (L - 1)
      case false =>
        have := HI.out
        rw [allTo_false hlt hr] at this
        cases this
      case true =>
        have HR := Lib.hid hr
        go_wp2_with (go_at_call 109; refine (within_to (by with_reducible assumption) _).mono ?_; rintro e w' ⟨rfl, rfl⟩)
        exact ⟨⟨k + 1, by omega, by go_num, allTo_step hall HR.out⟩, by simp [intOf]; omega⟩
    · obtain rfl : xs.length = k := by omega
      go_wp2_with fail
      obtain ⟨X, hX⟩ : ∃ X, X = (((w3.setCell ⟨w.heap.size + 1, 0, none⟩ (.slice a C.deeds.length cap)).setCell ⟨w.heap.size + 1, 1, none⟩ (.slice a2 C.sights.length cap2)).setCell ⟨w.heap.size + 1, 2, none⟩ (.int .i64 C.wrong)).setCell ⟨w.heap.size + 1, 3, none⟩ (.slice (some ⟨bm, 0, none⟩) N 12) := ⟨_, rfl⟩
      have hXr := four_set (v0 := .slice a C.deeds.length cap) (v1 := .slice a2 C.sights.length cap2) (v2 := .int .i64 C.wrong) (v3 := .slice (some ⟨bm, 0, none⟩) N 12) HE3.out
      rw [← hX] at hXr
      have hXB := four_below (v0 := .slice a C.deeds.length cap) (v1 := .slice a2 C.sights.length cap2) (v2 := .int .i64 C.wrong) (v3 := .slice (some ⟨bm, 0, none⟩) N 12) HBW3.out (show w.heap.size ≤ w.heap.size + 1 by omega)
      rw [← hX] at hXB
      have hXm : X.heap[bm]? = w3.heap[bm]? := by rw [hX, heap_setCell_other (by omega), heap_setCell_other (by omega), heap_setCell_other (by omega), heap_setCell_other (by omega)]
      rw [← hX]
      obtain ⟨y0, y1, y2, y3, _⟩ := box4f hXr
      have hmY : MarksAt X.heap.size X (.slice (some ⟨bm, 0, none⟩) N 12) C.deeds := by
        obtain ⟨bm', hv, hlt, h12, hc⟩ := HMK3.out
        cases hv
        exact ⟨bm, by rw [HN.out], by have : X.heap.size = w3.heap.size := by rw [hX]; simp only [size_setCell]
                                      omega, h12, fun i hi => ⟨(World.cell?_of_block (a := ⟨bm, i * 2, none⟩) hXm).trans (hc i hi).1, (World.cell?_of_block (a := ⟨bm, i * 2 + 1, none⟩) hXm).trans (hc i hi).2⟩⟩
      refine bodyPost_ret (v := .tuple #[.agg #[.slice a C.deeds.length cap, .slice a2 C.sights.length cap2, .int .i64 C.wrong, .slice (some ⟨bm, 0, none⟩) N 12], .int .i64 0]) (by simp [results, Try.results77, go_sem, y0, y1, y2, y3]) rfl ⟨bm, rfl, ⟨_, _, _, rfl, HX.out X hXB, hmY⟩, hXB⟩

set_option maxHeartbeats 2000000 in
theorem openAt_arg (a a2 : Option Addr) (cap cap2 : Nat) (C : Chain) (pv : Value) (xs : List Int) (w : World) (hx : ChainAt w.heap.size w (.agg #[.slice a C.deeds.length cap, .slice a2 C.sights.length cap2, .int .i64 C.wrong]) C) (hpv : IntsAt w.heap.size w pv xs) (hV : validB C = true)
    (hi : allTo (fun i => wB (nth xs i) 0 (lenTo C.deeds C.deeds.length - 1)) xs.length = false) :
    Calls Try.prog 77 #[(.agg #[.slice a C.deeds.length cap, .slice a2 C.sights.length cap2, .int .i64 C.wrong]), pv] w fun e w' => e = .returned (.tuple #[noBook, .int .i64 1]) ∧ Hid (Below w.heap.size w w') := by
  have hpv' := hpv
  obtain ⟨pa, pcap, pb, poff, rfl, hpm, HPA, HPC, _⟩ := hpv.opened
  have HX := Lib.hid (fun W (hb : Below w.heap.size w W) => (hx.below hb).mono hb.size)
  have HV := Lib.hid hV
  have hnd := (valid_iff.1 hV).nd
  have hw12 : weldsTo C.deeds C.deeds.length ≤ 12 := Nat.le_trans (weldsTo_le _ _) hnd
  have hle := lenTo_le C.deeds C.deeds.length
  obtain ⟨N, hN⟩ : ∃ N, weldsTo C.deeds C.deeds.length = N := ⟨_, rfl⟩
  have HN := Lib.hid hN
  obtain ⟨L, hL⟩ : ∃ L, lenTo C.deeds C.deeds.length = L := ⟨_, rfl⟩
  have HL := Lib.hid hL
  have HLA := Lib.hid (show ∀ W, DeedsTo W.heap.size W (.slice a C.deeds.length cap) C.deeds C.deeds.length → Calls Try.prog 70 #[.slice a C.deeds.length cap] W fun e w' => e = .returned (.int .i64 L) ∧ Below W.heap.size W w' from
    fun W h => hL ▸ lengthAfter_any _ C.deeds C.deeds.length W hnd h)
  rw [hN] at hw12
  rw [hL] at hi hle
  have HI := Lib.hid hi
  clear hx hV hN hL hpv hpv' hi
  go_enter Try.func77, Try.ntmps77
  go_wp2_with fail
  refine (open_mk _ _ C _ (HX.out _ (by go_grown)) HV.out).mono ?_
  rintro e w1 ⟨bm, rfl, hbm, hmk, hb1⟩
  rw [HN.out] at hmk ⊢
  have hsz := hb1.size
  simp only [World.size_alloc] at hsz hbm
  have e1 : w1.heap[w.heap.size + 1]? = some (.cells #[.slice none 0 0, .slice none 0 0, .int .i64 0, .slice none 0 0] 84) :=
    (hb1.block (w.heap.size + 1) (by simp)).trans (heap_new1 w _ _)
  have hbw : Below w.heap.size w w1 := ((((Below.refl _ w).alloc (Nat.le_refl _) _).alloc (by simp) _)).trans (hb1.mono (by simp; omega))
  have hlt1 : w.heap.size + 1 < w1.heap.size := heap_lt e1
  have HE1 := Lib.hid e1
  have HMK := Lib.hid hmk
  have HBW := Lib.hid hbw
  clear hb1 hmk e1 hbw hsz
  go_wp2_with fail
  obtain ⟨w2, hw2⟩ : ∃ w2, w2 = w1.alloc (.cells #[.slice a C.deeds.length cap, .slice a2 C.sights.length cap2, .int .i64 C.wrong, .slice (some ⟨bm, 0, none⟩) N 12] 84) := ⟨_, rfl⟩
  rw [← hw2]
  have hb2 : Below w1.heap.size w1 w2 := hw2 ▸ (Below.refl _ w1).alloc (Nat.le_refl _) _
  have e2 : w2.heap[w1.heap.size]? = some (.cells #[.slice a C.deeds.length cap, .slice a2 C.sights.length cap2, .int .i64 C.wrong, .slice (some ⟨bm, 0, none⟩) N 12] 84) := hw2 ▸ heap_new w1 _
  have hbw2 : Below w.heap.size w w2 := HBW.out.trans (hb2.mono (by omega))
  have hD2 : DeedsTo w2.heap.size w2 (.slice a C.deeds.length cap) C.deeds C.deeds.length := by
    obtain ⟨dv, sv, hv, hD, _⟩ := HX.out w2 hbw2
    cases hv
    exact hD
  refine (HLA.out w2 hD2).mono ?_
  rintro e w3 ⟨rfl, hb3⟩
  have hsz2 := hb2.size
  have hlt2 := heap_lt e2
  have e3 := (hb3.block w1.heap.size hlt2).trans e2
  have er := (hb3.block (w.heap.size + 1) (by omega)).trans ((hb2.block (w.heap.size + 1) hlt1).trans HE1.out)
  have hbw3 : Below w.heap.size w w3 := hbw2.trans (hb3.mono (by omega))
  have hbmlt : bm < w1.heap.size := by
    obtain ⟨_, hv, hlt, _⟩ := HMK.out
    cases hv
    exact hlt
  have hmk3 := (HMK.out.below hb2).below (hb3.mono hsz2)
  obtain ⟨r0, r1, r2, r3, z0, z1, z2, z3⟩ := box4f er
  obtain ⟨c0, c1, c2, c3, _⟩ := box4f e3
  have hlt3 : w.heap.size + 1 < w3.heap.size := heap_lt er
  have hs3 : w1.heap.size ≤ w3.heap.size := by have := hb3.size; omega
  have HE3 := Lib.hid er
  have HMK3 := Lib.hid (hmk3.mono hs3)
  have HBW3 := Lib.hid hbw3
  have hwr : IntKind.i64.wrap (L - 1) = L - 1 := IntWalk.i64_in _ (by omega)
  clear hb2 e2 hbw2 hD2 hb3 e3 er hbw3 hmk3 hw2 HLA
  go_wp2_with fail
  go_loop [26] (fun i => ∃ k : Nat, k ≤ xs.length ∧ i = .int .i64 k ∧ Hid (allTo (fun i => wB (nth xs i) 0 (L - 1)) k = true)) (fun i => xs.length - (intOf i).toNat)
  case atStart => exact ⟨0, Nat.zero_le _, rfl, rfl⟩
  case round =>
    obtain ⟨k, hk, rfl, hall⟩ := hrel
    by_cases hlt : k < xs.length
    · obtain ⟨rfl, hpb⟩ := HPA.out (by omega)
      have d0 := (HBW3.out.cell (p := ⟨pb, poff + k, none⟩) hpb).trans (HPC.out k hlt)
      cases hr : wB (nth xs k) 0 (L - 1)
      case false =>
        go_wp2_with (go_at_call 109; refine (within_to (by with_reducible assumption) _).mono ?_; rintro e w' ⟨rfl, rfl⟩)
        obtain ⟨X, hX⟩ : ∃ X, X = (((w3.setCell ⟨w.heap.size + 1, 0, none⟩ (.slice none 0 0)).setCell ⟨w.heap.size + 1, 1, none⟩ (.slice none 0 0)).setCell ⟨w.heap.size + 1, 2, none⟩ (.int .i64 0)).setCell ⟨w.heap.size + 1, 3, none⟩ (.slice none 0 0) := ⟨_, rfl⟩
        have hXr := four_set (v0 := .slice none 0 0) (v1 := .slice none 0 0) (v2 := .int .i64 0) (v3 := .slice none 0 0) HE3.out
        rw [← hX] at hXr
        have hXB := four_below (v0 := .slice none 0 0) (v1 := .slice none 0 0) (v2 := .int .i64 0) (v3 := .slice none 0 0) HBW3.out (show w.heap.size ≤ w.heap.size + 1 by omega)
        rw [← hX] at hXB
        have hXm : X.heap[bm]? = w3.heap[bm]? := by rw [hX, heap_setCell_other (by omega), heap_setCell_other (by omega), heap_setCell_other (by omega), heap_setCell_other (by omega)]
        rw [← hX]
        obtain ⟨y0, y1, y2, y3, _⟩ := box4f hXr
        refine bodyPost_ret (v := .tuple #[noBook, .int .i64 1]) (by simp [results, Try.results77, go_sem, y0, y1, y2, y3]) rfl ⟨rfl, hXB⟩
      case true =>
        have HR := Lib.hid hr
        go_wp2_with (go_at_call 109; refine (within_to (by with_reducible assumption) _).mono ?_; rintro e w' ⟨rfl, rfl⟩)
        exact ⟨⟨k + 1, by omega, by go_num, allTo_step hall HR.out⟩, by simp [intOf]; omega⟩
    · obtain rfl : xs.length = k := by omega
      have := HI.out
      rw [hall.out] at this
      cases this

end Go.Proofs.Ytgjikoebneiamaa

namespace Go.Proofs.Ytgjikoebneiamaa
open Go.RowKit Go.Sort

set_option maxHeartbeats 2000000 in
theorem openLink_bad (a a2 : Option Addr) (cap cap2 : Nat) (C : Chain) (link : Int) (w : World) (hx : ChainAt w.heap.size w (.agg #[.slice a C.deeds.length cap, .slice a2 C.sights.length cap2, .int .i64 C.wrong]) C) (hV : validB C = false) :
    Calls Try.prog 84 #[(.agg #[.slice a C.deeds.length cap, .slice a2 C.sights.length cap2, .int .i64 C.wrong]), .int .i64 link] w fun e w' => e = .returned (.tuple #[noBook, .int .i64 20]) ∧ Hid (Below w.heap.size w w') := by
  have HX := Lib.hid (fun W (hb : Below w.heap.size w W) => (hx.below hb).mono hb.size)
  have HV := Lib.hid hV
  clear hx hV
  go_enter Try.func84, Try.ntmps84
  go_wp2_with fail
  refine (open_bad _ C _ (HX.out _ (by go_grown)) HV.out).mono ?_
  rintro e w1 ⟨rfl, hb1⟩
  have hsz := hb1.size
  simp only [World.size_alloc] at hsz
  have e1 : w1.heap[w.heap.size + 1]? = some (.cells #[.slice none 0 0, .slice none 0 0, .int .i64 0, .slice none 0 0] 84) :=
    (hb1.block (w.heap.size + 1) (by simp)).trans (heap_new1 w _ _)
  have hbw : Below w.heap.size w w1 := ((((Below.refl _ w).alloc (Nat.le_refl _) _).alloc (by simp) _)).trans (hb1.mono (by simp; omega))
  obtain ⟨r0, r1, r2, r3, z0, z1, z2, z3⟩ := box4f e1
  have hlt1 : w.heap.size + 1 < w1.heap.size := heap_lt e1
  have HE1 := Lib.hid e1
  have HBW := Lib.hid hbw
  clear hb1 e1 hbw hsz
  go_wp2_with fail
  obtain ⟨X, hX⟩ : ∃ X, X = (((w1.setCell ⟨w.heap.size + 1, 0, none⟩ (.slice none 0 0)).setCell ⟨w.heap.size + 1, 1, none⟩ (.slice none 0 0)).setCell ⟨w.heap.size + 1, 2, none⟩ (.int .i64 0)).setCell ⟨w.heap.size + 1, 3, none⟩ (.slice none 0 0) := ⟨_, rfl⟩
  have hXr := four_set (v0 := .slice none 0 0) (v1 := .slice none 0 0) (v2 := .int .i64 0) (v3 := .slice none 0 0) HE1.out
  rw [← hX] at hXr
  have hXB := four_below (v0 := .slice none 0 0) (v1 := .slice none 0 0) (v2 := .int .i64 0) (v3 := .slice none 0 0) HBW.out (show w.heap.size ≤ w.heap.size + 1 by omega)
  rw [← hX] at hXB
  rw [← hX]
  obtain ⟨Y, hY⟩ : ∃ Y, Y = X.alloc (.cells #[.slice none 0 0, .slice none 0 0, .int .i64 0, .slice none 0 0] 84) := ⟨_, rfl⟩
  have hbY : Below X.heap.size X Y := hY ▸ (Below.refl _ X).alloc (Nat.le_refl _) _
  rw [← hY]
  have hYr := (hbY.block _ (heap_lt hXr)).trans hXr
  obtain ⟨y0, y1, y2, y3, _⟩ := box4f hYr
  have hXs : X.heap.size = w1.heap.size := by rw [hX]; simp only [size_setCell]
  have hYw : Below w.heap.size w Y := hXB.trans (hbY.mono (by omega))
  refine bodyPost_ret (v := .tuple #[noBook, .int .i64 20]) (by simp [results, Try.results84, go_sem, y0, y1, y2, y3]) rfl ⟨rfl, hYw⟩

set_option maxHeartbeats 2000000 in
theorem openAt_bad (a a2 : Option Addr) (cap cap2 : Nat) (C : Chain) (pv : Value) (w : World) (hx : ChainAt w.heap.size w (.agg #[.slice a C.deeds.length cap, .slice a2 C.sights.length cap2, .int .i64 C.wrong]) C) (hV : validB C = false) :
    Calls Try.prog 77 #[(.agg #[.slice a C.deeds.length cap, .slice a2 C.sights.length cap2, .int .i64 C.wrong]), pv] w fun e w' => e = .returned (.tuple #[noBook, .int .i64 20]) ∧ Hid (Below w.heap.size w w') := by
  have HX := Lib.hid (fun W (hb : Below w.heap.size w W) => (hx.below hb).mono hb.size)
  have HV := Lib.hid hV
  clear hx hV
  go_enter Try.func77, Try.ntmps77
  go_wp2_with fail
  refine (open_bad _ C _ (HX.out _ (by go_grown)) HV.out).mono ?_
  rintro e w1 ⟨rfl, hb1⟩
  have hsz := hb1.size
  simp only [World.size_alloc] at hsz
  have e1 : w1.heap[w.heap.size + 1]? = some (.cells #[.slice none 0 0, .slice none 0 0, .int .i64 0, .slice none 0 0] 84) :=
    (hb1.block (w.heap.size + 1) (by simp)).trans (heap_new1 w _ _)
  have hbw : Below w.heap.size w w1 := ((((Below.refl _ w).alloc (Nat.le_refl _) _).alloc (by simp) _)).trans (hb1.mono (by simp; omega))
  obtain ⟨r0, r1, r2, r3, z0, z1, z2, z3⟩ := box4f e1
  have hlt1 : w.heap.size + 1 < w1.heap.size := heap_lt e1
  have HE1 := Lib.hid e1
  have HBW := Lib.hid hbw
  clear hb1 e1 hbw hsz
  go_wp2_with fail
  obtain ⟨X, hX⟩ : ∃ X, X = (((w1.setCell ⟨w.heap.size + 1, 0, none⟩ (.slice none 0 0)).setCell ⟨w.heap.size + 1, 1, none⟩ (.slice none 0 0)).setCell ⟨w.heap.size + 1, 2, none⟩ (.int .i64 0)).setCell ⟨w.heap.size + 1, 3, none⟩ (.slice none 0 0) := ⟨_, rfl⟩
  have hXr := four_set (v0 := .slice none 0 0) (v1 := .slice none 0 0) (v2 := .int .i64 0) (v3 := .slice none 0 0) HE1.out
  rw [← hX] at hXr
  have hXB := four_below (v0 := .slice none 0 0) (v1 := .slice none 0 0) (v2 := .int .i64 0) (v3 := .slice none 0 0) HBW.out (show w.heap.size ≤ w.heap.size + 1 by omega)
  rw [← hX] at hXB
  rw [← hX]
  obtain ⟨Y, hY⟩ : ∃ Y, Y = X.alloc (.cells #[.slice none 0 0, .slice none 0 0, .int .i64 0, .slice none 0 0] 84) := ⟨_, rfl⟩
  have hbY : Below X.heap.size X Y := hY ▸ (Below.refl _ X).alloc (Nat.le_refl _) _
  rw [← hY]
  have hYr := (hbY.block _ (heap_lt hXr)).trans hXr
  obtain ⟨y0, y1, y2, y3, _⟩ := box4f hYr
  have hXs : X.heap.size = w1.heap.size := by rw [hX]; simp only [size_setCell]
  have hYw : Below w.heap.size w Y := hXB.trans (hbY.mono (by omega))
  refine bodyPost_ret (v := .tuple #[noBook, .int .i64 20]) (by simp [results, Try.results77, go_sem, y0, y1, y2, y3]) rfl ⟨rfl, hYw⟩

end Go.Proofs.Ytgjikoebneiamaa
