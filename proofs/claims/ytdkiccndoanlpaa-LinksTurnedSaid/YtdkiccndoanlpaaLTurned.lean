/-
  Links, the law's own functions: the chain with the other ends.
-/
import Derived.Test.YtdkiccndoanlpaaLTurnM
import Derived.Test.YtdkiccndoanlpaaLTwo
import Derived.Deep.RegionHeld3
namespace Go.Proofs.Ytdkiccndoanlpaa
open Go.RowKit

theorem own_setSelf {w : World} {base size g cap n k : Nat} {e : TypeId} {xs : List Value} {u : Value} (h : w.ownsRow base e size (.slice (some ⟨g, 0, none⟩) n cap) n xs) (hk : k < n * size) : (w.setCell ⟨g, k, none⟩ u).ownsRow base e size (.slice (some ⟨g, 0, none⟩) n cap) n (xs.set k u) := by
  refine ⟨by rw [List.length_set]; exact h.1, ?_⟩
  rcases h.2 with ⟨hv, _⟩ | ⟨g', cap', cur, hv, hb, hg, hn, hm, hs, ht⟩
  · cases hv
  · injection hv with h1 h2 h3
    injection h1 with h1
    injection h1 with h1
    subst h1 h3
    refine .inr ⟨g, cap, cur.setIfInBounds k u, rfl, hb, heap_setCell_same hg, hn, hm, by simpa using hs, ?_⟩
    apply List.ext_getElem?
    intro j
    rw [← ht, Array.toList_setIfInBounds, List.getElem?_take, List.getElem?_set, List.getElem?_set, List.getElem?_take]
    by_cases hj : j < n * size
    · simp only [hj, if_true, List.length_take]
      have : k < cur.toList.length := by
        have h1 := h.1
        rw [← ht, List.length_take] at h1
        simp at h1 ⊢; omega
      by_cases e : k = j
      · subst e
        have h1 : k < cur.size := by simpa using this
        have h2 : k < min (n * size) cur.size := by omega
        simp [h1, h2]
      · simp [e]
    · simp only [hj, if_false]
      have : k ≠ j := by omega
      simp [this]
theorem own_heap {w : World} {base size g cap n : Nat} {e : TypeId} {xs : List Value} (h : w.ownsRow base e size (.slice (some ⟨g, 0, none⟩) n cap) n xs) : ∃ cur, w.heap[g]? = some (.cells cur e) := by
  rcases h.2 with ⟨hv, _⟩ | ⟨g', cap', cur, hv, hb, hg, _⟩
  · cases hv
  · injection hv with h1
    injection h1 with h1
    injection h1 with h1
    subst h1
    exact ⟨cur, hg⟩
theorem own_some {w : World} {base size cap n : Nat} {a : Option Addr} {e : TypeId} {xs : List Value} (h : w.ownsRow base e size (.slice a n cap) n xs) (hn : 0 < n) : ∃ g, a = some ⟨g, 0, none⟩ ∧ base ≤ g := by
  rcases h.2 with ⟨_, h0⟩ | ⟨g', cap', cur, hv, hb, _⟩
  · omega
  · injection hv with h1
    exact ⟨g', h1, hb⟩

/-- A store into a row of elements of another type. -/
theorem own_setOther {w : World} {base b o n size : Nat} {e t : TypeId} {v u : Value} {xs : List Value} {cs : Array Value} (h : w.ownsRow base e size v n xs) (hb : w.heap[b]? = some (.cells cs t)) (hne : e ≠ t) : (w.setCell ⟨b, o, none⟩ u).ownsRow base e size v n xs := by
  refine h.kept (row := some b) ⟨rfl, rfl, rfl, by rw [size_setCell]; exact Nat.le_refl _, fun k hk hn => heap_setCell_other (fun q => hn (by rw [q]))⟩ ?_
  rcases h.2 with ⟨rfl, _⟩ | ⟨g, cap, cur, rfl, _, hh, _⟩
  · exact .inl rfl
  · refine .inr (fun he => ?_)
    have : g = b := by simpa [Value.ownBlock] using he
    subst this
    rw [hh] at hb
    injection hb with hb
    injection hb with _ ht
    exact hne ht
/-- The first k deeds have the other end. -/
def turnTo (ds : List Deed) (k : Nat) : List Deed := (ds.take k).map flipD ++ ds.drop k
def turnSTo (ss : List Sight) (k : Nat) : List Sight := (ss.take k).map flipS ++ ss.drop k
theorem turnTo_nth {ds : List Deed} {k i : Nat} (h : i < ds.length) (hk : k ≤ ds.length) : dnth (turnTo ds k) i = if i < k then flipD (dnth ds i) else dnth ds i := by
  simp only [turnTo, dnth, List.getD_eq_getElem?_getD]
  by_cases e : i < k
  · rw [List.getElem?_append_left (by simp; omega), if_pos e, List.getElem?_map, List.getElem?_take, if_pos e, List.getElem?_eq_getElem h]; rfl
  · rw [List.getElem?_append_right (by simp; omega), if_neg e, List.getElem?_drop, List.length_map, List.length_take, show k + (i - min k ds.length) = i by omega]
theorem turnSTo_nth {ds : List Sight} {k i : Nat} (h : i < ds.length) (hk : k ≤ ds.length) : snth (turnSTo ds k) i = if i < k then flipS (snth ds i) else snth ds i := by
  simp only [turnSTo, snth, List.getD_eq_getElem?_getD]
  by_cases e : i < k
  · rw [List.getElem?_append_left (by simp; omega), if_pos e, List.getElem?_map, List.getElem?_take, if_pos e, List.getElem?_eq_getElem h]; rfl
  · rw [List.getElem?_append_right (by simp; omega), if_neg e, List.getElem?_drop, List.length_map, List.length_take, show k + (i - min k ds.length) = i by omega]
theorem dcells_ext {es : List Deed} {n : Nat} {xs : List Value} (hl : xs.length = n * 5) (h : ∀ i r, i < n → r < 5 → xs[i * 5 + r]? = some (dcell (dnth es i) r)) : xs = dcells es n := by
  apply List.ext_getElem?
  intro j
  by_cases hj : j < n * 5
  · have e : j = j / 5 * 5 + j % 5 := by omega
    have hr : j % 5 < 5 := Nat.mod_lt _ (by omega)
    rw [e, h _ _ (by omega) hr, dcells_at es (by omega) hr]
  · rw [List.getElem?_eq_none (by omega), List.getElem?_eq_none (by rw [dcells_len]; omega)]
theorem scells_ext {es : List Sight} {n : Nat} {xs : List Value} (hl : xs.length = n * 5) (h : ∀ i r, i < n → r < 5 → xs[i * 5 + r]? = some (scell (snth es i) r)) : xs = scells es n := by
  apply List.ext_getElem?
  intro j
  by_cases hj : j < n * 5
  · have e : j = j / 5 * 5 + j % 5 := by omega
    have hr : j % 5 < 5 := Nat.mod_lt _ (by omega)
    rw [e, h _ _ (by omega) hr, scells_at es (by omega) hr]
  · rw [List.getElem?_eq_none (by omega), List.getElem?_eq_none (by rw [scells_len]; omega)]
theorem flip_cell {d : Deed} (h : ended d ∧ d.from_ < 2) {r : Nat} (hr : r ≠ 2) : dcell (flipD d) r = dcell d r := by
  unfold flipD
  rw [if_pos h]
  rcases r with _ | _ | _ | _ | r <;> first | rfl | exact absurd rfl hr
theorem flipS_cell {d : Sight} {r : Nat} (hr : r ≠ 2) : scell (flipS d) r = scell d r := by
  unfold flipS
  rcases r with _ | _ | _ | _ | r <;> first | rfl | exact absurd rfl hr
theorem turnTo_yes {ds : List Deed} {k : Nat} (hk : k < ds.length) (h : ended (dnth ds k) ∧ (dnth ds k).from_ < 2) : (dcells (turnTo ds k) ds.length).set (k * 5 + 2) (.int .i64 (1 - (dnth ds k).from_)) = dcells (turnTo ds (k + 1)) ds.length := by
  refine dcells_ext (by rw [List.length_set, dcells_len]) (fun i r hi hr => ?_)
  rw [List.getElem?_set, dcells_len, turnTo_nth hi (by omega)]
  by_cases e : k * 5 + 2 = i * 5 + r
  · obtain ⟨rfl, rfl⟩ : i = k ∧ r = 2 := by omega
    rw [if_pos e, if_pos (by omega), if_pos (by omega)]
    unfold flipD
    rw [if_pos h]
    rfl
  · rw [if_neg e, dcells_at _ hi hr, turnTo_nth hi (by omega)]
    by_cases e2 : i = k
    · subst e2
      rw [if_neg (by omega), if_pos (by omega), flip_cell h (by omega)]
    · by_cases e3 : i < k
      · rw [if_pos e3, if_pos (by omega)]
      · rw [if_neg e3, if_neg (by omega)]
theorem turnTo_no {ds : List Deed} {k : Nat} (hk : k < ds.length) (h : ¬ (ended (dnth ds k) ∧ (dnth ds k).from_ < 2)) : dcells (turnTo ds k) ds.length = dcells (turnTo ds (k + 1)) ds.length := by
  refine dcells_ext (dcells_len _ _) (fun i r hi hr => ?_)
  rw [dcells_at _ hi hr, turnTo_nth hi (by omega), turnTo_nth hi (by omega)]
  by_cases e2 : i = k
  · subst e2
    rw [if_neg (by omega), if_pos (by omega)]
    unfold flipD
    rw [if_neg h]
  · by_cases e3 : i < k
    · rw [if_pos e3, if_pos (by omega)]
    · rw [if_neg e3, if_neg (by omega)]
theorem turnSTo_step {ds : List Sight} {k : Nat} (hk : k < ds.length) : (scells (turnSTo ds k) ds.length).set (k * 5 + 2) (.int .i64 (1 - (snth ds k).from_)) = scells (turnSTo ds (k + 1)) ds.length := by
  refine scells_ext (by rw [List.length_set, scells_len]) (fun i r hi hr => ?_)
  rw [List.getElem?_set, scells_len, turnSTo_nth hi (by omega)]
  by_cases e : k * 5 + 2 = i * 5 + r
  · obtain ⟨rfl, rfl⟩ : i = k ∧ r = 2 := by omega
    rw [if_pos e, if_pos (by omega), if_pos (by omega)]
    rfl
  · rw [if_neg e, scells_at _ hi hr, turnSTo_nth hi (by omega)]
    by_cases e2 : i = k
    · subst e2
      rw [if_neg (by omega), if_pos (by omega), flipS_cell (by omega)]
    · by_cases e3 : i < k
      · rw [if_pos e3, if_pos (by omega)]
      · rw [if_neg e3, if_neg (by omega)]
theorem turnTo_zero (ds : List Deed) : turnTo ds 0 = ds := by simp [turnTo]
theorem turnTo_all (ds : List Deed) : turnTo ds ds.length = ds.map flipD := by simp [turnTo]
theorem turnSTo_zero (ds : List Sight) : turnSTo ds 0 = ds := by simp [turnSTo]
theorem turnSTo_all (ds : List Sight) : turnSTo ds ds.length = ds.map flipS := by simp [turnSTo]

theorem turn_wf {C : Chain} (h : Wf C) (hf : ∀ d ∈ C.deeds, FromOk d) (hs : ∀ j, j < C.sights.length → 0 ≤ (snth C.sights j).from_ ∧ (snth C.sights j).from_ ≤ 1) : Wf (turnC C) := by
  refine ⟨fun i hi => ?_, fun i hi => ?_, h.wrong⟩
  · rw [turn_nd] at hi
    have h1 := h.deeds i hi
    have h2 := hf (dnth C.deeds i) (by rw [dnth_lt hi]; exact List.getElem_mem hi)
    show DI64 (dnth (C.deeds.map flipD) i)
    rw [turn_dnth]
    unfold FromOk at h2
    unfold flipD
    split
    · obtain ⟨q0, q1, q2, q3, q4⟩ := h1
      exact ⟨q0, q1, by unfold I64; show _ ≤ 1 - (dnth C.deeds i).from_ ∧ 1 - (dnth C.deeds i).from_ ≤ _; omega, q3, q4⟩
    · exact h1
  · rw [turn_ns] at hi
    have h1 := h.sights i hi
    have h2 := hs i hi
    show SI64 (snth (C.sights.map flipS) i)
    rw [turn_snth hi]
    obtain ⟨q0, q1, q2, q3, q4⟩ := h1
    exact ⟨q0, q1, by unfold I64; show _ ≤ 1 - (snth C.sights i).from_ ∧ 1 - (snth C.sights i).from_ ≤ _; omega, q3, q4⟩
/-- What lies in memory while the ends are turned. -/
structure TurnSt (w : World) (C : Chain) (ob : Nat) (dv sv : Value) (a b : Nat) (W : World) : Prop where
  box : W.heap[ob]? = some (.cells #[dv, sv, .int .i64 C.wrong] 25)
  rowD : W.ownsRow (w.heap.size + 2) 55 5 dv C.deeds.length (dcells (turnTo C.deeds a) C.deeds.length)
  rowS : W.ownsRow (w.heap.size + 2) 60 5 sv C.sights.length (scells (turnSTo C.sights b) C.sights.length)
  bl : Below w.heap.size w W
  res : W.heap[w.heap.size + 1]? = some (.cells #[.slice none 0 0, .slice none 0 0, .int .i64 0] 25)
  lo : w.heap.size + 2 ≤ ob
theorem TurnSt.next {w : World} {C : Chain} {ob : Nat} {dv sv : Value} {a b : Nat} {W W' : World} (h : TurnSt w C ob dv sv a b W) (hb : Below W.heap.size W W') : TurnSt w C ob dv sv a b W' :=
  ⟨(hb.block _ (heap_lt h.box)).trans h.box, own_below h.rowD hb, own_below h.rowS hb, h.bl.trans (hb.mono h.bl.size), (hb.block _ (heap_lt h.res)).trans h.res, h.lo⟩
theorem ne_of_type {W : World} {g b : Nat} {c1 c2 : Array Value} {t1 t2 : TypeId} (h1 : W.heap[g]? = some (.cells c1 t1)) (h2 : W.heap[b]? = some (.cells c2 t2)) (h : t1 ≠ t2) : g ≠ b := by
  rintro rfl
  rw [h1] at h2
  injection h2 with h2
  injection h2 with _ h3
  exact h h3
theorem TurnSt.deed {w : World} {C : Chain} {ob g n cap : Nat} {sv : Value} {a : Nat} {W : World} (h : TurnSt w C ob (.slice (some ⟨g, 0, none⟩) n cap) sv a 0 W) (hn : n = C.deeds.length) (ha : a < C.deeds.length) (hf : ended (dnth C.deeds a) ∧ (dnth C.deeds a).from_ < 2) :
    TurnSt w C ob (.slice (some ⟨g, 0, none⟩) n cap) sv (a + 1) 0 (W.setCell ⟨g, a * 5 + 2, none⟩ (.int .i64 (1 - (dnth C.deeds a).from_))) := by
  subst hn
  obtain ⟨cur, hg⟩ := own_heap h.rowD
  have hgb := (h.rowD.lt g rfl).1
  refine ⟨(heap_setCell_other (ne_of_type hg h.box (by decide))).trans h.box, ?_, own_setOther h.rowS hg (by decide), below_setCell h.bl (by omega), (heap_setCell_other (ne_of_type hg h.res (by decide))).trans h.res, h.lo⟩
  rw [← turnTo_yes ha hf]
  exact own_setSelf h.rowD (by omega)
theorem TurnSt.sight {w : World} {C : Chain} {ob g n cap : Nat} {dv : Value} {a b : Nat} {W : World} (h : TurnSt w C ob dv (.slice (some ⟨g, 0, none⟩) n cap) a b W) (hn : n = C.sights.length) (hb : b < C.sights.length) :
    TurnSt w C ob dv (.slice (some ⟨g, 0, none⟩) n cap) a (b + 1) (W.setCell ⟨g, b * 5 + 2, none⟩ (.int .i64 (1 - (snth C.sights b).from_))) := by
  subst hn
  obtain ⟨cur, hg⟩ := own_heap h.rowS
  have hgb := (h.rowS.lt g rfl).1
  refine ⟨(heap_setCell_other (ne_of_type hg h.box (by decide))).trans h.box, own_setOther h.rowD hg (by decide), ?_, below_setCell h.bl (by omega), (heap_setCell_other (ne_of_type hg h.res (by decide))).trans h.res, h.lo⟩
  rw [← turnSTo_step hb]
  exact own_setSelf h.rowS (by omega)

set_option maxRecDepth 100000 in
set_option maxHeartbeats 8000000 in
theorem turned_any (v : Value) (C : Chain) (w : World) (hx : ChainAt w.heap.size w v C) (hV : Valid C) :
    Calls Try.prog 58 #[v] w fun e w' => ∃ u, e = .returned u ∧ CopyAt w.heap.size w' u (turnC C) ∧ Below w.heap.size w w' := by
  have hx' := hx
  have hnd := hV.nd
  have hns := hV.ns
  have HFR := Lib.hid hV.froms
  have hSF := Lib.hid (fun j hj => (show 0 ≤ (snth C.sights j).from_ ∧ (snth C.sights j).from_ ≤ 1 from by have := sightIs (hV.sight j hj); omega))
  have HWF := Lib.hid hx.wf
  obtain ⟨a, cap, b, off, a2, cap2, b2, off2, rfl, hm, hm2, hcap, hcapm, HA, HC, HA2, HC2, HI, HI2⟩ := hx.opened
  have HX := Lib.hid (fun W (hb : Below w.heap.size w W) => (hx'.below hb).mono hb.size)
  clear hx hx' HA2 HC2 HI2 HI HA HC hV
  have e0 := heap_old1 w (.cells #[.slice a C.deeds.length cap, .slice a2 C.sights.length cap2, .int .i64 C.wrong] 25) (.cells #[.slice none 0 0, .slice none 0 0, .int .i64 0] 25)
  have e1 := heap_new1 w (.cells #[.slice a C.deeds.length cap, .slice a2 C.sights.length cap2, .int .i64 C.wrong] 25) (.cells #[.slice none 0 0, .slice none 0 0, .int .i64 0] 25)
  have hb0 : Below w.heap.size w ((w.alloc (.cells #[.slice a C.deeds.length cap, .slice a2 C.sights.length cap2, .int .i64 C.wrong] 25)).alloc (.cells #[.slice none 0 0, .slice none 0 0, .int .i64 0] 25)) := ((Below.refl _ w).alloc (Nat.le_refl _) _).alloc (by simp) _
  go_enter Try.func58, Try.ntmps58
  go_wp2_with fail
  obtain ⟨W, hW⟩ : ∃ W, W = (w.alloc (.cells #[.slice a C.deeds.length cap, .slice a2 C.sights.length cap2, .int .i64 C.wrong] 25)).alloc (.cells #[.slice none 0 0, .slice none 0 0, .int .i64 0] 25) := ⟨_, rfl⟩
  have hWs : W.heap.size = w.heap.size + 2 := by rw [hW]; simp
  rw [← hW] at e0 e1 hb0 ⊢
  clear hW
  have HB0 := Lib.hid hb0
  have HE1 := Lib.hid e1
  clear e0 e1 hb0
  refine (Copy_any _ C _ (HX.out _ HB0.out) (by omega) (by omega)).mono ?_
  rintro e w1 ⟨u, rfl, hcp, hb⟩
  obtain ⟨f1, p1, f2, p2, rfl, hp1, hp2⟩ := hcp.shape
  have hs1 := hb.size
  have hst : TurnSt w C w1.heap.size (.slice f1 C.deeds.length p1) (.slice f2 C.sights.length p2) 0 0 (w1.alloc (.cells #[.slice f1 C.deeds.length p1, .slice f2 C.sights.length p2, .int .i64 C.wrong] 25)) := by
    obtain ⟨dv, sv, e, h1, h2, _⟩ := hcp
    injection e with e
    simp only [Array.mk.injEq, List.cons.injEq, and_true] at e
    obtain ⟨rfl, rfl⟩ := e
    have hba := (Below.refl w1.heap.size w1).alloc (Nat.le_refl _) (.cells #[.slice f1 C.deeds.length p1, .slice f2 C.sights.length p2, .int .i64 C.wrong] 25)
    refine ⟨heap_new _ _, ?_, ?_, HB0.out.trans ((hb.trans (hba.mono hs1)).mono (by omega)), (hba.block _ (by omega)).trans ((hb.block _ (heap_lt HE1.out)).trans HE1.out), by omega⟩
    · rw [turnTo_zero, ← hWs]; exact own_below h1 hba
    · rw [turnSTo_zero, ← hWs]; exact own_below h2 hba
  have HST := Lib.hid hst
  have HSZ := Lib.hid hWs
  clear hb hcp hst hWs
  go_wp2_with fail
  go_loopw [4] (fun i wr => ∃ k : Nat, k ≤ C.deeds.length ∧ i = .int .i64 k ∧ Hid (TurnSt w C w1.heap.size (.slice f1 C.deeds.length p1) (.slice f2 C.sights.length p2) k 0 wr)) (fun i _ => C.deeds.length - (intOf i).toNat)
  case atStart => exact ⟨0, Nat.zero_le _, rfl, HST.out⟩
  case round =>
    obtain ⟨k, hk, rfl, hst⟩ := hrel
    obtain ⟨o0, o1, o2⟩ := box3c hst.out.box
    by_cases hlt : k < C.deeds.length
    · obtain ⟨g, rfl, hg⟩ := own_some hst.out.rowD (by omega)
      have hd : ∀ r, r < 5 → wr.cell? ⟨g, k * 5 + r, none⟩ = some (dcell (dnth C.deeds k) r) := fun r hr => by
        rw [hst.out.rowD.cellAt _ (by omega), dcells_at _ hlt hr, turnTo_nth hlt (by omega), if_neg (by omega)]
      have d0 : wr.cell? ⟨g, k * 5, none⟩ = some (.int .i64 (dnth C.deeds k).what) := hd 0 (by omega)
      have d1 : wr.cell? ⟨g, k * 5 + 1, none⟩ = some (.int .i64 (dnth C.deeds k).at_) := hd 1 (by omega)
      have d2 : wr.cell? ⟨g, k * 5 + 2, none⟩ = some (.int .i64 (dnth C.deeds k).from_) := hd 2 (by omega)
      have d3 : wr.cell? ⟨g, k * 5 + 3, none⟩ = some (.int .i64 (dnth C.deeds k).bar) := hd 3 (by omega)
      have d4 : wr.cell? ⟨g, k * 5 + 4, none⟩ = some (.int .i64 (dnth C.deeds k).smith) := hd 4 (by omega)
      have hN := Lib.hid (hst.out.next ((Below.refl _ wr).alloc (Nat.le_refl _) (.cells #[.int .i64 (dnth C.deeds k).what, .int .i64 (dnth C.deeds k).at_, .int .i64 (dnth C.deeds k).from_, .int .i64 (dnth C.deeds k).bar, .int .i64 (dnth C.deeds k).smith] 55)))
      obtain ⟨cur, hcur⟩ := own_heap hN.out.rowD
      have z2 := (World.cell?_of_block (a := ⟨g, k * 5 + 2, none⟩) (Below.heap_alloc wr (.cells #[.int .i64 (dnth C.deeds k).what, .int .i64 (dnth C.deeds k).at_, .int .i64 (dnth C.deeds k).from_, .int .i64 (dnth C.deeds k).bar, .int .i64 (dnth C.deeds k).smith] 55) g (hst.out.rowD.lt g rfl).2)).trans d2
      have zf := frozen_of hcur (k * 5 + 2)
      obtain ⟨n0, n1, n2⟩ := box3c hN.out.box
      have hfk := HFR.out (dnth C.deeds k) (by rw [dnth_lt hlt]; exact List.getElem_mem hlt)
      unfold FromOk at hfk
      obtain ⟨fa, fb, _, _⟩ := hfk
      clear hd hcur
      by_cases hf : ended (dnth C.deeds k) ∧ (dnth C.deeds k).from_ < 2
      · have HS2 := Lib.hid (hN.out.deed rfl hlt hf)
        have hf2 : decide ((dnth C.deeds k).from_ < 2) = true := decide_eq_true hf.2
        rcases hf.1 with h1 | h1
        · have hb1 : ((dnth C.deeds k).what == 1) = true := by simpa using h1
          clear hf h1
          go_wp2_with fail
          exact ⟨⟨k + 1, by omega, by go_num, HS2⟩, by simp [intOf]; omega⟩
        · have hb1 : ((dnth C.deeds k).what == 1) = false := by simp; omega
          have hb2 : ((dnth C.deeds k).what == 2) = true := by simpa using h1
          clear hf h1
          go_wp2_with fail
          exact ⟨⟨k + 1, by omega, by go_num, HS2⟩, by simp [intOf]; omega⟩
      · have HS2 := Lib.hid (show TurnSt w C w1.heap.size (.slice (some ⟨g, 0, none⟩) C.deeds.length p1) (.slice f2 C.sights.length p2) (k + 1) 0 (wr.alloc (.cells #[.int .i64 (dnth C.deeds k).what, .int .i64 (dnth C.deeds k).at_, .int .i64 (dnth C.deeds k).from_, .int .i64 (dnth C.deeds k).bar, .int .i64 (dnth C.deeds k).smith] 55)) from by
          have h := hN.out
          exact ⟨h.box, by rw [← turnTo_no hlt hf]; exact h.rowD, h.rowS, h.bl, h.res, h.lo⟩)
        by_cases h1 : (dnth C.deeds k).what = 1
        · have h2 : decide ((dnth C.deeds k).from_ < 2) = false := decide_eq_false (fun q => hf ⟨.inl h1, q⟩)
          have hb1 : ((dnth C.deeds k).what == 1) = true := by simpa using h1
          clear hf h1
          go_wp2_with fail
          exact ⟨⟨k + 1, by omega, by go_num, HS2⟩, by simp [intOf]; omega⟩
        have hb1 : ((dnth C.deeds k).what == 1) = false := by simpa using h1
        by_cases h3 : (dnth C.deeds k).what = 2
        · have h2 : decide ((dnth C.deeds k).from_ < 2) = false := decide_eq_false (fun q => hf ⟨.inr h3, q⟩)
          have hb2 : ((dnth C.deeds k).what == 2) = true := by simpa using h3
          clear hf h1 h3
          go_wp2_with fail
          exact ⟨⟨k + 1, by omega, by go_num, HS2⟩, by simp [intOf]; omega⟩
        · have hb2 : ((dnth C.deeds k).what == 2) = false := by simpa using h3
          clear hf h1 h3
          go_wp2_with fail
          exact ⟨⟨k + 1, by omega, by go_num, HS2⟩, by simp [intOf]; omega⟩
    · obtain rfl : C.deeds.length = k := by omega
      clear hlt hk
      go_wp2_with fail
      clear o0 o1 o2
      go_loopw [6] (fun i wr => ∃ k : Nat, k ≤ C.sights.length ∧ i = .int .i64 k ∧ Hid (TurnSt w C w1.heap.size (.slice f1 C.deeds.length p1) (.slice f2 C.sights.length p2) C.deeds.length k wr)) (fun i _ => C.sights.length - (intOf i).toNat)
      case atStart => exact ⟨0, Nat.zero_le _, rfl, hst⟩
      case round =>
        clear hst
        obtain ⟨k, hk, rfl, hst⟩ := hrel
        obtain ⟨o0, o1, o2⟩ := box3c hst.out.box
        by_cases hlt : k < C.sights.length
        · obtain ⟨g, rfl, hg⟩ := own_some hst.out.rowS (by omega)
          have d2 : wr.cell? ⟨g, k * 5 + 2, none⟩ = some (.int .i64 (snth C.sights k).from_) := by
            rw [hst.out.rowS.cellAt _ (by omega), scells_at _ hlt (by omega), turnSTo_nth hlt (by omega), if_neg (by omega)]; rfl
          obtain ⟨cur, hcur⟩ := own_heap hst.out.rowS
          have zf := frozen_of hcur (k * 5 + 2)
          have HS2 := Lib.hid (hst.out.sight rfl hlt)
          have hsI := hSF.out k hlt
          have hi0 : (0 : Int) ≤ (k : Int) := Int.natCast_nonneg _
          have hi1 : (k : Int) < (C.sights.length : Int) := by omega
          clear hcur
          go_wp2_with fail
          go_region
          go_wp2_with fail
          exact ⟨⟨k + 1, by omega, by go_num, HS2.out.next (Below.refl _ _).drew⟩, by simp [intOf]; omega⟩
        · obtain rfl : C.sights.length = k := by omega
          have HF := Lib.hid hst.out
          obtain ⟨⟨r0, r1, r2⟩, rf⟩ := box3f_of hst.out.res
          have rf0 := rf 0
          have rf1 := rf 1
          have rf2 := rf 2
          clear rf
          go_wp2_with fail
          refine bodyPost_ret (v := .agg #[.slice f1 C.deeds.length p1, .slice f2 C.sights.length p2, .int .i64 C.wrong]) (by simp [results, Try.results58, go_sem, r0, r1, r2]) rfl ⟨_, rfl, ?_, ?_⟩
          · have hw3 : ∀ {e : TypeId} {v : Value} {n size : Nat} {xs : List Value} {a b c : Value}, wr.ownsRow (w.heap.size + 2) e size v n xs → (((wr.setCell ⟨w.heap.size + 1, 0, none⟩ a).setCell ⟨w.heap.size + 1, 1, none⟩ b).setCell ⟨w.heap.size + 1, 2, none⟩ c).ownsRow w.heap.size e size v n xs := fun h =>
              own_base (own_set_other (own_set_other (own_set_other h (by show w.heap.size + 1 < w.heap.size + 2; omega) _) (by show w.heap.size + 1 < w.heap.size + 2; omega) _) (by show w.heap.size + 1 < w.heap.size + 2; omega) _) (by omega)
            have h1 := HF.out.rowD
            have h2 := HF.out.rowS
            rw [turnTo_all] at h1
            rw [turnSTo_all] at h2
            refine ⟨_, _, rfl, ?_, ?_, turn_wf HWF.out HFR.out hSF.out⟩
            · rw [turn_nd]; exact hw3 h1
            · rw [turn_ns]; exact hw3 h2
          · exact below_setCell (below_setCell (below_setCell HF.out.bl (by omega)) (by omega)) (by omega)

end Go.Proofs.Ytdkiccndoanlpaa
