/-
  Rest: the least and the greatest rest of a bar.
-/
import Derived.Test.YtjflpmhlodgadaaSeq
namespace Go.Proofs.Ytjflpmhlodgadaa
open Go.RowKit Go.Shelf

attribute [local go_sem] Oper.semAt_some

theorem heap_at2 (w : World) (a b : Obj) : ((w.alloc a).alloc b).heap[w.heap.size]? = some a ∧ ((w.alloc a).alloc b).heap[w.heap.size + 1]? = some b :=
  ⟨(Below.heap_alloc _ _ _ (by simp)).trans (heap_new w a), by have := heap_new (w.alloc a) b; rwa [World.size_alloc] at this⟩
theorem heap_at3 (w : World) (a b c : Obj) : (((w.alloc a).alloc b).alloc c).heap[w.heap.size]? = some a ∧ (((w.alloc a).alloc b).alloc c).heap[w.heap.size + 1]? = some b ∧ (((w.alloc a).alloc b).alloc c).heap[w.heap.size + 2]? = some c :=
  ⟨(Below.heap_alloc _ _ _ (by simp; omega)).trans (heap_at2 w a b).1, (Below.heap_alloc _ _ _ (by simp)).trans (heap_at2 w a b).2, by have := heap_new ((w.alloc a).alloc b) c; simpa only [World.size_alloc, Nat.add_assoc] using this⟩
theorem below_at2 (w : World) (a b : Obj) : Below w.heap.size w ((w.alloc a).alloc b) := ((Below.refl _ w).alloc (Nat.le_refl _) _).alloc (by simp) _
theorem below_at3 (w : World) (a b c : Obj) : Below w.heap.size w (((w.alloc a).alloc b).alloc c) := (below_at2 w a b).alloc (by simp; omega) _
theorem kept_heap {own : Nat → Prop} {w W : World} {k : Nat} {o : Obj} (h : KeptBut own w W) (hk : w.heap[k]? = some o) (hn : ¬ own k) : W.heap[k]? = some o :=
  (h.block k (Array.getElem?_eq_some_iff.1 hk).1 hn).trans hk
theorem own_heap {w W : World} {B : Nat} {row : Option Nat} {k : Nat} {o : Obj} (hk : w.heap[k]? = some o) (hg : w.grownBy W row) (hr : ∀ r, row = some r → r = B ∨ r = B + 1 ∨ r = B + 2 + 0) (h : k < B) : W.heap[k]? = some o :=
  (hg.block _ (Array.getElem?_eq_some_iff.1 hk).1 (fun e => by have := hr _ e.symm; omega)).trans hk
theorem cell2_of {w : World} {b : Nat} {v0 v1 : Value} {t : TypeId} (e : w.heap[b]? = some (.cells #[v0, v1] t)) :
    w.cell? ⟨b, 0, none⟩ = some v0 ∧ w.cell? ⟨b, 1, none⟩ = some v1 ∧ w.frozen? ⟨b, 0, none⟩ = false ∧ w.frozen? ⟨b, 1, none⟩ = false := by
  refine ⟨?_, ?_, ?_, ?_⟩ <;> simp [World.cell?, World.frozen?, e]

theorem heap_set {W : World} {B o : Nat} {cs : Array Value} {t : TypeId} (v : Value) (h : W.heap[B]? = some (.cells cs t)) : (W.setCell ⟨B, o, none⟩ v).heap[B]? = some (.cells (cs.setIfInBounds o v) t) := by
  obtain ⟨hlt, hk⟩ := Array.getElem?_eq_some_iff.1 h
  show (W.heap.modify B _)[B]? = _
  rw [Array.getElem?_eq_getElem (by rw [Array.size_modify]; exact hlt), Array.getElem_modify_self, hk]
  rfl
theorem heap_set_other {W : World} {B B' o : Nat} {ob : Obj} (v : Value) (h : W.heap[B]? = some ob) (hne : B ≠ B') : (W.setCell ⟨B', o, none⟩ v).heap[B]? = some ob :=
  (Below.heap_setCell _ _ _ _ hne).trans h
def someB (xs : List (List Int)) : Bool := !xs.isEmpty
theorem someB_snoc (xs : List (List Int)) (x : List Int) : someB (xs ++ [x]) = true := by simp [someB]

def restStep (S : Store) (b : Int) (p : Int × Int) (x : List Int) : Int × Int := (min p.1 (restS S x b), max p.2 (restS S x b))
def restSpan (S : Store) (b : Int) (xs : List (List Int)) : Int × Int := xs.foldl (restStep S b) (999, 0)
theorem restSpan_snoc (S : Store) (b : Int) (xs : List (List Int)) (x : List Int) : restSpan S b (xs ++ [x]) = restStep S b (restSpan S b xs) x := by simp [restSpan]
def restV (S : Store) (b : Int) : Value :=
  if (truthsL S).length = 0 then .tuple #[.agg #[.int .i64 0, .int .i64 0], .int .i64 3]
  else .tuple #[.agg #[.int .i64 (restSpan S b (truthsL S)).1, .int .i64 (restSpan S b (truthsL S)).2], .int .i64 0]

theorem someB_false {xs : List (List Int)} (h : someB xs = false) : xs.length = 0 := by
  cases xs with
  | nil => rfl
  | cons x xs => simp [someB] at h
theorem someB_true {xs : List (List Int)} (h : someB xs = true) : xs.length ≠ 0 := by
  cases xs with
  | nil => simp [someB] at h
  | cons x xs => simp
theorem restV_none {S : Store} {b : Int} (h : (sawL S S.pieces.length S.wrong []).length = 0) : restV S b = .tuple #[.agg #[.int .i64 0, .int .i64 0], .int .i64 3] := if_pos h
theorem restV_some {S : Store} {b : Int} (h : (sawL S S.pieces.length S.wrong []).length ≠ 0) :
    restV S b = .tuple #[.agg #[.int .i64 (restSpan S b (sawL S S.pieces.length S.wrong [])).1, .int .i64 (restSpan S b (sawL S S.pieces.length S.wrong [])).2], .int .i64 0] := if_neg h

theorem ints_putObj {B : Nat} {w : World} {v : Value} {xs : List Int} (h : IntsAt B w v xs) {D : Nat} {ds : List Deferred} {o : Obj} (hD : w.heap[D]? = some (.deferred (some ds))) : IntsAt B (w.putObj D o) v xs := by
  obtain ⟨a, cap, b, off, hv, hl, hm, ha, hc, hw⟩ := h
  refine ⟨a, cap, b, off, hv, hl, hm, ha, fun i hi => ?_, hw⟩
  have h1 := hc i hi
  have hne : b ≠ D := by
    rintro rfl
    simp [World.cell?, hD] at h1
  exact (World.cell?_of_block (World.putObj_heap_other hne)).trans h1

/-- Each sawing that the search yields has a bar of the store for each piece. -/
theorem sawL_okBars {S : Store} : ∀ (m : Nat) (wrong : Int) (first : List Int), first.length + m = S.pieces.length → OkBars S first → ∀ x ∈ sawL S m wrong first, OkBars S x ∧ x.length = S.pieces.length
  | 0, _, first, hl, hO, x, hx => by
    simp only [sawL, List.mem_singleton] at hx
    subst hx; exact ⟨hO, by omega⟩
  | m + 1, wrong, first, hl, hO, x, hx => by
    rw [sawL_succ] at hx
    obtain ⟨k, hk, hx⟩ := mem_flatTo.1 hx
    rcases sawAt_cases S m wrong first k with h | ⟨h, _⟩
    · rw [h] at hx; cases hx
    · rw [h] at hx
      exact sawL_okBars m _ _ (by simp; omega) (okBars_snoc hO (by omega) hk) x hx
theorem prefix_mem {α : Type} {pre xs : List α} {x : α} (h : pre ++ [x] <+: xs) : x ∈ xs := h.subset (by simp)
theorem yielded_ok {S : Store} {wrong : Int} {pre : List (List Int)} {x : List Int} (h : pre ++ [x] <+: sawL S S.pieces.length wrong []) : OkBars S x ∧ x.length = S.pieces.length :=
  sawL_okBars _ _ _ (by simp) ⟨by simp, fun i hi => by simp at hi⟩ x (prefix_mem h)
theorem capS_le {S : Store} (hV : Valid S) : S.pieces.length ≤ capS S ∧ capS S ≤ 8 := by have := hV.np; unfold capS; split <;> omega
theorem yielded_ints {S : Store} (hV : Valid S) {wrong : Int} {pre : List (List Int)} {x : List Int} {Bk B : Nat} {W : World} (h : pre ++ [x] <+: sawL S S.pieces.length wrong []) (hb : Buf Bk x W) (hB : Bk < B) :
    IntsAt B W (.slice (some ⟨Bk, 0, none⟩) x.length (capS S)) x :=
  hb.ints hB (by rw [(yielded_ok h).2]; exact (capS_le hV).1) (capS_le hV).2 ((yielded_ok h).1.i64 hV)

set_option maxRecDepth 100000 in
set_option maxHeartbeats 2000000 in
theorem Rest_in (F : Fence) (hF : Hid (F = Fence.wide)) (hd : F.depth = none) (hro : F.round = none) (hfn : ∀ f, F.fn f) (n : Nat) (hn : 5 ≤ n) (v : Value) (S : Store) (bar : Int) (w : World) (hx : StoreAt w.heap.size w v S) (hV : Valid S) (hr0 : 0 ≤ bar) (hr1 : bar < S.bars.length) :
    CallsIn F n Try.prog 24 #[v, .int .i64 bar] w fun e w' => e = .returned (restV S bar) ∧ Below w.heap.size w w' := by
  have hx' := hx
  obtain ⟨a, cap1, b1, off, a2, cap2, b2, off2, rfl, hm, hm2, HA, HC, HA2, HC2⟩ := hx.opened
  have HX := Lib.hid hx'
  have HV := Lib.hid hV
  obtain ⟨hw0, hw8⟩ := hV.wrong
  clear hx hx' hV HA HC HA2 HC2
  have HXB := fun a b c => Lib.hid ((HX.out.below (below_at3 w a b c)).mono (show w.heap.size ≤ (((w.alloc a).alloc b).alloc c).heap.size by simp; omega))
  have hmo : Try.prog.follows .mixedOrders = true := by kernel_rfl
  refine callsIn_of_wp_marks Try.func24 rfl (hfn _) ?_ hro
  simp only [Try.ntmps24, List.size_toArray, List.length_cons, List.length_nil, Nat.reduceAdd, Nat.reduceSub, Array.replicate_succ, Array.replicate_zero, List.push_toArray, List.append_toArray, List.nil_append, List.cons_append]
  gi_wp2_with fail
  refine (inF hF (check_ok (valid_iff.2 HV.out) (HXB _ _ _).out)).mono ?_
  rintro e w1 ⟨rfl, hb1⟩
  have hs1 := hb1.size
  simp only [World.size_alloc] at hb1 hs1
  have hw := (below_at3 w _ _ _).trans (hb1.mono (by omega))
  have hh := heap_at3 w (.cells #[.slice a S.bars.length cap1, .int .i64 S.kerf, .slice a2 S.pieces.length cap2, .int .i64 S.wrong] 25) (.cells #[.int .i64 bar] 3) (.cells #[.int .i64 0, .int .i64 0] 43)
  have hbx := (hb1.block w.heap.size (by omega)).trans hh.1
  have hbr := (hb1.block (w.heap.size + 1) (by omega)).trans hh.2.1
  have hbs := (hb1.block (w.heap.size + 2) (by omega)).trans hh.2.2
  clear hh hb1
  obtain ⟨c0, c1, c2, c3⟩ := box4_of hbx
  obtain ⟨c4, _⟩ := cell1_of hbr
  have HBX := Lib.hid hbx
  have HBR := Lib.hid hbr
  have HBS := Lib.hid hbs
  clear hbx hbr hbs
  have hlt1 : w.heap.size < w1.heap.size := by omega
  have hlt2 : w.heap.size + 1 < w1.heap.size := by omega
  gi_wp2_with (gi_at_call 63; refine (inF hF (truths_any _ _ _ _ _ _ _ _ _)).mono ?_; rintro e w2 ⟨rfl, hb2, hs2, hq2⟩; have HB2 := Lib.hid hb2; have HS2 := Lib.hid hs2; have HQ2 := Lib.hid hq2; clear hb2 hs2 hq2)
  have hb2 := HB2.out
  have hs2 := HS2.out
  have hq2 := HQ2.out
  simp only [World.size_alloc] at hb2 hs2 hq2
  have hs2a : w1.heap.size + 5 ≤ w2.heap.size := by omega
  have hp2 := heap_at2 w1 (.cells #[.int .i64 999, .int .i64 0] 43) (.cells #[.bool false] 4)
  have hmp : w2.heap[w1.heap.size]? = some (.cells #[.int .i64 999, .int .i64 0] 43) := (hb2.block w1.heap.size (by omega)).trans hp2.1
  have hmf : w2.heap[w1.heap.size + 1]? = some (.cells #[.bool false] 4) := (hb2.block (w1.heap.size + 1) (by omega)).trans hp2.2
  have h12 : Below w1.heap.size w1 w2 := (below_at2 w1 _ _).trans (hb2.mono (by omega))
  have hw2 : Below w.heap.size w w2 := hw.trans (h12.mono (by omega))
  have HBX2 := Lib.hid ((h12.block _ (by omega)).trans HBX.out)
  have HBR2 := Lib.hid ((h12.block _ (by omega)).trans HBR.out)
  have HBS2 := Lib.hid ((h12.block _ (by omega)).trans HBS.out)
  clear hs2 hp2 hb2 c0 c1 c2 c3 c4
  refine wpIn_saw F hF hd hro hfn (by omega) rfl w.heap.size _ S S.wrong HV hw0 hw8 (HX.out.below hw2) (by omega) hq2.1 hq2.2 rfl
    (fun k => k = w1.heap.size ∨ k = w1.heap.size + 1) (fun k hk => by omega)
    (fun pre W => W.heap[w1.heap.size]? = some (.cells #[.int .i64 (restSpan S bar pre).1, .int .i64 (restSpan S bar pre).2] 43) ∧ W.heap[w1.heap.size + 1]? = some (.cells #[.bool (someB pre)] 4)) (fun _ _ _ => False)
    (fun s A A' row hs hg hr => ⟨own_heap hs.1 hg hr (by omega), own_heap hs.2 hg hr (by omega)⟩) (fun _ _ _ _ _ h _ _ => h) ⟨hmp, hmf⟩
    (fun tm x => { tmps := (tm.setIfInBounds 30 (.slice (some ⟨w2.heap.size + 2, 0, none⟩) x.length (capS S))).setIfInBounds 9 (.slice (some ⟨w2.heap.size + 2, 0, none⟩) x.length (capS S)), defers := [] }) ?assign ?body ?done ?stop
  case assign =>
    intro l x W K hK
    gi_wp2
    exact hK
  case body =>
    rintro l pre x W hpre ⟨hI1, hI2⟩ hkb hbuf
    have hsz := hkb.size
    have hbW := hbuf.lt
    have hxW := HX.out.below (hw2.trans (hkb.below (by omega) (by omega)))
    have hins := yielded_ints HV.out hpre hbuf (B := W.heap.size) hbW
    have hok := (yielded_ok hpre).1
    obtain ⟨c0, c1, c2, c3⟩ := box4_of (kept_heap hkb HBX2.out (by omega))
    obtain ⟨c4, _⟩ := cell1_of (kept_heap hkb HBR2.out (by omega))
    have HK := Lib.hid hkb
    have HI1 := Lib.hid hI1
    have HI2 := Lib.hid hI2
    have HINS := Lib.hid hins
    have HOK := Lib.hid hok
    have HPRE := Lib.hid hpre
    clear hkb hI1 hI2 hins hok hpre
    gi_wp2_with fail
    refine (CallsIn.inRound l (inF hF (rest_any _ _ S x bar _ (B := W.heap.size) HV.out (hxW.mono (by omega)) (Nat.le_refl _) HINS.out HOK.out.1 hr0 hr1))).mono ?_
    rintro e w3 ⟨rfl, hb3⟩
    have hI1 := (hb3.block w1.heap.size (by omega)).trans HI1.out
    have hI2 := (hb3.block (w1.heap.size + 1) (by omega)).trans HI2.out
    obtain ⟨f0, f1, f2, f3⟩ := cell2_of hI1
    obtain ⟨g0, g1⟩ := cell1_of hI2
    have HI1 := Lib.hid hI1
    have HI2 := Lib.hid hI2
    have HB3 := Lib.hid hb3
    have hlt3 : w1.heap.size + 1 < w3.heap.size := by have := hb3.size; omega
    clear hI1 hI2 hb3 c0 c1 c2 c3 c4
    gi_wp2
    all_goals
      refine ⟨(KeptBut.of_below HB3.out).trans (((KeptBut.setCell _ _ _ (.inl rfl)).trans (KeptBut.setCell _ _ _ (.inl rfl))).trans (KeptBut.setCell _ _ _ (.inr rfl))), ?_, ?_⟩
      · refine (heap_set_other _ (heap_set _ (heap_set _ HI1.out)) (by omega)).trans ?_
        rw [restSpan_snoc]
        simp [restStep]
        omega
      · rw [someB_snoc]
        exact heap_set _ (heap_set_other _ (heap_set_other _ HI2.out (by omega)) (by omega))
  case done =>
    rintro D W hD hkb ⟨hI1, hI2⟩ hK
    have hfin : Below w.heap.size w W := hw2.trans (hkb.below (by omega) (by omega))
    have hsW := hkb.size
    obtain ⟨d0, d1, d2, d3⟩ := cell2_of hI1
    obtain ⟨d4, d5⟩ := cell1_of hI2
    have hres := kept_heap hkb HBS2.out (by omega)
    obtain ⟨r0, r1, r2, r3⟩ := cell2_of hres
    have HRES := Lib.hid hres
    have HKD := Lib.hid hK
    have HFIN := Lib.hid hfin
    clear hkb hI1 hI2 hres hK hfin
    cases hz : someB (sawL S S.pieces.length S.wrong [])
    · rw [hz] at d4
      have HZ := Lib.hid hz
      clear hz
      gi_wp2
      have hne : w.heap.size + 1 + 1 ≠ D := by omega
      have hkD := heap_set_other (o := 1) (.int .i64 0) (heap_set_other (o := 0) (.int .i64 0) HKD.out hne.symm) hne.symm
      refine ⟨by simp, .inl ⟨_, _, rfl, run_takeDeferred hkD, ?_⟩⟩
      have hrf := (World.putObj_heap_other (o := .deferred none) hne).trans (heap_set (o := 1) (.int .i64 0) (heap_set (o := 0) (.int .i64 0) HRES.out))
      obtain ⟨y0, y1, _, _⟩ := cell2_of hrf
      exact ⟨.tuple #[.agg #[.int .i64 0, .int .i64 0], .int .i64 3], by simp [results, Try.f24, go_sem, y0, y1], by rw [restV_none (someB_false HZ.out)], HFIN.out.trans ((((Below.refl _ _).setCell (p := ⟨w.heap.size + 1 + 1, 0, none⟩) (by show w.heap.size ≤ w.heap.size + 1 + 1; omega) _).setCell (p := ⟨w.heap.size + 1 + 1, 1, none⟩) (by show w.heap.size ≤ w.heap.size + 1 + 1; omega) _).trans (putObj_below _ _ (by omega)))⟩
    · rw [hz] at d4
      have HZ := Lib.hid hz
      clear hz
      gi_wp2
      have hne : w.heap.size + 1 + 1 ≠ D := by omega
      have hkD := heap_set_other (o := 1) (.int .i64 (restSpan S bar (sawL S S.pieces.length S.wrong [])).2) (heap_set_other (o := 0) (.int .i64 (restSpan S bar (sawL S S.pieces.length S.wrong [])).1) HKD.out hne.symm) hne.symm
      refine ⟨by simp, .inl ⟨_, _, rfl, run_takeDeferred hkD, ?_⟩⟩
      have hrf := (World.putObj_heap_other (o := .deferred none) hne).trans (heap_set (o := 1) (.int .i64 (restSpan S bar (sawL S S.pieces.length S.wrong [])).2) (heap_set (o := 0) (.int .i64 (restSpan S bar (sawL S S.pieces.length S.wrong [])).1) HRES.out))
      obtain ⟨y0, y1, _, _⟩ := cell2_of hrf
      exact ⟨.tuple #[.agg #[.int .i64 (restSpan S bar (sawL S S.pieces.length S.wrong [])).1, .int .i64 (restSpan S bar (sawL S S.pieces.length S.wrong [])).2], .int .i64 0], by simp [results, Try.f24, go_sem, y0, y1], by rw [restV_some (someB_true HZ.out)], HFIN.out.trans ((((Below.refl _ _).setCell (p := ⟨w.heap.size + 1 + 1, 0, none⟩) (by show w.heap.size ≤ w.heap.size + 1 + 1; omega) _).setCell (p := ⟨w.heap.size + 1 + 1, 1, none⟩) (by show w.heap.size ≤ w.heap.size + 1 + 1; omega) _).trans (putObj_below _ _ (by omega)))⟩
  case stop =>
    rintro D c pre W _ _ _ h _
    exact h.elim
end Go.Proofs.Ytjflpmhlodgadaa
