/-
  Links, walks: the least number of sights that are not right.
-/
import Derived.Test.YtgjikoebneiamaaLSeq1
import Derived.Test.YtgjikoebneiamaaLOpen
namespace Go.Proofs.Ytgjikoebneiamaa
open Go.RowKit Go.Shelf

attribute [local go_sem] Oper.semAt_some

theorem wide_calls {f : FuncId} {args : Array Value} {w : World} {R : Ending → World → Prop} {n : Nat} (h : CallsIn Fence.wide n Try.prog f args w R) : Calls Try.prog f args w R := callsIn_wide.1 h
theorem set_box {W : World} {b : Nat} {u : Value} {t : TypeId} (v : Value) (h : W.heap[b]? = some (.cells #[u] t)) : (W.setCell ⟨b, 0, none⟩ v).heap[b]? = some (.cells #[v] t) := heap_setCell_same h
theorem fewOf_snoc (C : Chain) (l : List (List Int)) (x : List Int) : fewOf C (l ++ [x]) = min (fewOf C l) (wrongs C x) := by simp [fewOf]
theorem fewOf_le (C : Chain) (hV : Valid C) (l : List (List Int)) : 0 ≤ fewOf C l ∧ fewOf C l ≤ 8 := by
  have h0 : ∀ (l : List (List Int)) (m : Int), 0 ≤ m → m ≤ 8 → 0 ≤ l.foldl (fun m e => min m (wrongs C e)) m ∧ l.foldl (fun m e => min m (wrongs C e)) m ≤ 8 := by
    intro l
    induction l with
    | nil => intro m h1 h2; exact ⟨h1, h2⟩
    | cons x l ih =>
      intro m h1 h2
      have := wrongsTo_le C x C.sights.length
      exact ih _ (by simp only [wrongs]; omega) (by simp only [wrongs]; omega)
  have := hV.ns
  exact h0 l _ (by omega) (by omega)

set_option maxRecDepth 100000 in
set_option maxHeartbeats 4000000 in
theorem Fewest_in (F : Fence) (hF : Hid (F = Fence.wide)) (hd : F.depth = none) (hro : F.round = none) (hfn : ∀ f, F.fn f) (n : Nat) (hn : 5 ≤ n) (a a2 : Option Addr) (cap cap2 : Nat) (C : Chain) (w : World)
    (hx : ChainAt w.heap.size w (.agg #[.slice a C.deeds.length cap, .slice a2 C.sights.length cap2, .int .i64 C.wrong]) C) (hV : validB C = true) :
    CallsIn F n Try.prog 20 #[.agg #[.slice a C.deeds.length cap, .slice a2 C.sights.length cap2, .int .i64 C.wrong]] w fun e w' => e = .returned (.tuple #[.int .i64 (fewV C), .int .i64 0]) ∧ Below w.heap.size w w' := by
  have hV' := valid_iff.1 hV
  have hns := hV'.ns
  have HX := Lib.hid (fun W (hb : Below w.heap.size w W) => (hx.below hb).mono hb.size)
  have HV := Lib.hid hV
  have HV' := Lib.hid hV'
  clear hx hV hV'
  have hmo : Try.prog.follows .mixedOrders = true := by kernel_rfl
  refine callsIn_of_wp_marks Try.func20 rfl (hfn _) ?_ hro
  simp only [Try.ntmps20, List.size_toArray, List.length_cons, List.length_nil, Nat.reduceAdd, Nat.reduceSub, Array.replicate_succ, Array.replicate_zero, List.push_toArray, List.append_toArray, List.nil_append, List.cons_append]
  gi_wp2_with fail
  refine (inF hF (open_mk _ _ C _ (HX.out _ (by go_grown)) HV.out)).mono ?_
  rintro e w1 ⟨bm, rfl, hbm, hmk, hb1⟩
  have hsz := hb1.size
  simp only [World.size_alloc] at hsz hbm
  have hbw : Below w.heap.size w w1 := (((Below.refl _ w).alloc (Nat.le_refl _) _)).trans (hb1.mono (by simp))
  have hbk : BookAt w1.heap.size w1 (.agg #[.slice a C.deeds.length cap, .slice a2 C.sights.length cap2, .int .i64 C.wrong, .slice (some ⟨bm, 0, none⟩) (weldsTo C.deeds C.deeds.length) 12]) C := ⟨_, _, _, rfl, HX.out _ hbw, hmk⟩
  have HBK := Lib.hid hbk
  have HBW := Lib.hid hbw
  obtain ⟨N, hN⟩ : ∃ N, weldsTo C.deeds C.deeds.length = N := ⟨_, rfl⟩
  have HN := Lib.hid hN
  rw [hN] at HBK ⊢
  clear hb1 hmk hbw hbk hN hsz hbm
  gi_wp2_with fail
  obtain ⟨w2, hw2⟩ : ∃ w2, w2 = (w1.alloc (.cells #[.slice a C.deeds.length cap, .slice a2 C.sights.length cap2, .int .i64 C.wrong, .slice (some ⟨bm, 0, none⟩) N 12] 84)).alloc (.cells #[.int .i64 C.sights.length] 3) := ⟨_, rfl⟩
  have hs2 : w2.heap.size = w1.heap.size + 2 := by rw [hw2]; simp
  have hb2 : Below w1.heap.size w1 w2 := by rw [hw2]; exact ((Below.refl _ w1).alloc (Nat.le_refl _) _).alloc (by simp) _
  have hbx2 : w2.heap[w1.heap.size]? = some (.cells #[.slice a C.deeds.length cap, .slice a2 C.sights.length cap2, .int .i64 C.wrong, .slice (some ⟨bm, 0, none⟩) N 12] 84) := by rw [hw2]; exact heap_old1 _ _ _
  have hcx2 : w2.heap[w1.heap.size + 1]? = some (.cells #[.int .i64 (fewOf C [])] 3) := by rw [hw2]; exact heap_new1 _ _ _
  rw [← hw2]
  gi_wp2_with fail
  have HNEXT := Lib.hid (fewOf_snoc C)
  have HB2 := Lib.hid hb2
  have HHI := Lib.hid hcx2
  have hown1 : ∀ (s : List (List Int)) (A A' : World), A.heap[w1.heap.size + 1]? = some (.cells #[.int .i64 (fewOf C s)] 3) → KeptBut (fun r => r = w2.heap.size ∨ r = w2.heap.size + 1 ∨ ∃ c ∈ [C.deeds.length + 1, C.deeds.length + 2], r = w2.heap.size + 2 + c) A A' → A'.heap[w1.heap.size + 1]? = some (.cells #[.int .i64 (fewOf C s)] 3) := fun s A A' h hk =>
    (hk.block _ (heap_lt h) (by rintro (h | h | ⟨c, hc, h⟩) <;> omega)).trans h
  have hbkx := HBK.out.below hb2
  refine wpIn_pasts F hF hd hro hfn (by omega) (.agg #[.slice a C.deeds.length cap, .slice a2 C.sights.length cap2, .int .i64 C.wrong, .slice (some ⟨bm, 0, none⟩) N 12]) rfl C HV'.out w1.heap.size hbkx (by omega) rfl (fun k => k = w1.heap.size + 1) (fun k hk => by omega)
    (fun pre W => W.heap[w1.heap.size + 1]? = some (.cells #[.int .i64 (fewOf C pre)] 3)) (fun _ _ _ => False) hown1 (fun _ _ _ _ h _ => h) hcx2
    (fun tm _ x => { tmps := (tm.setIfInBounds 22 (pastV C.deeds.length (w2.heap.size + 2 + C.deeds.length + 1))).setIfInBounds 7 (pastV C.deeds.length (w2.heap.size + 2 + C.deeds.length + 1)), defers := [] }) (fun V _ => V) (fun W x => Below.refl _ _) ?assign ?body ?done ?stop
  case assign =>
    intro l x W K hK
    generalize pastV C.deeds.length (w2.heap.size + 2 + C.deeds.length + 1) = pv at hK ⊢
    gi_wp2
    exact hK
  case body =>
    intro l pre x V U hpre hI hkb hpast hV2 hkl
    have hbU : Below w1.heap.size w1 U := (HB2.out.trans (hkb.below (by omega) (fun k hk => by omega)))
    have hbox := (hkb.block w1.heap.size (by omega) (by omega)).trans hbx2
    obtain ⟨c0, c1, c2, c3⟩ := box4' hbox
    obtain ⟨d1, d2⟩ := cell1_of hI
    have hle := fewOf_le C HV'.out pre
    have hwl := wrongsTo_le C x C.sights.length
    have hsU := hkb.size
    have hcall : ∀ W, Below U.heap.size U W → Calls Try.prog 73 #[(.agg #[.slice a C.deeds.length cap, .slice a2 C.sights.length cap2, .int .i64 C.wrong, .slice (some ⟨bm, 0, none⟩) N 12]), pastV C.deeds.length (w2.heap.size + 2 + C.deeds.length + 1)] W fun r w' => r = .returned (.int .i64 (wrongs C x)) ∧ Below W.heap.size W w' := fun W h =>
      notRight_any _ C HV'.out x _ _ W (HBK.out.below (hbU.trans (h.mono hbU.size))) (by have := h.size; have := hbU.size; omega) (hpast.kept (own := fun _ => False) ⟨h.os, h.tape, h.output, h.size, fun k hk _ => h.block k hk⟩ (fun h => h) (fun h => h))
    have HCALL := Lib.hid hcall
    have HI1 := Lib.hid hI
    clear hcall hpast hkl hkb hbU hbox hI hpre hcx2 hbx2 hb2 hown1 hbkx
    generalize pastV C.deeds.length (w2.heap.size + 2 + C.deeds.length + 1) = pv at HCALL ⊢
    gi_wp2_with fail
    gi_region_with (gi_at_call 73; refine (CallsIn.inRound l (inF hF (HCALL.out _ (by go_grown)))).mono ?_; rintro e w' ⟨rfl, hb'⟩; have HB3 := Lib.hid ((show Below U.heap.size U _ by go_grown).trans (hb'.mono (by simp; try omega))); obtain ⟨q1, q2⟩ := cell1_of ((HB3.out.block _ (heap_lt HI1.out)).trans HI1.out); clear hb')
    all_goals gi_wp2_with fail
    all_goals exact ⟨(KeptBut.of_below HB3.out).trans (KeptBut.setCell _ _ _ rfl), by (show _ = some (Obj.cells #[.int .i64 (fewOf C (pre ++ [x]))] 3)); rw [HNEXT.out]; exact set_box _ ((HB3.out.block _ (heap_lt HI1.out)).trans HI1.out)⟩
  case done =>
    rintro D W hD hkb hI hK
    have hfin : Below w.heap.size w (W.putObj D (.deferred none)) := ((HBW.out.trans (HB2.out.mono HBW.out.size)).trans (hkb.below (by have := HBW.out.size; omega) (fun k hk => by have := HBW.out.size; omega))).trans (putObj_below _ _ (by have := HBW.out.size; omega))
    obtain ⟨d1, d2⟩ := cell1_of hI
    gi_wp2
    refine ⟨by simp, .inl ⟨_, _, rfl, run_takeDeferred hK, ?_⟩⟩
    exact ⟨_, results_tmp2 rfl _ _ _, rfl, hfin⟩
  case stop =>
    rintro D c pre W _ _ _ h _
    exact h.elim

theorem Fewest_any (a a2 : Option Addr) (cap cap2 : Nat) (C : Chain) (w : World)
    (hx : ChainAt w.heap.size w (.agg #[.slice a C.deeds.length cap, .slice a2 C.sights.length cap2, .int .i64 C.wrong]) C) (hV : validB C = true) :
    Calls Try.prog 20 #[.agg #[.slice a C.deeds.length cap, .slice a2 C.sights.length cap2, .int .i64 C.wrong]] w fun e w' => e = .returned (.tuple #[.int .i64 (fewV C), .int .i64 0]) ∧ Below w.heap.size w w' :=
  wide_calls (Fewest_in Fence.wide rfl rfl rfl (fun _ => trivial) 9 (by omega) a a2 cap cap2 C w hx hV)

end Go.Proofs.Ytgjikoebneiamaa
