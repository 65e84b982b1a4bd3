/-
  known, Room and Alike: what is so in each truth, in none, or in some.
-/
import Derived.Test.YtjflpmhlodgadaaPlan
namespace Go.Proofs.Ytjflpmhlodgadaa
open Go.RowKit Go.Shelf

attribute [local go_sem] Oper.semAt_some

def anyB (q : List Int → Bool) (xs : List (List Int)) : Bool := xs.any q
theorem anyB_snoc (q : List Int → Bool) (xs : List (List Int)) (x : List Int) : anyB q (xs ++ [x]) = (anyB q xs || q x) := by simp [anyB]
theorem anyB_prefix {q : List Int → Bool} {pre xs : List (List Int)} (h : pre <+: xs) (hp : anyB q pre = true) : anyB q xs = true := by
  simp only [anyB, List.any_eq_true] at *
  obtain ⟨x, hx, hq⟩ := hp
  exact ⟨x, h.subset hx, hq⟩
def knownV (q : List Int → Bool) (xs : List (List Int)) : Int × Int :=
  if anyB q xs = true then (if anyB (fun x => !q x) xs = true then (3, 0) else (1, 0))
  else if anyB (fun x => !q x) xs = true then (2, 0) else (0, 3)
theorem knownV_nn {q : List Int → Bool} {S : Store} (h1 : anyB q (sawL S S.pieces.length S.wrong []) = false) (h2 : anyB (fun x => !q x) (sawL S S.pieces.length S.wrong []) = false) : knownV q (truthsL S) = (0, 3) := by
  unfold knownV truthsL; rw [h1, h2]; rfl
theorem knownV_ny {q : List Int → Bool} {S : Store} (h1 : anyB q (sawL S S.pieces.length S.wrong []) = false) (h2 : anyB (fun x => !q x) (sawL S S.pieces.length S.wrong []) = true) : knownV q (truthsL S) = (2, 0) := by
  unfold knownV truthsL; rw [h1, h2]; rfl
theorem knownV_yn {q : List Int → Bool} {S : Store} (h1 : anyB q (sawL S S.pieces.length S.wrong []) = true) (h2 : anyB (fun x => !q x) (sawL S S.pieces.length S.wrong []) = false) : knownV q (truthsL S) = (1, 0) := by
  unfold knownV truthsL; rw [h1, h2]; rfl
theorem knownV_yy {q : List Int → Bool} {S : Store} (h1 : anyB q (sawL S S.pieces.length S.wrong []) = true) (h2 : anyB (fun x => !q x) (sawL S S.pieces.length S.wrong []) = true) : knownV q (truthsL S) = (3, 0) := by
  unfold knownV truthsL; rw [h1, h2]; rfl

set_option maxRecDepth 100000 in
set_option maxHeartbeats 4000000 in
theorem known_room (F : Fence) (hF : Hid (F = Fence.wide)) (hd : F.depth = none) (hro : F.round = none) (hfn : ∀ f, F.fn f) (n : Nat) (hn : 5 ≤ n) (v : Value) (S : Store) (q : List Int → Bool) (lb1 lb2 : Nat) (w : World) (hx : StoreAt w.heap.size w v S) (hV : Valid S)
    (hask : Hid (∀ (x : List Int) (W : World) (Bk : Nat), Below w.heap.size w W → OkBars S x → x.length = S.pieces.length → IntsAt W.heap.size W (.slice (some ⟨Bk, 0, none⟩) x.length (capS S)) x →
      Calls Try.prog 68 #[.slice (some ⟨Bk, 0, none⟩) x.length (capS S), .pointer (some ⟨lb1, 0, none⟩), .pointer (some ⟨lb2, 0, none⟩)] W fun e W' => e = .returned (.bool (q x)) ∧ Below W.heap.size W W')) :
    CallsIn F n Try.prog 67 #[v, .func (.func 68) #[] #[.pointer (some ⟨lb1, 0, none⟩), .pointer (some ⟨lb2, 0, none⟩)]] w fun e w' => e = .returned (.tuple #[.int .i64 (knownV q (truthsL S)).1, .int .i64 (knownV q (truthsL S)).2]) ∧ Below w.heap.size w w' := by
  have hx' := hx
  obtain ⟨a, cap1, b1, off, a2, cap2, b2, off2, rfl, hm, hm2, HA, HC, HA2, HC2⟩ := hx.opened
  have HX := Lib.hid hx'
  have HV := Lib.hid hV
  obtain ⟨hw0, hw8⟩ := hV.wrong
  clear hx hx' hV HA HC HA2 HC2
  have hmo : Try.prog.follows .mixedOrders = true := by kernel_rfl
  refine callsIn_of_wp_marks Try.func67 rfl (hfn _) ?_ hro
  simp only [Try.ntmps67, List.size_toArray, List.length_cons, List.length_nil, Nat.reduceAdd, Nat.reduceSub, Array.replicate_succ, Array.replicate_zero, List.push_toArray, List.append_toArray, List.nil_append, List.cons_append]
  gi_wp2_with (gi_at_call 63; refine (inF hF (truths_any _ _ _ _ _ _ _ _ _)).mono ?_; rintro e w2 ⟨rfl, hb2, hs2, hq2⟩; have HB2 := Lib.hid hb2; have HS2 := Lib.hid hs2; have HQ2 := Lib.hid hq2; clear hb2 hs2 hq2)
  have hb2 := HB2.out
  have hs2 := HS2.out
  have hq2 := HQ2.out
  simp only [World.size_alloc] at hb2 hs2 hq2
  have hs2a : w.heap.size + 9 ≤ w2.heap.size := by omega
  have hp1 := heap_at3 w (.cells #[.slice a S.bars.length cap1, .int .i64 S.kerf, .slice a2 S.pieces.length cap2, .int .i64 S.wrong] 25) (.cells #[.func (.func 68) #[] #[.pointer (some ⟨lb1, 0, none⟩), .pointer (some ⟨lb2, 0, none⟩)]] 86) (.cells #[.int .i64 0] 3)
  have hp2 := heap_at3 (((w.alloc (.cells #[.slice a S.bars.length cap1, .int .i64 S.kerf, .slice a2 S.pieces.length cap2, .int .i64 S.wrong] 25)).alloc (.cells #[.func (.func 68) #[] #[.pointer (some ⟨lb1, 0, none⟩), .pointer (some ⟨lb2, 0, none⟩)]] 86)).alloc (.cells #[.int .i64 0] 3)) (.cells #[.int .i64 0] 32) (.cells #[.bool false] 4) (.cells #[.bool false] 4)
  have hb36 := below_at3 (((w.alloc (.cells #[.slice a S.bars.length cap1, .int .i64 S.kerf, .slice a2 S.pieces.length cap2, .int .i64 S.wrong] 25)).alloc (.cells #[.func (.func 68) #[] #[.pointer (some ⟨lb1, 0, none⟩), .pointer (some ⟨lb2, 0, none⟩)]] 86)).alloc (.cells #[.int .i64 0] 3)) (.cells #[.int .i64 0] 32) (.cells #[.bool false] 4) (.cells #[.bool false] 4)
  have hb06 := (below_at3 w _ _ _).trans (hb36.mono (by simp; omega))
  simp only [World.size_alloc] at hp2 hb36
  have hFn : w2.heap[w.heap.size + 1]? = some (.cells #[.func (.func 68) #[] #[.pointer (some ⟨lb1, 0, none⟩), .pointer (some ⟨lb2, 0, none⟩)]] 86) := (hb2.block _ (by omega)).trans ((hb36.block _ (by omega)).trans hp1.2.1)
  have hR1 : w2.heap[w.heap.size + 2]? = some (.cells #[.int .i64 0] 3) := (hb2.block _ (by omega)).trans ((hb36.block _ (by omega)).trans hp1.2.2)
  have hR2 : w2.heap[w.heap.size + 3]? = some (.cells #[.int .i64 0] 32) := (hb2.block _ (by omega)).trans hp2.1
  have hY : w2.heap[w.heap.size + 4]? = some (.cells #[.bool false] 4) := (hb2.block _ (by omega)).trans hp2.2.1
  have hN : w2.heap[w.heap.size + 5]? = some (.cells #[.bool false] 4) := (hb2.block _ (by omega)).trans hp2.2.2
  have hw2 : Below w.heap.size w w2 := hb06.trans (hb2.mono (by omega))
  have HFN := Lib.hid hFn
  clear hs2 hp1 hp2 hb2 hb36 hb06 hFn
  refine wpIn_saw F hF hd hro hfn (by omega) rfl w.heap.size _ S S.wrong HV hw0 hw8 (HX.out.below hw2) (by omega) hq2.1 hq2.2 rfl
    (fun k => k = w.heap.size + 2 ∨ k = w.heap.size + 3 ∨ k = w.heap.size + 4 ∨ k = w.heap.size + 5) (fun k hk => by omega)
    (fun pre W => W.heap[w.heap.size + 2]? = some (.cells #[.int .i64 0] 3) ∧ W.heap[w.heap.size + 3]? = some (.cells #[.int .i64 0] 32) ∧ W.heap[w.heap.size + 4]? = some (.cells #[.bool (anyB q pre)] 4) ∧ W.heap[w.heap.size + 5]? = some (.cells #[.bool (anyB (fun x => !q x) pre)] 4) ∧ (anyB q pre && anyB (fun x => !q x) pre) = false)
    (fun d pre W => d = .ret ∧ W.heap[w.heap.size + 2]? = some (.cells #[.int .i64 3] 3) ∧ W.heap[w.heap.size + 3]? = some (.cells #[.int .i64 0] 32) ∧ (anyB q pre && anyB (fun x => !q x) pre) = true)
    (fun s A A' row hs hg hr => ⟨own_heap hs.1 hg hr (by omega), own_heap hs.2.1 hg hr (by omega), own_heap hs.2.2.1 hg hr (by omega), own_heap hs.2.2.2.1 hg hr (by omega), hs.2.2.2.2⟩) (fun d s A A' row hs hg hr => ⟨hs.1, own_heap hs.2.1 hg hr (by omega), own_heap hs.2.2.1 hg hr (by omega), hs.2.2.2⟩) ⟨hR1, hR2, hY, hN, rfl⟩
    (fun tm x => { tmps := (tm.setIfInBounds 11 (.slice (some ⟨w2.heap.size + 2, 0, none⟩) x.length (capS S))).setIfInBounds 8 (.slice (some ⟨w2.heap.size + 2, 0, none⟩) x.length (capS S)), defers := [] }) ?assign ?body ?done ?stop
  case assign =>
    intro l x W K hK
    gi_wp2
    exact hK
  case body =>
    rintro l pre x W hpre ⟨h1, h2, h3, h4, h5⟩ hkb hbuf
    have hsz2 := hkb.size
    have hbW := hbuf.lt
    obtain ⟨hok, hxl⟩ := yielded_ok hpre
    have hins := yielded_ints HV.out hpre hbuf (B := W.heap.size) hbW
    have hwW := hw2.trans (hkb.below (by omega) (by omega))
    have hcall := hask.out x W (w2.heap.size + 2) hwW hok hxl hins
    obtain ⟨g1, _⟩ := cell1_of (kept_heap hkb HFN.out (by omega))
    have HCALL := Lib.hid hcall
    have H1 := Lib.hid h1
    have H2 := Lib.hid h2
    have H3 := Lib.hid h3
    have H4 := Lib.hid h4
    have H5 := Lib.hid h5
    clear hcall hins hok hxl hpre hkb hbuf hwW h1 h2 h3 h4 h5
    gi_wp2_with fail
    refine (CallsIn.inRound l (inF hF HCALL.out)).mono ?_
    rintro e w3 ⟨rfl, hb3⟩
    have i1 := (hb3.block (w.heap.size + 2) (by omega)).trans H1.out
    have i2 := (hb3.block (w.heap.size + 3) (by omega)).trans H2.out
    have i3 := (hb3.block (w.heap.size + 4) (by omega)).trans H3.out
    have i4 := (hb3.block (w.heap.size + 5) (by omega)).trans H4.out
    have hlt3 : w.heap.size + 5 < w3.heap.size := by have := hb3.size; omega
    have HK3 := Lib.hid (KeptBut.of_below (own := fun k => k = w.heap.size + 2 ∨ k = w.heap.size + 3 ∨ k = w.heap.size + 4 ∨ k = w.heap.size + 5) hb3)
    clear hb3 g1
    cases hq : q x
    all_goals
      cases hy : anyB q pre
      all_goals
        cases hz : anyB (fun x => !q x) pre
        all_goals
          rw [hy] at i3
          rw [hz] at i4
          obtain ⟨j1, j2⟩ := cell1_of i1
          obtain ⟨j3, j4⟩ := cell1_of i2
          obtain ⟨j5, j6⟩ := cell1_of i3
          obtain ⟨j7, j8⟩ := cell1_of i4
          have I1 := Lib.hid i1
          have I2 := Lib.hid i2
          have I3 := Lib.hid i3
          have I4 := Lib.hid i4
          have HQ := Lib.hid hq
          have HY := Lib.hid hy
          have HZ := Lib.hid hz
          clear i1 i2 i3 i4 hq hy hz
          gi_wp2
    all_goals first
      | exact ⟨HK3.out.trans (KeptBut.setCell _ _ _ (by simp)), heap_set_other _ I1.out (by omega), heap_set_other _ I2.out (by omega), heap_set_other _ (by rw [anyB_snoc, HY.out, HQ.out]; exact I3.out) (by omega), (by rw [anyB_snoc, HZ.out, HQ.out]; exact heap_set _ I4.out), by rw [anyB_snoc, anyB_snoc, HY.out, HZ.out, HQ.out]; rfl⟩
      | exact ⟨HK3.out.trans (KeptBut.setCell _ _ _ (by simp)), heap_set_other _ I1.out (by omega), heap_set_other _ I2.out (by omega), (by rw [anyB_snoc, HY.out, HQ.out]; exact heap_set _ I3.out), heap_set_other _ (by rw [anyB_snoc, HZ.out, HQ.out]; exact I4.out) (by omega), by rw [anyB_snoc, anyB_snoc, HY.out, HZ.out, HQ.out]; rfl⟩
      | exact ⟨HK3.out.trans (((KeptBut.setCell _ _ _ (by simp)).trans (KeptBut.setCell _ _ _ (by simp))).trans (KeptBut.setCell _ _ _ (by simp))), rfl, heap_set_other _ (heap_set _ (heap_set_other _ I1.out (by omega))) (by omega), heap_set _ (heap_set_other _ (heap_set_other _ I2.out (by omega)) (by omega)), by rw [anyB_snoc, anyB_snoc, HY.out, HZ.out, HQ.out]; rfl⟩
      | (have := H5.out; rw [HY.out, HZ.out] at this; cases this)
  case done =>
    rintro D W hD hkb ⟨h1, h2, h3, h4, h5⟩ hK
    have hfin : Below w.heap.size w W := hw2.trans (hkb.below (by omega) (by omega))
    have hsW := hkb.size
    have n1 : w.heap.size + 2 ≠ D := by omega
    have n2 : w.heap.size + 3 ≠ D := by omega
    have HKD := Lib.hid hK
    have HFIN := Lib.hid hfin
    clear hkb hK hfin
    cases hy : anyB q (sawL S S.pieces.length S.wrong [])
    all_goals
      cases hz : anyB (fun x => !q x) (sawL S S.pieces.length S.wrong [])
      all_goals
        rw [hy] at h3 h5
        rw [hz] at h4 h5
        obtain ⟨j1, j2⟩ := cell1_of h1
        obtain ⟨j3, j4⟩ := cell1_of h2
        obtain ⟨j5, j6⟩ := cell1_of h3
        obtain ⟨j7, j8⟩ := cell1_of h4
        have H1 := Lib.hid h1
        have H2 := Lib.hid h2
        have H5 := Lib.hid h5
        have HY := Lib.hid hy
        have HZ := Lib.hid hz
        clear h1 h2 h3 h4 h5 hy hz
    case true.true => cases H5.out
    all_goals
      gi_wp2
      refine ⟨by simp, .inl ⟨_, _, rfl, run_takeDeferred (heap_set_other _ (heap_set_other _ HKD.out n1.symm) n2.symm), ?_⟩⟩
      have r1 := fun (u1 u2 : Value) => cell1_of ((World.putObj_heap_other (o := .deferred none) n1).trans (heap_set_other (B' := w.heap.size + 3) (o := 0) u2 (heap_set (o := 0) u1 H1.out) (by omega)))
      have r2 := fun (u1 u2 : Value) => cell1_of ((World.putObj_heap_other (o := .deferred none) n2).trans (heap_set (o := 0) u2 (heap_set_other (B' := w.heap.size + 2) (o := 0) u1 H2.out (by omega))))
      refine ⟨.tuple #[.int .i64 (knownV q (truthsL S)).1, .int .i64 (knownV q (truthsL S)).2], ?_, rfl, HFIN.out.trans ((((Below.refl _ _).setCell (p := ⟨w.heap.size + 2, 0, none⟩) (by show w.heap.size ≤ w.heap.size + 2; omega) _).setCell (p := ⟨w.heap.size + 3, 0, none⟩) (by show w.heap.size ≤ w.heap.size + 3; omega) _).trans (putObj_below _ _ (by omega)))⟩
    · rw [knownV_nn HY.out HZ.out]
      have y1 := (r1 (.int .i64 0) (.int .i64 3)).1
      have y2 := (r2 (.int .i64 0) (.int .i64 3)).1
      simp [results, Try.f67, go_sem, y1, y2]
    · rw [knownV_ny HY.out HZ.out]
      have y1 := (r1 (.int .i64 2) (.int .i64 0)).1
      have y2 := (r2 (.int .i64 2) (.int .i64 0)).1
      simp [results, Try.f67, go_sem, y1, y2]
    · rw [knownV_yn HY.out HZ.out]
      have y1 := (r1 (.int .i64 1) (.int .i64 0)).1
      have y2 := (r2 (.int .i64 1) (.int .i64 0)).1
      simp [results, Try.f67, go_sem, y1, y2]
  case stop =>
    rintro D c pre W hD hkb hpre ⟨rfl, h1, h2, h3⟩ hK
    have hfin : Below w.heap.size w (W.putObj D (.deferred none)) := (hw2.trans (hkb.below (by omega) (by omega))).trans (putObj_below _ _ (by omega))
    have n1 : w.heap.size + 2 ≠ D := by omega
    have n2 : w.heap.size + 3 ≠ D := by omega
    rw [Bool.and_eq_true] at h3
    have hb := knownV_yy (anyB_prefix hpre h3.1) (anyB_prefix hpre h3.2)
    have HB := Lib.hid hb
    clear hb h3 hpre hkb
    gi_wp2
    refine ⟨by simp, .inl ⟨_, _, rfl, run_takeDeferred hK, ?_⟩⟩
    have y1 := (cell1_of ((World.putObj_heap_other (o := .deferred none) n1).trans h1)).1
    have y2 := (cell1_of ((World.putObj_heap_other (o := .deferred none) n2).trans h2)).1
    refine ⟨.tuple #[.int .i64 (knownV q (truthsL S)).1, .int .i64 (knownV q (truthsL S)).2], ?_, rfl, hfin⟩
    rw [HB.out]
    simp [results, Try.f67, go_sem, y1, y2]

end Go.Proofs.Ytjflpmhlodgadaa
