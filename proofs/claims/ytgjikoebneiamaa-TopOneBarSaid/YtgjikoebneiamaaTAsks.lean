/-
  Alike: whether two pieces are of one bar.
  Fewest: the least number of wrong marks in a sawing that fits.
  The example of the chapter, and what the laws ask of it.
  Heats: the heats of the bars of which a piece can be.
  Strange: the pieces whose mark surely is wrong.
  What every law asks at its end: the example's answers.
  Room of a length that no piece has.
  What the functions return of a store that is not valid.
  What the functions return of a store that is not valid, and of arguments that are not in it.
  Heats and Least where there is an error.
  What Rest and Alike return where there is an error.
  Plain facts on truths: the search misses none, and what the answers say holds in each.
  Plain facts: the search finds just the truths, each once.
  Plain facts: a store with one more piece whose mark can stand for all heats.
-/
import Derived.Test.YtgjikoebneiamaaTSaw
import Derived.Stop.RegionWithIn
import Derived.Test.YtgjikoebneiamaaTBase
namespace Go.Proofs.Ytgjikoebneiamaa.Tb
open Go.RowKit Go.Shelf

attribute [local go_sem] Oper.semAt_some

set_option maxRecDepth 100000 in
set_option maxHeartbeats 4000000 in
theorem known_alike (F : Fence) (hF : Hid (F = Fence.wide)) (hd : F.depth = none) (hro : F.round = none) (hfn : ∀ f, F.fn f) (n : Nat) (hn : 5 ≤ n) (v : Value) (S : Store) (q : List Int → Bool) (lb1 lb2 : Nat) (w : World) (hx : StoreAt w.heap.size w v S) (hV : Valid S)
    (hask : Hid (∀ (x : List Int) (W : World) (Bk : Nat), Below w.heap.size w W → OkBars S x → x.length = S.pieces.length → IntsAt W.heap.size W (.slice (some ⟨Bk, 0, none⟩) x.length (capS S)) x →
      Calls Try.prog 108 #[.slice (some ⟨Bk, 0, none⟩) x.length (capS S), .pointer (some ⟨lb1, 0, none⟩), .pointer (some ⟨lb2, 0, none⟩)] W fun e W' => e = .returned (.bool (q x)) ∧ Below W.heap.size W W')) :
    CallsIn F n Try.prog 107 #[v, .func (.func 108) #[] #[.pointer (some ⟨lb1, 0, none⟩), .pointer (some ⟨lb2, 0, none⟩)]] w fun e w' => e = .returned (.tuple #[.int .i64 (knownV q (truthsL S)).1, .int .i64 (knownV q (truthsL S)).2]) ∧ Below w.heap.size w w' := by
  have hx' := hx
  obtain ⟨a, cap1, b1, off, a2, cap2, b2, off2, rfl, hm, hm2, HA, HC, HA2, HC2⟩ := hx.opened
  have HX := Lib.hid hx'
  have HV := Lib.hid hV
  obtain ⟨hw0, hw8⟩ := hV.wrong
  clear hx hx' hV HA HC HA2 HC2
  have hmo : Try.prog.follows .mixedOrders = true := by kernel_rfl
  refine callsIn_of_wp_marks Try.func107 rfl (hfn _) ?_ hro
  simp only [Try.ntmps107, List.size_toArray, List.length_cons, List.length_nil, Nat.reduceAdd, Nat.reduceSub, Array.replicate_succ, Array.replicate_zero, List.push_toArray, List.append_toArray, List.nil_append, List.cons_append]
  gi_wp2_with (gi_at_call 103; refine (inF hF (truths_any _ _ _ _ _ _ _ _ _)).mono ?_; rintro e w2 ⟨rfl, hb2, hs2, hq2⟩; have HB2 := Lib.hid hb2; have HS2 := Lib.hid hs2; have HQ2 := Lib.hid hq2; clear hb2 hs2 hq2)
  have hb2 := HB2.out
  have hs2 := HS2.out
  have hq2 := HQ2.out
  simp only [World.size_alloc] at hb2 hs2 hq2
  have hs2a : w.heap.size + 9 ≤ w2.heap.size := by omega
  have hp1 := heap_at3 w (.cells #[.slice a S.bars.length cap1, .int .i64 S.kerf, .slice a2 S.pieces.length cap2, .int .i64 S.wrong] 69) (.cells #[.func (.func 108) #[] #[.pointer (some ⟨lb1, 0, none⟩), .pointer (some ⟨lb2, 0, none⟩)]] 117) (.cells #[.int .i64 0] 3)
  have hp2 := heap_at3 (((w.alloc (.cells #[.slice a S.bars.length cap1, .int .i64 S.kerf, .slice a2 S.pieces.length cap2, .int .i64 S.wrong] 69)).alloc (.cells #[.func (.func 108) #[] #[.pointer (some ⟨lb1, 0, none⟩), .pointer (some ⟨lb2, 0, none⟩)]] 117)).alloc (.cells #[.int .i64 0] 3)) (.cells #[.int .i64 0] 29) (.cells #[.bool false] 4) (.cells #[.bool false] 4)
  have hb36 := below_at3 (((w.alloc (.cells #[.slice a S.bars.length cap1, .int .i64 S.kerf, .slice a2 S.pieces.length cap2, .int .i64 S.wrong] 69)).alloc (.cells #[.func (.func 108) #[] #[.pointer (some ⟨lb1, 0, none⟩), .pointer (some ⟨lb2, 0, none⟩)]] 117)).alloc (.cells #[.int .i64 0] 3)) (.cells #[.int .i64 0] 29) (.cells #[.bool false] 4) (.cells #[.bool false] 4)
  have hb06 := (below_at3 w _ _ _).trans (hb36.mono (by simp; omega))
  simp only [World.size_alloc] at hp2 hb36
  have hFn : w2.heap[w.heap.size + 1]? = some (.cells #[.func (.func 108) #[] #[.pointer (some ⟨lb1, 0, none⟩), .pointer (some ⟨lb2, 0, none⟩)]] 117) := (hb2.block _ (by omega)).trans ((hb36.block _ (by omega)).trans hp1.2.1)
  have hR1 : w2.heap[w.heap.size + 2]? = some (.cells #[.int .i64 0] 3) := (hb2.block _ (by omega)).trans ((hb36.block _ (by omega)).trans hp1.2.2)
  have hR2 : w2.heap[w.heap.size + 3]? = some (.cells #[.int .i64 0] 29) := (hb2.block _ (by omega)).trans hp2.1
  have hY : w2.heap[w.heap.size + 4]? = some (.cells #[.bool false] 4) := (hb2.block _ (by omega)).trans hp2.2.1
  have hN : w2.heap[w.heap.size + 5]? = some (.cells #[.bool false] 4) := (hb2.block _ (by omega)).trans hp2.2.2
  have hw2 : Below w.heap.size w w2 := hb06.trans (hb2.mono (by omega))
  have HFN := Lib.hid hFn
  clear hs2 hp1 hp2 hb2 hb36 hb06 hFn
  refine wpIn_saw F hF hd hro hfn (by omega) rfl w.heap.size _ S S.wrong HV hw0 hw8 (HX.out.below hw2) (by omega) hq2.1 hq2.2 rfl
    (fun k => k = w.heap.size + 2 ∨ k = w.heap.size + 3 ∨ k = w.heap.size + 4 ∨ k = w.heap.size + 5) (fun k hk => by omega)
    (fun pre W => W.heap[w.heap.size + 2]? = some (.cells #[.int .i64 0] 3) ∧ W.heap[w.heap.size + 3]? = some (.cells #[.int .i64 0] 29) ∧ W.heap[w.heap.size + 4]? = some (.cells #[.bool (anyB q pre)] 4) ∧ W.heap[w.heap.size + 5]? = some (.cells #[.bool (anyB (fun x => !q x) pre)] 4) ∧ (anyB q pre && anyB (fun x => !q x) pre) = false)
    (fun d pre W => d = .ret ∧ W.heap[w.heap.size + 2]? = some (.cells #[.int .i64 3] 3) ∧ W.heap[w.heap.size + 3]? = some (.cells #[.int .i64 0] 29) ∧ (anyB q pre && anyB (fun x => !q x) pre) = true)
    (fun s A A' row hs hg hr => ⟨own_heap hs.1 hg hr (by omega), own_heap hs.2.1 hg hr (by omega), own_heap hs.2.2.1 hg hr (by omega), own_heap hs.2.2.2.1 hg hr (by omega), hs.2.2.2.2⟩) (fun d s A A' row hs hg hr => ⟨hs.1, own_heap hs.2.1 hg hr (by omega), own_heap hs.2.2.1 hg hr (by omega), hs.2.2.2⟩) ⟨hR1, hR2, hY, hN, rfl⟩
    (fun tm x => { tmps := (tm.setIfInBounds 11 (.slice (some ⟨w2.heap.size + 2, 0, none⟩) x.length (capS S))).setIfInBounds 8 (.slice (some ⟨w2.heap.size + 2, 0, none⟩) x.length (capS S)), defers := [] }) ?assign ?body ?done ?stop
  case assign =>
    intro l x W K hK
    gi_wp2
    exact hK
  case body =>
    rintro l pre x W hpre ⟨h1, h2, h3, h4, h5⟩ hkb hbuf
    have hsz2 := hkb.size
    have hbW := hbuf.lt
    obtain ⟨hok, hxl⟩ := yielded_ok hpre
    have hins := yielded_ints HV.out hpre hbuf (B := W.heap.size) hbW
    have hwW := hw2.trans (hkb.below (by omega) (by omega))
    have hcall := hask.out x W (w2.heap.size + 2) hwW hok hxl hins
    obtain ⟨g1, _⟩ := cell1_of (kept_heap hkb HFN.out (by omega))
    have HCALL := Lib.hid hcall
    have H1 := Lib.hid h1
    have H2 := Lib.hid h2
    have H3 := Lib.hid h3
    have H4 := Lib.hid h4
    have H5 := Lib.hid h5
    clear hcall hins hok hxl hpre hkb hbuf hwW h1 h2 h3 h4 h5
    gi_wp2_with fail
    refine (CallsIn.inRound l (inF hF HCALL.out)).mono ?_
    rintro e w3 ⟨rfl, hb3⟩
    have i1 := (hb3.block (w.heap.size + 2) (by omega)).trans H1.out
    have i2 := (hb3.block (w.heap.size + 3) (by omega)).trans H2.out
    have i3 := (hb3.block (w.heap.size + 4) (by omega)).trans H3.out
    have i4 := (hb3.block (w.heap.size + 5) (by omega)).trans H4.out
    have hlt3 : w.heap.size + 5 < w3.heap.size := by have := hb3.size; omega
    have HK3 := Lib.hid (KeptBut.of_below (own := fun k => k = w.heap.size + 2 ∨ k = w.heap.size + 3 ∨ k = w.heap.size + 4 ∨ k = w.heap.size + 5) hb3)
    clear hb3 g1
    cases hq : q x
    all_goals
      cases hy : anyB q pre
      all_goals
        cases hz : anyB (fun x => !q x) pre
        all_goals
          rw [hy] at i3
          rw [hz] at i4
          obtain ⟨j1, j2⟩ := cell1_of i1
          obtain ⟨j3, j4⟩ := cell1_of i2
          obtain ⟨j5, j6⟩ := cell1_of i3
          obtain ⟨j7, j8⟩ := cell1_of i4
          have I1 := Lib.hid i1
          have I2 := Lib.hid i2
          have I3 := Lib.hid i3
          have I4 := Lib.hid i4
          have HQ := Lib.hid hq
          have HY := Lib.hid hy
          have HZ := Lib.hid hz
          clear i1 i2 i3 i4 hq hy hz
          gi_wp2
    all_goals first
      | exact ⟨HK3.out.trans (KeptBut.setCell _ _ _ (by simp)), heap_set_other _ I1.out (by omega), heap_set_other _ I2.out (by omega), heap_set_other _ (by rw [anyB_snoc, HY.out, HQ.out]; exact I3.out) (by omega), (by rw [anyB_snoc, HZ.out, HQ.out]; exact heap_set _ I4.out), by rw [anyB_snoc, anyB_snoc, HY.out, HZ.out, HQ.out]; rfl⟩
      | exact ⟨HK3.out.trans (KeptBut.setCell _ _ _ (by simp)), heap_set_other _ I1.out (by omega), heap_set_other _ I2.out (by omega), (by rw [anyB_snoc, HY.out, HQ.out]; exact heap_set _ I3.out), heap_set_other _ (by rw [anyB_snoc, HZ.out, HQ.out]; exact I4.out) (by omega), by rw [anyB_snoc, anyB_snoc, HY.out, HZ.out, HQ.out]; rfl⟩
      | exact ⟨HK3.out.trans (((KeptBut.setCell _ _ _ (by simp)).trans (KeptBut.setCell _ _ _ (by simp))).trans (KeptBut.setCell _ _ _ (by simp))), rfl, heap_set_other _ (heap_set _ (heap_set_other _ I1.out (by omega))) (by omega), heap_set _ (heap_set_other _ (heap_set_other _ I2.out (by omega)) (by omega)), by rw [anyB_snoc, anyB_snoc, HY.out, HZ.out, HQ.out]; rfl⟩
      | (have := H5.out; rw [HY.out, HZ.out] at this; cases this)
  case done =>
    rintro D W hD hkb ⟨h1, h2, h3, h4, h5⟩ hK
    have hfin : Below w.heap.size w W := hw2.trans (hkb.below (by omega) (by omega))
    have hsW := hkb.size
    have n1 : w.heap.size + 2 ≠ D := by omega
    have n2 : w.heap.size + 3 ≠ D := by omega
    have HKD := Lib.hid hK
    have HFIN := Lib.hid hfin
    clear hkb hK hfin
    cases hy : anyB q (sawL S S.pieces.length S.wrong [])
    all_goals
      cases hz : anyB (fun x => !q x) (sawL S S.pieces.length S.wrong [])
      all_goals
        rw [hy] at h3 h5
        rw [hz] at h4 h5
        obtain ⟨j1, j2⟩ := cell1_of h1
        obtain ⟨j3, j4⟩ := cell1_of h2
        obtain ⟨j5, j6⟩ := cell1_of h3
        obtain ⟨j7, j8⟩ := cell1_of h4
        have H1 := Lib.hid h1
        have H2 := Lib.hid h2
        have H5 := Lib.hid h5
        have HY := Lib.hid hy
        have HZ := Lib.hid hz
        clear h1 h2 h3 h4 h5 hy hz
    case true.true => cases H5.out
    all_goals
      gi_wp2
      refine ⟨by simp, .inl ⟨_, _, rfl, run_takeDeferred (heap_set_other _ (heap_set_other _ HKD.out n1.symm) n2.symm), ?_⟩⟩
      have r1 := fun (u1 u2 : Value) => cell1_of ((World.putObj_heap_other (o := .deferred none) n1).trans (heap_set_other (B' := w.heap.size + 3) (o := 0) u2 (heap_set (o := 0) u1 H1.out) (by omega)))
      have r2 := fun (u1 u2 : Value) => cell1_of ((World.putObj_heap_other (o := .deferred none) n2).trans (heap_set (o := 0) u2 (heap_set_other (B' := w.heap.size + 2) (o := 0) u1 H2.out (by omega))))
      refine ⟨.tuple #[.int .i64 (knownV q (truthsL S)).1, .int .i64 (knownV q (truthsL S)).2], ?_, rfl, HFIN.out.trans ((((Below.refl _ _).setCell (p := ⟨w.heap.size + 2, 0, none⟩) (by show w.heap.size ≤ w.heap.size + 2; omega) _).setCell (p := ⟨w.heap.size + 3, 0, none⟩) (by show w.heap.size ≤ w.heap.size + 3; omega) _).trans (putObj_below _ _ (by omega)))⟩
    · rw [knownV_nn HY.out HZ.out]
      have y1 := (r1 (.int .i64 0) (.int .i64 3)).1
      have y2 := (r2 (.int .i64 0) (.int .i64 3)).1
      simp [results, Try.f107, go_sem, y1, y2]
    · rw [knownV_ny HY.out HZ.out]
      have y1 := (r1 (.int .i64 2) (.int .i64 0)).1
      have y2 := (r2 (.int .i64 2) (.int .i64 0)).1
      simp [results, Try.f107, go_sem, y1, y2]
    · rw [knownV_yn HY.out HZ.out]
      have y1 := (r1 (.int .i64 1) (.int .i64 0)).1
      have y2 := (r2 (.int .i64 1) (.int .i64 0)).1
      simp [results, Try.f107, go_sem, y1, y2]
  case stop =>
    rintro D c pre W hD hkb hpre ⟨rfl, h1, h2, h3⟩ hK
    have hfin : Below w.heap.size w (W.putObj D (.deferred none)) := (hw2.trans (hkb.below (by omega) (by omega))).trans (putObj_below _ _ (by omega))
    have n1 : w.heap.size + 2 ≠ D := by omega
    have n2 : w.heap.size + 3 ≠ D := by omega
    rw [Bool.and_eq_true] at h3
    have hb := knownV_yy (anyB_prefix hpre h3.1) (anyB_prefix hpre h3.2)
    have HB := Lib.hid hb
    clear hb h3 hpre hkb
    gi_wp2
    refine ⟨by simp, .inl ⟨_, _, rfl, run_takeDeferred hK, ?_⟩⟩
    have y1 := (cell1_of ((World.putObj_heap_other (o := .deferred none) n1).trans h1)).1
    have y2 := (cell1_of ((World.putObj_heap_other (o := .deferred none) n2).trans h2)).1
    refine ⟨.tuple #[.int .i64 (knownV q (truthsL S)).1, .int .i64 (knownV q (truthsL S)).2], ?_, rfl, hfin⟩
    rw [HB.out]
    simp [results, Try.f107, go_sem, y1, y2]

def alikeB (p r : Nat) (x : List Int) : Bool := nth x p == nth x r

theorem isPiece_to {v : Value} {S : Store} {p : Int} {w : World} {B : Nat} {r : Bool} (h : wB p 0 (S.pieces.length - 1) = r) (hx : StoreAt B w v S) :
    Calls Try.prog 106 #[v, .int .i64 p] w fun e w' => e = .returned (.bool r) ∧ Below w.heap.size w w' := h ▸ isPiece_any v S p w hx

set_option maxHeartbeats 1000000 in
theorem AlikeD1_any (Bk cap c1 c2 p r : Nat) (x : List Int) (W : World) (hc1 : W.heap[c1]? = some (.cells #[.int .i64 p] 3)) (hc2 : W.heap[c2]? = some (.cells #[.int .i64 r] 3))
    (hp : p < x.length) (hr : r < x.length) (hi : IntsAt W.heap.size W (.slice (some ⟨Bk, 0, none⟩) x.length cap) x) :
    Calls Try.prog 108 #[.slice (some ⟨Bk, 0, none⟩) x.length cap, .pointer (some ⟨c1, 0, none⟩), .pointer (some ⟨c2, 0, none⟩)] W fun e W' => e = .returned (.bool (alikeB p r x)) ∧ Below W.heap.size W W' := by
  obtain ⟨a3, cap3, b3, off3, he, hm3, HA3, HC3, _⟩ := hi.opened
  simp only [Value.slice.injEq] at he
  obtain ⟨h0, h1⟩ := HA3.out (by omega)
  rw [h0] at he
  simp only [Option.some.injEq, Addr.mk.injEq, and_true, true_and] at he
  obtain ⟨⟨rfl, rfl⟩, _⟩ := he
  have d0 := HC3.out p hp
  have d1 := HC3.out r hr
  rw [Nat.zero_add] at d0 d1
  obtain ⟨q0, _⟩ := cell1_of hc1
  obtain ⟨q1, _⟩ := cell1_of hc2
  clear hi HA3 HC3 hc1 hc2 h0 h1
  go_enter Try.func108, Try.ntmps108
  go_wp2
  go_quiet (fail)
  go_wp2
  go_ret
  exact ⟨rfl, drewN_below (Below.refl _ _) _⟩

def alikeV (S : Store) (p r : Nat) : Int × Int := knownV (alikeB p r) (truthsL S)

set_option maxHeartbeats 2000000 in
theorem Alike_any (v : Value) (S : Store) (p r : Nat) (w : World) (hx : StoreAt w.heap.size w v S) (hV : Valid S) (hp : p < S.pieces.length) (hr : r < S.pieces.length) :
    Calls Try.prog 64 #[v, .int .i64 p, .int .i64 r] w fun e w' => e = .returned (.tuple #[.int .i64 (alikeV S p r).1, .int .i64 (alikeV S p r).2]) ∧ Below w.heap.size w w' := by
  have hx' := hx
  obtain ⟨a, cap1, b1, off, a2, cap2, b2, off2, rfl, hm, hm2, HA, HC, HA2, HC2⟩ := hx.opened
  have HX := Lib.hid hx'
  have HV := Lib.hid hV
  clear hx hx' hV HA HC HA2 HC2
  have HXB := fun a b c => Lib.hid ((HX.out.below (below_at3 w a b c)).mono (show w.heap.size ≤ (((w.alloc a).alloc b).alloc c).heap.size by simp; omega))
  have HPP := Lib.hid (show wB (p : Int) 0 ((S.pieces.length : Int) - 1) = true from wB_iff.2 ⟨by omega, by omega⟩)
  have HPR := Lib.hid (show wB (r : Int) 0 ((S.pieces.length : Int) - 1) = true from wB_iff.2 ⟨by omega, by omega⟩)
  go_enter Try.func64, Try.ntmps64
  go_wp2_with fail
  refine (check_ok (valid_iff.2 HV.out) (HXB _ _ _).out).mono ?_
  rintro e w0 ⟨rfl, hb0⟩
  have hs0 := hb0.size
  simp only [World.size_alloc] at hb0 hs0
  have hh := heap_at3 w (.cells #[.slice a S.bars.length cap1, .int .i64 S.kerf, .slice a2 S.pieces.length cap2, .int .i64 S.wrong] 69) (.cells #[.int .i64 p] 3) (.cells #[.int .i64 r] 3)
  have hbx := (hb0.block w.heap.size (by omega)).trans hh.1
  have hbp := (hb0.block (w.heap.size + 1) (by omega)).trans hh.2.1
  have hbr := (hb0.block (w.heap.size + 2) (by omega)).trans hh.2.2
  have hw00 := (below_at3 w _ _ _).trans (hb0.mono (by omega))
  clear hh hb0
  obtain ⟨c0, c1, c2, c3⟩ := box4_of hbx
  obtain ⟨c4, _⟩ := cell1_of hbp
  obtain ⟨c5, _⟩ := cell1_of hbr
  have HBX := Lib.hid hbx
  have HBP := Lib.hid hbp
  have HBR := Lib.hid hbr
  have HW := Lib.hid hw00
  clear hbx hbp hbr hw00
  go_wp2_with fail
  refine (isPiece_to HPP.out (HX.out.below HW.out)).mono ?_
  rintro e w1 ⟨rfl, hb1⟩
  have hs1 := hb1.size
  have HBX1 := Lib.hid ((hb1.block _ (by omega)).trans HBX.out)
  have HBP1 := Lib.hid ((hb1.block _ (by omega)).trans HBP.out)
  have HBR1 := Lib.hid ((hb1.block _ (by omega)).trans HBR.out)
  have HW1 := Lib.hid (HW.out.trans (hb1.mono (by omega)))
  clear hb1 c0 c1 c2 c3 c4 c5 HBX HBP HBR HW
  obtain ⟨c0, c1, c2, c3⟩ := box4_of HBX1.out
  obtain ⟨c4, _⟩ := cell1_of HBP1.out
  obtain ⟨c5, _⟩ := cell1_of HBR1.out
  go_wp2_with fail
  refine (isPiece_to HPR.out (HX.out.below HW1.out)).mono ?_
  rintro e w2 ⟨rfl, hb2⟩
  have hs2 := hb2.size
  have HBX2 := Lib.hid ((hb2.block _ (by omega)).trans HBX1.out)
  have HBP2 := Lib.hid ((hb2.block _ (by omega)).trans HBP1.out)
  have HBR2 := Lib.hid ((hb2.block _ (by omega)).trans HBR1.out)
  have HW2 := Lib.hid (HW1.out.trans (hb2.mono (by omega)))
  clear hb2 c0 c1 c2 c3 c4 c5 HBX1 HBP1 HBR1 HW1
  obtain ⟨c0, c1, c2, c3⟩ := box4_of HBX2.out
  obtain ⟨c4, _⟩ := cell1_of HBP2.out
  obtain ⟨c5, _⟩ := cell1_of HBR2.out
  have hk := wide_calls (known_alike Fence.wide rfl rfl rfl (fun _ => trivial) 9 (by omega) _ S (alikeB p r) (w.heap.size + 1) (w.heap.size + 1 + 1) w2 ((HX.out.below HW2.out).mono (by omega)) HV.out (fun x W Bk hbW hO hxl hi => AlikeD1_any Bk (capS S) (w.heap.size + 1) (w.heap.size + 1 + 1) p r x W
    ((hbW.block _ (by omega)).trans HBP2.out) ((hbW.block _ (by omega)).trans HBR2.out) (by omega) (by omega) hi))
  have HKN := Lib.hid hk
  clear hk
  go_wp2_with (go_at_call 107; go_must (refine HKN.out.mono ?_); rintro e w' ⟨rfl, hb⟩)
  go_ret2
  exact ⟨rfl, HW2.out.trans (hb.mono (by omega))⟩
end Go.Proofs.Ytgjikoebneiamaa.Tb
namespace Go.Proofs.Ytgjikoebneiamaa.Tb
open Go.RowKit Go.Shelf

attribute [local go_sem] Oper.semAt_some

def fewF (S : Store) (xs : List (List Int)) : Int := xs.foldl (fun m x => min m (wrongs S x)) S.pieces.length
theorem fewF_snoc (S : Store) (xs : List (List Int)) (x : List Int) : fewF S (xs ++ [x]) = min (fewF S xs) (wrongs S x) := by simp [fewF]
theorem wrongs_nonneg (S : Store) (x : List Int) : 0 ≤ wrongs S x := (wrongsTo_le S x x.length).1
theorem foldl_min (S : Store) : ∀ (xs : List (List Int)) (m : Int), xs.foldl (fun m x => min m (wrongs S x)) m ≤ m ∧ (0 ≤ m → 0 ≤ xs.foldl (fun m x => min m (wrongs S x)) m)
  | [], m => ⟨Int.le_refl _, fun h => h⟩
  | x :: xs, m => by
    have h := foldl_min S xs (min m (wrongs S x))
    have h2 := wrongs_nonneg S x
    simp only [List.foldl_cons]
    exact ⟨by omega, fun h0 => h.2 (by omega)⟩
theorem fewF_zero {S : Store} {pre xs : List (List Int)} (h : pre <+: xs) (hz : fewF S pre = 0) : fewF S xs = 0 := by
  obtain ⟨t, rfl⟩ := h
  have := foldl_min S t 0
  simp only [fewF, List.foldl_append] at *
  rw [hz]; omega
def fitL (S : Store) : List (List Int) := sawL S S.pieces.length S.pieces.length []
def fewV (S : Store) : Int × Int := if someB (fitL S) = true then (fewF S (fitL S), 0) else (0, 3)
theorem fewV_no {S : Store} (h : someB (sawL S S.pieces.length S.pieces.length []) = false) : fewV S = (0, 3) := by unfold fewV fitL; rw [h]; rfl
theorem fewV_yes {S : Store} (h : someB (sawL S S.pieces.length S.pieces.length []) = true) : fewV S = (fewF S (sawL S S.pieces.length S.pieces.length []), 0) := by unfold fewV fitL; rw [h]; rfl
theorem someB_prefix {pre xs : List (List Int)} (h : pre <+: xs) (hp : someB pre = true) : someB xs = true := by
  obtain ⟨t, rfl⟩ := h
  cases pre with
  | nil => simp [someB] at hp
  | cons a l => simp [someB]

end Go.Proofs.Ytgjikoebneiamaa.Tb
namespace Go.Proofs.Ytgjikoebneiamaa.Tb
open Go.RowKit Go.Shelf

def exS : Store := ⟨[⟨3, 100⟩, ⟨5, 60⟩, ⟨3, 45⟩], 5, [⟨50, [3, 5]⟩, ⟨45, [3]⟩, ⟨40, [3, 8]⟩], 0⟩
theorem ex_valid : validB exS = true := by decide +kernel
theorem ex_many : (truthsL exS).length = 5 := by decide +kernel
theorem ex_of : ofS exS 1 = [0, 2] := by decide +kernel
theorem ex_rest : restSpan exS 0 (truthsL exS) = (0, 60) := by decide +kernel
theorem ex_room : roomV exS 50 = (3, 0) := by decide +kernel
theorem ex_least : leastS exS = 2 := by decide +kernel
theorem ex_restV : restV exS 0 = .tuple #[.agg #[.int .i64 0, .int .i64 60], .int .i64 0] := by
  unfold restV; rw [if_neg (by rw [ex_many]; omega), ex_rest]

theorem cells_of {w : World} {b i : Nat} {cs : Array Value} {t : TypeId} {u : Value} (h : w.heap[b]? = some (.cells cs t)) (hi : cs[i]? = some u) : w.cell? ⟨b, i, none⟩ = some u := by
  simp [World.cell?, h, hi]

theorem lit2 (a b : Int) : ∀ i, i < [a, b].length → (#[Value.int .i64 a, .int .i64 b])[i]? = some (.int .i64 (nth [a, b] i))
  | 0, _ => rfl
  | 1, _ => rfl
  | i + 2, h => by simp at h; omega
theorem lit1 (a : Int) : ∀ i, i < [a].length → (#[Value.int .i64 a])[i]? = some (.int .i64 (nth [a] i))
  | 0, _ => rfl
  | i + 1, h => by simp at h
theorem ints_lit {B b : Nat} {w : World} {xs : List Int} {arr : Array Value} {t : TypeId} (h : w.heap[b]? = some (.cells arr t)) (hB : b < B) (_hs : arr.size = xs.length) (hc : ∀ i, i < xs.length → arr[i]? = some (.int .i64 (nth xs i))) (hw : ∀ x ∈ xs, I64 x) (hl : xs.length ≤ maxLen := by decide) :
    IntsAt B w (.slice (some ⟨b, 0, none⟩) xs.length xs.length) xs :=
  ⟨_, xs.length, b, 0, rfl, Nat.le_refl _, hl, fun _ => ⟨rfl, hB⟩, fun i hi => by rw [Nat.zero_add]; exact cells_of h (hc i hi), hw⟩

set_option maxRecDepth 100000 in
set_option maxHeartbeats 2000000 in
theorem Example_any (w : World) :
    Calls Try.prog 101 #[] w fun e w' => ∃ v, e = .returned v ∧ StoreAt w'.heap.size w' v exS ∧ Below w.heap.size w w' := by
  go_enter Try.func101, Try.ntmps101
  go_wp2
  generalize hW : ((((((w.alloc _).alloc _).alloc _).alloc _).alloc _).alloc _) = W
  have e1 := heap_at3 w (.cells #[.slice (some ⟨w.heap.size + 1, 0, none⟩) 3 3, .int .i64 5, .slice (some ⟨w.heap.size + 1 + 1 + 1 + 1 + 1, 0, none⟩) 3 3, .int .i64 0] 69) (.cells #[.int .i64 3, .int .i64 100, .int .i64 5, .int .i64 60, .int .i64 3, .int .i64 45] 116) (.cells #[.int .i64 3, .int .i64 5] 3)
  have e2 := heap_at3 (((w.alloc (.cells #[.slice (some ⟨w.heap.size + 1, 0, none⟩) 3 3, .int .i64 5, .slice (some ⟨w.heap.size + 1 + 1 + 1 + 1 + 1, 0, none⟩) 3 3, .int .i64 0] 69)).alloc (.cells #[.int .i64 3, .int .i64 100, .int .i64 5, .int .i64 60, .int .i64 3, .int .i64 45] 116)).alloc (.cells #[.int .i64 3, .int .i64 5] 3)) (.cells #[.int .i64 3] 3) (.cells #[.int .i64 3, .int .i64 8] 3) (.cells #[.int .i64 50, .slice (some ⟨w.heap.size + 1 + 1, 0, none⟩) 2 2, .int .i64 45, .slice (some ⟨w.heap.size + 1 + 1 + 1, 0, none⟩) 1 1, .int .i64 40, .slice (some ⟨w.heap.size + 1 + 1 + 1 + 1, 0, none⟩) 2 2] 114)
  have e3 := below_at3 (((w.alloc (.cells #[.slice (some ⟨w.heap.size + 1, 0, none⟩) 3 3, .int .i64 5, .slice (some ⟨w.heap.size + 1 + 1 + 1 + 1 + 1, 0, none⟩) 3 3, .int .i64 0] 69)).alloc (.cells #[.int .i64 3, .int .i64 100, .int .i64 5, .int .i64 60, .int .i64 3, .int .i64 45] 116)).alloc (.cells #[.int .i64 3, .int .i64 5] 3)) (.cells #[.int .i64 3] 3) (.cells #[.int .i64 3, .int .i64 8] 3) (.cells #[.int .i64 50, .slice (some ⟨w.heap.size + 1 + 1, 0, none⟩) 2 2, .int .i64 45, .slice (some ⟨w.heap.size + 1 + 1 + 1, 0, none⟩) 1 1, .int .i64 40, .slice (some ⟨w.heap.size + 1 + 1 + 1 + 1, 0, none⟩) 2 2] 114)
  have hb := (below_at3 w _ _ _).trans (e3.mono (by simp; omega))
  rw [hW] at e2 e3 hb
  have hsz : W.heap.size = w.heap.size + 6 := by rw [← hW]; simp
  simp only [World.size_alloc] at e2 e3
  have g0 := (e3.block w.heap.size (by omega)).trans e1.1
  have g1 := (e3.block (w.heap.size + 1) (by omega)).trans e1.2.1
  have g2 := (e3.block (w.heap.size + 2) (by omega)).trans e1.2.2
  obtain ⟨g3, g4, g5⟩ := e2
  obtain ⟨y0, y1, y2, y3⟩ := box4_of g0
  refine bodyPost_ret (v := .agg #[.slice (some ⟨w.heap.size + 1, 0, none⟩) 3 3, .int .i64 5, .slice (some ⟨w.heap.size + 1 + 1 + 1 + 1 + 1, 0, none⟩) 3 3, .int .i64 0]) (by simp [results, Try.results101, go_sem, y0, y1, y2, y3]) rfl ⟨_, rfl, ?_, hb⟩
  refine ⟨_, _, rfl, ?_, ?_, ⟨by decide, by decide⟩, ⟨by decide, by decide⟩⟩
  · refine ⟨some ⟨w.heap.size + 1, 0, none⟩, 3, w.heap.size + 1, 0, rfl, by decide, by unfold maxLen; decide, fun _ => ⟨rfl, by omega⟩, fun i hi => ?_, ?_⟩
    · have : i = 0 ∨ i = 1 ∨ i = 2 := by have : exS.bars.length = 3 := rfl; omega
      rcases this with rfl | rfl | rfl <;> exact ⟨cells_of g1 rfl, cells_of g1 rfl⟩
    · intro x hx
      simp only [exS, List.mem_cons, List.not_mem_nil, or_false] at hx
      rcases hx with rfl | rfl | rfl <;> exact ⟨⟨by decide, by decide⟩, ⟨by decide, by decide⟩⟩
  · refine ⟨some ⟨w.heap.size + 5, 0, none⟩, 3, w.heap.size + 5, 0, rfl, by decide, by unfold maxLen; decide, fun _ => ⟨rfl, by omega⟩, fun i hi => ?_, ?_⟩
    · have : i = 0 ∨ i = 1 ∨ i = 2 := by have : exS.pieces.length = 3 := rfl; omega
      rcases this with rfl | rfl | rfl
      · exact ⟨cells_of g5 rfl, _, cells_of g5 rfl, ints_lit (B := W.heap.size) (xs := [3, 5]) g2 (by omega) rfl (lit2 _ _) (by intro x hx; simp at hx; rcases hx with rfl | rfl <;> exact ⟨by decide, by decide⟩)⟩
      · exact ⟨cells_of g5 rfl, _, cells_of g5 rfl, ints_lit (B := W.heap.size) (xs := [3]) g3 (by omega) rfl (lit1 _) (by intro x hx; simp at hx; subst hx; exact ⟨by decide, by decide⟩)⟩
      · exact ⟨cells_of g5 rfl, _, cells_of g5 rfl, ints_lit (B := W.heap.size) (xs := [3, 8]) g4 (by omega) rfl (lit2 _ _) (by intro x hx; simp at hx; rcases hx with rfl | rfl <;> exact ⟨by decide, by decide⟩)⟩
    · intro x hx
      simp only [exS, List.mem_cons, List.not_mem_nil, or_false] at hx
      rcases hx with rfl | rfl | rfl <;> exact ⟨by decide, by decide⟩
end Go.Proofs.Ytgjikoebneiamaa.Tb
namespace Go.Proofs.Ytgjikoebneiamaa.Tb
open Go.RowKit Go.Shelf

def heatsF (S : Store) (X : List Int) (h : Nat) : Bool := X.any fun b => decide ((bnth S.bars b.toNat).heat = (h : Int))
def heatsS (S : Store) (p : Nat) : List Int := numsTo (heatsF S (ofS S p)) 10
theorem heatsF_step {S : Store} {X : List Int} {k : Nat} (hk : k < X.length) (h : Nat) : heatsF S (X.take (k + 1)) h = (heatsF S (X.take k) h || decide ((bnth S.bars (nth X k).toNat).heat = (h : Int))) := by
  rw [take_nth hk]; simp [heatsF]
theorem ofS_lt {S : Store} {p : Nat} {x : Int} (hp : p < S.pieces.length) (h : x ∈ ofS S p) : ∃ j : Nat, x = j ∧ j < S.bars.length := by
  obtain ⟨j, _, rfl, hf⟩ := mem_numsTo.1 h
  simp only [ofF, List.any_eq_true, decide_eq_true_eq] at hf
  obtain ⟨y, hy, e⟩ := hf
  obtain ⟨h1, h2⟩ := truths_ok hy
  have := h1.2 p (by omega)
  exact ⟨j, rfl, by omega⟩
theorem numsTo_none (f : Nat → Bool) (h : ∀ j, f j = false) : ∀ k, numsTo f k = []
  | 0 => rfl
  | k + 1 => by rw [numsTo_no (h k), numsTo_none f h k]

end Go.Proofs.Ytgjikoebneiamaa.Tb
namespace Go.Proofs.Ytgjikoebneiamaa.Tb
open Go.RowKit Go.Shelf

attribute [local go_sem] Oper.semAt_some

def strF (S : Store) (xs : List (List Int)) (p : Nat) : Bool := decide (p < S.pieces.length) && xs.all fun x => wrongAt S p (nth x p).toNat
theorem strF_snoc (S : Store) (xs : List (List Int)) (x : List Int) (p : Nat) : strF S (xs ++ [x]) p = (strF S xs p && wrongAt S p (nth x p).toNat) := by simp [strF, Bool.and_assoc]
theorem strF_nil (S : Store) (p : Nat) : strF S [] p = decide (p < S.pieces.length) := by simp [strF]
theorem strF_out {S : Store} {xs : List (List Int)} {p : Nat} (h : S.pieces.length ≤ p) : strF S xs p = false := by
  have : ¬ p < S.pieces.length := by omega
  simp [strF, this]
def strS (S : Store) : List Int := if (truthsL S).length = 0 then [] else numsTo (strF S (truthsL S)) 8
theorem strS_no {S : Store} (h : (sawL S S.pieces.length S.wrong []).length = 0) : strS S = [] := if_pos h
theorem strS_yes {S : Store} (h : (sawL S S.pieces.length S.wrong []).length ≠ 0) : strS S = numsTo (strF S (sawL S S.pieces.length S.wrong [])) 8 := if_neg h
def strP (S : Store) (pre : List (List Int)) (x : List Int) (k j : Nat) : Bool := if j < k then strF S (pre ++ [x]) j else strF S pre j
theorem strP_zero (S : Store) (pre : List (List Int)) (x : List Int) (j : Nat) : strP S pre x 0 j = strF S pre j := by simp [strP]
theorem strP_at (S : Store) (pre : List (List Int)) (x : List Int) (k : Nat) : strP S pre x k k = strF S pre k := by simp [strP]
theorem strP_step (S : Store) (pre : List (List Int)) (x : List Int) (k j : Nat) : (if j = k then strF S (pre ++ [x]) k else strP S pre x k j) = strP S pre x (k + 1) j := by
  unfold strP
  by_cases e : j = k
  · subst e; simp
  · by_cases h : j < k
    · rw [if_neg e, if_pos h, if_pos (by omega)]
    · rw [if_neg e, if_neg h, if_neg (by omega)]
theorem strP_end {S : Store} {pre : List (List Int)} {x : List Int} {j : Nat} : strP S pre x S.pieces.length j = strF S (pre ++ [x]) j := by
  unfold strP
  split
  · rfl
  · rw [strF_out (by omega), strF_out (by omega)]

end Go.Proofs.Ytgjikoebneiamaa.Tb
namespace Go.Proofs.Ytgjikoebneiamaa.Tb
open Go.RowKit Go.Shelf

theorem LeastE (v : Value) (w : World) (hx : StoreAt w.heap.size w v exS) :
    Calls Try.prog 63 #[v] w fun e w' => e = .returned (.tuple #[.int .i64 2, .int .i64 0]) ∧ Below w.heap.size w w' :=
  (Least_any v exS w hx (valid_iff.1 ex_valid)).mono fun _ _ h => by rw [ex_least, ex_many] at h; exact h

end Go.Proofs.Ytgjikoebneiamaa.Tb
namespace Go.Proofs.Ytgjikoebneiamaa.Tb
open Go.RowKit Go.Shelf

end Go.Proofs.Ytgjikoebneiamaa.Tb
namespace Go.Proofs.Ytgjikoebneiamaa.Tb
open Go.RowKit

set_option maxHeartbeats 1000000 in
theorem Plan_bad (v : Value) (S : Store) (w : World) (hx : StoreAt w.heap.size w v S) (hv : validB S = false) :
    Calls Try.prog 62 #[v] w fun e w' => e = .returned (.tuple #[.slice none 0 0, .int .i64 10]) ∧ Below w.heap.size w w' := by
  have hx' := hx
  obtain ⟨a, cap1, b1, off, a2, cap2, b2, off2, rfl, hm, hm2, HA, HC, HA2, HC2⟩ := hx.opened
  have HX := fun o => Lib.hid ((hx'.below ((Below.refl _ w).alloc (Nat.le_refl _) o)).mono (show w.heap.size ≤ (w.alloc o).heap.size by simp))
  have HV := Lib.hid hv
  clear hx hx' hv HA HC HA2 HC2
  go_enter Try.func62, Try.ntmps62
  go_wp2_with fail
  refine (check_bad HV.out (HX _).out).mono ?_
  rintro e w1 ⟨rfl, hb1⟩
  have HB := Lib.hid (show Below w.heap.size w w1 from ((Below.refl _ _).alloc (Nat.le_refl _) _).trans (hb1.mono (by simp)))
  clear hb1
  go_wp2
  go_ret2
  exact ⟨rfl, HB.out⟩

end Go.Proofs.Ytgjikoebneiamaa.Tb
namespace Go.Proofs.Ytgjikoebneiamaa.Tb
open Go.RowKit

set_option maxHeartbeats 1000000 in
theorem Alike_bad (v : Value) (S : Store) (p r : Int) (w : World) (hx : StoreAt w.heap.size w v S) (hv : validB S = false) :
    Calls Try.prog 64 #[v, .int .i64 p, .int .i64 r] w fun e w' => e = .returned (.tuple #[.int .i64 0, .int .i64 10]) ∧ Below w.heap.size w w' := by
  have hx' := hx
  obtain ⟨a, cap1, b1, off, a2, cap2, b2, off2, rfl, hm, hm2, HA, HC, HA2, HC2⟩ := hx.opened
  have HX := Lib.hid hx'
  have HV := Lib.hid hv
  clear hx hx' hv HA HC HA2 HC2
  have HXB := fun a b c => Lib.hid ((HX.out.below (below_at3 w a b c)).mono (show w.heap.size ≤ (((w.alloc a).alloc b).alloc c).heap.size by simp; omega))
  go_enter Try.func64, Try.ntmps64
  go_wp2_with fail
  refine (check_bad HV.out (HXB _ _ _).out).mono ?_
  rintro e w1 ⟨rfl, hb1⟩
  have HB := Lib.hid (show Below w.heap.size w w1 from (below_at3 w _ _ _).trans (hb1.mono (by simp; omega)))
  clear hb1
  go_wp2
  go_ret2
  exact ⟨rfl, HB.out⟩

end Go.Proofs.Ytgjikoebneiamaa.Tb
namespace Go.Proofs.Ytgjikoebneiamaa.Tb
open Go.RowKit

set_option maxHeartbeats 1000000 in
theorem Least_bad (v : Value) (S : Store) (w : World) (hx : StoreAt w.heap.size w v S) (hv : validB S = false) :
    Calls Try.prog 63 #[v] w fun e w' => e = .returned (.tuple #[.int .i64 0, .int .i64 10]) ∧ Below w.heap.size w w' := by
  have hx' := hx
  obtain ⟨a, cap1, b1, off, a2, cap2, b2, off2, rfl, hm, hm2, HA, HC, HA2, HC2⟩ := hx.opened
  have HX := fun o => Lib.hid ((hx'.below ((Below.refl _ w).alloc (Nat.le_refl _) o)).mono (show w.heap.size ≤ (w.alloc o).heap.size by simp))
  have HCALL := fun o => Lib.hid (Plan_bad _ S _ (HX o).out hv)
  clear hx hx' HA HC HA2 HC2
  go_enter Try.func63, Try.ntmps63
  go_wp2_with fail
  refine (HCALL _).out.mono ?_
  rintro e w1 ⟨rfl, hb1⟩
  have HB := Lib.hid (show Below w.heap.size w w1 from ((Below.refl _ _).alloc (Nat.le_refl _) _).trans (hb1.mono (by simp)))
  clear hb1
  go_wp2
  go_ret2
  exact ⟨rfl, HB.out⟩

end Go.Proofs.Ytgjikoebneiamaa.Tb
namespace Go.Proofs.Ytgjikoebneiamaa.Tb
open Go.RowKit

set_option maxHeartbeats 1000000 in
theorem Alike_arg (v : Value) (S : Store) (p r : Int) (w : World) (hx : StoreAt w.heap.size w v S) (hV : Valid S) (h : (wB p 0 ((S.pieces.length : Int) - 1) && wB r 0 ((S.pieces.length : Int) - 1)) = false) :
    Calls Try.prog 64 #[v, .int .i64 p, .int .i64 r] w fun e w' => e = .returned (.tuple #[.int .i64 0, .int .i64 1]) ∧ Below w.heap.size w w' := by
  have hx' := hx
  obtain ⟨a, cap1, b1, off, a2, cap2, b2, off2, rfl, hm, hm2, HA, HC, HA2, HC2⟩ := hx.opened
  have HX := Lib.hid hx'
  have HV := Lib.hid hV
  have HXB := fun a b c => Lib.hid ((HX.out.below (below_at3 w a b c)).mono (show w.heap.size ≤ (((w.alloc a).alloc b).alloc c).heap.size by simp; omega))
  clear hx hx' hV HA HC HA2 HC2
  go_enter Try.func64, Try.ntmps64
  go_wp2_with fail
  refine (check_ok (valid_iff.2 HV.out) (HXB _ _ _).out).mono ?_
  rintro e w0 ⟨rfl, hb0⟩
  have hs0 := hb0.size
  simp only [World.size_alloc] at hb0 hs0
  have hh := heap_at3 w (.cells #[.slice a S.bars.length cap1, .int .i64 S.kerf, .slice a2 S.pieces.length cap2, .int .i64 S.wrong] 69) (.cells #[.int .i64 p] 3) (.cells #[.int .i64 r] 3)
  have hbx := (hb0.block w.heap.size (by omega)).trans hh.1
  have hbp := (hb0.block (w.heap.size + 1) (by omega)).trans hh.2.1
  have hbr := (hb0.block (w.heap.size + 2) (by omega)).trans hh.2.2
  have hw00 := (below_at3 w _ _ _).trans (hb0.mono (by omega))
  clear hh hb0
  obtain ⟨c0, c1, c2, c3⟩ := box4_of hbx
  obtain ⟨c4, _⟩ := cell1_of hbp
  obtain ⟨c5, _⟩ := cell1_of hbr
  have HBX := Lib.hid hbx
  have HBR := Lib.hid hbr
  have HW := Lib.hid hw00
  clear hbx hbp hbr hw00
  cases hpa : wB p 0 ((S.pieces.length : Int) - 1)
  · have HPP := Lib.hid hpa
    clear hpa h
    go_wp2_with fail
    refine (isPiece_to HPP.out (HX.out.below HW.out)).mono ?_
    rintro e w1 ⟨rfl, hb1⟩
    have HB := Lib.hid (HW.out.trans (hb1.mono (by omega)))
    clear hb1
    go_wp2
    go_ret2
    exact ⟨rfl, HB.out⟩
  · have HPP := Lib.hid hpa
    rw [hpa, Bool.true_and] at h
    have HPR := Lib.hid h
    clear hpa h
    go_wp2_with fail
    refine (isPiece_to HPP.out (HX.out.below HW.out)).mono ?_
    rintro e w1 ⟨rfl, hb1⟩
    have hs1 := hb1.size
    have HW1 := Lib.hid (HW.out.trans (hb1.mono (by omega)))
    obtain ⟨d0, d1, d2, d3⟩ := box4_of ((hb1.block _ (by omega)).trans HBX.out)
    obtain ⟨d5, _⟩ := cell1_of ((hb1.block _ (by omega)).trans HBR.out)
    clear hb1 c0 c1 c2 c3 c4 c5
    go_wp2_with fail
    refine (isPiece_to HPR.out (HX.out.below HW1.out)).mono ?_
    rintro e w2 ⟨rfl, hb2⟩
    have HB := Lib.hid (HW1.out.trans (hb2.mono (by omega)))
    clear hb2
    go_wp2
    go_ret2
    exact ⟨rfl, HB.out⟩

end Go.Proofs.Ytgjikoebneiamaa.Tb
namespace Go.Proofs.Ytgjikoebneiamaa.Tb
open Go.RowKit

theorem nth_take {L : List Int} {i j : Nat} (h : i < j) : nth (L.take j) i = nth L i := by
  simp only [nth, List.getD_eq_getElem?_getD, List.getElem?_take_of_lt h]
theorem countTo_take {L : List Int} {b : Int} {j : Nat} : ∀ {k : Nat}, k ≤ j → countTo (L.take j) b k = countTo L b k
  | 0, _ => rfl
  | k + 1, h => by simp only [countTo]; rw [countTo_take (by omega), nth_take (by omega)]
theorem sumTo_take {S : Store} {L : List Int} {b : Int} {j : Nat} : ∀ {k : Nat}, k ≤ j → sumTo S (L.take j) b k = sumTo S L b k
  | 0, _ => rfl
  | k + 1, h => by simp only [sumTo]; rw [sumTo_take (by omega), nth_take (by omega)]
theorem countTo_mono (L : List Int) (b : Int) {k : Nat} : ∀ {n : Nat}, k ≤ n → countTo L b k ≤ countTo L b n
  | 0, h => by obtain rfl : k = 0 := by omega
               exact Int.le_refl _
  | n + 1, h => by
    by_cases e : k = n + 1
    · subst e; exact Int.le_refl _
    · have := countTo_mono L b (k := k) (n := n) (by omega)
      simp only [countTo]; split <;> omega
theorem sumTo_mono {S : Store} (hV : Valid S) (L : List Int) (b : Int) {k : Nat} : ∀ {n : Nat}, k ≤ n → n ≤ S.pieces.length → sumTo S L b k ≤ sumTo S L b n
  | 0, h, _ => by obtain rfl : k = 0 := by omega
                  exact Int.le_refl _
  | n + 1, h, hn => by
    by_cases e : k = n + 1
    · subst e; exact Int.le_refl _
    · have := sumTo_mono hV L b (k := k) (n := n) (by omega) (by omega)
      have := hV.plong n (by omega)
      simp only [sumTo]; split <;> omega
theorem wrongsTo_mono (S : Store) (L : List Int) {k : Nat} : ∀ {n : Nat}, k ≤ n → wrongsTo S L k ≤ wrongsTo S L n
  | 0, h => by obtain rfl : k = 0 := by omega
               exact Int.le_refl _
  | n + 1, h => by
    by_cases e : k = n + 1
    · subst e; exact Int.le_refl _
    · have := wrongsTo_mono S L (k := k) (n := n) (by omega)
      simp only [wrongsTo]; split <;> omega
theorem restS_take {S : Store} (hV : Valid S) {L : List Int} (b : Int) {k : Nat} (hl : L.length = S.pieces.length) (hk : k ≤ L.length) : restS S L b ≤ restS S (L.take k) b := by
  have e : (L.take k).length = k := by simp; omega
  simp only [restS, e, countTo_take (Nat.le_refl k), sumTo_take (Nat.le_refl k)]
  have h1 := sumTo_mono hV L b hk (by omega)
  have h2 := countTo_mono L b hk
  have h3 : max (countTo L b k - 1) 0 ≤ max (countTo L b L.length - 1) 0 := by omega
  have h4 := Int.mul_le_mul_of_nonneg_right h3 hV.kerf.1
  omega
theorem sawL_complete {S : Store} {L : List Int} (hV : Valid S) (hO : OkBars S L) (hl : L.length = S.pieces.length) (hf : ∀ b : Nat, b < S.bars.length → 0 ≤ restS S L b) :
    ∀ (m k : Nat) (wr : Int), k + m = S.pieces.length → wrongsTo S L S.pieces.length - wrongsTo S L k ≤ wr → L ∈ sawL S m wr (L.take k)
  | 0, k, wr, h, _ => by
    simp only [sawL, List.mem_singleton]
    rw [List.take_of_length_le (by omega)]
  | m + 1, k, wr, h, hw => by
    obtain ⟨o1, o2⟩ := hO.2 k (by omega)
    obtain ⟨b, hb⟩ := Int.eq_ofNat_of_zero_le o1
    rw [sawL_succ]
    refine mem_flatTo.2 ⟨b, by omega, ?_⟩
    have htl : (L.take k).length = k := by simp; omega
    have ht : L.take k ++ [(b : Int)] = L.take (k + 1) := by rw [take_nth (by omega), hb]
    have hr : 0 ≤ restS S (L.take (k + 1)) b := Int.le_trans (hf b (by omega)) (restS_take hV b hl (by omega))
    have hs : wrongsTo S L (k + 1) = wrongsTo S L k + if wrongAt S k b = true then 1 else 0 := by simp only [wrongsTo, hb]; rfl
    have hm := wrongsTo_mono S L (k := k + 1) (n := S.pieces.length) (by omega)
    unfold sawAt
    rw [htl, ht]
    generalize (if wrongAt S k b = true then (1 : Int) else 0) = t at hs ⊢
    rw [if_neg (by rintro (h | h) <;> omega)]
    exact sawL_complete hV hO hl hf m (k + 1) _ (by omega) (by omega)

theorem truthB_iff {S : Store} {L : List Int} : truthB S L = true ↔ (OkBars S L ∧ L.length = S.pieces.length) ∧ (∀ b : Nat, b < S.bars.length → 0 ≤ restS S L b) ∧ wrongs S L ≤ S.wrong := by
  simp only [truthB, Bool.and_eq_true, sawingB_iff, fitsB, allTo_iff, decide_eq_true_eq]
theorem truth_mem {S : Store} {L : List Int} (hV : Valid S) (h : truthB S L = true) : L ∈ truthsL S := by
  obtain ⟨⟨h1, h2⟩, h3, h4⟩ := truthB_iff.1 h
  have := sawL_complete hV h1 h2 h3 S.pieces.length 0 S.wrong (by omega) (by have : wrongs S L = wrongsTo S L L.length := rfl; rw [h2] at this; simp only [wrongsTo]; omega)
  rwa [List.take_zero] at this
theorem fit_mem {S : Store} {L : List Int} (hV : Valid S) (h : truthB S L = true) : L ∈ fitL S := by
  obtain ⟨⟨h1, h2⟩, h3, h4⟩ := truthB_iff.1 h
  have := sawL_complete hV h1 h2 h3 S.pieces.length 0 S.pieces.length (by omega) (by have := (wrongsTo_le S L S.pieces.length).2; simp only [wrongsTo]; omega)
  rwa [List.take_zero] at this
theorem errN_mem {α : Type} {xs : List α} {x : α} (h : x ∈ xs) : errN xs.length = 0 := errN_pos (fun e => by rw [List.length_eq_zero_iff.1 e] at h; cases h)
theorem someB_mem {xs : List (List Int)} {x : List Int} (h : x ∈ xs) : someB xs = true := by
  cases xs with
  | nil => cases h
  | cons a l => rfl
theorem foldl_min_mem (S : Store) {x : List Int} : ∀ (xs : List (List Int)) (m : Int), x ∈ xs → xs.foldl (fun m x => min m (wrongs S x)) m ≤ wrongs S x
  | y :: ys, m, h => by
    rw [List.foldl_cons]
    rcases List.mem_cons.1 h with rfl | h
    · have := (foldl_min S ys (min m (wrongs S x))).1
      omega
    · exact foldl_min_mem S ys _ h
theorem few_truth {S : Store} {L : List Int} (hV : Valid S) (h : truthB S L = true) : ∃ f, fewV S = (f, 0) ∧ 0 ≤ f ∧ f ≤ wrongs S L := by
  have hm := fit_mem hV h
  exact ⟨fewF S (fitL S), fewV_yes (someB_mem hm), (foldl_min S _ _).2 (by omega), foldl_min_mem S _ _ hm⟩

theorem usedTo2_snoc (xs : List Int) (y : Int) : ∀ n : Nat, usedTo2 (xs ++ [y]) n = usedTo2 xs n + if (0 ≤ y ∧ y < n) ∧ inB xs y = false then 1 else 0
  | 0 => by simp only [usedTo2]; rw [if_neg (by omega)]; rfl
  | n + 1 => by
    simp only [usedTo2]
    rw [usedTo2_snoc xs y n, inB_append]
    by_cases e : (n : Int) = y
    · subst e
      have h1 : ¬ ((n : Int) < n) := by omega
      have h2 : (0 : Int) ≤ n ∧ (n : Int) < ((n + 1 : Nat) : Int) := by omega
      cases hi : inB xs n
      · rw [if_neg (fun h => h1 h.1.2), if_pos (by simp), if_neg (by simp), if_pos ⟨h2, rfl⟩]
      · rw [if_neg (fun h => h1 h.1.2), if_pos (by simp), if_pos rfl, if_neg (by simp)]; omega
    · have e1 : decide ((n : Int) = y) = false := by simp [e]
      have e2 : (0 ≤ y ∧ y < ((n + 1 : Nat) : Int)) ↔ (0 ≤ y ∧ y < (n : Int)) := by omega
      rw [e1, Bool.or_false]
      simp only [e2]
      exact Int.add_right_comm _ _ _
theorem usedTo2_nil : ∀ n : Nat, usedTo2 [] n = 0
  | 0 => rfl
  | n + 1 => by simp only [usedTo2]; rw [usedTo2_nil n]; rfl
theorem usedTo_take {S : Store} {L : List Int} (hO : OkBars S L) : ∀ k : Nat, k ≤ L.length → usedTo L k = usedTo2 (L.take k) S.bars.length
  | 0, _ => by rw [List.take_zero, usedTo2_nil]; rfl
  | k + 1, h => by
    have ho := hO.2 k (by omega)
    rw [take_nth (by omega), usedTo2_snoc, ← usedTo_take hO k (by omega)]
    simp only [usedTo]
    cases hi : inB (L.take k) (nth L k) <;> simp [ho]
theorem usedS_eq {S : Store} {L : List Int} (hO : OkBars S L) : usedS L = usedTo2 L S.bars.length := by
  have := usedTo_take hO L.length (Nat.le_refl _)
  rwa [List.take_length] at this
theorem plan_least : ∀ (xs : List (List Int)) (o : Option (List Int)) (p : List Int), xs.foldl planF o = some p → (∀ x ∈ xs, usedS p ≤ usedS x) ∧ (∀ q, o = some q → usedS p ≤ usedS q)
  | [], o, p, h => ⟨fun x hx => (by cases hx), fun q hq => by rw [List.foldl_nil] at h; rw [h] at hq; cases hq; exact Int.le_refl _⟩
  | y :: ys, o, p, h => by
    rw [List.foldl_cons] at h
    obtain ⟨h1, h2⟩ := plan_least ys _ p h
    cases o with
    | none =>
      have h3 := h2 y rfl
      exact ⟨fun x hx => (by rcases List.mem_cons.1 hx with rfl | hx; exact h3; exact h1 x hx), fun q hq => (by cases hq)⟩
    | some q =>
      by_cases hu : usedS y < usedS q
      · have h3 := h2 y (by simp only [planF, if_pos hu])
        exact ⟨fun x hx => (by rcases List.mem_cons.1 hx with rfl | hx; exact h3; exact h1 x hx), fun r hr => (by cases hr; omega)⟩
      · have h3 := h2 q (by simp only [planF, if_neg hu])
        exact ⟨fun x hx => (by rcases List.mem_cons.1 hx with rfl | hx; omega; exact h1 x hx), fun r hr => (by cases hr; exact h3)⟩

theorem rest_truth {S : Store} (b : Int) {x : List Int} : ∀ (xs : List (List Int)) (p : Int × Int), ((xs.foldl (restStep S b) p).1 ≤ p.1 ∧ p.2 ≤ (xs.foldl (restStep S b) p).2) ∧ (x ∈ xs → (xs.foldl (restStep S b) p).1 ≤ restS S x b ∧ restS S x b ≤ (xs.foldl (restStep S b) p).2)
  | [], p => ⟨⟨Int.le_refl _, Int.le_refl _⟩, fun h => (by cases h)⟩
  | y :: ys, p => by
    rw [List.foldl_cons]
    obtain ⟨h1, h2⟩ := rest_truth (S := S) b (x := x) ys (restStep S b p y)
    have e1 : (restStep S b p y).1 = min p.1 (restS S y b) := rfl
    have e2 : (restStep S b p y).2 = max p.2 (restS S y b) := rfl
    refine ⟨by omega, fun h => ?_⟩
    rcases List.mem_cons.1 h with rfl | h
    · omega
    · exact h2 h
theorem known_agrees {q : List Int → Bool} {xs : List (List Int)} {x : List Int} (h : x ∈ xs) : (knownV q xs).2 = 0 ∧ agreesB (knownV q xs).1 (q x) = true := by
  cases hq : q x
  · have h1 : anyB (fun x => !q x) xs = true := by simp only [anyB, List.any_eq_true]; exact ⟨x, h, by simp [hq]⟩
    unfold knownV
    rw [h1]
    cases anyB q xs <;> exact ⟨rfl, rfl⟩
  · have h1 : anyB q xs = true := by simp only [anyB, List.any_eq_true]; exact ⟨x, h, hq⟩
    unfold knownV
    rw [h1]
    cases anyB (fun x => !q x) xs <;> exact ⟨rfl, rfl⟩
theorem str_truth {S : Store} {L : List Int} {x : Int} (hL : L ∈ truthsL S) (h : x ∈ strS S) : ∃ j : Nat, x = j ∧ j < S.pieces.length ∧ wrongAt S j (nth L j).toNat = true := by
  have hz : (truthsL S).length ≠ 0 := fun e => by rw [List.length_eq_zero_iff.1 e] at hL; cases hL
  unfold strS at h
  rw [if_neg hz] at h
  obtain ⟨j, _, rfl, hf⟩ := mem_numsTo.1 h
  simp only [strF, Bool.and_eq_true, decide_eq_true_eq, List.all_eq_true] at hf
  exact ⟨j, rfl, hf.1, hf.2 L hL⟩
theorem strS_le (S : Store) : (strS S).length ≤ 8 := by
  unfold strS
  split
  · simp
  · exact numsTo_length _ _
theorem of_truth {S : Store} {L : List Int} {p : Nat} (hV : Valid S) (hL : L ∈ truthsL S) (hp : p < S.pieces.length) : inB (ofS S p) (nth L p) = true := by
  obtain ⟨h1, h2⟩ := truths_ok hL
  obtain ⟨o1, o2⟩ := h1.2 p (by omega)
  obtain ⟨b, hb⟩ := Int.eq_ofNat_of_zero_le o1
  simp only [inB, decide_eq_true_eq]
  refine mem_numsTo.2 ⟨b, by have := hV.nb; omega, hb, ?_⟩
  simp only [ofF, List.any_eq_true, decide_eq_true_eq]
  exact ⟨L, hL, hb⟩
theorem inB_mem {xs : List Int} {x : Int} : inB xs x = true ↔ x ∈ xs := by simp [inB]
theorem heats_truth {S : Store} {L : List Int} {p : Nat} (hV : Valid S) (hL : L ∈ truthsL S) (hp : p < S.pieces.length) : inB (heatsS S p) (bnth S.bars (nth L p).toNat).heat = true := by
  obtain ⟨h1, h2⟩ := truths_ok hL
  obtain ⟨o1, o2⟩ := h1.2 p (by omega)
  have hh := hV.heat (nth L p).toNat (by omega)
  obtain ⟨h, hb⟩ := Int.eq_ofNat_of_zero_le hh.1
  rw [inB_mem]
  refine mem_numsTo.2 ⟨h, by omega, hb, ?_⟩
  simp only [heatsF, List.any_eq_true, decide_eq_true_eq]
  exact ⟨nth L p, inB_mem.1 (of_truth hV hL hp), hb⟩
theorem of_err {S : Store} {L : List Int} {p : Nat} (hV : Valid S) (hL : L ∈ truthsL S) (hp : p < S.pieces.length) : errN (ofS S p).length = 0 := errN_mem (inB_mem.1 (of_truth hV hL hp))
end Go.Proofs.Ytgjikoebneiamaa.Tb
namespace Go.Proofs.Ytgjikoebneiamaa.Tb
open Go.RowKit

theorem nth_prefix {a b : List Int} (h : a <+: b) {i : Nat} (hi : i < a.length) : nth b i = nth a i := by
  obtain ⟨t, rfl⟩ := h
  simp [nth, List.getElem?_append_left hi]
theorem countTo_prefix {a b : List Int} (h : a <+: b) (c : Int) : ∀ {k : Nat}, k ≤ a.length → countTo b c k = countTo a c k
  | 0, _ => rfl
  | k + 1, hk => by simp only [countTo]; rw [countTo_prefix h c (by omega), nth_prefix h (by omega)]
theorem sumTo_prefix {S : Store} {a b : List Int} (h : a <+: b) (c : Int) : ∀ {k : Nat}, k ≤ a.length → sumTo S b c k = sumTo S a c k
  | 0, _ => rfl
  | k + 1, hk => by simp only [sumTo]; rw [sumTo_prefix h c (by omega), nth_prefix h (by omega)]
theorem wrongsTo_prefix {S : Store} {a b : List Int} (h : a <+: b) : ∀ {k : Nat}, k ≤ a.length → wrongsTo S b k = wrongsTo S a k
  | 0, _ => rfl
  | k + 1, hk => by simp only [wrongsTo]; rw [wrongsTo_prefix h (by omega), nth_prefix h (by omega)]
theorem countTo_snoc (L : List Int) (x c : Int) : countTo (L ++ [x]) c (L.length + 1) = countTo L c L.length + if x = c then 1 else 0 := by
  simp only [countTo]; rw [countTo_prefix (List.prefix_append L [x]) c (Nat.le_refl _), nth_snoc]
theorem sumTo_snoc (S : Store) (L : List Int) (x c : Int) : sumTo S (L ++ [x]) c (L.length + 1) = sumTo S L c L.length + if x = c then (pnth S.pieces L.length).long else 0 := by
  simp only [sumTo]; rw [sumTo_prefix (List.prefix_append L [x]) c (Nat.le_refl _), nth_snoc]
theorem wrongs_snoc (S : Store) (L : List Int) (x : Int) : wrongs S (L ++ [x]) = wrongs S L + if wrongAt S L.length x.toNat = true then 1 else 0 := by
  have e : (L ++ [x]).length = L.length + 1 := by simp
  simp only [wrongs, e, wrongsTo]; rw [wrongsTo_prefix (List.prefix_append L [x]) (Nat.le_refl _), nth_snoc]
theorem restS_other {S : Store} {L : List Int} {x c : Int} (h : x ≠ c) : restS S (L ++ [x]) c = restS S L c := by
  have e : (L ++ [x]).length = L.length + 1 := by simp
  simp only [restS, e, countTo_snoc, sumTo_snoc, if_neg h, Int.add_zero]
theorem inB_count {L : List Int} {c : Int} : ∀ {k : Nat}, (0 < countTo L c k ↔ ∃ i, i < k ∧ nth L i = c)
  | 0 => by simp [countTo]
  | k + 1 => by
    have h0 := countTo_le L c k
    have ih := inB_count (L := L) (c := c) (k := k)
    simp only [countTo]
    constructor
    · intro h
      by_cases e : nth L k = c
      · exact ⟨k, by omega, e⟩
      · rw [if_neg e] at h
        obtain ⟨i, hi, he⟩ := ih.1 (by omega)
        exact ⟨i, by omega, he⟩
    · rintro ⟨i, hi, he⟩
      by_cases e : i = k
      · subst e; rw [if_pos he]; omega
      · have := ih.2 ⟨i, by omega, he⟩
        split <;> omega
theorem inB_pos {L : List Int} {c : Int} : inB L c = true ↔ 0 < countTo L c L.length := by
  rw [inB_count, inB_mem, mem_iff_nth]
theorem restS_same {S : Store} (L : List Int) (x : Int) : restS S (L ++ [x]) x = restS S L x - (pnth S.pieces L.length).long - (if inB L x = true then S.kerf else 0) := by
  have e : (L ++ [x]).length = L.length + 1 := by simp
  simp only [restS, e, countTo_snoc, sumTo_snoc, if_true]
  have h0 := (countTo_le L x L.length).1
  by_cases hi : inB L x = true
  · rw [if_pos hi]
    have := inB_pos.1 hi
    rw [show max (countTo L x L.length + 1 - 1) 0 = max (countTo L x L.length - 1) 0 + 1 by omega, Int.add_mul]
    omega
  · rw [if_neg hi]
    have : countTo L x L.length = 0 := by
      have : ¬ 0 < countTo L x L.length := fun h => hi (inB_pos.2 h)
      omega
    rw [this, show max ((0 : Int) + 1 - 1) 0 = 0 by omega, show max ((0 : Int) - 1) 0 = 0 by omega]
    omega

theorem truthB_prefix_fit {S : Store} (hV : Valid S) {L : List Int} (h : ∀ b : Nat, b < S.bars.length → 0 ≤ restS S L b) (hl : L.length = S.pieces.length) (k : Nat) (hk : k ≤ L.length) :
    ∀ b : Nat, b < S.bars.length → 0 ≤ restS S (L.take k) b := fun b hb => Int.le_trans (h b hb) (restS_take hV b hl hk)

/-- Each row that the search yields fits, begins as it was told, and has no more wrong marks than it was told. -/
theorem sawL_sound {S : Store} : ∀ (m : Nat) (wr : Int) (first : List Int), first.length + m = S.pieces.length → (∀ b : Nat, b < S.bars.length → 0 ≤ restS S first b) → 0 ≤ wr →
    ∀ x ∈ sawL S m wr first, (∀ b : Nat, b < S.bars.length → 0 ≤ restS S x b) ∧ wrongs S x ≤ wrongs S first + wr ∧ first <+: x
  | 0, wr, first, _, hf, hw, x, hx => by
    simp only [sawL, List.mem_singleton] at hx
    subst hx; exact ⟨hf, by omega, List.prefix_refl _⟩
  | m + 1, wr, first, hl, hf, hw, x, hx => by
    rw [sawL_succ] at hx
    obtain ⟨k, hk, hx⟩ := mem_flatTo.1 hx
    unfold sawAt at hx
    have hs := wrongs_snoc S first (k : Int)
    rw [Int.toNat_natCast] at hs
    generalize (if wrongAt S first.length k = true then (1 : Int) else 0) = t at hs hx
    split at hx
    · cases hx
    · have hn : ¬ (wr - t < 0) ∧ ¬ (restS S (first ++ [(k : Int)]) k < 0) := ⟨fun h => by simp_all, fun h => by simp_all⟩
      obtain ⟨h1, h2, h3⟩ := sawL_sound m (wr - t) (first ++ [(k : Int)]) (by simp; omega) (fun b hb => by
        by_cases e : (k : Int) = (b : Int)
        · rw [← e]; omega
        · rw [restS_other e]; exact hf b hb) (by omega) x hx
      exact ⟨h1, by omega, (List.prefix_append _ _).trans h3⟩

theorem countTo_zero (c : Int) : ∀ k, countTo [] c k = if c = 0 then (k : Int) else 0
  | 0 => by simp [countTo]
  | k + 1 => by
    simp only [countTo]; rw [countTo_zero c k]
    have : nth [] k = 0 := rfl
    rw [this]
    by_cases h : c = 0
    · subst h; simp
    · rw [if_neg h, if_neg (fun e => h e.symm), if_neg h]; rfl
theorem restS_nil (S : Store) (b : Int) : restS S [] b = (bnth S.bars b.toNat).long := by
  simp only [restS, sumTo, countTo, List.length_nil]
  rw [show max ((0 : Int) - 1) 0 = 0 by omega]
  omega
theorem mem_truths {S : Store} (hV : Valid S) {L : List Int} : L ∈ truthsL S ↔ truthB S L = true := by
  constructor
  · intro h
    obtain ⟨h1, h2⟩ := truths_ok h
    obtain ⟨h3, h4, _⟩ := sawL_sound S.pieces.length S.wrong [] (by simp) (fun b hb => by rw [restS_nil, Int.toNat_natCast]; have := hV.blong b hb; omega) hV.wrong.1 L h
    exact truthB_iff.2 ⟨⟨h1, h2⟩, h3, by have : wrongs S [] = 0 := rfl; omega⟩
  · exact truth_mem hV
theorem fit_ok {S : Store} {x : List Int} (h : x ∈ fitL S) : OkBars S x ∧ x.length = S.pieces.length :=
  sawL_okBars _ _ _ (by simp) ⟨by simp, fun i hi => by simp at hi⟩ x h
theorem fitsB_iff {S : Store} {L : List Int} : fitsB S L = true ↔ ∀ b : Nat, b < S.bars.length → 0 ≤ restS S L b := by
  simp only [fitsB, allTo_iff, decide_eq_true_eq]
theorem mem_fit {S : Store} (hV : Valid S) {L : List Int} : L ∈ fitL S ↔ (OkBars S L ∧ L.length = S.pieces.length) ∧ fitsB S L = true := by
  constructor
  · intro h
    obtain ⟨h3, h4, _⟩ := sawL_sound S.pieces.length S.pieces.length [] (by simp) (fun b hb => by rw [restS_nil, Int.toNat_natCast]; have := hV.blong b hb; omega) (by omega) L h
    exact ⟨fit_ok h, fitsB_iff.2 h3⟩
  · rintro ⟨⟨h1, h2⟩, h3⟩
    have := sawL_complete hV h1 h2 (fitsB_iff.1 h3) S.pieces.length 0 S.pieces.length (by omega) (by have := (wrongsTo_le S L S.pieces.length).2; simp only [wrongsTo]; omega)
    rwa [List.take_zero] at this

theorem nodup_flatTo {f : Nat → List (List Int)} (h1 : ∀ k, (f k).Nodup) (h2 : ∀ i j x, i < j → x ∈ f i → x ∈ f j → False) : ∀ n, (flatTo f n).Nodup
  | 0 => by simp [flatTo]
  | n + 1 => by
    simp only [flatTo]
    rw [List.nodup_append]
    refine ⟨nodup_flatTo h1 h2 n, h1 n, fun a ha b hb e => ?_⟩
    subst e
    obtain ⟨k, hk, ha⟩ := mem_flatTo.1 ha
    exact h2 k n a hk ha hb
theorem mem_sawAt {S : Store} {m : Nat} {wr : Int} {first : List Int} {k : Nat} {x : List Int} (h : x ∈ sawAt S m wr first k) :
    ∃ wr', x ∈ sawL S m wr' (first ++ [(k : Int)]) := by
  rcases sawAt_cases S m wr first k with h1 | ⟨h1, _⟩
  · rw [h1] at h; cases h
  · rw [h1] at h; exact ⟨_, h⟩
theorem sawL_prefix {S : Store} : ∀ (m : Nat) (wr : Int) (first : List Int), ∀ x ∈ sawL S m wr first, first <+: x
  | 0, wr, first, x, hx => by simp only [sawL, List.mem_singleton] at hx; subst hx; exact List.prefix_refl _
  | m + 1, wr, first, x, hx => by
    rw [sawL_succ] at hx
    obtain ⟨k, hk, hx⟩ := mem_flatTo.1 hx
    obtain ⟨wr', hx⟩ := mem_sawAt hx
    exact (List.prefix_append _ _).trans (sawL_prefix m _ _ x hx)
theorem sawL_nodup {S : Store} : ∀ (m : Nat) (wr : Int) (first : List Int), (sawL S m wr first).Nodup
  | 0, wr, first => by simp [sawL]
  | m + 1, wr, first => by
    rw [sawL_succ]
    have hp : ∀ k x, x ∈ sawAt S m wr first k → first ++ [(k : Int)] <+: x := fun k x hx => by
      obtain ⟨wr', hx⟩ := mem_sawAt hx
      exact sawL_prefix m _ _ x hx
    refine nodup_flatTo (fun k => ?_) (fun i j x hij hi hj => ?_) _
    · rcases sawAt_cases S m wr first k with h1 | ⟨h1, _⟩
      · rw [h1]; exact List.nodup_nil
      · rw [h1]; exact sawL_nodup m _ _
    · have h1 := nth_prefix (hp i x hi) (i := first.length) (by simp)
      have h2 := nth_prefix (hp j x hj) (i := first.length) (by simp)
      rw [nth_snoc] at h1 h2
      omega
theorem truths_nodup (S : Store) : (truthsL S).Nodup := sawL_nodup _ _ _
theorem fit_nodup (S : Store) : (fitL S).Nodup := sawL_nodup _ _ _

theorem nodup_le {α : Type} [DecidableEq α] : ∀ {l l' : List α}, l.Nodup → (∀ x ∈ l, x ∈ l') → l.length ≤ l'.length
  | [], _, _, _ => by simp
  | a :: l, l', hn, hs => by
    rw [List.nodup_cons] at hn
    have ha : a ∈ l' := hs a (by simp)
    have h1 := nodup_le (l := l) (l' := l'.erase a) hn.2 (fun x hx => (List.mem_erase_of_ne (fun e => hn.1 (by rw [← e]; exact hx))).2 (hs x (List.mem_cons_of_mem _ hx)))
    have h2 := List.length_erase_of_mem ha
    have h3 : 0 < l'.length := List.length_pos_of_mem ha
    simp only [List.length_cons]
    omega
theorem nodup_map {α β : Type} {f : α → β} : ∀ {l : List α}, l.Nodup → (∀ x ∈ l, ∀ y ∈ l, f x = f y → x = y) → (l.map f).Nodup
  | [], _, _ => by simp
  | a :: l, hn, hi => by
    rw [List.nodup_cons] at hn
    rw [List.map_cons, List.nodup_cons]
    refine ⟨fun h => ?_, nodup_map hn.2 (fun x hx y hy => hi x (List.mem_cons_of_mem _ hx) y (List.mem_cons_of_mem _ hy))⟩
    obtain ⟨y, hy, he⟩ := List.mem_map.1 h
    exact hn.1 (hi y (List.mem_cons_of_mem _ hy) a (by simp) he ▸ hy)
/-- An image without doubles is no longer than what it lies in. -/
theorem inj_le {α β : Type} [DecidableEq β] {l : List α} {l' : List β} (f : α → β) (hn : l.Nodup) (hi : ∀ x ∈ l, ∀ y ∈ l, f x = f y → x = y) (hs : ∀ x ∈ l, f x ∈ l') : l.length ≤ l'.length := by
  have := nodup_le (nodup_map hn hi) (l' := l') (fun y hy => by obtain ⟨x, hx, rfl⟩ := List.mem_map.1 hy; exact hs x hx)
  simpa using this

theorem fewV_err {S : Store} : (fewV S).2 = errN (fitL S).length := by
  unfold fewV
  cases hf : fitL S with
  | nil => rfl
  | cons a l => rfl
theorem foldl_min_le (S : Store) {c : Int} : ∀ (xs : List (List Int)) (m : Int), c ≤ m → (∀ x ∈ xs, c ≤ wrongs S x) → c ≤ xs.foldl (fun m x => min m (wrongs S x)) m
  | [], m, h, _ => h
  | y :: ys, m, h, hx => by
    rw [List.foldl_cons]
    exact foldl_min_le S ys _ (by have := hx y (by simp); omega) (fun x h => hx x (List.mem_cons_of_mem _ h))
theorem foldl_min_wit (S : Store) : ∀ (xs : List (List Int)) (m : Int), xs.foldl (fun m x => min m (wrongs S x)) m = m ∨ ∃ x ∈ xs, xs.foldl (fun m x => min m (wrongs S x)) m = wrongs S x
  | [], m => .inl rfl
  | y :: ys, m => by
    rw [List.foldl_cons]
    rcases foldl_min_wit S ys (min m (wrongs S y)) with h | ⟨x, hx, h⟩
    · rw [h]
      by_cases e : m ≤ wrongs S y
      · exact .inl (by omega)
      · exact .inr ⟨y, by simp, by omega⟩
    · exact .inr ⟨x, List.mem_cons_of_mem _ hx, h⟩
/-- Fewest is the wrong marks of some sawing that fits, and no more than those of any. -/
theorem few_iff {S : Store} (_hV : Valid S) {x : List Int} (h : x ∈ fitL S) : ∃ f, fewV S = (f, 0) ∧ (∃ y ∈ fitL S, wrongs S y = f) ∧ (∀ y ∈ fitL S, f ≤ wrongs S y) := by
  refine ⟨fewF S (fitL S), fewV_yes (someB_mem h), ?_, fun y hy => foldl_min_mem S _ _ hy⟩
  rcases foldl_min_wit S (fitL S) S.pieces.length with h1 | ⟨y, hy, h1⟩
  · refine ⟨x, h, ?_⟩
    have h2 := foldl_min_mem S (fitL S) S.pieces.length h
    have h3 := (wrongsTo_le S x x.length).2
    have h4 := (fit_ok h).2
    have h5 : fewF S (fitL S) = S.pieces.length := h1
    rw [h1] at h2
    rw [h5]
    have h6 : wrongs S x = wrongsTo S x x.length := rfl
    omega
  · exact ⟨y, hy, h1.symm⟩
theorem least_iff {S : Store} {x : List Int} (h : x ∈ truthsL S) : (∃ y ∈ truthsL S, usedS y = leastS S) ∧ ∀ y ∈ truthsL S, leastS S ≤ usedS y := by
  unfold leastS planS
  cases hp : planL (truthsL S) with
  | none => have := planL_none.1 hp; rw [List.length_eq_zero_iff.1 this] at h; cases h
  | some p =>
    refine ⟨⟨p, ?_, rfl⟩, (plan_least _ _ _ hp).1⟩
    rcases foldl_mem _ _ hp with h1 | h1
    · exact h1
    · cases h1
theorem knownV_of {q : List Int → Bool} {xs : List (List Int)} :
    knownV q xs = if xs.length = 0 then (0, 3) else if ∀ x ∈ xs, q x = true then (1, 0) else if ∀ x ∈ xs, q x = false then (2, 0) else (3, 0) := by
  cases hx : xs with
  | nil => rfl
  | cons a l =>
    rw [← hx, if_neg (by rw [hx]; simp)]
    have ha : a ∈ xs := by rw [hx]; simp
    by_cases h1 : ∀ x ∈ xs, q x = true
    · have e1 : anyB q xs = true := by simp only [anyB, List.any_eq_true]; exact ⟨a, ha, h1 a ha⟩
      have e2 : anyB (fun x => !q x) xs = false := by simp only [anyB, List.any_eq_false]; intro x hx'; simp [h1 x hx']
      rw [if_pos h1]; unfold knownV; rw [e1, e2]; rfl
    · rw [if_neg h1]
      have ⟨y, hy, hqy⟩ : ∃ y ∈ xs, q y = false := by
        refine Classical.byContradiction fun hn => h1 fun x hx' => ?_
        cases hq : q x
        · exact absurd ⟨x, hx', hq⟩ hn
        · rfl
      have e2 : anyB (fun x => !q x) xs = true := by simp only [anyB, List.any_eq_true]; exact ⟨y, hy, by simp [hqy]⟩
      by_cases h2 : ∀ x ∈ xs, q x = false
      · have e1 : anyB q xs = false := by simp only [anyB, List.any_eq_false]; intro x hx'; simp [h2 x hx']
        rw [if_pos h2]; unfold knownV; rw [e1, e2]; rfl
      · have ⟨z, hz, hqz⟩ : ∃ y ∈ xs, q y = true := by
          refine Classical.byContradiction fun hn => h2 fun x hx' => ?_
          cases hq : q x
          · rfl
          · exact absurd ⟨x, hx', hq⟩ hn
        have e1 : anyB q xs = true := by simp only [anyB, List.any_eq_true]; exact ⟨z, hz, hqz⟩
        rw [if_neg h2]; unfold knownV; rw [e1, e2]; rfl
end Go.Proofs.Ytgjikoebneiamaa.Tb
namespace Go.Proofs.Ytgjikoebneiamaa.Tb
open Go.RowKit

theorem pnth_append_left {ps qs : List Piece} {i : Nat} (h : i < ps.length) : pnth (ps ++ qs) i = pnth ps i := by
  simp [pnth, List.getElem?_append_left h]
theorem pnth_append_right {ps : List Piece} {p : Piece} : pnth (ps ++ [p]) ps.length = p := by simp [pnth]
theorem bnth_lt {bs : List Bar} {i : Nat} (h : i < bs.length) : bnth bs i = bs[i] := by simp [bnth, h]
theorem pnth_lt {ps : List Piece} {i : Nat} (h : i < ps.length) : pnth ps i = ps[i] := by simp [pnth, h]

theorem sumTo_congr {S O : Store} {L : List Int} {c : Int} : ∀ {k : Nat}, (∀ i, i < k → (pnth O.pieces i).long = (pnth S.pieces i).long) → sumTo O L c k = sumTo S L c k
  | 0, _ => rfl
  | k + 1, h => by simp only [sumTo]; rw [sumTo_congr (fun i hi => h i (by omega)), h k (by omega)]
theorem wrongsTo_congr {S O : Store} {L : List Int} : ∀ {k : Nat}, (∀ i, i < k → wrongAt O i (nth L i).toNat = wrongAt S i (nth L i).toNat) → wrongsTo O L k = wrongsTo S L k
  | 0, _ => rfl
  | k + 1, h => by simp only [wrongsTo]; rw [wrongsTo_congr (fun i hi => h i (by omega)), h k (by omega)]

/-- The store with one more piece. -/
def more (S : Store) (p : Piece) : Store := ⟨S.bars, S.kerf, S.pieces ++ [p], S.wrong⟩
theorem more_len (S : Store) (p : Piece) : (more S p).pieces.length = S.pieces.length + 1 := by simp [more]
theorem more_rest {S : Store} {p : Piece} {x : List Int} (h : x.length ≤ S.pieces.length) (c : Int) : restS (more S p) x c = restS S x c := by
  have e := sumTo_congr (S := S) (O := more S p) (L := x) (c := c) (k := x.length) (fun i hi => by simp only [more]; rw [pnth_append_left (by omega)])
  simp only [restS, e]
  rfl
theorem more_wrongAt {S : Store} {p : Piece} {i b : Nat} (h : i < S.pieces.length) : wrongAt (more S p) i b = wrongAt S i b := by
  simp only [wrongAt, more]; rw [pnth_append_left h]
theorem more_wrongs {S : Store} {p : Piece} {x : List Int} (h : x.length ≤ S.pieces.length) : wrongs (more S p) x = wrongs S x :=
  wrongsTo_congr fun i hi => more_wrongAt (by omega)
theorem more_restS {S : Store} {p : Piece} {x : List Int} (h : x.length = S.pieces.length) (b : Int) : restS (more S p) (x ++ [b]) b = restS S x b - p.long - (if inB x b = true then S.kerf else 0) := by
  rw [restS_same, more_rest (by omega)]
  have : (pnth (more S p).pieces x.length).long = p.long := by simp only [more]; rw [h, pnth_append_right]
  rw [this]
  rfl
theorem ok_take {S : Store} {x : List Int} (h : OkBars S x) {k : Nat} : OkBars S (x.take k) := by
  refine ⟨by have := h.1; rw [List.length_take]; omega, fun i hi => ?_⟩
  rw [List.length_take] at hi
  rw [nth_take (by omega)]
  exact h.2 i (by omega)
theorem snoc_take {x : List Int} {n : Nat} (h : x.length = n + 1) : x = x.take n ++ [nth x n] := by
  rw [← take_nth (by omega), List.take_of_length_le (by omega)]

/-- A truth of the store with one more piece is one of the store, with a bar for the piece. -/
theorem more_truth {S : Store} {p : Piece} (hV : Valid (more S p)) {y : List Int} (h : truthB (more S p) y = true) :
    ∃ (x : List Int) (b : Nat), y = x ++ [(b : Int)] ∧ b < S.bars.length ∧ truthB S x = true ∧ roomAt S x p.long b = true := by
  obtain ⟨⟨h1, h2⟩, h3, h4⟩ := truthB_iff.1 h
  rw [more_len] at h2
  have hs := snoc_take h2
  obtain ⟨o1, o2⟩ := h1.2 S.pieces.length (by omega)
  obtain ⟨b, hb⟩ := Int.eq_ofNat_of_zero_le o1
  have hbb : b < S.bars.length := by have : (more S p).bars.length = S.bars.length := rfl; omega
  rw [hb] at hs
  have hxl : (y.take S.pieces.length).length = S.pieces.length := by rw [List.length_take]; omega
  refine ⟨y.take S.pieces.length, b, hs, hbb, truthB_iff.2 ⟨⟨⟨by omega, fun i hi => ?_⟩, hxl⟩, fun c hc => ?_, ?_⟩, ?_⟩
  · have := (ok_take h1 (k := S.pieces.length)).2 i hi
    exact this
  · rw [← more_rest (p := p) (by omega)]
    exact Int.le_trans (h3 c hc) (restS_take hV c (by rw [more_len]; exact h2) (by omega))
  · rw [← more_wrongs (p := p) (by omega)]
    have e : wrongs (more S p) y = wrongs (more S p) (y.take S.pieces.length ++ [(b : Int)]) := by rw [← hs]
    rw [wrongs_snoc] at e
    have : (more S p).wrong = S.wrong := rfl
    split at e <;> omega
  · have h5 := h3 b hbb
    rw [hs, more_restS hxl] at h5
    simp only [roomAt, decide_eq_true_eq]
    omega
theorem truth_more {S : Store} {p : Piece} {x : List Int} {b : Nat} (hb : b < S.bars.length) (h : truthB S x = true) (hr : roomAt S x p.long b = true) (hw : inB p.heats (bnth S.bars b).heat = true) :
    truthB (more S p) (x ++ [(b : Int)]) = true := by
  obtain ⟨⟨h1, h2⟩, h3, h4⟩ := truthB_iff.1 h
  have hbars : (more S p).bars.length = S.bars.length := rfl
  refine truthB_iff.2 ⟨⟨⟨by rw [more_len]; simp; omega, fun i hi => ?_⟩, by rw [more_len]; simp; omega⟩, fun c hc => ?_, ?_⟩
  · simp only [List.length_append, List.length_cons, List.length_nil] at hi
    by_cases e : i = x.length
    · subst e; rw [nth_snoc]; omega
    · rw [nth_snoc_lt (by omega)]; exact h1.2 i (by omega)
  · by_cases e : (b : Int) = (c : Int)
    · rw [← e, more_restS h2]
      simp only [roomAt, decide_eq_true_eq] at hr
      omega
    · rw [restS_other e, more_rest (by omega)]
      exact h3 c hc
  · rw [wrongs_snoc, more_wrongs (by omega)]
    have hf : wrongAt (more S p) x.length (b : Int).toNat = false := by
      simp only [wrongAt, more]
      rw [h2, pnth_append_right, Int.toNat_natCast, hw]
      rfl
    rw [hf]
    have : (more S p).wrong = S.wrong := rfl
    simp
    omega

def allHeats : List Int := [0, 1, 2, 3, 4, 5, 6, 7, 8, 9]
theorem allHeats_in {h : Int} (h0 : 0 ≤ h) (h9 : h ≤ 9) : inB allHeats h = true := by
  have : h = 0 ∨ h = 1 ∨ h = 2 ∨ h = 3 ∨ h = 4 ∨ h = 5 ∨ h = 6 ∨ h = 7 ∨ h = 8 ∨ h = 9 := by omega
  rcases this with rfl | rfl | rfl | rfl | rfl | rfl | rfl | rfl | rfl | rfl <;> decide
theorem room_iff {S : Store} {long : Int} (hV : Valid S) (hO : Valid (more S ⟨long, allHeats⟩)) :
    (truthsL (more S ⟨long, allHeats⟩)).length ≠ 0 ↔ ∃ x ∈ truthsL S, roomB S x long = true := by
  constructor
  · intro h
    obtain ⟨y, hy⟩ : ∃ y, y ∈ truthsL (more S ⟨long, allHeats⟩) := List.exists_mem_of_ne_nil _ (fun e => h (by rw [e]; rfl))
    obtain ⟨x, b, _, hb, hx, hr⟩ := more_truth hO ((mem_truths hO).1 hy)
    exact ⟨x, (mem_truths hV).2 hx, roomB_yes hb hr⟩
  · rintro ⟨x, hx, hr⟩ h
    have hn : ¬ allTo (fun b => !roomAt S x long b) S.bars.length = true := by
      intro h; simp [roomB, h] at hr
    have ⟨b, hb, hra⟩ : ∃ b, b < S.bars.length ∧ roomAt S x long b = true := by
      refine Classical.byContradiction fun hc => hn (allTo_iff.2 fun j hj => ?_)
      cases e : roomAt S x long j
      · rfl
      · exact absurd ⟨j, hj, e⟩ hc
    have hh := hV.heat b hb
    have := (mem_truths hO).2 (truth_more (p := ⟨long, allHeats⟩) hb ((mem_truths hV).1 hx) hra (allHeats_in hh.1 hh.2))
    rw [List.length_eq_zero_iff.1 h] at this
    cases this
/-- What Room answers, in the words of the law. -/
theorem roomV_cases {S : Store} {long : Int} : ((truthsL S).length = 0 ∧ roomV S long = (0, 3)) ∨
    ((truthsL S).length ≠ 0 ∧ (roomV S long).2 = 0 ∧ (((roomV S long).1 = 1 ∨ (roomV S long).1 = 3) ↔ ∃ x ∈ truthsL S, roomB S x long = true)) := by
  unfold roomV
  rw [knownV_of]
  by_cases h0 : (truthsL S).length = 0
  · rw [if_pos h0]; exact .inl ⟨h0, rfl⟩
  · rw [if_neg h0]
    refine .inr ⟨h0, ?_⟩
    obtain ⟨y, hy⟩ : ∃ y, y ∈ truthsL S := List.exists_mem_of_ne_nil _ (fun e => h0 (by rw [e]; rfl))
    by_cases h1 : ∀ x ∈ truthsL S, roomB S x long = true
    · rw [if_pos h1]; exact ⟨rfl, ⟨fun _ => ⟨y, hy, h1 y hy⟩, fun _ => .inl rfl⟩⟩
    · rw [if_neg h1]
      by_cases h2 : ∀ x ∈ truthsL S, roomB S x long = false
      · rw [if_pos h2]
        refine ⟨rfl, ⟨fun h => ?_, fun ⟨x, hx, h⟩ => ?_⟩⟩
        · exfalso; simp at h
        · rw [h2 x hx] at h; cases h
      · rw [if_neg h2]
        refine ⟨rfl, ⟨fun _ => ?_, fun _ => .inr rfl⟩⟩
        refine Classical.byContradiction fun hc => h2 fun x hx => ?_
        cases e : roomB S x long
        · rfl
        · exact absurd ⟨x, hx, e⟩ hc
end Go.Proofs.Ytgjikoebneiamaa.Tb