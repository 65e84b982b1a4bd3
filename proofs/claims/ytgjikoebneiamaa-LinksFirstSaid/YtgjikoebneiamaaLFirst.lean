/-
  Links, walks: the first sight that contradicts those before it.
-/
import Derived.Test.YtgjikoebneiamaaLIxf
import Derived.Test.YtgjikoebneiamaaLFew

namespace Go.Proofs.Ytgjikoebneiamaa
open Go.RowKit Go.Shelf

attribute [local go_sem] Oper.semAt_some

def badV (C : Chain) (x : List Int) : Int := badTo C x C.sights.length
/-- The greatest of the first sights that are not right. -/
def badMax (C : Chain) (l : List (List Int)) : Int := l.foldl (fun m x => max m (badV C x)) 0
theorem badMax_snoc (C : Chain) (l : List (List Int)) (x : List Int) : badMax C (l ++ [x]) = max (badMax C l) (badV C x) := by simp [badMax]
theorem badMax_le (C : Chain) (hV : Valid C) (l : List (List Int)) : 0 ≤ badMax C l ∧ badMax C l ≤ 8 := by
  have h0 : ∀ (l : List (List Int)) (m : Int), 0 ≤ m → m ≤ 8 → 0 ≤ l.foldl (fun m x => max m (badV C x)) m ∧ l.foldl (fun m x => max m (badV C x)) m ≤ 8 := by
    intro l
    induction l with
    | nil => intro m h1 h2; exact ⟨h1, h2⟩
    | cons x l ih =>
      intro m h1 h2
      have h3 := badTo_bound C x C.sights.length
      have h4 := hV.ns
      exact ih _ (by simp only [badV]; omega) (by simp only [badV]; omega)
  exact h0 l _ (by omega) (by omega)
/-- Whether some past has no sight that is not right. -/
def someGood (C : Chain) : Bool := (pastsL C.deeds).any (fun x => decide (badV C x < 0))
def firstV (C : Chain) : Int := if someGood C = true then 0 else badMax C (pastsL C.deeds)
def firstE (C : Chain) : Int := if someGood C = true then 3 else 0

theorem heap_new2 (w : World) (o o' o'' : Obj) : (((w.alloc o).alloc o').alloc o'').heap[w.heap.size + 1 + 1]? = some o'' := by
  have := heap_new ((w.alloc o).alloc o') o''
  rwa [World.size_alloc, World.size_alloc] at this
theorem Five.kept {w w' : World} {b o : Nat} {x0 x1 x2 x3 x4 : Int} (h : Five w b o x0 x1 x2 x3 x4) (hb : w'.heap[b]? = w.heap[b]?) : Five w' b o x0 x1 x2 x3 x4 :=
  ⟨(World.cell?_of_block (a := ⟨b, o, none⟩) hb).trans h.1, (World.cell?_of_block (a := ⟨b, o + 1, none⟩) hb).trans h.2.1, (World.cell?_of_block (a := ⟨b, o + 2, none⟩) hb).trans h.2.2.1,
    (World.cell?_of_block (a := ⟨b, o + 3, none⟩) hb).trans h.2.2.2.1, (World.cell?_of_block (a := ⟨b, o + 4, none⟩) hb).trans h.2.2.2.2⟩
theorem ChainAt.sights {B : Nat} {w : World} {dv sv u : Value} {C : Chain} (h : ChainAt B w (.agg #[dv, sv, u]) C) : SightsAt B w sv C.sights := by
  obtain ⟨dv', sv', e, h1, h2, _⟩ := h
  injection e with e
  simp only [Array.mk.injEq, List.cons.injEq, and_true] at e
  obtain ⟨rfl, rfl, rfl⟩ := e
  exact h2
/-- A chain of old blocks is there as long as these are kept. -/
theorem ChainAt.keptOld {own : Nat → Prop} {B0 B : Nat} {w A A' : World} {v : Value} {C : Chain} (h0 : ChainAt B0 w v C) (h : ChainAt B A v C) (hk : KeptBut own A A') (ho : ∀ k, own k → B0 ≤ k) (hB : B0 ≤ A.heap.size) : ChainAt B A' v C := by
  obtain ⟨dv0, sv0, e0, ⟨a0, cap0, b0, off0, rfl, _, _, ha0, _, _⟩, ⟨s0, scap0, sb0, soff0, rfl, _, _, hs0, _, _⟩, _⟩ := h0
  obtain ⟨dv, sv, e1, ⟨a, cap, b, off, rfl, h1, h2, ha, hc, hi⟩, ⟨s, scap, sb, soff, rfl, h3, h4, hs, hd, hj⟩, hw⟩ := h
  rw [e0] at e1
  injection e1 with e1
  simp only [Array.mk.injEq, List.cons.injEq, Value.slice.injEq, and_true, true_and] at e1
  obtain ⟨⟨rfl, rfl⟩, rfl, rfl⟩ := e1
  refine ⟨_, _, e0, ⟨a0, cap0, b, off, rfl, h1, h2, ha, fun i hi' => (hc i hi').kept ?_, hi⟩, ⟨s0, scap0, sb, soff, rfl, h3, h4, hs, fun i hi' => (hd i hi').kept ?_, hj⟩, hw⟩
  · have e := (ha (by omega)).1
    rw [(ha0 (by omega)).1] at e
    injection e with e
    injection e with e
    have hlt := (ha0 (by omega)).2
    exact hk.block b (by omega) (fun h => by have := ho b h; omega)
  · have e := (hs (by omega)).1
    rw [(hs0 (by omega)).1] at e
    injection e with e
    injection e with e
    have hlt := (hs0 (by omega)).2
    exact hk.block sb (by omega) (fun h => by have := ho sb h; omega)

set_option maxRecDepth 100000 in
set_option maxHeartbeats 4000000 in
theorem First_in (F : Fence) (hF : Hid (F = Fence.wide)) (hd : F.depth = none) (hro : F.round = none) (hfn : ∀ f, F.fn f) (n : Nat) (hn : 5 ≤ n) (a a2 : Option Addr) (cap cap2 : Nat) (C : Chain) (w : World)
    (hx : ChainAt w.heap.size w (.agg #[.slice a C.deeds.length cap, .slice a2 C.sights.length cap2, .int .i64 C.wrong]) C) (hV : validB C = true) :
    CallsIn F n Try.prog 40 #[.agg #[.slice a C.deeds.length cap, .slice a2 C.sights.length cap2, .int .i64 C.wrong]] w fun e w' => e = .returned (.tuple #[.int .i64 (firstV C), .int .i64 (firstE C)]) ∧ Below w.heap.size w w' := by
  have hV' := valid_iff.1 hV
  have hns := hV'.ns
  have HX0 := Lib.hid hx
  have HX := Lib.hid (fun W (hb : Below w.heap.size w W) => (hx.below hb).mono hb.size)
  have HV := Lib.hid hV
  have HV' := Lib.hid hV'
  clear hx hV hV'
  have hmo : Try.prog.follows .mixedOrders = true := by kernel_rfl
  refine callsIn_of_wp_marks Try.func40 rfl (hfn _) ?_ hro
  simp only [Try.ntmps40, List.size_toArray, List.length_cons, List.length_nil, Nat.reduceAdd, Nat.reduceSub, Array.replicate_succ, Array.replicate_zero, List.push_toArray, List.append_toArray, List.nil_append, List.cons_append]
  gi_wp2_with fail
  refine (inF hF (open_mk _ _ C _ (HX.out _ (by go_grown)) HV.out)).mono ?_
  rintro e w1 ⟨bm, rfl, hbm, hmk, hb1⟩
  have hbml : bm < w1.heap.size := by obtain ⟨b', e, h1, _⟩ := hmk; injection e with e; injection e with e; injection e with e; omega
  have hsz := hb1.size
  simp only [World.size_alloc] at hsz hbm
  have hbw : Below w.heap.size w w1 := ((((Below.refl _ w).alloc (Nat.le_refl _) _).alloc (by simp) _).alloc (by simp; omega) _).trans (hb1.mono (by simp; omega))
  have er1 := (hb1.block (w.heap.size + 1) (by simp)).trans ((Below.heap_alloc _ _ _ (by simp)).trans (heap_new1 w _ _))
  have er2 := (hb1.block (w.heap.size + 1 + 1) (by simp)).trans (heap_new2 w _ _ _)
  have hbk : BookAt w1.heap.size w1 (.agg #[.slice a C.deeds.length cap, .slice a2 C.sights.length cap2, .int .i64 C.wrong, .slice (some ⟨bm, 0, none⟩) (weldsTo C.deeds C.deeds.length) 12]) C := ⟨_, _, _, rfl, HX.out _ hbw, hmk⟩
  have HBK := Lib.hid hbk
  have HBW := Lib.hid hbw
  have HR1 := Lib.hid er1
  have HR2 := Lib.hid er2
  obtain ⟨N, hN⟩ : ∃ N, weldsTo C.deeds C.deeds.length = N := ⟨_, rfl⟩
  rw [hN] at HBK ⊢
  clear hb1 hmk hbw hbk hN hsz er1 er2
  have hbm' : w.heap.size ≤ bm ∧ bm < w1.heap.size := ⟨by omega, hbml⟩
  gi_wp2_with fail
  obtain ⟨w2, hw2⟩ : ∃ w2, w2 = (w1.alloc (.cells #[.slice a C.deeds.length cap, .slice a2 C.sights.length cap2, .int .i64 C.wrong, .slice (some ⟨bm, 0, none⟩) N 12] 84)).alloc (.cells #[.int .i64 0] 3) := ⟨_, rfl⟩
  have hs2 : w2.heap.size = w1.heap.size + 2 := by rw [hw2]; simp
  have hb2 : Below w1.heap.size w1 w2 := by rw [hw2]; exact ((Below.refl _ w1).alloc (Nat.le_refl _) _).alloc (by simp) _
  have hbx2 : w2.heap[w1.heap.size]? = some (.cells #[.slice a C.deeds.length cap, .slice a2 C.sights.length cap2, .int .i64 C.wrong, .slice (some ⟨bm, 0, none⟩) N 12] 84) := by rw [hw2]; exact heap_old1 _ _ _
  have hcx2 : w2.heap[w1.heap.size + 1]? = some (.cells #[.int .i64 (badMax C [])] 3) := by rw [hw2]; exact heap_new1 _ _ _
  rw [← hw2]
  clear hw2
  have HB2 := Lib.hid hb2
  have HBX := Lib.hid hbx2
  have hws := HBW.out.size
  have hr1l := heap_lt HR1.out
  have hr2l := heap_lt HR2.out
  have hI0 : (fun (pre : List (List Int)) (W : World) => W.heap[w1.heap.size + 1]? = some (.cells #[.int .i64 (badMax C pre)] 3) ∧ (∀ x ∈ pre, 0 ≤ badV C x) ∧ W.heap[w.heap.size + 1]? = some (.cells #[.int .i64 0] 3) ∧ W.heap[w.heap.size + 1 + 1]? = some (.cells #[.int .i64 0] 29)) [] w2 :=
    ⟨hcx2, by simp, (hb2.block _ hr1l).trans HR1.out, (hb2.block _ hr2l).trans HR2.out⟩
  have hkk : ∀ {A A' : World} {k : Nat} {o : Obj}, KeptBut (fun r => r = w2.heap.size ∨ r = w2.heap.size + 1 ∨ ∃ c ∈ [C.deeds.length + 1, C.deeds.length + 2], r = w2.heap.size + 2 + c) A A' → k < w2.heap.size → A.heap[k]? = some o → A'.heap[k]? = some o := fun hk hlt h =>
    (hk.block _ (heap_lt h) (by rintro (h | h | ⟨c, hc, h⟩) <;> omega)).trans h
  have hown1 : OwnAt w2.heap.size [C.deeds.length + 1, C.deeds.length + 2] (fun (pre : List (List Int)) (W : World) => W.heap[w1.heap.size + 1]? = some (.cells #[.int .i64 (badMax C pre)] 3) ∧ (∀ x ∈ pre, 0 ≤ badV C x) ∧ W.heap[w.heap.size + 1]? = some (.cells #[.int .i64 0] 3) ∧ W.heap[w.heap.size + 1 + 1]? = some (.cells #[.int .i64 0] 29)) := fun s A A' h hk =>
    ⟨hkk hk (by omega) h.1, h.2.1, hkk hk (by omega) h.2.2.1, hkk hk (by omega) h.2.2.2⟩
  have hown2 : ∀ d : Code, OwnAt w2.heap.size [C.deeds.length + 1, C.deeds.length + 2] (fun (pre : List (List Int)) (W : World) => d = .ret ∧ (∃ x ∈ pre, badV C x < 0) ∧ W.heap[w.heap.size + 1]? = some (.cells #[.int .i64 0] 3) ∧ W.heap[w.heap.size + 1 + 1]? = some (.cells #[.int .i64 3] 29)) := fun d s A A' h hk =>
    ⟨h.1, h.2.1, hkk hk (by omega) h.2.2.1, hkk hk (by omega) h.2.2.2⟩
  have hbkx := HBK.out.below hb2
  have hst : ∀ A A' : World, w1.heap.size ≤ A.heap.size → BookAt w1.heap.size A (.agg #[.slice a C.deeds.length cap, .slice a2 C.sights.length cap2, .int .i64 C.wrong, .slice (some ⟨bm, 0, none⟩) N 12]) C → KeptBut (fun k => ¬ (k < w.heap.size ∨ k = bm)) A A' → BookAt w1.heap.size A' (.agg #[.slice a C.deeds.length cap, .slice a2 C.sights.length cap2, .int .i64 C.wrong, .slice (some ⟨bm, 0, none⟩) N 12]) C := fun A A' hA h hk => by
    obtain ⟨dv, sv, mv, e, hC, bm', hv, hlt, h12, hc⟩ := h
    injection e with e
    simp only [Array.mk.injEq, List.cons.injEq, and_true, true_and] at e
    obtain ⟨rfl, rfl, rfl⟩ := e
    have hv' := hv
    injection hv' with e1 _ _
    injection e1 with e1
    injection e1 with e1
    subst e1
    have hkb := hk.block bm (by omega) (fun h => h (.inr rfl))
    exact ⟨_, _, _, rfl, HX0.out.keptOld hC hk (fun k h => by omega) (by omega), bm, hv, hlt, h12, fun i hi => ⟨(World.cell?_of_block (a := ⟨bm, i * 2, none⟩) hkb).trans (hc i hi).1, (World.cell?_of_block (a := ⟨bm, i * 2 + 1, none⟩) hkb).trans (hc i hi).2⟩⟩
  refine wpIn_pastsK F hF hd hro hfn (by omega) _ rfl C HV'.out w1.heap.size hbkx (by omega) (fun k => k < w.heap.size ∨ k = bm) (fun k hk => by omega) hst rfl
    (fun k => k = w1.heap.size + 1 ∨ k = w.heap.size + 1 ∨ k = w.heap.size + 1 + 1) (fun k hk => by omega)
    (fun (pre : List (List Int)) (W : World) => W.heap[w1.heap.size + 1]? = some (.cells #[.int .i64 (badMax C pre)] 3) ∧ (∀ x ∈ pre, 0 ≤ badV C x) ∧ W.heap[w.heap.size + 1]? = some (.cells #[.int .i64 0] 3) ∧ W.heap[w.heap.size + 1 + 1]? = some (.cells #[.int .i64 0] 29))
    (fun (d : Code) (pre : List (List Int)) (W : World) => d = .ret ∧ (∃ x ∈ pre, badV C x < 0) ∧ W.heap[w.heap.size + 1]? = some (.cells #[.int .i64 0] 3) ∧ W.heap[w.heap.size + 1 + 1]? = some (.cells #[.int .i64 3] 29)) hown1 hown2 hI0
    (fun tm V x => { tmps := (tm.setIfInBounds 19 (pastV C.deeds.length (w2.heap.size + 2 + C.deeds.length + 1))).setIfInBounds 7 (.pointer (some ⟨V.heap.size, 0, none⟩)), defers := [] }) (fun V _ => V.alloc (.cells #[pastV C.deeds.length (w2.heap.size + 2 + C.deeds.length + 1)] 89)) (fun W x => (Below.refl _ W).alloc (Nat.le_refl _) _) ?assign ?body ?done ?stop
  case assign =>
    intro l x W K hK
    generalize w2.heap.size + 2 + C.deeds.length + 1 = p at hK ⊢
    gi_wp2_with fail
    exact hK
  case body =>
    intro l pre x V U hpre hI hkb hpast hV2 hkl
    obtain ⟨i1, i2, i3, i4⟩ := hI
    have hbU : Below w1.heap.size U U := Below.refl _ _
    have hsU := hkb.size
    have hbkU := hst _ _ (by omega) hbkx (hkb.mono (fun k _ h => by omega))
    have e4 := (hkb.block w1.heap.size (by omega) (by omega)).trans HBX.out
    have e7 := (hkl.block V.heap.size (by simp) (by omega)).trans (heap_new V _)
    have hsg : SightsAt U.heap.size U (.slice a2 C.sights.length cap2) C.sights := by
      obtain ⟨dv, sv, mv, e, hC, _⟩ := hbkU
      injection e with e
      simp only [Array.mk.injEq, List.cons.injEq, and_true, true_and] at e
      obtain ⟨rfl, rfl, rfl⟩ := e
      exact hC.sights.mono (by omega)
    have hcall := ixf_any _ C x 92 #[.pointer (some ⟨w1.heap.size, 0, none⟩), .pointer (some ⟨V.heap.size, 0, none⟩)] U hns hsg (enters_of Try.func92 (by kernel_rfl) rfl) (fun k hk W hW =>
      firstAsk_any _ _ _ C HV'.out x _ (HV'.out.sight k hk) _ _ w1.heap.size V.heap.size _ W (hbkU.below (hW.mono (by omega))) (by have := hW.size; omega) ((hW.block _ (heap_lt e4)).trans e4) ((hW.block _ (heap_lt e7)).trans e7)
        (hpast.kept (own := fun _ => False) (KeptBut.of_below hW) (fun h => h) (fun h => h)))
    obtain ⟨c0, c1, c2, c3⟩ := box4' e4
    have HCALL := Lib.hid (CallsIn.inRound (n := n - 1 - 1 - 1) l (inF hF hcall))
    have HI1 := Lib.hid i1
    have HI2 := Lib.hid i2
    have HI3 := Lib.hid i3
    have HI4 := Lib.hid i4
    have hbm8 := badMax_le C HV'.out pre
    have hbv := badTo_bound C x C.sights.length
    have HSN := Lib.hid (badMax_snoc C pre x)
    clear hcall hpast hkl hkb hbU hpre i1 i2 i3 i4 hcx2 hbx2 hb2 hown1 hown2 hbkx hbkU e4 e7 hsg hst hkk hI0
    generalize w2.heap.size + 2 + C.deeds.length + 1 = p
    gi_wp2_with fail
    refine HCALL.out.mono ?_
    rintro e U1 ⟨rfl, hb1⟩
    have e1 := (hb1.block _ (heap_lt HI1.out)).trans HI1.out
    have e3 := (hb1.block _ (heap_lt HI3.out)).trans HI3.out
    have e4 := (hb1.block _ (heap_lt HI4.out)).trans HI4.out
    obtain ⟨q1, q2⟩ := cell1_of e1
    obtain ⟨q3, q4⟩ := cell1_of e3
    obtain ⟨q5, q6⟩ := cell1_of e4
    have HE1 := Lib.hid e1
    have HE3 := Lib.hid e3
    have HE4 := Lib.hid e4
    have HB1 := Lib.hid hb1
    have hBV : badTo C x C.sights.length = badV C x := rfl
    rw [hBV] at hbv ⊢
    clear hBV HCALL e1 e3 e4 hb1
    have HBVX : Hid (badV C x = badV C x) := rfl
    obtain ⟨bv, hbvv⟩ : ∃ bv, badV C x = bv := ⟨_, rfl⟩
    rw [hbvv] at hbv HSN ⊢
    have HBV := Lib.hid hbvv
    clear hbvv
    by_cases hneg : bv < 0
    · gi_wp2_with fail
      refine ⟨(KeptBut.of_below HB1.out).trans ((KeptBut.setCell _ _ _ (.inr (.inl rfl))).trans (KeptBut.setCell _ _ _ (.inr (.inr rfl)))), rfl, ⟨x, by simp, by rw [HBV.out]; exact hneg⟩, ?_, ?_⟩
      · rw [heap_setCell_other (by simp)]; exact set_box _ HE3.out
      · exact set_box _ ((heap_setCell_other (by simp)).trans HE4.out)
    · gi_wp2_with fail
      refine ⟨(KeptBut.of_below HB1.out).trans (KeptBut.setCell _ _ _ (.inl rfl)), ?_, ?_, ?_, ?_⟩
      · (show _ = some (Obj.cells #[.int .i64 (badMax C (pre ++ [x]))] 3)); rw [HSN.out]; exact set_box _ HE1.out
      · intro y hy
        rcases List.mem_append.1 hy with h | h
        · exact HI2.out y h
        · obtain rfl : y = x := by simpa using h
          rw [HBV.out]; omega
      · exact (heap_setCell_other (by have := HBW.out.size; simp; omega)).trans HE3.out
      · exact (heap_setCell_other (by have := HBW.out.size; simp; omega)).trans HE4.out
  case done =>
    rintro _ W rfl hkb ⟨i1, i2, i3, i4⟩ hK
    have hg : someGood C = false := by
      rw [someGood, List.any_eq_false]
      intro x hx
      have := i2 x hx
      simp; omega
    have HFV := Lib.hid (show firstV C = badMax C (pastsL C.deeds) by simp [firstV, hg])
    have HFE := Lib.hid (show firstE C = 0 by simp [firstE, hg])
    obtain ⟨q1, q2⟩ := cell1_of i1
    obtain ⟨q3, q4⟩ := cell1_of i3
    obtain ⟨q5, q6⟩ := cell1_of i4
    have hws := HBW.out.size
    have HI3 := Lib.hid i3
    have HI4 := Lib.hid i4
    have HKB := Lib.hid hkb
    have hsW := hkb.size
    clear i1 i2 i3 i4 hg hkb hcx2 hbx2 hb2 hown1 hown2 hbkx hst hkk hI0
    generalize badMax C (pastsL C.deeds) = mx at HFV q1
    gi_wp2_with fail
    obtain ⟨X, hX⟩ : ∃ X, X = (W.setCell ⟨w.heap.size + 1, 0, none⟩ (.int .i64 mx)).setCell ⟨w.heap.size + 1 + 1, 0, none⟩ (.int .i64 0) := ⟨_, rfl⟩
    rw [← hX]
    have hx1 : X.heap[w.heap.size + 1]? = some (.cells #[.int .i64 mx] 3) := by rw [hX, heap_setCell_other (by simp)]; exact set_box _ HI3.out
    have hx2 : X.heap[w.heap.size + 1 + 1]? = some (.cells #[.int .i64 0] 29) := by rw [hX]; exact set_box _ ((heap_setCell_other (by simp)).trans HI4.out)
    have hXK : X.heap[w2.heap.size]? = some (.deferred (some [])) := by rw [hX, heap_setCell_other (by omega), heap_setCell_other (by omega)]; exact hK
    have hXb : Below w.heap.size w X := by
      rw [hX]
      have h1 : Below w.heap.size w W := (HBW.out.trans (HB2.out.mono HBW.out.size)).trans (HKB.out.below (by omega) (fun k h => by omega))
      refine below_setCell (below_setCell h1 ?_) ?_
      · show w.heap.size ≤ w.heap.size + 1; omega
      · show w.heap.size ≤ w.heap.size + 1 + 1; omega
    clear hX
    refine ⟨by simp, .inl ⟨_, _, rfl, run_takeDeferred hXK, ?_⟩⟩
    have y1 : (X.putObj w2.heap.size (.deferred none)).cell? ⟨w.heap.size + 1, 0, none⟩ = some (.int .i64 mx) := (cell1_of ((World.putObj_heap_other (by omega)).trans hx1)).1
    have y2 : (X.putObj w2.heap.size (.deferred none)).cell? ⟨w.heap.size + 1 + 1, 0, none⟩ = some (.int .i64 0) := (cell1_of ((World.putObj_heap_other (by omega)).trans hx2)).1
    refine ⟨.tuple #[.int .i64 mx, .int .i64 0], by simp [results, Try.results40, go_sem, y1, y2], by rw [HFV.out, HFE.out], hXb.trans (putObj_below _ _ (by omega))⟩
  case stop =>
    rintro _ d pre W rfl hkb hpre ⟨rfl, ⟨x, hx, hneg⟩, h3, h4⟩ hK
    have hg : someGood C = true := by
      rw [someGood, List.any_eq_true]
      exact ⟨x, hpre.subset hx, by simpa using hneg⟩
    have HFV := Lib.hid (show firstV C = 0 by simp [firstV, hg])
    have HFE := Lib.hid (show firstE C = 3 by simp [firstE, hg])
    have hws := HBW.out.size
    have hXb : Below w.heap.size w W := (HBW.out.trans (HB2.out.mono HBW.out.size)).trans (hkb.below (by omega) (fun k h => by omega))
    have y1 : (W.putObj w2.heap.size (.deferred none)).cell? ⟨w.heap.size + 1, 0, none⟩ = some (.int .i64 0) := (cell1_of ((World.putObj_heap_other (by omega)).trans h3)).1
    have y2 : (W.putObj w2.heap.size (.deferred none)).cell? ⟨w.heap.size + 1 + 1, 0, none⟩ = some (.int .i64 3) := (cell1_of ((World.putObj_heap_other (by omega)).trans h4)).1
    clear hg hcx2 hbx2 hb2 hown1 hown2 hbkx hst hkk hI0
    gi_wp2_with fail
    refine ⟨by simp, .inl ⟨_, _, rfl, run_takeDeferred hK, ?_⟩⟩
    refine ⟨.tuple #[.int .i64 0, .int .i64 3], by simp [results, Try.results40, go_sem, y1, y2], by rw [HFV.out, HFE.out], hXb.trans (putObj_below _ _ (by omega))⟩

theorem First_any (a a2 : Option Addr) (cap cap2 : Nat) (C : Chain) (w : World)
    (hx : ChainAt w.heap.size w (.agg #[.slice a C.deeds.length cap, .slice a2 C.sights.length cap2, .int .i64 C.wrong]) C) (hV : validB C = true) :
    Calls Try.prog 40 #[.agg #[.slice a C.deeds.length cap, .slice a2 C.sights.length cap2, .int .i64 C.wrong]] w fun e w' => e = .returned (.tuple #[.int .i64 (firstV C), .int .i64 (firstE C)]) ∧ Below w.heap.size w w' :=
  wide_calls (First_in Fence.wide rfl rfl rfl (fun _ => trivial) 9 (by omega) a a2 cap cap2 C w hx hV)

end Go.Proofs.Ytgjikoebneiamaa
