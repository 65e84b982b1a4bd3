/-
  Links: the slice of maps in which Next counts marks, while it is made, and while it is filled.
  Links, walks: the place whose mark should be read.
-/
import Derived.Test.YtgjikoebneiamaaLRefNext
import Derived.Test.YtgjikoebneiamaaLNextM
import Derived.Test.YtgjikoebneiamaaLMany

namespace Go.Proofs.Ytgjikoebneiamaa
open Go.RowKit Go.Maps

noncomputable abbrev plainI : Value → Option (DataW Unit × List MemPlace) := plainElem Try.prog 3
/-- A row of N maps in block Sb, of which the first k are made, in blocks m0 and behind. -/
structure MakeSt (z : World) (Sb m0 N k : Nat) (W : World) : Prop where
  row : ∃ arr, W.heap[Sb]? = some (.cells arr 107) ∧ arr.size = N ∧ (∀ i, i < k → arr[i]? = some (.map (some (m0 + i)))) ∧ ∀ i, k ≤ i → i < N → arr[i]? = some (.map none)
  maps : ∀ i, i < k → W.ownsMap (H := Unit) Try.prog 99 plainI (m0 + i) 0 (datM [])
  size : W.heap.size = m0 + k
  kept : Below z.heap.size z W
theorem map_far {w w' : World} {k : TypeId} {b n : Nat} {D : DataW Unit} (h : w.ownsMap Try.prog k plainI b n D) (hb : w'.heap[b]? = w.heap[b]?) : w'.ownsMap Try.prog k plainI b n D := by
  obtain ⟨es, clock, h1, h2⟩ := h
  exact ⟨es, clock, hb.trans h1, h2⟩
theorem MakeSt.step {z : World} {Sb m0 N k : Nat} {W : World} (h : MakeSt z Sb m0 N k W) (hk : k < N) (hS : Sb < m0) (hz : z.heap.size ≤ Sb) :
    MakeSt z Sb m0 N (k + 1) ((W.alloc (.map #[] 0)).setCell ⟨Sb, k, none⟩ (.map (some (m0 + k)))) := by
  obtain ⟨arr, h1, h2, h3, h4⟩ := h.row
  have hs := h.size
  have hsb : Sb < W.heap.size := by omega
  have ha : (W.alloc (.map #[] 0)).heap[Sb]? = some (.cells arr 107) := (Below.heap_alloc _ _ _ hsb).trans h1
  refine ⟨⟨_, heap_setCell_same ha, by simp [h2], fun i hi => ?_, fun i hi hin => ?_⟩, fun i hi => ?_, by rw [size_setCell, World.size_alloc, hs]; omega, below_setCell (h.kept.alloc (by omega) _) hz⟩
  · by_cases e : i = k
    · subst e; simp [Array.getElem?_setIfInBounds, h2]; omega
    · rw [Array.getElem?_setIfInBounds_ne (by omega)]; exact h3 i (by omega)
  · rw [Array.getElem?_setIfInBounds_ne (by omega)]; exact h4 i (by omega) hin
  · by_cases e : i = k
    · subst e
      have := World.ownsMap_made W Try.prog 99 plainI
      rw [hs] at this
      exact map_far this (heap_setCell_other (by show Sb ≠ m0 + i; omega))
    · exact map_far ((h.maps i (by omega)).alloc _) (heap_setCell_other (by show Sb ≠ m0 + i; omega))
/-- The maps read as so many truths' marks. -/
def CountsAt (C : Chain) (m0 N : Nat) (n : Nat → Nat) (ms : Nat → List (Int × Int)) (W : World) : Prop := ∀ i, i < N → W.ownsMap (H := Unit) Try.prog 99 plainI (m0 + i) (n i) (datM (ms i))
theorem CountsAt.step {C : Chain} {m0 N j p : Nat} {pre : List (List Int)} {x : List Int} {W W' : World} (h : CountsAt C m0 N (fun i => if i < j then p + 1 else p) (fun i => if i < j then marksL C i (pre ++ [x]) else marksL C i pre) W) (hj : j < N)
    (hown : W'.ownsMap (H := Unit) Try.prog 99 plainI (m0 + j) (p + 1) (datM (markOf C j x :: marksL C j pre))) (hk : ∀ k, k < W.heap.size → k ≠ m0 + j → W'.heap[k]? = W.heap[k]?) :
    CountsAt C m0 N (fun i => if i < j + 1 then p + 1 else p) (fun i => if i < j + 1 then marksL C i (pre ++ [x]) else marksL C i pre) W' := by
  intro i hi
  by_cases e : i = j
  · subst e
    simp only [if_pos (Nat.lt_succ_self i), marksL_snoc]
    exact hown
  · have h1 := h i hi
    have h2 := map_far h1 (hk (m0 + i) h1.lt (by omega))
    by_cases hl : i < j
    · simp only [if_pos hl, if_pos (show i < j + 1 by omega)] at h2 ⊢
      exact h2
    · simp only [if_neg hl, if_neg (show ¬ i < j + 1 by omega)] at h2 ⊢
      exact h2
theorem CountsAt.begin {C : Chain} {m0 N p : Nat} {pre : List (List Int)} {x : List Int} {W : World} (h : CountsAt C m0 N (fun _ => p) (fun i => marksL C i pre) W) : CountsAt C m0 N (fun i => if i < 0 then p + 1 else p) (fun i => if i < 0 then marksL C i (pre ++ [x]) else marksL C i pre) W := by
  intro i hi
  simp only [if_neg (Nat.not_lt_zero i)]
  exact h i hi
theorem CountsAt.ending {C : Chain} {m0 N p : Nat} {pre : List (List Int)} {x : List Int} {W : World} (h : CountsAt C m0 N (fun i => if i < N then p + 1 else p) (fun i => if i < N then marksL C i (pre ++ [x]) else marksL C i pre) W) : CountsAt C m0 N (fun _ => p + 1) (fun i => marksL C i (pre ++ [x])) W := by
  intro i hi
  have := h i hi
  simp only [if_pos hi] at this
  exact this
theorem CountsAt.kept {C : Chain} {m0 N : Nat} {n : Nat → Nat} {ms : Nat → List (Int × Int)} {W W' : World} (h : CountsAt C m0 N n ms W) (hk : ∀ k, k < W.heap.size → m0 ≤ k → k < m0 + N → W'.heap[k]? = W.heap[k]?) : CountsAt C m0 N n ms W' := fun i hi =>
  map_far (h i hi) (hk (m0 + i) (h i hi).lt (by omega) (by omega))
theorem fact_callIn {F : Fence} {N : Nat} {P : Program} {ops : Array Oper} {Q : Exit → Act → World → Prop} {ps : List Fact} {i d : Nat} {o : Oper} {a : Act} {W : World} {f : FuncId} {args : Array Value} (hfn : ∀ f, F.fn f) (hdp : F.depth = none) (ho : ops[i]? = some o) (hnd : ∀ c, o.op ≠ .defer c) (hg : o.guard = none) (hd : o.dst = some d)
    (hrun : (execOp a.eval o).run P W = .ok (.enter f args) W) (hc : CallsIn F (N - 1) P f args W fun e W' => ∃ v, e = .returned v ∧ Below W.heap.size W W' ∧ factAt ps i v W') :
    wpOpIn F N P ops Q i (fun a' W' => ∃ v, a' = a.put (some d) v ∧ Below W.heap.size W W' ∧ factAt ps i v W') a W := by
  refine wpOpIn_at hfn hnd ho hg hrun ⟨fun h => (by rw [hdp] at h; cases h), hc.mono ?_⟩
  rintro e W' ⟨v, rfl, hb, hp⟩
  show ∃ u, a.put o.dst v = _ ∧ _
  rw [hd]
  exact ⟨v, rfl, hb, hp⟩
/-- What the state of a round of the iteration holds. -/
def FoundAt (C : Chain) (fb m0 N : Nat) (pre : List (List Int)) (W : World) : Prop := W.heap[fb]? = some (.cells #[.bool (!pre.isEmpty)] 4) ∧ CountsAt C m0 N (fun _ => pre.length) (fun i => marksL C i pre) W
/-- What a mark's place reads. -/
structure MarkAt (C : Chain) (x : List Int) (Bm bm q at_ : Nat) (w : World) : Prop where
  lk : w.cell? ⟨Bm, C.deeds.length * 12 + at_, none⟩ = some (.int .i64 q)
  bar : w.cell? ⟨bm, q * 2, none⟩ = some (.int .i64 (barOf C at_ x))
  smith : w.cell? ⟨bm, q * 2 + 1, none⟩ = some (.int .i64 (smithOf C at_ x))
theorem markAt {dv sv : Value} {bm N : Nat} {C : Chain} (hN : weldsTo C.deeds C.deeds.length = N) (hV : Valid C) {x : List Int} {Bp Bm at_ B : Nat} {w : World} (hx : BookAt B w (.agg #[dv, sv, .int .i64 C.wrong, .slice (some ⟨bm, 0, none⟩) N 12]) C)
    (hp : PastTo C.deeds.length Bp Bm (story C.deeds x) C.deeds.length w) (hat : at_ < (story C.deeds x C.deeds.length).length) : bm < B ∧ ∃ q : Nat, q < N ∧ MarkAt C x Bm bm q at_ w := by
  subst hN
  obtain ⟨dv', sv', mv', e, hC, hM⟩ := hx
  injection e with e
  simp only [Array.mk.injEq, List.cons.injEq, and_true, true_and] at e
  obtain ⟨rfl, rfl, rfl⟩ := e
  obtain ⟨bm', hv, hbm, hm12, hmc⟩ := hM
  injection hv with h1 _ _
  injection h1 with h1
  injection h1 with h1
  subst h1
  obtain ⟨q, hq, hqw⟩ := story_link hV x (Nat.le_refl _) hat
  have hl := hp.len C.deeds.length (Nat.le_refl _)
  obtain ⟨f, hR, hH⟩ := hp.mem
  obtain ⟨m0, m1⟩ := hmc q hqw
  have hlq : linkAt C at_ x = q := hq
  refine ⟨hbm, q, hqw, by rw [hR.cell (by omega), hH _ (Nat.le_refl _) at_ hat, hq], ?_, ?_⟩
  · rw [m0, barOf, hlq]; rfl
  · rw [m1, smithOf, hlq]; rfl
/-- The place whose mark should be read, and the error. -/
def nxV (C : Chain) (N : Nat) : Int := if (truthsP C).isEmpty = true ∨ N = 0 then 0 else (amin (fun k => mostM (marksL C k (truthsP C))) N : Nat)
def nxE (C : Chain) (N : Nat) : Int := if (truthsP C).isEmpty = true ∨ N = 0 then 3 else 0
end Go.Proofs.Ytgjikoebneiamaa

namespace Go.Proofs.Ytgjikoebneiamaa
open Go.RowKit Go.Shelf Go.Maps

attribute [local go_sem] Oper.semAt_some

theorem run_makeMaps (N : Nat) (hN : N ≤ 12) (w : World) : (Instr.makeSlice 106 (.int .i64 (N : Int)) (.int .i64 (N : Int))).run Try.prog w = .ok (.slice (some ⟨w.heap.size, 0, none⟩) N N) (w.alloc (.cells (madeCells #[.map none] N) 107)) :=
  run_make_row' (P := Try.prog) 106 107 (.map none) 8 (by kernel_rfl) (by kernel_rfl) rfl .i64 .i64 N (by omega) (by omega) w

set_option maxRecDepth 100000 in
set_option maxHeartbeats 8000000 in
theorem Next_in (F : Fence) (hF : Hid (F = Fence.wide)) (hd : F.depth = none) (hro : F.round = none) (hfn : ∀ f, F.fn f) (n : Nat) (hn : 9 ≤ n) (a a2 : Option Addr) (cap cap2 : Nat) (C : Chain) (w : World)
    (hx : ChainAt w.heap.size w (.agg #[.slice a C.deeds.length cap, .slice a2 C.sights.length cap2, .int .i64 C.wrong]) C) (hV : validB C = true) :
    CallsIn F n Try.prog 42 #[.agg #[.slice a C.deeds.length cap, .slice a2 C.sights.length cap2, .int .i64 C.wrong]] w fun e w' => e = .returned (.tuple #[.int .i64 (nxV C (lenN C)), .int .i64 (nxE C (lenN C))]) ∧ Below w.heap.size w w' := by
  have hV' := valid_iff.1 hV
  have hlt := truthsP_len hV'
  have hnd := hV'.nd
  have HX := Lib.hid (fun W (hb : Below w.heap.size w W) => (hx.below hb).mono hb.size)
  have HDS := Lib.hid (fun W (hb : Below w.heap.size w W) => show DeedsTo W.heap.size W (.slice a C.deeds.length cap) C.deeds C.deeds.length from by
    obtain ⟨dv, sv, e, h, _⟩ := (hx.below hb).mono hb.size
    injection e with e
    simp only [Array.mk.injEq, List.cons.injEq, and_true] at e
    obtain ⟨rfl, rfl⟩ := e
    exact h)
  have HV := Lib.hid hV
  have HV' := Lib.hid hV'
  have HLT := Lib.hid hlt
  obtain ⟨M, hM⟩ : ∃ M, lenN C = M := ⟨_, rfl⟩
  have hle := lenTo_le C.deeds C.deeds.length
  have hl0 : 0 ≤ lenTo C.deeds C.deeds.length := by
    have := (story_ok (ends := []) hV'.deed _ (Nat.le_refl _)).1
    omega
  have hM2 : lenTo C.deeds C.deeds.length = (M : Int) := by rw [← hM]; unfold lenN; omega
  have hM12 : M ≤ 12 := by omega
  rw [hM]
  obtain ⟨RV, hRV⟩ : ∃ RV, nxV C M = RV := ⟨_, rfl⟩
  obtain ⟨RE, hRE⟩ : ∃ RE, nxE C M = RE := ⟨_, rfl⟩
  rw [hRV, hRE]
  have HRV := Lib.hid hRV
  have HRE := Lib.hid hRE
  have HM := Lib.hid hM
  have HM2 := Lib.hid hM2
  have HND := Lib.hid hnd
  have HSN := Lib.hid (fun (x : List Int) => show (story C.deeds x C.deeds.length).length = M by have := (story_ok (ends := x) hV'.deed _ (Nat.le_refl _)).1; omega)
  have HOKM := Lib.hid (fun (k : Nat) (h : k < M) (l : List (List Int)) => show OkM (marksL C k l) from fun m hm => by
    simp only [marksL, List.mem_reverse, List.mem_map] at hm
    obtain ⟨x, _, rfl⟩ := hm
    exact ⟨barOf_i64 hV' (by omega) x, smithOf_i64 hV' (by omega) x⟩)
  clear hx hV hV' hlt hM hle hl0 hM2 hnd hRV hRE
  have hmo : Try.prog.follows .mixedOrders = true := by kernel_rfl
  have hmk := run_makeMaps M hM12
  have hmm := @run_makeMap Try.prog
  refine callsIn_of_wp_marks Try.func42 rfl (hfn _) ?_ hro
  simp only [Try.ntmps42, List.size_toArray, List.length_cons, List.length_nil, Nat.reduceAdd, Nat.reduceSub, Array.replicate_succ, Array.replicate_zero, List.push_toArray, List.append_toArray, List.nil_append, List.cons_append]
  gi_wp2_with fail
  refine (inF hF (open_mk _ _ C _ (HX.out _ (by go_grown)) HV.out)).mono ?_
  rintro e w1 ⟨bm, rfl, hbm, hmk', hb1⟩
  have hsz := hb1.size
  simp only [World.size_alloc] at hsz hbm
  have hbw : Below w.heap.size w w1 := (((Below.refl _ w).alloc (Nat.le_refl _) _)).trans (hb1.mono (by simp))
  have hbk : BookAt w1.heap.size w1 (.agg #[.slice a C.deeds.length cap, .slice a2 C.sights.length cap2, .int .i64 C.wrong, .slice (some ⟨bm, 0, none⟩) (weldsTo C.deeds C.deeds.length) 12]) C := ⟨_, _, _, rfl, HX.out _ hbw, hmk'⟩
  have HBK := Lib.hid hbk
  have HBW := Lib.hid hbw
  obtain ⟨N, hN⟩ : ∃ N, weldsTo C.deeds C.deeds.length = N := ⟨_, rfl⟩
  have HN := Lib.hid hN
  rw [hN] at HBK ⊢
  clear hb1 hmk' hbw hbk hN hsz hbm
  gi_wp2_with fail
  obtain ⟨w2, hw2⟩ : ∃ w2, w2 = w1.alloc (.cells #[.slice a C.deeds.length cap, .slice a2 C.sights.length cap2, .int .i64 C.wrong, .slice (some ⟨bm, 0, none⟩) N 12] 84) := ⟨_, rfl⟩
  have hb2 : Below w1.heap.size w1 w2 := by rw [hw2]; exact (Below.refl _ w1).alloc (Nat.le_refl _) _
  have hk2 : w2.heap[w1.heap.size]? = some (.cells #[.slice a C.deeds.length cap, .slice a2 C.sights.length cap2, .int .i64 C.wrong, .slice (some ⟨bm, 0, none⟩) N 12] 84) := by rw [hw2]; exact heap_new _ _
  rw [← hw2]
  clear hw2
  have HB2 := Lib.hid (HBW.out.trans (hb2.mono HBW.out.size))
  have HK2 := Lib.hid hk2
  have hs2 := hb2.size
  have HBK2 := Lib.hid ((HBK.out.below hb2).mono hb2.size)
  clear hb2 hk2 hs2
  obtain ⟨k0, k1, k2, k3, _⟩ := box4f HK2.out
  gi_wp2_with fail
  refine (inF hF (lengthAfter_any _ C.deeds C.deeds.length _ HND.out (HDS.out _ HB2.out))).mono ?_
  rintro e w3 ⟨rfl, hb3⟩
  rw [HM2.out]
  have hs3 := hb3.size
  have HB3 := Lib.hid (HB2.out.trans (hb3.mono HB2.out.size))
  have HK3 := Lib.hid ((hb3.block _ (heap_lt HK2.out)).trans HK2.out)
  have HBK3 := Lib.hid ((HBK2.out.below hb3).mono hb3.size)
  have hwm : w1.heap.size < w3.heap.size := by have := heap_lt HK2.out; omega
  clear hb3 k0 k1 k2 k3 hs3
  gi_wp2_with fail
  gi_loopw [29] (fun i wr => ∃ k : Nat, k ≤ M ∧ i = .int .i64 k ∧ Hid (wr.heap[w3.heap.size + 1]? = some (.cells #[.slice (some ⟨w3.heap.size, 0, none⟩) M M] 106)) ∧ Hid (MakeSt w3 w3.heap.size (w3.heap.size + 2) M k wr)) (fun i _ => M - (intOf i).toNat)
  case atStart => exact ⟨0, Nat.zero_le _, rfl, heap_new1 _ _ _, ⟨_, heap_old1 _ _ _, by simp [size_madeCells], fun i hi => absurd hi (Nat.not_lt_zero _), fun i _ hi => made_get hi⟩, fun i hi => absurd hi (Nat.not_lt_zero _), by simp, by go_grown⟩
  case round =>
    obtain ⟨k, hk, rfl, hbx, hmk1⟩ := hrel
    have hk0 : (0 : Int) ≤ (k : Nat) := by omega
    obtain ⟨d1, d2⟩ := cell1_of hbx.out
    by_cases hlt : k < M
    · have hlt' : ((k : Nat) : Int) < (M : Int) := by omega
      obtain ⟨arr, r1, r2, r3, r4⟩ := hmk1.out.row
      have f1 : (wr.alloc (.map #[] 0)).frozen? ⟨w3.heap.size, k, none⟩ = false := by
        have hs := hmk1.out.size
        have e := (Below.heap_alloc wr (.map #[] 0) _ (show w3.heap.size < wr.heap.size by omega)).trans r1
        simp [World.frozen?, e]
      have e1 : ∃ v, (wr.alloc (.map #[] 0)).cell? ⟨w3.heap.size, k, none⟩ = some v := by
        have hs := hmk1.out.size
        have e := (Below.heap_alloc wr (.map #[] 0) _ (show w3.heap.size < wr.heap.size by omega)).trans r1
        exact ⟨_, by simp only [World.cell?, e]; exact r4 k (Nat.le_refl _) hlt⟩
      obtain ⟨v, e1⟩ := e1
      clear r1 r2 r3 r4
      gi_wp2_with fail
      have hst := hmk1.out.step hlt (by omega) (Nat.le_refl _)
      rw [← hmk1.out.size] at hst
      exact ⟨⟨k + 1, by omega, by go_num, (heap_setCell_other (by show w3.heap.size ≠ w3.heap.size + 1; omega)).trans ((Below.heap_alloc _ _ _ (heap_lt hbx.out)).trans hbx.out), hst⟩, by simp [intOf]; omega⟩
    · obtain rfl : M = k := by omega
      obtain ⟨w5, hw5⟩ : ∃ w5, w5 = wr := ⟨_, rfl⟩
      subst hw5
      have hs4 := hmk1.out.size
      have hkb := hmk1.out.kept
      have hkr : w5.heap[w1.heap.size]? = _ := (hkb.block _ hwm).trans HK3.out
      obtain ⟨w4, hw4⟩ : ∃ w4, w4 = w5.alloc (.cells #[.bool false] 4) := ⟨_, rfl⟩
      have hst4 : w4.heap.size = w5.heap.size + 1 := by rw [hw4]; simp
      have hb4 : Below w5.heap.size w5 w4 := by rw [hw4]; exact (Below.refl _ _).alloc (Nat.le_refl _) _
      have hf4 : w4.heap[w5.heap.size]? = some (.cells #[.bool false] 4) := by rw [hw4]; exact heap_new _ _
      have hk4 := (hb4.block _ (heap_lt hkr)).trans hkr
      obtain ⟨k0, k1, k2, k3, _⟩ := box4f hk4
      rw [hw4] at k0 k1 k2 k3
      have HS4 := Lib.hid hs4
      have HST4 := Lib.hid hst4
      clear hs4 hst4
      gi_wp2_with fail
      rw [← hw4]
      have hs4 := HS4.out
      have hst4 := HST4.out
      clear hw4 k0 k1 k2 k3 d1 d2
      have HT4 := Lib.hid ((hb4.block _ (heap_lt hbx.out)).trans hbx.out)
      have HK4 := Lib.hid hk4
      have hb34 := hkb.trans (hb4.mono (by omega))
      have hbk4 := HBK3.out.below hb34
      have hR4 := hmk1.out.row
      have hC0 : CountsAt C (w3.heap.size + 2) M (fun _ => 0) (fun _ => []) w4 := fun i hi => map_far (hmk1.out.maps i hi) (hb4.block _ (hmk1.out.maps i hi).lt)
      have HB4 := Lib.hid (HB3.out.trans (hb34.mono HB3.out.size))
      have HR4 := Lib.hid (show ∃ arr, w4.heap[w3.heap.size]? = some (.cells arr 107) ∧ arr.size = M ∧ ∀ i, i < M → arr[i]? = some (.map (some (w3.heap.size + 2 + i))) from by
        obtain ⟨arr, r1, r2, r3, _⟩ := hR4
        exact ⟨arr, (hb4.block _ (heap_lt r1)).trans r1, r2, r3⟩)
      clear hR4 hkr hkb hbx hk4
      have hown1 : ∀ (s : List (List Int)) (A A' : World), FoundAt C w5.heap.size (w3.heap.size + 2) M s A → KeptBut (fun r => r = w4.heap.size ∨ r = w4.heap.size + 1 ∨ ∃ c ∈ [2, 3, C.deeds.length + 5, C.deeds.length + 6], r = w4.heap.size + 2 + c) A A' → FoundAt C w5.heap.size (w3.heap.size + 2) M s A' := fun s A A' h hk =>
        ⟨(hk.block _ (heap_lt h.1) (by rintro (h | h | ⟨c, hc, h⟩) <;> omega)).trans h.1, h.2.kept (fun r hr h1 h2 => hk.block _ hr (by rintro (h | h | ⟨c, hc, h⟩) <;> omega))⟩
      have HOWN := Lib.hid (fun r (h : r = w5.heap.size ∨ w3.heap.size + 2 ≤ r ∧ r < w3.heap.size + 2 + M) => (show w3.heap.size + 2 ≤ r ∧ r < w4.heap.size by rcases h with h | h <;> omega))
      have HBK4 := Lib.hid hbk4
      refine wpIn_truths F hF hd hro hfn (by omega) _ _ _ C rfl HV'.out w3.heap.size hbk4 (by omega) rfl (fun r => r = w5.heap.size ∨ w3.heap.size + 2 ≤ r ∧ r < w3.heap.size + 2 + M) (fun r hr => by have := HOWN.out r hr; omega)
        (FoundAt C w5.heap.size (w3.heap.size + 2) M) (fun _ _ _ => False) hown1 (fun _ _ _ _ h _ => h) ⟨hf4, hC0⟩
        (fun tm _ x => { tmps := (tm.setIfInBounds 39 (pastV C.deeds.length (w4.heap.size + 2 + C.deeds.length + 5))).setIfInBounds 9 (pastV C.deeds.length (w4.heap.size + 2 + C.deeds.length + 5)), defers := [] }) (fun V _ => V) (fun W x => Below.refl _ _) ?assign ?body ?done ?stop
      case assign =>
        intro l x W K hK
        generalize pastV C.deeds.length (w4.heap.size + 2 + C.deeds.length + 5) = pv at hK ⊢
        clear hs4 hst4
        gi_wp2
        exact hK
      case body =>
        intro l pre x V U hpre hI hkb hpast hV2 hkl
        have hlen : pre.length + 1 ≤ 4096 := by have h1 := hpre.length_le; have h2 := HLT.out; simp only [List.length_append, List.length_cons, List.length_nil] at h1; omega
        obtain ⟨d1, d2⟩ := cell1_of hI.1
        have hsU := hkb.size
        have hU1b : KeptBut (fun r => r = w5.heap.size) U (U.setCell ⟨w5.heap.size, 0, none⟩ (.bool true)) := KeptBut.setCell _ _ _ rfl
        have hp1 : PastTo C.deeds.length (w4.heap.size + 2 + C.deeds.length + 5) (w4.heap.size + 2 + C.deeds.length + 6) (story C.deeds x) C.deeds.length (U.setCell ⟨w5.heap.size, 0, none⟩ (.bool true)) := hpast.kept hU1b (by omega) (by omega)
        have hcall := last_any C.deeds.length _ _ (story C.deeds x) _ HND.out hp1
        have HCALL := Lib.hid hcall
        have HP1 := Lib.hid hp1
        have HI := Lib.hid hI
        have HKB := Lib.hid hkb
        have HPL := Lib.hid hlen
        clear hcall hp1 hpast hI hkb hV2 hkl hpre hown1 hC0 hbk4 hU1b hs4 hst4
        obtain ⟨pv, hpv⟩ : ∃ pv, pastV C.deeds.length (w4.heap.size + 2 + C.deeds.length + 5) = pv := ⟨_, rfl⟩
        rw [hpv] at HCALL ⊢
        clear hpv
        obtain ⟨q0, hq0⟩ : ∃ q0, (!pre.isEmpty) = q0 := ⟨_, rfl⟩
        rw [hq0] at d1
        clear hq0
        gi_wp2_with fail
        refine (CallsIn.inRound l (inF hF HCALL.out)).mono ?_
        rintro e U2 ⟨rfl, rfl⟩
        have hsl := HSN.out x
        rw [hsl]
        clear hsl HCALL d1 d2
        gi_wp2_with fail
        obtain ⟨U2, hU2⟩ : ∃ U2, U2 = U.setCell ⟨w5.heap.size, 0, none⟩ (.bool true) := ⟨_, rfl⟩
        have hF2 : U2.heap[w5.heap.size]? = some (.cells #[.bool true] 4) := by rw [hU2]; exact set_box _ HI.out.1
        have hk2 : KeptBut (fun r => r = w5.heap.size) U U2 := by rw [hU2]; exact KeptBut.setCell _ _ _ rfl
        have hC2 := (HI.out.2.kept (W' := U2) (fun r hr h1 h2 => hk2.block r hr (by have := HS4.out; omega))).begin (x := x)
        rw [← hU2] at HP1 ⊢
        have HKU2 := Lib.hid (HKB.out.trans (hk2.mono (fun _ _ h => .inl h)))
        have HF2 := Lib.hid hF2
        have HKUU := Lib.hid (hk2.mono (own' := fun r => r = w5.heap.size ∨ w3.heap.size + 2 ≤ r ∧ r < w3.heap.size + 2 + M) (fun _ _ h => .inl h))
        have HC2 := Lib.hid hC2
        clear hU2 hF2 hk2 hC2
        gi_loopw [43] (fun i wr => ∃ j : Nat, j ≤ M ∧ i = .int .i64 j ∧ Hid (CountsAt C (w3.heap.size + 2) M (fun i => if i < j then pre.length + 1 else pre.length) (fun i => if i < j then marksL C i (pre ++ [x]) else marksL C i pre) wr) ∧ Hid (KeptBut (fun r => w3.heap.size + 2 ≤ r ∧ r < w3.heap.size + 2 + M) U2 wr)) (fun i _ => M - (intOf i).toNat)
        case atStart => exact ⟨0, Nat.zero_le _, rfl, HC2.out, KeptBut.refl _ _⟩
        case round =>
          obtain ⟨j, hj, rfl, hcn, hkb2⟩ := hrel
          have hj0 : (0 : Int) ≤ (j : Nat) := by omega
          by_cases hjl : j < M
          · have hjl' : ((j : Nat) : Int) < (M : Int) := by omega
            have hkw := HKU2.out.trans (hkb2.out.mono (fun _ _ h => .inr h))
            have hbw : Below w3.heap.size w4 wr := hkw.below (by have := HST4.out; have := HS4.out; omega) (fun r hr => by have := HOWN.out r hr; omega)
            have hpw := HP1.out.kept hkb2.out (by have := HST4.out; have := HS4.out; omega) (by have := HST4.out; have := HS4.out; omega)
            obtain ⟨hbm, q, hq, hmk⟩ := markAt HN.out HV'.out (HBK4.out.below hbw) hpw (show j < (story C.deeds x C.deeds.length).length by rw [HSN.out]; exact hjl)
            have hbook := (hkw.block w1.heap.size (heap_lt HK4.out) (by have := HS4.out; omega)).trans HK4.out
            have htb := (hkw.block (w3.heap.size + 1) (heap_lt HT4.out) (by have := HS4.out; omega)).trans HT4.out
            obtain ⟨arr, ha, has, harr⟩ := HR4.out
            have hrow := (hkw.block w3.heap.size (heap_lt ha) (by have := HS4.out; omega)).trans ha
            have c0 := hmk.lk
            have hq0 : (0 : Int) ≤ (q : Nat) := by omega
            have hq1 : ((q : Nat) : Int) < (N : Int) := by omega
            have HMK := Lib.hid hmk
            have HT6 := Lib.hid (cell1_of htb).1
            have HRW := Lib.hid (show wr.cell? ⟨w3.heap.size, j, none⟩ = some (.map (some (w3.heap.size + 2 + j))) by simp only [World.cell?, hrow]; exact harr j hjl)
            have HBC := Lib.hid (box4f hbook).2.2.2.1
            have ht6l := block_lt_of_cell HT6.out
            have hrwl := block_lt_of_cell HRW.out
            have hbkl := block_lt_of_cell HBC.out
            have hm0l := block_lt_of_cell hmk.bar
            have HKW := Lib.hid hkw
            clear hkw hbw hpw hbook htb ha has harr hrow hmk
            gi_wp2_with fail
            refine wpIn_region_factsA _ 9 [48, 49, 50, 51, 52, 53, 54, 55, 56] [isV (.slice (some ⟨w3.heap.size, 0, none⟩) M M), isV (.int .i64 (j : Int)), isV (.pointer (some ⟨w3.heap.size, j, none⟩)), isV (.map (some (w3.heap.size + 2 + j))), isV (.pointer (some ⟨w1.heap.size, 3, none⟩)), isV (.slice (some ⟨bm, 0, none⟩) N 12), isV (.int .i64 (q : Int)), isV (.pointer (some ⟨bm, q * 2, none⟩)), isV (.agg #[.int .i64 (barOf C j x), .int .i64 (smithOf C j x)])] (by kernel_rfl) (by kernel_rfl) rfl (by decide) (by decide) (by simp) ?step ?rest
            case step =>
              intro i ac W d hi hd hb hoff hdep
              have z0 := (hb.cell ht6l).trans HT6.out
              have z1 := (hb.cell hrwl).trans HRW.out
              have z2 := (hb.cell hbkl).trans HBC.out
              have z3 := (hb.cell hm0l).trans HMK.out.bar
              have z4 := (hb.cell hm0l).trans HMK.out.smith
              have hi2 : i = 0 ∨ i = 1 ∨ i = 2 ∨ i = 3 ∨ i = 4 ∨ i = 5 ∨ i = 6 ∨ i = 7 ∨ i = 8 := by omega
              rcases hi2 with rfl | rfl | rfl | rfl | rfl | rfl | rfl | rfl | rfl
              · obtain rfl : 48 = d := by simpa using hd
                have q6 : ac.tmps[6]?.getD undef = .pointer (some ⟨w3.heap.size + 1, 0, none⟩) := (eval_tmp _ _).symm.trans <| (hoff 6 (by decide)).trans rfl
                refine fact_valueIn (fun f => hfn f) rfl (by intro c h; cases h) rfl rfl (v := .slice (some ⟨w3.heap.size, 0, none⟩) M M) (W' := W) ?_ (Below.refl _ _) rfl
                simp only [execOp]
                go_simp
              · obtain rfl : 49 = d := by simpa using hd
                have q10 : ac.tmps[10]?.getD undef = .int .i64 (j : Int) := (eval_tmp _ _).symm.trans <| (hoff 10 (by decide)).trans rfl
                refine fact_valueIn (fun f => hfn f) rfl (by intro c h; cases h) rfl rfl (v := .int .i64 (j : Int)) (W' := W) ?_ (Below.refl _ _) rfl
                simp only [execOp]
                go_simp
              · obtain rfl : 50 = d := by simpa using hd
                have q48 : ac.tmps[48]?.getD undef = .slice (some ⟨w3.heap.size, 0, none⟩) M M := (eval_tmp _ _).symm.trans (hdep 0 48 rfl rfl)
                have q49 : ac.tmps[49]?.getD undef = .int .i64 (j : Int) := (eval_tmp _ _).symm.trans (hdep 1 49 rfl rfl)
                refine fact_valueIn (fun f => hfn f) rfl (by intro c h; cases h) rfl rfl (v := .pointer (some ⟨w3.heap.size, j, none⟩)) (W' := W) ?_ (Below.refl _ _) rfl
                simp only [execOp]
                go_simp
              · obtain rfl : 51 = d := by simpa using hd
                have q50 : ac.tmps[50]?.getD undef = .pointer (some ⟨w3.heap.size, j, none⟩) := (eval_tmp _ _).symm.trans (hdep 2 50 rfl rfl)
                refine fact_valueIn (fun f => hfn f) rfl (by intro c h; cases h) rfl rfl (v := .map (some (w3.heap.size + 2 + j))) (W' := W) ?_ (Below.refl _ _) rfl
                simp only [execOp]
                go_simp
              · obtain rfl : 52 = d := by simpa using hd
                have q4 : ac.tmps[4]?.getD undef = .pointer (some ⟨w1.heap.size, 0, none⟩) := (eval_tmp _ _).symm.trans <| (hoff 4 (by decide)).trans rfl
                refine fact_valueIn (fun f => hfn f) rfl (by intro c h; cases h) rfl rfl (v := .pointer (some ⟨w1.heap.size, 3, none⟩)) (W' := W) ?_ (Below.refl _ _) rfl
                simp only [execOp]
                go_simp
              · obtain rfl : 53 = d := by simpa using hd
                have q52 : ac.tmps[52]?.getD undef = .pointer (some ⟨w1.heap.size, 3, none⟩) := (eval_tmp _ _).symm.trans (hdep 4 52 rfl rfl)
                refine fact_valueIn (fun f => hfn f) rfl (by intro c h; cases h) rfl rfl (v := .slice (some ⟨bm, 0, none⟩) N 12) (W' := W) ?_ (Below.refl _ _) rfl
                simp only [execOp]
                go_simp
              · obtain rfl : 54 = d := by simpa using hd
                have q11 : ac.tmps[11]?.getD undef = .int .i64 (q : Int) := (eval_tmp _ _).symm.trans <| (hoff 11 (by decide)).trans rfl
                refine fact_valueIn (fun f => hfn f) rfl (by intro c h; cases h) rfl rfl (v := .int .i64 (q : Int)) (W' := W) ?_ (Below.refl _ _) rfl
                simp only [execOp]
                go_simp
              · obtain rfl : 55 = d := by simpa using hd
                have q53 : ac.tmps[53]?.getD undef = .slice (some ⟨bm, 0, none⟩) N 12 := (eval_tmp _ _).symm.trans (hdep 5 53 rfl rfl)
                have q54 : ac.tmps[54]?.getD undef = .int .i64 (q : Int) := (eval_tmp _ _).symm.trans (hdep 6 54 rfl rfl)
                refine fact_valueIn (fun f => hfn f) rfl (by intro c h; cases h) rfl rfl (v := .pointer (some ⟨bm, q * 2, none⟩)) (W' := W) ?_ (Below.refl _ _) rfl
                simp only [execOp]
                go_simp
              · obtain rfl : 56 = d := by simpa using hd
                have q55 : ac.tmps[55]?.getD undef = .pointer (some ⟨bm, q * 2, none⟩) := (eval_tmp _ _).symm.trans (hdep 7 55 rfl rfl)
                refine fact_valueIn (fun f => hfn f) rfl (by intro c h; cases h) rfl rfl (v := .agg #[.int .i64 (barOf C j x), .int .i64 (smithOf C j x)]) (W' := W) ?_ (Below.refl _ _) rfl
                simp only [execOp]
                go_simp
            case rest =>
              intro vs W5 hvl hb5 hval
              obtain ⟨u0, u1, u2, u3, u4, u5, u6, u7, u8, rfl⟩ : ∃ u0 u1 u2 u3 u4 u5 u6 u7 u8, vs = [u0, u1, u2, u3, u4, u5, u6, u7, u8] := by
                match vs, hvl with
                | [u0, u1, u2, u3, u4, u5, u6, u7, u8], _ => exact ⟨u0, u1, u2, u3, u4, u5, u6, u7, u8, rfl⟩
              obtain rfl : u0 = .slice (some ⟨w3.heap.size, 0, none⟩) M M := by obtain ⟨u, e, h⟩ := hval 0 (by omega); have e2 : some u0 = some u := e; injection e2 with e2; subst e2; exact h
              obtain rfl : u1 = .int .i64 (j : Int) := by obtain ⟨u, e, h⟩ := hval 1 (by omega); have e2 : some u1 = some u := e; injection e2 with e2; subst e2; exact h
              obtain rfl : u2 = .pointer (some ⟨w3.heap.size, j, none⟩) := by obtain ⟨u, e, h⟩ := hval 2 (by omega); have e2 : some u2 = some u := e; injection e2 with e2; subst e2; exact h
              obtain rfl : u3 = .map (some (w3.heap.size + 2 + j)) := by obtain ⟨u, e, h⟩ := hval 3 (by omega); have e2 : some u3 = some u := e; injection e2 with e2; subst e2; exact h
              obtain rfl : u4 = .pointer (some ⟨w1.heap.size, 3, none⟩) := by obtain ⟨u, e, h⟩ := hval 4 (by omega); have e2 : some u4 = some u := e; injection e2 with e2; subst e2; exact h
              obtain rfl : u5 = .slice (some ⟨bm, 0, none⟩) N 12 := by obtain ⟨u, e, h⟩ := hval 5 (by omega); have e2 : some u5 = some u := e; injection e2 with e2; subst e2; exact h
              obtain rfl : u6 = .int .i64 (q : Int) := by obtain ⟨u, e, h⟩ := hval 6 (by omega); have e2 : some u6 = some u := e; injection e2 with e2; subst e2; exact h
              obtain rfl : u7 = .pointer (some ⟨bm, q * 2, none⟩) := by obtain ⟨u, e, h⟩ := hval 7 (by omega); have e2 : some u7 = some u := e; injection e2 with e2; subst e2; exact h
              obtain rfl : u8 = .agg #[.int .i64 (barOf C j x), .int .i64 (smithOf C j x)] := by obtain ⟨u, e, h⟩ := hval 8 (by omega); have e2 : some u8 = some u := e; injection e2 with e2; subst e2; exact h
              clear hval hvl
              have hm := hcn.out j hjl
              simp only [if_neg (Nat.lt_irrefl j)] at hm
              have hcs := fun (W : World) h1 h2 => hcn.out.step (W' := W) hjl h1 h2
              obtain ⟨ms, hms⟩ : ∃ ms, marksL C j pre = ms := ⟨_, rfl⟩
              obtain ⟨md, hmd⟩ : ∃ md, markOf C j x = md := ⟨_, rfl⟩
              have hok := HOKM.out j hjl pre
              have hokn := HOKM.out j hjl (pre ++ [x])
              rw [marksL_snoc] at hokn
              have hmv : Value.agg #[.int .i64 (barOf C j x), .int .i64 (smithOf C j x)] = markV md := by rw [← hmd]; rfl
              have hml : ms.length ≤ 4096 := by rw [← hms, marksL_len]; omega
              rw [hms] at hm hok hokn hcs
              rw [hmd] at hokn hcs
              have hokd := hokn md (.head _)
              have hcm := cntM_le md ms
              rw [hmv]
              obtain ⟨v0, sv, Wa, Wb, rL0, rL1, rE, rS, hown2, hgr⟩ := incr_runs (c := (cntM md ms : Nat)) (c1 := (cntM md ms + 1 : Nat)) mark_klaw Try.underlying107 Try.underlying3 zero_int (map_below hm hb5) (datM_map ms) (by unfold maxLen; omega) (key_mark (m := md) hokd) (datM_at hokd hok) (wf_nat (by omega))
              have hwr : IntKind.i64.wrap (((cntM md ms : Nat) : Int) + 1) = ((cntM md ms + 1 : Nat) : Int) := by rw [IntWalk.i64_in _ (by omega)]; omega
              have HCS := Lib.hid (hcs Wb hown2 (fun r hr hne => (hgr.block r (by have := hb5.size; omega) (by intro h; injection h with h; exact hne h)).trans (hb5.block r hr)))
              have HKB2 := Lib.hid (hkb2.out.trans ((KeptBut.of_below hb5).trans (KeptBut.grown (own := fun r => w3.heap.size + 2 ≤ r ∧ r < w3.heap.size + 2 + M) hgr (fun r hr => by injection hr with hr; omega))))
              simp only [putL, Act.put, List.setIfInBounds_toArray, List.set_cons_zero, List.set_cons_succ]
              refine wpAnyIn_incr (n := 9) (sL := 57) (sA := 58) (sE := 59) (sX := 60) (mo := .tmp 51) (xo := .tmp 56) (t := 107) (mv := .map (some (w3.heap.size + 2 + j))) (key := markV md) (c := (cntM md ms : Nat)) (c1 := (cntM md ms + 1 : Nat)) (v0 := v0) (sv := sv) (W1 := Wa) (W2 := Wb) (fun f => hfn f) (by kernel_rfl) rfl rfl rfl rfl rfl (by intro c h; cases h) (by intro c h; cases h) (by intro c h; cases h) (by intro c h; cases h) (by intro c h; cases h) rfl rfl rfl rfl rfl rfl rfl rfl rfl rfl (by decide) (by simp) ?rL ?rA ?rE ?rX ?rS ?hmo ?hxo ?fin
              case rL =>
                intro a W h1 h2 hW
                rcases hW with rfl | rfl
                · simp [execOp, h1, h2, rL0]
                · simp [execOp, h1, h2, rL1]
              case rA =>
                intro a W h1
                have q57 : a.tmps[57]?.getD undef = .int .i64 ((cntM md ms : Nat) : Int) := (eval_tmp _ _).symm.trans h1
                rw [← hwr]
                simp only [execOp]
                go_simp
              case rE =>
                intro a h1 h2
                simp [execOp, h1, h2, rE]
              case rX =>
                intro a W h1
                have q59 : a.tmps[59]?.getD undef = .tuple #[v0, sv] := (eval_tmp _ _).symm.trans h1
                simp only [execOp]
                go_simp
              case rS =>
                intro a h1 h2 h3
                have rS' := rS
                push_cast at rS'
                simp [execOp, h1, h2, h3, rS']
              case hmo => exact fun vs => (putL_off (by decide)).trans rfl
              case hxo => exact fun vs => (putL_off (by decide)).trans rfl
              case fin =>
                clear rL0 rL1 rE rS hown2 hgr hwr hm hcs hok hokn hms hmd hmv c0 hb5
                simp only [putL, Act.put, List.setIfInBounds_toArray, List.set_cons_zero, List.set_cons_succ]
                gi_wp2_with fail
                exact ⟨⟨j + 1, by omega, by go_num, HCS.out, HKB2.out⟩, by simp [intOf]; omega⟩
          · obtain rfl : M = j := by omega
            gi_wp2_with fail
            refine ⟨HKUU.out.trans (hkb2.out.mono (fun _ _ h => .inr h)), ?_, ?_⟩
            · refine (hkb2.out.block _ (heap_lt HF2.out) (by have := HS4.out; omega)).trans (HF2.out.trans ?_)
              simp
            · have := hcn.out.ending
              rw [show (pre ++ [x]).length = pre.length + 1 by simp]
              exact this
      case done =>
        rintro _ W rfl hkb hI hK
        have hbd : Below w3.heap.size w4 W := hkb.below (by have := HST4.out; have := HS4.out; omega) (fun r hr => by have := HOWN.out r hr; omega)
        have hfin : Below w.heap.size w W := HB4.out.trans (hbd.mono (by have := HB3.out.size; omega))
        have htb := (hkb.block (w3.heap.size + 1) (heap_lt HT4.out) (by have := HS4.out; omega)).trans HT4.out
        obtain ⟨arr, ha, has, harr⟩ := HR4.out
        have hrow := (hkb.block w3.heap.size (heap_lt ha) (by have := HS4.out; omega)).trans ha
        have HFIN := Lib.hid hfin
        have HTB := Lib.hid htb
        have HROW := Lib.hid (show ∀ j, j < M → W.cell? ⟨w3.heap.size, j, none⟩ = some (.map (some (w3.heap.size + 2 + j))) from fun j hj => by simp only [World.cell?, hrow]; exact harr j hj)
        have HI := Lib.hid hI
        have HK := Lib.hid hK
        obtain ⟨d1, d2⟩ := cell1_of hI.1
        obtain ⟨f1, f2⟩ := cell1_of htb
        have hd0 := hd
        have hDW := heap_lt hK
        have hDw : w.heap.size ≤ w4.heap.size := HB4.out.size
        obtain ⟨z, hz⟩ : ∃ z, (truthsP C).isEmpty = z := ⟨_, rfl⟩
        rw [hz] at d1
        have HZ := Lib.hid hz
        clear hbd hfin htb ha has harr hrow hI hK hkb hs4 hst4 hown1 hC0 hbk4 hf4 hb4 hb34 hz
        cases z
        · by_cases hM0 : M = 0
          · have hM1 : ((M : Int) == 0) = true := by simp; omega
            gi_wp2_with fail
            refine ⟨by simp, .inl ⟨_, _, rfl, run_takeDeferred HK.out, ?_⟩⟩
            exact ⟨_, results_tmp2 rfl _ _ _, by rw [← HRV.out, ← HRE.out, nxV, nxE, if_pos (.inr hM0), if_pos (.inr hM0)]; rfl, HFIN.out.trans (putObj_below _ _ hDw)⟩
          · have hM1 : ((M : Int) == 0) = false := by simp; omega
            obtain ⟨g, hg⟩ : ∃ g : Nat → Nat, (fun k => mostM (marksL C k (truthsP C))) = g := ⟨_, rfl⟩
            have HG := Lib.hid hg
            have HGR := Lib.hid (fun (k : Nat) (hk : k < M) (W1 : World) (hb : Below W.heap.size W W1) => show Calls Try.prog 94 #[.map (some (w3.heap.size + 2 + k))] W1 fun e w' => e = .returned (.int .i64 ((g k : Nat) : Int)) ∧ Below W1.heap.size W1 w' by
              have := greatest_any (w3.heap.size + 2 + k) _ (marksL C k (truthsP C)) (HOKM.out k hk _) (by rw [marksL_len]; exact HLT.out) W1 (map_below (HI.out.2 k hk) hb)
              rw [← hg]
              exact this)
            have hMp : 0 < M := by omega
            clear hg hM0
            gi_wp2_with fail
            gi_loopw [12, 71] (fun om oi wr => ∃ k : Nat, k ≤ M ∧ oi = .int .i64 k ∧ om = .int .i64 ((amin g k : Nat) : Int) ∧ Hid (Below W.heap.size W wr)) (fun _ i _ => M - (intOf i).toNat)
            case atStart => exact ⟨0, Nat.zero_le _, rfl, rfl, Below.refl _ _⟩
            case round =>
              obtain ⟨k, hk, rfl, rfl, HBL⟩ := hrel
              have hk0 : (0 : Int) ≤ (k : Nat) := by omega
              have hm : amin g k < M := by
                cases k with
                | zero => exact hMp
                | succ k => have := amin_lt g k; omega
              obtain ⟨m, hmm2⟩ : ∃ m, amin g k = m := ⟨_, rfl⟩
              rw [hmm2] at hm ⊢
              have HMM := Lib.hid hmm2
              clear hmm2
              have hm0 : (0 : Int) ≤ (m : Nat) := by omega
              have hm1 : ((m : Nat) : Int) < (M : Int) := by omega
              have HT6 := Lib.hid (cell1_of ((HBL.out.block _ (heap_lt HTB.out)).trans HTB.out)).1
              have ht6l := block_lt_of_cell HT6.out
              have HRW := Lib.hid (show ∀ j, j < M → wr.cell? ⟨w3.heap.size, j, none⟩ = some (.map (some (w3.heap.size + 2 + j))) from fun j hj => (HBL.out.cell (block_lt_of_cell (HROW.out j hj))).trans (HROW.out j hj))
              have hrwm := block_lt_of_cell (HRW.out m hm)
              by_cases hlt : k < M
              · have hlt' : ((k : Nat) : Int) < (M : Int) := by omega
                have hrwl := block_lt_of_cell (HRW.out k hlt)
                clear d1 d2 f1 f2
                gi_wp2_with fail
                refine wpIn_region_factsA _ 11 [74, 75, 76, 77, 78, 79, 80, 81, 82, 83, 84] [isV (.slice (some ⟨w3.heap.size, 0, none⟩) M M), isV (.int .i64 (k : Int)), isV (.pointer (some ⟨w3.heap.size, k, none⟩)), isV (.map (some (w3.heap.size + 2 + k))), isV (.int .i64 ((g k : Nat) : Int)), isV (.slice (some ⟨w3.heap.size, 0, none⟩) M M), isV (.int .i64 (m : Int)), isV (.pointer (some ⟨w3.heap.size, m, none⟩)), isV (.map (some (w3.heap.size + 2 + m))), isV (.int .i64 ((g m : Nat) : Int)), isV (.bool (decide (((g k : Nat) : Int) < ((g m : Nat) : Int))))] (by kernel_rfl) (by kernel_rfl) rfl (by decide) (by decide) (by simp) ?step ?rest
                case step =>
                  intro i ac W1 d hi hd hb hoff hdep
                  have z0 := (hb.cell ht6l).trans HT6.out
                  have z1 := (hb.cell hrwl).trans (HRW.out k hlt)
                  have z2 := (hb.cell hrwm).trans (HRW.out m hm)
                  have hi2 : i = 0 ∨ i = 1 ∨ i = 2 ∨ i = 3 ∨ i = 4 ∨ i = 5 ∨ i = 6 ∨ i = 7 ∨ i = 8 ∨ i = 9 ∨ i = 10 := by omega
                  rcases hi2 with rfl | rfl | rfl | rfl | rfl | rfl | rfl | rfl | rfl | rfl | rfl
                  · obtain rfl : 74 = d := by simpa using hd
                    have q6 : ac.tmps[6]?.getD undef = .pointer (some ⟨w3.heap.size + 1, 0, none⟩) := (eval_tmp _ _).symm.trans <| (hoff 6 (by decide)).trans rfl
                    refine fact_valueIn (fun f => hfn f) rfl (by intro c h; cases h) rfl rfl (v := .slice (some ⟨w3.heap.size, 0, none⟩) M M) (W' := W1) ?_ (Below.refl _ _) rfl
                    simp only [execOp]
                    go_simp
                  · obtain rfl : 75 = d := by simpa using hd
                    have q13 : ac.tmps[13]?.getD undef = .int .i64 (k : Int) := (eval_tmp _ _).symm.trans <| (hoff 13 (by decide)).trans rfl
                    refine fact_valueIn (fun f => hfn f) rfl (by intro c h; cases h) rfl rfl (v := .int .i64 (k : Int)) (W' := W1) ?_ (Below.refl _ _) rfl
                    simp only [execOp]
                    go_simp
                  · obtain rfl : 76 = d := by simpa using hd
                    have q74 : ac.tmps[74]?.getD undef = .slice (some ⟨w3.heap.size, 0, none⟩) M M := (eval_tmp _ _).symm.trans (hdep 0 74 rfl rfl)
                    have q75 : ac.tmps[75]?.getD undef = .int .i64 (k : Int) := (eval_tmp _ _).symm.trans (hdep 1 75 rfl rfl)
                    refine fact_valueIn (fun f => hfn f) rfl (by intro c h; cases h) rfl rfl (v := .pointer (some ⟨w3.heap.size, k, none⟩)) (W' := W1) ?_ (Below.refl _ _) rfl
                    simp only [execOp]
                    go_simp
                  · obtain rfl : 77 = d := by simpa using hd
                    have q76 : ac.tmps[76]?.getD undef = .pointer (some ⟨w3.heap.size, k, none⟩) := (eval_tmp _ _).symm.trans (hdep 2 76 rfl rfl)
                    refine fact_valueIn (fun f => hfn f) rfl (by intro c h; cases h) rfl rfl (v := .map (some (w3.heap.size + 2 + k))) (W' := W1) ?_ (Below.refl _ _) rfl
                    simp only [execOp]
                    go_simp
                  · obtain rfl : 78 = d := by simpa using hd
                    have q77 : ac.tmps[77]?.getD undef = .map (some (w3.heap.size + 2 + k)) := (eval_tmp _ _).symm.trans (hdep 3 77 rfl rfl)
                    refine fact_callIn (fun f => hfn f) hd0 rfl (by intro c h; cases h) rfl rfl (f := 94) (args := #[.map (some (w3.heap.size + 2 + k))]) ?_ ?_
                    · simp only [execOp]
                      go_simp
                    · refine (inF hF (HGR.out k hlt W1 (HBL.out.trans (hb.mono HBL.out.size)))).mono ?_
                      rintro e W2 ⟨rfl, hb2⟩
                      exact ⟨_, rfl, hb2, rfl⟩
                  · obtain rfl : 79 = d := by simpa using hd
                    have q6 : ac.tmps[6]?.getD undef = .pointer (some ⟨w3.heap.size + 1, 0, none⟩) := (eval_tmp _ _).symm.trans <| (hoff 6 (by decide)).trans rfl
                    refine fact_valueIn (fun f => hfn f) rfl (by intro c h; cases h) rfl rfl (v := .slice (some ⟨w3.heap.size, 0, none⟩) M M) (W' := W1) ?_ (Below.refl _ _) rfl
                    simp only [execOp]
                    go_simp
                  · obtain rfl : 80 = d := by simpa using hd
                    have q12 : ac.tmps[12]?.getD undef = .int .i64 (m : Int) := (eval_tmp _ _).symm.trans <| (hoff 12 (by decide)).trans rfl
                    refine fact_valueIn (fun f => hfn f) rfl (by intro c h; cases h) rfl rfl (v := .int .i64 (m : Int)) (W' := W1) ?_ (Below.refl _ _) rfl
                    simp only [execOp]
                    go_simp
                  · obtain rfl : 81 = d := by simpa using hd
                    have q79 : ac.tmps[79]?.getD undef = .slice (some ⟨w3.heap.size, 0, none⟩) M M := (eval_tmp _ _).symm.trans (hdep 5 79 rfl rfl)
                    have q80 : ac.tmps[80]?.getD undef = .int .i64 (m : Int) := (eval_tmp _ _).symm.trans (hdep 6 80 rfl rfl)
                    refine fact_valueIn (fun f => hfn f) rfl (by intro c h; cases h) rfl rfl (v := .pointer (some ⟨w3.heap.size, m, none⟩)) (W' := W1) ?_ (Below.refl _ _) rfl
                    simp only [execOp]
                    go_simp
                  · obtain rfl : 82 = d := by simpa using hd
                    have q81 : ac.tmps[81]?.getD undef = .pointer (some ⟨w3.heap.size, m, none⟩) := (eval_tmp _ _).symm.trans (hdep 7 81 rfl rfl)
                    refine fact_valueIn (fun f => hfn f) rfl (by intro c h; cases h) rfl rfl (v := .map (some (w3.heap.size + 2 + m))) (W' := W1) ?_ (Below.refl _ _) rfl
                    simp only [execOp]
                    go_simp
                  · obtain rfl : 83 = d := by simpa using hd
                    have q82 : ac.tmps[82]?.getD undef = .map (some (w3.heap.size + 2 + m)) := (eval_tmp _ _).symm.trans (hdep 8 82 rfl rfl)
                    refine fact_callIn (fun f => hfn f) hd0 rfl (by intro c h; cases h) rfl rfl (f := 94) (args := #[.map (some (w3.heap.size + 2 + m))]) ?_ ?_
                    · simp only [execOp]
                      go_simp
                    · refine (inF hF (HGR.out m hm W1 (HBL.out.trans (hb.mono HBL.out.size)))).mono ?_
                      rintro e W2 ⟨rfl, hb2⟩
                      exact ⟨_, rfl, hb2, rfl⟩
                  · obtain rfl : 84 = d := by simpa using hd
                    have q78 : ac.tmps[78]?.getD undef = .int .i64 ((g k : Nat) : Int) := (eval_tmp _ _).symm.trans (hdep 4 78 rfl rfl)
                    have q83 : ac.tmps[83]?.getD undef = .int .i64 ((g m : Nat) : Int) := (eval_tmp _ _).symm.trans (hdep 9 83 rfl rfl)
                    refine fact_valueIn (fun f => hfn f) rfl (by intro c h; cases h) rfl rfl (v := .bool (decide (((g k : Nat) : Int) < ((g m : Nat) : Int)))) (W' := W1) ?_ (Below.refl _ _) rfl
                    simp only [execOp]
                    go_simp
                case rest =>
                  intro vs W5 hvl hb5 hval
                  obtain ⟨u0, u1, u2, u3, u4, u5, u6, u7, u8, u9, u10, rfl⟩ : ∃ u0 u1 u2 u3 u4 u5 u6 u7 u8 u9 u10, vs = [u0, u1, u2, u3, u4, u5, u6, u7, u8, u9, u10] := by
                    match vs, hvl with
                    | [u0, u1, u2, u3, u4, u5, u6, u7, u8, u9, u10], _ => exact ⟨u0, u1, u2, u3, u4, u5, u6, u7, u8, u9, u10, rfl⟩
                  obtain rfl : u0 = .slice (some ⟨w3.heap.size, 0, none⟩) M M := by obtain ⟨u, e, h⟩ := hval 0 (by omega); have e2 : some u0 = some u := e; injection e2 with e2; subst e2; exact h
                  obtain rfl : u1 = .int .i64 (k : Int) := by obtain ⟨u, e, h⟩ := hval 1 (by omega); have e2 : some u1 = some u := e; injection e2 with e2; subst e2; exact h
                  obtain rfl : u2 = .pointer (some ⟨w3.heap.size, k, none⟩) := by obtain ⟨u, e, h⟩ := hval 2 (by omega); have e2 : some u2 = some u := e; injection e2 with e2; subst e2; exact h
                  obtain rfl : u3 = .map (some (w3.heap.size + 2 + k)) := by obtain ⟨u, e, h⟩ := hval 3 (by omega); have e2 : some u3 = some u := e; injection e2 with e2; subst e2; exact h
                  obtain rfl : u4 = .int .i64 ((g k : Nat) : Int) := by obtain ⟨u, e, h⟩ := hval 4 (by omega); have e2 : some u4 = some u := e; injection e2 with e2; subst e2; exact h
                  obtain rfl : u5 = .slice (some ⟨w3.heap.size, 0, none⟩) M M := by obtain ⟨u, e, h⟩ := hval 5 (by omega); have e2 : some u5 = some u := e; injection e2 with e2; subst e2; exact h
                  obtain rfl : u6 = .int .i64 (m : Int) := by obtain ⟨u, e, h⟩ := hval 6 (by omega); have e2 : some u6 = some u := e; injection e2 with e2; subst e2; exact h
                  obtain rfl : u7 = .pointer (some ⟨w3.heap.size, m, none⟩) := by obtain ⟨u, e, h⟩ := hval 7 (by omega); have e2 : some u7 = some u := e; injection e2 with e2; subst e2; exact h
                  obtain rfl : u8 = .map (some (w3.heap.size + 2 + m)) := by obtain ⟨u, e, h⟩ := hval 8 (by omega); have e2 : some u8 = some u := e; injection e2 with e2; subst e2; exact h
                  obtain rfl : u9 = .int .i64 ((g m : Nat) : Int) := by obtain ⟨u, e, h⟩ := hval 9 (by omega); have e2 : some u9 = some u := e; injection e2 with e2; subst e2; exact h
                  obtain rfl : u10 = .bool (decide (((g k : Nat) : Int) < ((g m : Nat) : Int))) := by obtain ⟨u, e, h⟩ := hval 10 (by omega); have e2 : some u10 = some u := e; injection e2 with e2; subst e2; exact h
                  clear hval hvl
                  simp only [putL, Act.put, List.setIfInBounds_toArray, List.set_cons_zero, List.set_cons_succ]
                  refine ⟨?_, ?_⟩
                  · kernel_rfl
                  have HB5 := Lib.hid (HBL.out.trans (hb5.mono HBL.out.size))
                  clear hb5
                  clear ht6l hrwl hrwm HRW HT6
                  by_cases hc : ((g k : Nat) : Int) < ((g m : Nat) : Int)
                  · have hnx : amin g (k + 1) = k := by rw [amin, HMM.out, if_pos (by omega)]
                    have HNX := Lib.hid hnx
                    clear hnx
                    gi_wp2_with fail
                    exact ⟨⟨k + 1, by omega, by go_num, by rw [HNX.out], HB5.out⟩, by simp [intOf]; omega⟩
                  · have hnx : amin g (k + 1) = m := by rw [amin, HMM.out, if_neg (by omega)]
                    have HNX := Lib.hid hnx
                    clear hnx
                    gi_wp2_with fail
                    exact ⟨⟨k + 1, by omega, by go_num, by rw [HNX.out], HB5.out⟩, by simp [intOf]; omega⟩
              · obtain rfl : M = k := by omega
                gi_wp2_with fail
                refine ⟨by simp, .inl ⟨_, _, rfl, run_takeDeferred ((HBL.out.block _ hDW).trans HK.out), ?_⟩⟩
                have hpos : ¬ ((truthsP C).isEmpty = true ∨ M = 0) := by rw [HZ.out]; simp; omega
                exact ⟨_, results_tmp2 rfl _ _ _, by rw [← HRV.out, ← HRE.out, nxV, nxE, if_neg hpos, if_neg hpos, HG.out, HMM.out]; rfl, (HFIN.out.trans (HBL.out.mono HFIN.out.size)).trans (putObj_below _ _ hDw)⟩
        · gi_wp2_with fail
          refine ⟨by simp, .inl ⟨_, _, rfl, run_takeDeferred HK.out, ?_⟩⟩
          exact ⟨_, results_tmp2 rfl _ _ _, by rw [← HRV.out, ← HRE.out, nxV, nxE, if_pos (.inl HZ.out), if_pos (.inl HZ.out)]; rfl, HFIN.out.trans (putObj_below _ _ hDw)⟩
      case stop =>
        rintro D c pre W _ _ _ h _
        exact h.elim
end Go.Proofs.Ytgjikoebneiamaa
