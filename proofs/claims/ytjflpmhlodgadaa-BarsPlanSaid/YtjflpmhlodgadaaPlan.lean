/-
  Plan and Least: a truth with the fewest bars.
-/
import Derived.Test.YtjflpmhlodgadaaOf
namespace Go.Proofs.Ytjflpmhlodgadaa
open Go.RowKit Go.Shelf

attribute [local go_sem] Oper.semAt_some

def planF (o : Option (List Int)) (x : List Int) : Option (List Int) :=
  match o with
  | none => some x
  | some p => if usedS x < usedS p then some x else some p
def planL (xs : List (List Int)) : Option (List Int) := xs.foldl planF none
theorem planL_snoc (xs : List (List Int)) (x : List Int) : planL (xs ++ [x]) = planF (planL xs) x := by simp [planL]
def planS (S : Store) : List Int := (planL (truthsL S)).getD []
theorem planL_none {xs : List (List Int)} : planL xs = none ↔ xs.length = 0 := by
  rcases List.eq_nil_or_concat xs with rfl | ⟨ys, y, rfl⟩
  · simp [planL]
  · rw [List.concat_eq_append, planL_snoc]
    simp only [planF, List.length_append, List.length_cons, List.length_nil]
    constructor
    · intro h; split at h
      · cases h
      · split at h <;> cases h
    · intro h; omega

set_option maxHeartbeats 1000000 in
theorem clone_over (b n cap : Nat) (xs : List Int) (w : World) (hn : xs.length = n) (hc : ∀ i, i < xs.length → w.cell? ⟨b, i, none⟩ = some (.int .i64 (nth xs i))) (hlt0 : b < w.heap.size) (hl : n ≤ 100) (hw : ∀ x ∈ xs, I64 x) :
    Calls Try.prog 77 #[.slice (some ⟨b, 0, none⟩) n cap] w (fun e w' => ∃ rv, e = .returned rv ∧ IntsOver w.heap.size w' rv xs ∧ Below w.heap.size w w') :=
  (clone_any b n cap xs w hn hc hlt0 hl hw).mono fun _ _ ⟨rv, h1, h2, h3⟩ => ⟨rv, h1, h2 hw, h3⟩

/-- What the three variables hold. -/
def PlanAt (B1 B2 B3 lo : Nat) (o : Option (List Int)) (W : World) : Prop :=
  match o with
  | none => W.heap[B1]? = some (.cells #[.slice none 0 0] 26) ∧ W.heap[B2]? = some (.cells #[.int .i64 0] 3) ∧ W.heap[B3]? = some (.cells #[.bool false] 4)
  | some p => ∃ v, W.heap[B1]? = some (.cells #[v] 26) ∧ W.heap[B2]? = some (.cells #[.int .i64 (usedS p)] 3) ∧ W.heap[B3]? = some (.cells #[.bool true] 4) ∧ IntsOver lo W v p
theorem PlanAt.grown {B1 B2 B3 lo : Nat} {o : Option (List Int)} {w w' : World} {row : Option Nat} (h : PlanAt B1 B2 B3 lo o w) (hg : w.grownBy w' row) (hr : ∀ r, row = some r → r < lo ∧ r ≠ B1 ∧ r ≠ B2 ∧ r ≠ B3) : PlanAt B1 B2 B3 lo o w' := by
  have hk : ∀ {k : Nat} {ob : Obj}, w.heap[k]? = some ob → (k = B1 ∨ k = B2 ∨ k = B3) → w'.heap[k]? = some ob := fun ho hk =>
    (hg.block _ (Array.getElem?_eq_some_iff.1 ho).1 (fun e => by have := hr _ e.symm; omega)).trans ho
  cases o with
  | none => exact ⟨hk h.1 (.inl rfl), hk h.2.1 (.inr (.inl rfl)), hk h.2.2 (.inr (.inr rfl))⟩
  | some p =>
    obtain ⟨v, h1, h2, h3, h4⟩ := h
    exact ⟨v, hk h1 (.inl rfl), hk h2 (.inr (.inl rfl)), hk h3 (.inr (.inr rfl)), h4.grown hg (fun r e => (hr r e).1)⟩
theorem plan_put {w : World} {B1 B2 B3 lo : Nat} {rv a b c : Value} {x : List Int} (h1 : w.heap[B1]? = some (.cells #[a] 26)) (h2 : w.heap[B2]? = some (.cells #[b] 3)) (h3 : w.heap[B3]? = some (.cells #[c] 4))
    (n12 : B1 ≠ B2) (n13 : B1 ≠ B3) (n23 : B2 ≠ B3) (hr : IntsOver lo w rv x) (hlo : B1 < lo ∧ B2 < lo ∧ B3 < lo) :
    PlanAt B1 B2 B3 lo (some x) (((w.setCell ⟨B1, 0, none⟩ rv).setCell ⟨B2, 0, none⟩ (.int .i64 (usedS x))).setCell ⟨B3, 0, none⟩ (.bool true)) := by
  refine ⟨rv, heap_set_other _ (heap_set_other _ (heap_set _ h1) n12) n13, heap_set_other _ (heap_set _ (heap_set_other _ h2 (Ne.symm n12))) n23, heap_set _ (heap_set_other _ (heap_set_other _ h3 (Ne.symm n13)) (Ne.symm n23)), ?_⟩
  exact ((hr.grown (grownBy_setCell' _ _ _) (fun r e => by cases e; exact hlo.1)).grown (grownBy_setCell' _ _ _) (fun r e => by cases e; exact hlo.2.1)).grown (grownBy_setCell' _ _ _) (fun r e => by cases e; exact hlo.2.2)
theorem okBars_six {S : Store} (hV : Valid S) {x : List Int} (h : OkBars S x) : Hid (∀ i, i < x.length → 0 ≤ nth x i ∧ nth x i < 6) := fun i hi => by have := h.2 i hi; have := hV.nb; omega
theorem usedS_le {S : Store} (hV : Valid S) {x : List Int} (h : OkBars S x) : 0 ≤ usedS x ∧ usedS x ≤ 8 := by have := usedTo_le x x.length; have := h.1; have := hV.np; unfold usedS; omega

set_option maxRecDepth 100000 in
set_option maxHeartbeats 4000000 in
theorem Plan_in (F : Fence) (hF : Hid (F = Fence.wide)) (hd : F.depth = none) (hro : F.round = none) (hfn : ∀ f, F.fn f) (n : Nat) (hn : 5 ≤ n) (v : Value) (S : Store) (w : World) (hx : StoreAt w.heap.size w v S) (hV : Valid S) :
    CallsIn F n Try.prog 54 #[v] w (GaveIntsE (planS S) (errN (truthsL S).length) w) := by
  have hx' := hx
  obtain ⟨a, cap1, b1, off, a2, cap2, b2, off2, rfl, hm, hm2, HA, HC, HA2, HC2⟩ := hx.opened
  have HX := Lib.hid hx'
  have HV := Lib.hid hV
  obtain ⟨hw0, hw8⟩ := hV.wrong
  clear hx hx' hV HA HC HA2 HC2
  have HXB := fun o => Lib.hid ((HX.out.below ((Below.refl _ w).alloc (Nat.le_refl _) o)).mono (show w.heap.size ≤ (w.alloc o).heap.size by simp))
  have hmo : Try.prog.follows .mixedOrders = true := by kernel_rfl
  refine callsIn_of_wp_marks Try.func54 rfl (hfn _) ?_ hro
  simp only [Try.ntmps54, List.size_toArray, List.length_cons, List.length_nil, Nat.reduceAdd, Nat.reduceSub, Array.replicate_succ, Array.replicate_zero, List.push_toArray, List.append_toArray, List.nil_append, List.cons_append]
  gi_wp2_with fail
  refine (inF hF (check_ok (valid_iff.2 HV.out) (HXB _).out)).mono ?_
  rintro e w1 ⟨rfl, hb1⟩
  have hbl : Below (w.heap.size + 1) (w.alloc (.cells #[.slice a S.bars.length cap1, .int .i64 S.kerf, .slice a2 S.pieces.length cap2, .int .i64 S.wrong] 25)) w1 := hb1.mono (by simp)
  have hw := boxed hbl
  have hsz := boxed_size hbl
  obtain ⟨c0, c1, c2, c3⟩ := box4 hbl
  clear hb1
  have hlt1 : w.heap.size < w1.heap.size := by omega
  have hlt2 : w.heap.size < w1.heap.size + 1 := by omega
  have hlt3 : w.heap.size < w1.heap.size + 1 + 1 := by omega
  gi_wp2_with (gi_at_call 63; refine (inF hF (truths_any _ _ _ _ _ _ _ _ _)).mono ?_; rintro e w2 ⟨rfl, hb2, hs2, hq2⟩; have HB2 := Lib.hid hb2; have HS2 := Lib.hid hs2; have HQ2 := Lib.hid hq2; clear hb2 hs2 hq2)
  have hb2 := HB2.out
  have hs2 := HS2.out
  have hq2 := HQ2.out
  simp only [World.size_alloc] at hb2 hs2 hq2
  have hs2a : w1.heap.size + 6 ≤ w2.heap.size := by omega
  have hp2 := heap_at3 w1 (.cells #[.slice none 0 0] 26) (.cells #[.int .i64 0] 3) (.cells #[.bool false] 4)
  have hmp : PlanAt w1.heap.size (w1.heap.size + 1) (w1.heap.size + 2) (w2.heap.size + 3) (planL []) w2 :=
    ⟨(hb2.block w1.heap.size (by omega)).trans hp2.1, (hb2.block (w1.heap.size + 1) (by omega)).trans hp2.2.1, (hb2.block (w1.heap.size + 2) (by omega)).trans hp2.2.2⟩
  have h12 : Below w1.heap.size w1 w2 := (below_at3 w1 _ _ _).trans (hb2.mono (by omega))
  have hw2 : Below w.heap.size w w2 := hw.trans (h12.mono (by omega))
  clear hs2 hp2 hb2 c0 c1 c2 c3
  refine wpIn_saw F hF hd hro hfn (by omega) rfl w.heap.size _ S S.wrong HV hw0 hw8 (HX.out.below hw2) (by omega) hq2.1 hq2.2 rfl
    (fun k => k = w1.heap.size ∨ k = w1.heap.size + 1 ∨ k = w1.heap.size + 2) (fun k hk => by omega)
    (fun pre W => PlanAt w1.heap.size (w1.heap.size + 1) (w1.heap.size + 2) (w2.heap.size + 3) (planL pre) W) (fun _ _ _ => False)
    (fun s A A' row hs hg hr => hs.grown hg (fun r e => by have := hr r e; omega)) (fun _ _ _ _ _ h _ _ => h) hmp
    (fun tm x => { tmps := (tm.setIfInBounds 17 (.slice (some ⟨w2.heap.size + 2, 0, none⟩) x.length (capS S))).setIfInBounds 8 (.slice (some ⟨w2.heap.size + 2, 0, none⟩) x.length (capS S)), defers := [] }) ?assign ?body ?done ?stop
  case assign =>
    intro l x W K hK
    gi_wp2
    exact hK
  case body =>
    rintro l pre x W hpre hI hkb hbuf
    have hsz2 := hkb.size
    have hbW := hbuf.lt
    obtain ⟨hok, hxl⟩ := yielded_ok hpre
    have hins := yielded_ints HV.out hpre hbuf (B := W.heap.size) hbW
    obtain ⟨us0, us8⟩ := usedS_le HV.out hok
    have hcl := (capS_le HV.out).2
    have HI := Lib.hid hI
    have HINS := Lib.hid hins
    have HOK := Lib.hid hok
    have HXL := Lib.hid hxl
    have HBUF := Lib.hid hbuf
    have hxl8 : x.length ≤ 8 := by have := HV.out.np; omega
    clear hkb hI hins hok hpre hxl hbuf
    gi_wp2_with fail
    refine (CallsIn.inRound l (inF hF (used_any _ x _ (B := W.heap.size) (Nat.le_refl _) HINS.out (okBars_six HV.out HOK.out)))).mono ?_
    rintro e w3 ⟨rfl, hb3⟩
    have hs3 := hb3.size
    have hI3 : PlanAt w1.heap.size (w1.heap.size + 1) (w1.heap.size + 2) (w2.heap.size + 3) (planL pre) w3 := HI.out.grown (row := none) ⟨hb3.os, hb3.tape, hb3.output, hb3.size, fun k hk _ => hb3.block k hk⟩ (fun r e => by cases e)
    have hbuf3 := HBUF.out.kept (hb3.block _ hbW)
    have HK3 := Lib.hid (KeptBut.of_below (own := fun k => k = w1.heap.size ∨ k = w1.heap.size + 1 ∨ k = w1.heap.size + 2) hb3)
    clear hb3
    have hlt3 : w1.heap.size + 2 < w3.heap.size := by omega
    have hclone : Hid (Calls Try.prog 77 #[.slice (some ⟨w2.heap.size + 2, 0, none⟩) x.length (capS S)] w3 (fun e w' => ∃ rv, e = .returned rv ∧ IntsOver (w2.heap.size + 3) w' rv x ∧ Below w3.heap.size w3 w')) := by
      refine (clone_over _ x.length (capS S) x w3 rfl (fun i hi => hbuf3.cell hi) hbuf3.lt (by omega) (HOK.out.i64 HV.out)).mono ?_
      rintro e w' ⟨rv, h1, h2, h3⟩
      exact ⟨rv, h1, h2.mono (by omega), h3⟩
    cases hp : planL pre with
    | none =>
      rw [hp] at hI3
      obtain ⟨i1, i2, i3⟩ := hI3
      obtain ⟨j1, j2⟩ := cell1_of i1
      obtain ⟨j3, j4⟩ := cell1_of i2
      obtain ⟨j5, j6⟩ := cell1_of i3
      have HP := Lib.hid hp
      have I1 := Lib.hid i1
      have I2 := Lib.hid i2
      have I3 := Lib.hid i3
      clear hp i1 i2 i3 hbuf3
      gi_wp2_with fail
      refine (CallsIn.inRound l (inF hF hclone.out)).mono ?_
      rintro e w4 ⟨rv, rfl, hrv, hb4⟩
      obtain ⟨ra, rcap, rb, roff, rfl, rl, _⟩ := hrv.at.opened
      have i1 := (hb4.block w1.heap.size (by omega)).trans I1.out
      have i2 := (hb4.block (w1.heap.size + 1) (by omega)).trans I2.out
      have i3 := (hb4.block (w1.heap.size + 2) (by omega)).trans I3.out
      obtain ⟨j1, j2⟩ := cell1_of i1
      obtain ⟨j3, j4⟩ := cell1_of i2
      obtain ⟨j5, j6⟩ := cell1_of i3
      have hlt4 : w1.heap.size + 2 < w4.heap.size := by have := hb4.size; omega
      have I1 := Lib.hid i1
      have I2 := Lib.hid i2
      have I3 := Lib.hid i3
      have HB4 := Lib.hid hb4
      have HRV := Lib.hid hrv
      clear i1 i2 i3 hb4 hrv
      gi_wp2
      refine ⟨(HK3.out.trans (KeptBut.of_below HB4.out)).trans (((KeptBut.setCell _ _ _ (.inl rfl)).trans (KeptBut.setCell _ _ _ (.inr (.inl rfl)))).trans (KeptBut.setCell _ _ _ (.inr (.inr rfl)))), ?_⟩
      show PlanAt _ _ _ _ (planL (pre ++ [x])) _
      rw [planL_snoc, HP.out]
      exact plan_put I1.out I2.out I3.out (by omega) (by omega) (by omega) HRV.out (by omega)
    | some p =>
      rw [hp] at hI3
      obtain ⟨pv, i1, i2, i3, i4⟩ := hI3
      obtain ⟨pa, pcap, pb, poff, rfl, pl, _⟩ := i4.at.opened
      obtain ⟨j1, j2⟩ := cell1_of i1
      obtain ⟨j3, j4⟩ := cell1_of i2
      obtain ⟨j5, j6⟩ := cell1_of i3
      have HP := Lib.hid hp
      have I1 := Lib.hid i1
      have I2 := Lib.hid i2
      have I3 := Lib.hid i3
      have I4 := Lib.hid i4
      clear hp i1 i2 i3 i4 hbuf3
      by_cases hlu : usedS x < usedS p
      · gi_wp2_with fail
        refine (CallsIn.inRound l (inF hF hclone.out)).mono ?_
        rintro e w4 ⟨rv, rfl, hrv, hb4⟩
        obtain ⟨ra, rcap, rb, roff, rfl, rl, _⟩ := hrv.at.opened
        have i1 := (hb4.block w1.heap.size (by omega)).trans I1.out
        have i2 := (hb4.block (w1.heap.size + 1) (by omega)).trans I2.out
        have i3 := (hb4.block (w1.heap.size + 2) (by omega)).trans I3.out
        clear j1 j2 j3 j4 j5 j6
        obtain ⟨j1, j2⟩ := cell1_of i1
        obtain ⟨j3, j4⟩ := cell1_of i2
        obtain ⟨j5, j6⟩ := cell1_of i3
        have hlt4 : w1.heap.size + 2 < w4.heap.size := by have := hb4.size; omega
        have I1 := Lib.hid i1
        have I2 := Lib.hid i2
        have I3 := Lib.hid i3
        have HB4 := Lib.hid hb4
        have HRV := Lib.hid hrv
        clear i1 i2 i3 hb4 hrv
        gi_wp2
        refine ⟨(HK3.out.trans (KeptBut.of_below HB4.out)).trans (((KeptBut.setCell _ _ _ (.inl rfl)).trans (KeptBut.setCell _ _ _ (.inr (.inl rfl)))).trans (KeptBut.setCell _ _ _ (.inr (.inr rfl)))), ?_⟩
        show PlanAt _ _ _ _ (planL (pre ++ [x])) _
        rw [planL_snoc, HP.out]
        simp only [planF, if_pos hlu]
        exact plan_put I1.out I2.out I3.out (by omega) (by omega) (by omega) HRV.out (by omega)
      · gi_wp2
        refine ⟨HK3.out, ?_⟩
        show PlanAt _ _ _ _ (planL (pre ++ [x])) _
        rw [planL_snoc, HP.out]
        simp only [planF, if_neg (show ¬ usedS x < usedS p by omega)]
        exact ⟨_, I1.out, I2.out, I3.out, I4.out⟩
  case done =>
    rintro D W hD hkb hI hK
    have hfin : Below w.heap.size w (W.putObj D (.deferred none)) := (hw2.trans (hkb.below (by omega) (by omega))).trans (putObj_below _ _ (by omega))
    cases hp : planL (sawL S S.pieces.length S.wrong []) with
    | none =>
      rw [hp] at hI
      obtain ⟨i1, i2, i3⟩ := hI
      obtain ⟨j5, j6⟩ := cell1_of i3
      have HP := Lib.hid hp
      clear hp i1 i2 i3
      gi_wp2
      refine ⟨by simp, .inl ⟨_, _, rfl, run_takeDeferred hK, ?_⟩⟩
      have hz : (truthsL S).length = 0 := planL_none.1 HP.out
      have hpl : planS S = [] := by unfold planS truthsL; rw [HP.out]; rfl
      exact ⟨_, results_tmp2 rfl _ _ _, .slice none 0 0, by rw [hz]; rfl, by rw [hpl]; exact ints_nil _ _, hfin⟩
    | some p =>
      rw [hp] at hI
      obtain ⟨pv, i1, i2, i3, i4⟩ := hI
      obtain ⟨pa, pcap, pb, poff, rfl, pl, _⟩ := i4.at.opened
      obtain ⟨j1, j2⟩ := cell1_of i1
      obtain ⟨j5, j6⟩ := cell1_of i3
      have HP := Lib.hid hp
      have I4 := Lib.hid i4
      clear hp i1 i2 i3 i4
      gi_wp2
      refine ⟨by simp, .inl ⟨_, _, rfl, run_takeDeferred hK, ?_⟩⟩
      have hz : (truthsL S).length ≠ 0 := fun h => by have := planL_none.2 h; unfold truthsL at this; rw [HP.out] at this; cases this
      have hpl : planS S = p := by unfold planS truthsL; rw [HP.out]; rfl
      exact ⟨_, results_tmp2 rfl _ _ _, .slice pa p.length pcap, by rw [errN_pos hz]; rfl, by rw [hpl, World.putObj_size]; exact ints_putObj I4.out.at hK, hfin⟩
  case stop =>
    rintro D c pre W _ _ _ h _
    exact h.elim

def leastS (S : Store) : Int := usedS (planS S)

/-- A contract over the wide fence is a plain one. -/
theorem wide_calls {P : Program} {f : FuncId} {args : Array Value} {w : World} {R : Ending → World → Prop} (h : CallsIn Fence.wide 9 P f args w R) : Calls P f args w R := callsIn_wide.1 h

theorem Plan_any (v : Value) (S : Store) (w : World) (hx : StoreAt w.heap.size w v S) (hV : Valid S) :
    Calls Try.prog 54 #[v] w (GaveIntsE (planS S) (errN (truthsL S).length) w) :=
  wide_calls (Plan_in Fence.wide rfl rfl rfl (fun _ => trivial) 9 (by omega) v S w hx hV)

theorem foldl_mem {x : List Int} : ∀ (xs : List (List Int)) (o : Option (List Int)) , xs.foldl planF o = some x → (x ∈ xs ∨ o = some x)
  | [], o, h => .inr h
  | y :: ys, o, h => by
    rw [List.foldl_cons] at h
    rcases foldl_mem ys _ h with h1 | h1
    · exact .inl (List.mem_cons_of_mem _ h1)
    · cases o with
      | none => simp only [planF, Option.some.injEq] at h1; subst h1; exact .inl (List.mem_cons_self ..)
      | some p =>
        simp only [planF] at h1
        split at h1
        · simp only [Option.some.injEq] at h1; subst h1; exact .inl (List.mem_cons_self ..)
        · exact .inr h1
theorem planS_ok {S : Store} (h : (truthsL S).length ≠ 0) : planS S ∈ truthsL S := by
  unfold planS
  cases hp : planL (truthsL S) with
  | none => exact absurd (planL_none.1 hp) h
  | some p =>
    rcases foldl_mem _ _ hp with h1 | h1
    · exact h1
    · cases h1
theorem truths_ok {S : Store} {x : List Int} (h : x ∈ truthsL S) : OkBars S x ∧ x.length = S.pieces.length :=
  sawL_okBars _ _ _ (by simp) ⟨by simp, fun i hi => by simp at hi⟩ x h

set_option maxHeartbeats 1000000 in
theorem Least_any (v : Value) (S : Store) (w : World) (hx : StoreAt w.heap.size w v S) (hV : Valid S) :
    Calls Try.prog 18 #[v] w fun e w' => e = .returned (.tuple #[.int .i64 (leastS S), .int .i64 (errN (truthsL S).length)]) ∧ Below w.heap.size w w' := by
  have hx' := hx
  obtain ⟨a, cap1, b1, off, a2, cap2, b2, off2, rfl, hm, hm2, HA, HC, HA2, HC2⟩ := hx.opened
  have HXB := fun o => Lib.hid ((hx'.below ((Below.refl _ w).alloc (Nat.le_refl _) o)).mono (show w.heap.size ≤ (w.alloc o).heap.size by simp))
  have HV := Lib.hid hV
  clear hx hx' hV HA HC HA2 HC2
  by_cases hz : (truthsL S).length = 0
  · have hpl : planS S = [] := by unfold planS; rw [planL_none.2 hz]; rfl
    have hl : leastS S = 0 := by unfold leastS; rw [hpl]; rfl
    have HE := Lib.hid (show errN (truthsL S).length = 3 by rw [hz]; rfl)
    have HL := Lib.hid hl
    have HP := Lib.hid hpl
    clear hz hpl hl
    go_enter Try.func18, Try.ntmps18
    go_wp2_with fail
    refine (Plan_any _ S _ (HXB _).out HV.out).mono ?_
    rintro e w1 ⟨pv, rfl, hpv, hb⟩
    rw [HE.out]
    have HB := Lib.hid hb
    clear hb
    rw [HP.out] at hpv
    obtain ⟨pa, pcap, pb, poff, rfl, pl, _⟩ := hpv.opened
    clear hpv
    go_wp2
    go_ret2
    exact ⟨by rw [HL.out, HE.out]; rfl, ((Below.refl _ _).alloc (Nat.le_refl _) _).trans (HB.out.mono (by simp))⟩
  · have HE := Lib.hid (show errN (truthsL S).length = 0 from errN_pos hz)
    have hok := (truths_ok (planS_ok hz)).1
    have HOK := Lib.hid hok
    clear hz hok
    go_enter Try.func18, Try.ntmps18
    go_wp2_with fail
    refine (Plan_any _ S _ (HXB _).out HV.out).mono ?_
    rintro e w1 ⟨pv, rfl, hpv, hb⟩
    rw [HE.out]
    have HB := Lib.hid hb
    clear hb
    have HPV := Lib.hid hpv
    obtain ⟨pa, pcap, pb, poff, rfl, pl, _⟩ := hpv.opened
    clear hpv
    go_wp2_with fail
    refine (used_any _ (planS S) _ (B := w1.heap.size) (Nat.le_refl _) HPV.out (okBars_six HV.out HOK.out)).mono ?_
    rintro e w2 ⟨rfl, hb2⟩
    have HB2 := Lib.hid hb2
    clear hb2
    go_wp2
    go_ret2
    exact ⟨by rw [HE.out]; rfl, ((Below.refl _ _).alloc (Nat.le_refl _) _).trans ((HB.out.trans (HB2.out.mono HB.out.size)).mono (by simp))⟩
end Go.Proofs.Ytjflpmhlodgadaa
