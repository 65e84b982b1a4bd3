/-
  Links: the iterator 'truths': the pasts of which not too many sights are wrong.
  Links: the law for a caller that ranges over the truths.
-/
import Derived.Test.YtgjikoebneiamaaLRegion
import Derived.Test.YtgjikoebneiamaaLFew

namespace Go.Proofs.Ytgjikoebneiamaa
open Go.RowKit Go.Shelf Go.Sort

attribute [local go_sem] Oper.semAt_some

theorem cellR {w : World} {a : Addr} {v : Value} (h : w.cell? a = some v) : ∀ p : Regrown, (grow (redrawn w p.d) p.os).cell? a = some v := fun p => cell_regrown h p.d p.os

set_option maxRecDepth 100000 in
set_option maxHeartbeats 4000000 in
theorem truths_seq (F : Fence) (hF : Hid (F = Fence.wide)) (hd : F.depth = none) (hro : F.round = none) (hfn : ∀ f, F.fn f) (n : Nat) (hn : 5 ≤ n) (dv sv mv : Value) (C : Chain) (hV : Valid C) (B : Nat) (w0 : World) (hx : BookAt B w0 (.agg #[dv, sv, .int .i64 C.wrong, mv]) C) (hB : B ≤ w0.heap.size) :
    SeqY F n Try.prog 75 #[.agg #[dv, sv, .int .i64 C.wrong, mv]] #[] [2, 3, C.deeds.length + 5, C.deeds.length + 6] (C.deeds.length + 7) (fun b _ => pastV C.deeds.length (b + C.deeds.length + 5)) (fun b x W => PastTo C.deeds.length (b + C.deeds.length + 5) (b + C.deeds.length + 6) (story C.deeds x) C.deeds.length W)
      (truthsP C) (fun k => k < B) w0 := by
  intro l own J Jx W hb hown hJ hJx hY h0
  have hBW : B ≤ W.heap.size := Nat.le_trans hB hb.size
  have hx1 : BookAt B W (.agg #[dv, sv, .int .i64 C.wrong, mv]) C := hx.below (hb.mono hB)
  have hns := hV.ns
  have hwr := hV.wrong
  have hY1 : ∀ m pre x W1, pre ++ [x] <+: truthsP C → J pre W1 → PastTo C.deeds.length (W.heap.size + C.deeds.length + 5) (W.heap.size + C.deeds.length + 6) (story C.deeds x) C.deeds.length W1 →
      YieldAt F m Try.prog l #[pastV C.deeds.length (W.heap.size + C.deeds.length + 5)] W1 fun e W' =>
        (e = .returned (.bool true) ∧ J (pre ++ [x]) W' ∧ KeptBut own W1 W') ∨ (e = .returned (.bool false) ∧ Jx (pre ++ [x]) W' ∧ KeptBut own W1 W') := fun m pre x W1 h1 h2 h3 =>
    yield_free hd m (hY pre x W1 h1 h2 (fun c hc => by
      have := h3.ltp; have := h3.ltm
      simp only [List.mem_cons, List.not_mem_nil, or_false] at hc
      rcases hc with rfl | rfl | rfl | rfl <;> omega) h3)
  have HY := Lib.hid hY1
  have HJ := Lib.hid (fun s A A' (h : J s A) (hk : KeptBut (fun j => j = W.heap.size + 2 ∨ j = W.heap.size + 3 ∨ j = W.heap.size + C.deeds.length + 5 ∨ j = W.heap.size + C.deeds.length + 6) A A') => hJ s A A' h (hk.mono (fun j _ h => by
    rcases h with rfl | rfl | rfl | rfl
    · exact ⟨2, by simp, by omega⟩
    · exact ⟨3, by simp, by omega⟩
    · exact ⟨C.deeds.length + 5, by simp, by omega⟩
    · exact ⟨C.deeds.length + 6, by simp, by omega⟩)))
  have HJX := Lib.hid (fun s A A' (h : Jx s A) (hk : KeptBut (fun j => j = W.heap.size + 2 ∨ j = W.heap.size + 3 ∨ j = W.heap.size + C.deeds.length + 5 ∨ j = W.heap.size + C.deeds.length + 6) A A') => hJx s A A' h (hk.mono (fun j _ h => by
    rcases h with rfl | rfl | rfl | rfl
    · exact ⟨2, by simp, by omega⟩
    · exact ⟨3, by simp, by omega⟩
    · exact ⟨C.deeds.length + 5, by simp, by omega⟩
    · exact ⟨C.deeds.length + 6, by simp, by omega⟩)))
  have HX := Lib.hid hx1
  have H0 := Lib.hid h0
  have HOWN := Lib.hid hown
  have HV := Lib.hid hV
  clear hx hb hY hY1 hJ hJx h0 hown hV hx1
  show CallsIn F n Try.prog 75 #[.agg #[dv, sv, .int .i64 C.wrong, mv], .func (.yield l) #[] #[]] W _
  have hmo : Try.prog.follows .mixedOrders = true := by kernel_rfl
  refine callsIn_of_wp_marks Try.func75 rfl (hfn _) ?_ hro
  simp only [Try.ntmps75, List.size_toArray, List.length_cons, List.length_nil, Nat.reduceAdd, Nat.reduceSub, Array.replicate_succ, Array.replicate_zero, List.push_toArray, List.append_toArray, List.nil_append, List.cons_append]
  gi_wp2_with fail
  obtain ⟨V0, hV0⟩ : ∃ V0, V0 = (W.alloc (.cells #[dv, sv, .int .i64 C.wrong, mv] 84)).alloc (.cells #[.func (.yield l) #[] #[]] 128) := ⟨_, rfl⟩
  have hs0 : V0.heap.size = W.heap.size + 2 := by rw [hV0]; simp
  have hb0 : Below W.heap.size W V0 := by rw [hV0]; exact ((Below.refl _ W).alloc (Nat.le_refl _) _).alloc (by simp) _
  have hbx0 : V0.heap[W.heap.size]? = some (.cells #[dv, sv, .int .i64 C.wrong, mv] 84) := by rw [hV0]; exact heap_old1 _ _ _
  have hbx1 : V0.heap[W.heap.size + 1]? = some (.cells #[.func (.yield l) #[] #[]] 128) := by rw [hV0]; exact heap_new1 _ _ _
  rw [← hV0]
  clear hV0
  have hj0 : J [] V0 := HJ.out _ _ _ H0.out (KeptBut.of_below hb0)
  have hbkx := HX.out.below (hb0.mono hBW)
  have HS0 := Lib.hid hs0
  have HB0 := Lib.hid hb0
  have HBX0 := Lib.hid hbx0
  have HBX1 := Lib.hid hbx1
  have hsle : W.heap.size + 2 ≤ V0.heap.size := by omega
  have hkJ : ∀ (A A' : World), KeptBut (fun r => r = V0.heap.size ∨ r = V0.heap.size + 1 ∨ ∃ c ∈ [C.deeds.length + 1, C.deeds.length + 2], r = V0.heap.size + 2 + c) A A' → KeptBut (fun j => j = W.heap.size + 2 ∨ j = W.heap.size + 3 ∨ j = W.heap.size + C.deeds.length + 5 ∨ j = W.heap.size + C.deeds.length + 6) A A' := fun A A' hk => hk.mono (fun j _ h => by
    simp only [List.mem_cons, List.not_mem_nil, or_false] at h
    rcases h with h | h | ⟨c, rfl | rfl, h⟩ <;> omega)
  have hlast : ∀ U : World, KeptBut own V0 U → KeptBut own W U := fun U hk => (KeptBut.of_below hb0).trans hk
  have HLAST := Lib.hid hlast
  have ep : W.heap.size + C.deeds.length + 5 = V0.heap.size + 2 + C.deeds.length + 1 := by omega
  have ep2 : W.heap.size + C.deeds.length + 6 = V0.heap.size + 2 + C.deeds.length + 2 := by omega
  rw [ep, ep2] at HY
  clear hs0 hb0 hbx0 hbx1 hlast ep ep2
  refine wpIn_pasts F hF hd hro hfn (by omega) _ rfl C HV.out B hbkx (by omega) rfl own (fun k hk => ⟨by have := (HOWN.out k hk).2; omega, by have := (HOWN.out k hk).1; have := HS0.out; omega⟩)
    (fun pre U => J (pre.filter (fun e => decide (wrongs C e ≤ C.wrong))) U) (fun d pre U => d = .ret ∧ Jx (pre.filter (fun e => decide (wrongs C e ≤ C.wrong))) U)
    (fun s A A' h hk => HJ.out _ _ _ h (hkJ A A' hk)) (fun d s A A' h hk => ⟨h.1, HJX.out _ _ _ h.2 (hkJ A A' hk)⟩) hj0
    (fun tm _ x => { tmps := (tm.setIfInBounds 7 (pastV C.deeds.length (V0.heap.size + 2 + C.deeds.length + 1))).setIfInBounds 4 (pastV C.deeds.length (V0.heap.size + 2 + C.deeds.length + 1)), defers := [] }) (fun V _ => V) (fun W x => Below.refl _ _) ?assign ?body ?done ?stop
  case assign =>
    intro l x U K hK
    generalize pastV C.deeds.length (V0.heap.size + 2 + C.deeds.length + 1) = pv at hK ⊢
    gi_wp2
    exact hK
  case body =>
    intro l' pre x V U hpre hI hkb hpast hV2 hkl
    have hkU := HLAST.out _ hkb
    have hbU : Below B W U := hkU.below hBW (fun k hk => by have := (HOWN.out k hk).2; omega)
    have hsU := hkb.size
    have hbox := (hkb.block W.heap.size (by omega) (fun h => by have := (HOWN.out _ h).1; omega)).trans HBX0.out
    have hboy := (hkb.block (W.heap.size + 1) (by omega) (fun h => by have := (HOWN.out _ h).1; omega)).trans HBX1.out
    obtain ⟨c0, c1, c2, c3⟩ := box4' hbox
    obtain ⟨d1, d2⟩ := cell1_of hboy
    have hwl := wrongsTo_le C x C.sights.length
    have hcall : ∀ W', Below U.heap.size U W' → Calls Try.prog 73 #[.agg #[dv, sv, .int .i64 C.wrong, mv], pastV C.deeds.length (V0.heap.size + 2 + C.deeds.length + 1)] W' fun r w' => r = .returned (.int .i64 (wrongs C x)) ∧ Below W'.heap.size W' w' := fun W' h =>
      notRight_any _ C HV.out x _ _ W' (HX.out.below (hbU.trans (h.mono (by omega)))) (by have := h.size; omega) (hpast.kept (own := fun _ => False) ⟨h.os, h.tape, h.output, h.size, fun k hk _ => h.block k hk⟩ (fun h => h) (fun h => h))
    have HQ := Lib.hid (fun n d os => CallsIn.regrownR (n := n) (hcall _ (below_regrown U d os)) hF l')
    have HBR := Lib.hid (fun d os => below_regrown U d os)
    have k0 := cell_regrown c0
    have k1 := cell_regrown c1
    have k2 := cell_regrown c2
    have k3 := cell_regrown c3
    have k4 := cell_regrown d1
    have HI := Lib.hid hI
    have HPAST := Lib.hid hpast
    have HPRE := Lib.hid hpre
    have HHY := Lib.hid hboy
    clear hcall hkl hkU hbU hkb hbox hboy c0 c1 c2 c3 d1 d2 hI hpre hpast hj0 hbkx hkJ
    obtain ⟨pv, hpv⟩ : ∃ pv : Value, pastV C.deeds.length (V0.heap.size + 2 + C.deeds.length + 1) = pv := ⟨_, rfl⟩
    rw [hpv] at HQ HY ⊢
    clear hpv
    by_cases hp : wrongs C x ≤ C.wrong
    · have hpt : decide (wrongs C x ≤ C.wrong) = true := by simpa using hp
      gi_wp2_with fail
      refine wpIn_region_pre 10 (by kernel_rfl) (by kernel_rfl) ?_
      simp only [List.take_succ_cons, List.take_zero]
      repeat (quiet_step_in ((gi_at_call 73; exact HQ.out _ _ _)))
      refine wpQuietIn_nil ?_
      rintro _ ⟨⟨dq, osq⟩, rfl⟩
      have hbq := HBR.out dq osq
      have k5 := k4 dq osq
      clear k0 k1 k2 k3 k4
      obtain ⟨U', hU'⟩ : ∃ U', grow (redrawn U dq) osq = U' := ⟨_, rfl⟩
      simp only [hU'] at hbq k5 ⊢
      clear hU'
      have hju := HJ.out _ _ _ HI.out (KeptBut.of_below hbq)
      have hpast' := HPAST.out.kept (own := fun _ => False) (KeptBut.of_below hbq) (fun h => h) (fun h => h)
      have hpre' := filter_prefix (fun e => decide (wrongs C e ≤ C.wrong)) HPRE.out
      rw [filter_snoc_yes (p := (fun e => decide (wrongs C e ≤ C.wrong))) hpt] at hpre'
      obtain ⟨fn, tmps, assign, body, hyy, hR⟩ := HY.out (n - 1) _ _ U' hpre' hju hpast'
      have HR := Lib.hid hR
      have HBQ := Lib.hid hbq
      clear hR hju hpast' hpre' hbq
      refine wpAnyIn_ready (rs := [10]) (by kernel_rfl) (by simp) ?_
      refine AllReadyIn.cons rfl (fun K hK => ?_) AllReadyIn.nil
      go_simp
      gi_wp2_with fail
      refine RoundIn.mono (show RoundIn F (n - 1 - 1 - 1) Try.prog l fn tmps assign body U' _ from round_free hd HR.out) ?_
      rintro e w3 (⟨rfl, h1, h2⟩ | ⟨rfl, h1, h2⟩)
      all_goals
        have H1 := Lib.hid h1
        have H2 := Lib.hid h2
        clear h1 h2
        go_simp
        refine hK _ _ ?_
        clear hK K
        refine wpAnyIn_ready (rs := [11]) (by kernel_rfl) (by simp) ?_
        refine AllReadyIn.cons rfl (fun K hK => ?_) AllReadyIn.nil
        go_simp
        refine hK _ _ ?_
        clear hK K
        refine wpAnyIn_ready (rs := [12]) (by kernel_rfl) (by simp) ?_
        refine AllReadyIn.cons rfl (fun K hK => ?_) AllReadyIn.nil
        go_simp
        refine hK _ _ ?_
        clear hK K
        refine wpAnyIn_done (by kernel_rfl) ?_ _
        gi_wp2_with fail
      · exact ⟨(KeptBut.of_below HBQ.out).trans H2.out, by (show J ((pre ++ [x]).filter (fun e => decide (wrongs C e ≤ C.wrong))) w3); rw [filter_snoc_yes (p := (fun e => decide (wrongs C e ≤ C.wrong))) hpt]; exact H1.out⟩
      · exact ⟨(KeptBut.of_below HBQ.out).trans H2.out, rfl, by (show Jx ((pre ++ [x]).filter (fun e => decide (wrongs C e ≤ C.wrong))) w3); rw [filter_snoc_yes (p := (fun e => decide (wrongs C e ≤ C.wrong))) hpt]; exact H1.out⟩
    · have hpt : decide (wrongs C x ≤ C.wrong) = false := by simpa using hp
      gi_wp2_with fail
      refine wpIn_region_all (by kernel_rfl) (by kernel_rfl) (by kernel_rfl) ?_
      repeat (quiet_step_in ((gi_at_call 73; exact HQ.out _ _ _)))
      refine wpQuietIn_nil ?_
      rintro _ ⟨⟨dq, osq⟩, rfl⟩
      have hbq := HBR.out dq osq
      clear k0 k1 k2 k3 k4
      obtain ⟨U', hU'⟩ : ∃ U', grow (redrawn U dq) osq = U' := ⟨_, rfl⟩
      simp only [hU'] at hbq ⊢
      clear hU'
      have HBQ := Lib.hid hbq
      clear hbq
      gi_wp2_with fail
      exact ⟨KeptBut.of_below HBQ.out, by (show J ((pre ++ [x]).filter (fun e => decide (wrongs C e ≤ C.wrong))) U'); rw [filter_snoc_no (p := (fun e => decide (wrongs C e ≤ C.wrong))) hpt]; exact HJ.out _ _ _ HI.out (KeptBut.of_below HBQ.out)⟩
  case done =>
    rintro D U hD hkb hI hK
    have hko := HLAST.out (U.putObj D (.deferred none)) (kept_put hkb (.deferred none) (by rw [hD]; exact Nat.le_refl _))
    gi_wp2
    refine ⟨by simp, .inl ⟨_, _, rfl, run_takeDeferred hK, ?_⟩⟩
    have hjU := HJ.out _ U (U.putObj D (.deferred none)) hI (KeptBut.putObj _ _ _ (.inl (by rw [hD, HS0.out])))
    exact ⟨_, results_none rfl _ _ _, ⟨_, rfl⟩, hko, .inl hjU⟩
  case stop =>
    rintro D d pre U hD hkb hpre ⟨rfl, hI⟩ hK
    have hko := HLAST.out (U.putObj D (.deferred none)) (kept_put hkb (.deferred none) (by rw [hD]; exact Nat.le_refl _))
    gi_wp2
    refine ⟨by simp, .inl ⟨_, _, rfl, run_takeDeferred hK, ?_⟩⟩
    have hjU := HJX.out _ U (U.putObj D (.deferred none)) hI (KeptBut.putObj _ _ _ (.inl (by rw [hD, HS0.out])))
    exact ⟨_, results_none rfl _ _ _, ⟨_, rfl⟩, hko, .inr ⟨_, filter_prefix _ hpre, hjU⟩⟩

end Go.Proofs.Ytgjikoebneiamaa

namespace Go.Proofs.Ytgjikoebneiamaa
open Go.RowKit Go.Shelf

attribute [local go_sem] Oper.semAt_some

/-- Own are the blocks that the body writes. -/
theorem wpIn_truths (F : Fence) (hF : Hid (F = Fence.wide)) (hd : F.depth = none) (hro : F.round = none) (hfn : ∀ f, F.fn f) {n : Nat} (h1 : 6 ≤ n) {g : Operand} {ps : Array Tmp} {assign body : Code} {Q : Exit → Act → World → Prop} {a : Act} {w : World}
    (dv sv mv : Value) (C : Chain) (hg : a.eval g = .func (.func 75) #[.agg #[dv, sv, .int .i64 C.wrong, mv]] #[]) (hV : Valid C) (B : Nat) (hx : BookAt B w (.agg #[dv, sv, .int .i64 C.wrong, mv]) C) (hB : B ≤ w.heap.size) (hps : ps.size = 1)
    (own : Nat → Prop) (hown : ∀ k, own k → B ≤ k ∧ (k < w.heap.size ∨ w.heap.size + 2 + (C.deeds.length + 7) ≤ k))
    (I : List (List Int) → World → Prop) (Ix : Code → List (List Int) → World → Prop) (hI : OwnAt w.heap.size [2, 3, C.deeds.length + 5, C.deeds.length + 6] I) (hIx : ∀ d, OwnAt w.heap.size [2, 3, C.deeds.length + 5, C.deeds.length + 6] (Ix d)) (h0 : I [] w)
    (a₁ : Array Value → World → List Int → Act) (g₁ : World → List Int → World) (hg₁ : ∀ W x, Below W.heap.size W (g₁ W x))
    (hassign : ∀ (l : Nat) (x : List Int) (W : World) (K : Act → World → Prop), K (a₁ a.tmps W x) (g₁ W x) →
      assign.wpIn (F.inRound l) (n - 1 - 1) Try.prog (Exit.then K (fun _ _ _ => False)) { tmps := (ps.zip #[pastV C.deeds.length (w.heap.size + 2 + C.deeds.length + 5)]).foldl (fun t (p, v) => t.setIfInBounds p v) a.tmps, defers := [] } W)
    (hbody : ∀ (l : Nat) (pre : List (List Int)) (x : List Int) (V W : World), pre ++ [x] <+: truthsP C → I pre W → KeptBut own w W → PastTo C.deeds.length (w.heap.size + 2 + C.deeds.length + 5) (w.heap.size + 2 + C.deeds.length + 6) (story C.deeds x) C.deeds.length W →
      w.heap.size + 2 ≤ V.heap.size → KeptBut (fun j => j = w.heap.size + 1) (g₁ V x) W →
      body.wpIn (F.inRound l) (n - 1 - 1) Try.prog (postY own I Ix (pre ++ [x]) W) (a₁ a.tmps V x) W)
    (hdone : ∀ (D : Nat) (W : World), D = w.heap.size → KeptBut own w W → I (truthsP C) W → W.heap[D]? = some (.deferred (some [])) → Q .normal { a with defers := { target := .collected D, args := #[] } :: a.defers } W)
    (hstop : ∀ (D : Nat) (d : Code) (pre : List (List Int)) (W : World), D = w.heap.size → KeptBut own w W → pre <+: truthsP C → Ix d pre W → W.heap[D]? = some (.deferred (some [])) → d.wpIn F n Try.prog Q { a with defers := { target := .collected D, args := #[] } :: a.defers } W) :
    (Code.rangeFunc g ps assign body).wpIn F n Try.prog Q a w :=
  wpIn_rangeFunc_Y hro (by omega) hg (hfn _) (enters_of Try.func75 (by kernel_rfl) rfl) (truths_seq F hF hd hro hfn (n - 1) (by omega) dv sv mv C hV B w hx hB) (Below.refl _ _) hps
    own (fun k hk => ⟨(hown k hk).2, fun h => by have := (hown k hk).1; omega⟩) (fun k hk => by omega)
    (fun x A B hA hg => hA.kept hg (by omega) (by omega)) I Ix hI hIx h0 (a₁ a.tmps) g₁ hg₁ hassign (fun l pre x V W h1 h2 h3 _ h5 h6 h7 => hbody l pre x V W h1 h2 h3 h5 h6 h7) hdone hstop

end Go.Proofs.Ytgjikoebneiamaa
