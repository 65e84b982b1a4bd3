/-
  The facts' law for a drawn region inside a fence.
-/
import Derived.Test.YtomcjopcfdllgaaVVals
import Derived.Test.YtomcjopcfdllgaaVSeq
import Derived.OrdersIn
import Derived.TacticsIn

namespace Go.Proofs.Ytomcjopcfdllgaa
open Go.RowKit

section
variable {F : Fence} {N : Nat} {P : Program} {ops : Array Oper} {Q : Exit → Act → World → Prop}

theorem wpOpIn_at {i : Nat} {o : Oper} {K : Act → World → Prop} {a : Act} {w w' : World} {n : Next} (hfn : ∀ f, F.fn f) (hnd : ∀ c, o.op ≠ .defer c) (ho : ops[i]? = some o) (hg : o.guard = none)
    (h : (execOp a.eval o).run P w = .ok n w') (hk : o.uponIn F N P a K Q (.ok n w')) : wpOpIn F N P ops Q i K a w := by
  unfold wpOpIn
  simp only [ho]
  rw [if_pos (by simp [Region.wanted, hg])]
  exact ⟨fun f _ => hfn f, by rw [Oper.semAt_eq _ _ _ hnd, h]; exact hk⟩

variable {ps : List Fact} {n : Nat} {ds : List Nat} {a0 : Act} {w : World}

theorem wpAnyIn_facts (m2 : Nat) (hn : ds.length = n) (hsz : n ≤ ops.size) (hwt : waitsB .any ops n = true) (hnd : ds.Nodup) (hlt : ∀ d ∈ ds, d < a0.tmps.size)
    (hstep : ∀ i a W d, i < n → ds[i]? = some d → Below w.heap.size w W → (∀ t, t ∉ ds → a.eval (.tmp t) = a0.eval (.tmp t)) →
      (∀ j e, (depsOf .any ops i).contains j = true → ds[j]? = some e → factAt ps j (a.eval (.tmp e)) W) →
      wpOpIn F N P ops Q i (fun a' W' => ∃ v, a' = a.put (some d) v ∧ Below W.heap.size W W' ∧ factAt ps i v W') a W)
    (hrest : ∀ listed a W, FactsI ops ps n ds a0 w listed a W → (∀ i, i < n → listed.getD i false = true) → wpAnyIn F N P .any ops Q m2 listed a W) :
    ∀ (m : Nat) (listed : Array Bool) (a : Act) (W : World), unl listed n = m → FactsI ops ps n ds a0 w listed a W → wpAnyIn F N P .any ops Q (m + m2) listed a W
  | 0, listed, a, W, hu, hI => by
    rw [Nat.zero_add]
    exact hrest listed a W hI (unl_zero hu)
  | m + 1, listed, a, W, hu, hI => by
    simp only [waitsB, Bool.and_eq_true, List.all_eq_true, decide_eq_true_eq, List.mem_range, List.mem_range'_1] at hwt
    rw [Nat.succ_add]
    refine ⟨fun h0 => ?_, fun i hi => ?_⟩
    · obtain ⟨i, h1, h2, h3⟩ := unl_some (listed := listed) (k := n) (by omega)
      have hio : i < ops.size := by omega
      have : i ∈ Region.ready .any ops listed := mem_ready.2 ⟨by
        have hil : i < listed.size := by rw [hI.sz]; exact hio
        simp only [Array.getD, hil, dif_pos] at h2 ⊢
        exact h2, ops[i], Array.getElem?_eq_getElem hio, fun e he hb => h3 _ (hwt.1 i h1 _ ((mem_depsOf (Array.getElem?_eq_getElem hio)).2 ⟨e, he, hb, rfl⟩))⟩
      rw [h0] at this
      cases this
    · obtain ⟨hun, o, ho, hdep⟩ := mem_ready.1 hi
      have hio : i < ops.size := (Array.getElem?_eq_some_iff.1 ho).1
      have hil : i < listed.size := by rw [hI.sz]; exact hio
      have hun' : listed.getD i false = false := by
        simp only [Array.getD, hil, dif_pos] at hun ⊢
        exact hun
      have hdep' : ∀ j ∈ depsOf .any ops i, listed.getD j false = true := fun j hj => by
        obtain ⟨e, h1, h2, rfl⟩ := (mem_depsOf ho).1 hj
        exact hdep e h1 h2
      have hin : i < n := by
        refine Nat.lt_of_not_le fun hge => ?_
        have hall : ∀ k, k < n → listed.getD k false = true := fun k hk => clo_listed (md := .any) (ops := ops) hI.down _ _ hdep' k (by simpa using hwt.2 i ⟨hge, by omega⟩ k hk)
        have hz : ∀ k, k ≤ n → unl listed k = 0 := fun k => by
          induction k with
          | zero => intro _; rfl
          | succ k ih => intro hk; simp only [unl]; rw [ih (by omega), hall k (by omega)]; rfl
        rw [hz n (Nat.le_refl _)] at hu
        cases hu
      obtain ⟨vs, hvl, rfl, hval⟩ := hI.act
      obtain ⟨d, hd⟩ : ∃ d, ds[i]? = some d := ⟨ds[i], by simp⟩
      refine wpOpIn_mono (fun a' W' h => wpAnyIn_facts m2 hn hsz (by
        simp only [waitsB, Bool.and_eq_true, List.all_eq_true, decide_eq_true_eq, List.mem_range, List.mem_range'_1]; exact hwt) hnd hlt hstep hrest m _ a' W' ?_ ?_) (hstep i _ W d hin hd hI.bl (fun t ht => putL_off ht) (fun j e hj hje => ?_))
      · have := unl_lt hil hun' hin
        omega
      · obtain ⟨v, rfl, hb, hp⟩ := h
        refine ⟨hI.bl.trans (hb.mono hI.bl.size), by simp [hI.sz], fun k hk => ?_, fun k hk j hj => ?_, vs.set i v, by simp [hvl], putL_set hnd (by rw [hvl, hn]) hd, fun j hj hlj => ?_⟩
        · rw [set_getD hil] at hk
          split at hk
          · omega
          · exact hI.lo k hk
        · rw [set_getD hil] at hk ⊢
          split
          · rfl
          · split at hk
            · rename_i e; subst e; exact hdep' j hj
            · exact hI.down k hk j hj
        · by_cases e : i = j
          · subst e
            exact ⟨v, by rw [List.getElem?_set]; simp; omega, hp⟩
          · rw [set_getD hil, if_neg e] at hlj
            obtain ⟨x, h1, h2⟩ := hval j hj hlj
            exact ⟨x, by rw [List.getElem?_set, if_neg e]; exact h1, factAt_st ps h2 hb⟩
      · have hjm : j ∈ depsOf .any ops i := by simpa using hj
        have hjl := hdep' j hjm
        obtain ⟨x, h1, h2⟩ := hval j (hI.lo j hjl) hjl
        rw [putL_at hnd hlt hje h1]
        exact h2

/-- A region's first n operations by facts; the rest in whatever order they come. -/
theorem wpIn_region_factsA {id : Nat} {a0 : Act} {w : World} (l : List Oper) (n : Nat) (ds : List Nat) (ps : List Fact) (hm : P.follows .mixedOrders = true)
    (hwt : waitsB .any l.toArray n = true) (hn : ds.length = n) (hle : n ≤ l.length) (hnd : ds.Nodup) (hlt : ∀ d ∈ ds, d < a0.tmps.size)
    (hstep : ∀ i a W d, i < n → ds[i]? = some d → Below w.heap.size w W → (∀ t, t ∉ ds → a.eval (.tmp t) = a0.eval (.tmp t)) →
      (∀ j e, (depsOf .any l.toArray i).contains j = true → ds[j]? = some e → factAt ps j (a.eval (.tmp e)) W) →
      wpOpIn F N P l.toArray Q i (fun a' W' => ∃ v, a' = a.put (some d) v ∧ Below W.heap.size W W' ∧ factAt ps i v W') a W)
    (hrest : ∀ vs W, vs.length = n → Below w.heap.size w W → (∀ i, i < n → ∃ v, vs[i]? = some v ∧ factAt ps i v W) → wpAnyIn F N P .any l.toArray Q (l.length - n) (Array.replicate n true ++ Array.replicate (l.length - n) false) (putL a0 ds vs) W) :
    (Code.region id l.toArray true).wpIn F N P Q a0 w := by
  refine wpIn_region_any hm ?_
  have hb0 : Below w.heap.size w { w with drawn := w.drawn + 1 } := ⟨rfl, rfl, rfl, Nat.le_refl _, fun _ _ => rfl⟩
  have hI0 : FactsI l.toArray ps n ds a0 w (Array.replicate l.length false) a0 { w with drawn := w.drawn + 1 } := by
    obtain ⟨vs, h1, h2⟩ := putL_same hlt
    have hf : ∀ i, (Array.replicate l.length false).getD i false = false := fun i => by simp [Array.getD]
    have hno : ∀ i, (Array.replicate l.length false).getD i false = true → False := fun i h => by rw [hf] at h; cases h
    exact ⟨hb0, by simp, fun i h => (hno i h).elim, fun i h => (hno i h).elim, vs, by rw [h1, hn], h2, fun i _ h => (hno i h).elim⟩
  have := wpAnyIn_facts (F := F) (N := N) (P := P) (ops := l.toArray) (Q := Q) (ps := ps) (n := n) (ds := ds) (a0 := a0) (w := w) (l.length - n) hn (by simpa using hle) hwt hnd hlt hstep
    (fun listed a W hI hall => by
      obtain ⟨vs, h1, rfl, h2⟩ := hI.act
      have hL : listed = Array.replicate n true ++ Array.replicate (l.length - n) false := by
        apply Array.ext_getElem?
        intro i
        have hsz := hI.sz
        simp only [List.size_toArray] at hsz
        by_cases hi : i < n
        · have := hall i hi
          rw [Array.getElem?_append_left (by simpa using hi)]
          have hil : i < listed.size := by omega
          simp only [Array.getD, hil, dif_pos] at this
          rw [Array.getElem?_eq_getElem hil, Array.getElem?_replicate, if_pos hi]
          exact congrArg some this
        · rw [Array.getElem?_append_right (by simp; omega)]
          by_cases hil : i < listed.size
          · have : ¬ listed.getD i false = true := fun h => hi (hI.lo i h)
            simp only [Array.getD, hil, dif_pos, Bool.not_eq_true] at this
            rw [Array.getElem?_eq_getElem hil, Array.getElem?_replicate, if_pos (by simp; omega)]
            exact congrArg some this
          · rw [Array.getElem?_eq_none (by omega), Array.getElem?_eq_none (by simp; omega)]
      subst hL
      exact hrest vs W h1 hI.bl (fun i hi => h2 i hi (hall i hi)))
    n (Array.replicate l.length false) a0 { w with drawn := w.drawn + 1 } (unl_none _ _) hI0
  rw [show n + (l.length - n) = l.toArray.size by simp; omega] at this
  simpa using this

theorem fact_valueIn {i d : Nat} {o : Oper} {a : Act} {W W' : World} {v : Value} (hfn : ∀ f, F.fn f) (ho : ops[i]? = some o) (hnd : ∀ c, o.op ≠ .defer c) (hg : o.guard = none) (hd : o.dst = some d) (hrun : (execOp a.eval o).run P W = .ok (.value v) W') (hb : Below W.heap.size W W') (hp : factAt ps i v W') :
    wpOpIn F N P ops Q i (fun a' W' => ∃ v, a' = a.put (some d) v ∧ Below W.heap.size W W' ∧ factAt ps i v W') a W := by
  refine wpOpIn_at hfn hnd ho hg hrun ?_
  show ∃ u, a.put o.dst v = _ ∧ _
  rw [hd]
  exact ⟨v, rfl, hb, hp⟩
end
theorem fact_callIn {F : Fence} {N : Nat} {P : Program} {ops : Array Oper} {Q : Exit → Act → World → Prop} {ps : List Fact} {i d : Nat} {o : Oper} {a : Act} {W : World} {f : FuncId} {args : Array Value} (hfn : ∀ f, F.fn f) (hdp : F.depth = none) (ho : ops[i]? = some o) (hnd : ∀ c, o.op ≠ .defer c) (hg : o.guard = none) (hd : o.dst = some d)
    (hrun : (execOp a.eval o).run P W = .ok (.enter f args) W) (hc : CallsIn F (N - 1) P f args W fun e W' => ∃ v, e = .returned v ∧ Below W.heap.size W W' ∧ factAt ps i v W') :
    wpOpIn F N P ops Q i (fun a' W' => ∃ v, a' = a.put (some d) v ∧ Below W.heap.size W W' ∧ factAt ps i v W') a W := by
  refine wpOpIn_at hfn hnd ho hg hrun ⟨fun h => (by rw [hdp] at h; cases h), hc.mono ?_⟩
  rintro e W' ⟨v, rfl, hb, hp⟩
  show ∃ u, a.put o.dst v = _ ∧ _
  rw [hd]
  exact ⟨v, rfl, hb, hp⟩

section
variable {F : Fence} {N : Nat} {P : Program} {ops : Array Oper} {Q : Exit → Act → World → Prop} {ps : List Fact}

/-- A guarded operation that is wanted. -/
theorem fact_value_onIn {i d : Nat} {o : Oper} {a : Act} {W W' : World} {v : Value} (hfn : ∀ f, F.fn f) (ho : ops[i]? = some o) (hnd : ∀ c, o.op ≠ .defer c) (hw : Region.wanted o (yielded ops a.tmps) = true) (hd : o.dst = some d) (hrun : (execOp a.eval o).run P W = .ok (.value v) W') (hb : Below W.heap.size W W') (hp : factAt ps i v W') :
    wpOpIn F N P ops Q i (fun a' W' => ∃ v, a' = a.put (some d) v ∧ Below W.heap.size W W' ∧ factAt ps i v W') a W := by
  unfold wpOpIn
  simp only [ho]
  rw [if_pos hw]
  refine ⟨fun f _ => hfn f, ?_⟩
  rw [Oper.semAt_eq _ _ _ hnd, hrun]
  show ∃ u, a.put o.dst v = _ ∧ _
  rw [hd]
  exact ⟨v, rfl, hb, hp⟩
/-- A guarded operation that is not. -/
theorem fact_offIn {i d : Nat} {o : Oper} {a : Act} {W : World} (hfn : ∀ f, F.fn f) (ho : ops[i]? = some o) (hw : Region.wanted o (yielded ops a.tmps) = false) (hd : o.dst = some d) (hp : factAt ps i undef W) :
    wpOpIn F N P ops Q i (fun a' W' => ∃ v, a' = a.put (some d) v ∧ Below W.heap.size W W' ∧ factAt ps i v W') a W := by
  unfold wpOpIn
  simp only [ho]
  rw [if_neg (by rw [hw]; simp), hd]
  exact ⟨fun f _ => hfn f, undef, rfl, Below.refl _ _, hp⟩
end
end Go.Proofs.Ytomcjopcfdllgaa
