/-
  A region that draws its order, by facts of its values (LVals), where what is new in memory lies apart.
-/
import Derived.Test.YthclinhikhinpaaLVals

namespace Go.Proofs.Ythclinhikhinpaa
open Go.RowKit

section
variable {P : Program} {ops : Array Oper} {md : Region.Mode} {Q : Exit → Act → World → Prop}

/-- What holds while the values come. -/
structure FactsK (ops : Array Oper) (ps : List Fact) (key : Nat → Value → Option Nat) (n : Nat) (ds : List Nat) (a0 : Act) (w : World) (listed : Array Bool) (a : Act) (W : World) : Prop where
  bl : Below w.heap.size w W
  sz : listed.size = ops.size
  lo : ∀ i, listed.getD i false = true → i < n
  down : ∀ k, listed.getD k false = true → ∀ j ∈ depsOf .any ops k, listed.getD j false = true
  act : ∃ vs : List Value, vs.length = n ∧ a = putL a0 ds vs ∧ (∀ i, i < n → listed.getD i false = true → ∃ v, vs[i]? = some v ∧ factAt ps i v W) ∧
    ∀ i j u v, i < n → j < n → i ≠ j → listed.getD i false = true → listed.getD j false = true → vs[i]? = some u → vs[j]? = some v → ∀ b, key i u = some b → key j v ≠ some b

variable {ps : List Fact} {key : Nat → Value → Option Nat} {n : Nat} {ds : List Nat} {a0 : Act} {w : World}

theorem wpAny_factsK (m2 : Nat) (hn : ds.length = n) (hsz : n ≤ ops.size) (hwt : waitsB .any ops n = true) (hnd : ds.Nodup) (hlt : ∀ d ∈ ds, d < a0.tmps.size)
    (hfr : ∀ i v W, factAt ps i v W → ∀ b, key i v = some b → b < W.heap.size)
    (hstep : ∀ i a W d, i < n → ds[i]? = some d → Below w.heap.size w W → (∀ t, t ∉ ds → a.eval (.tmp t) = a0.eval (.tmp t)) →
      (∀ j e, (depsOf .any ops i).contains j = true → ds[j]? = some e → factAt ps j (a.eval (.tmp e)) W) →
      wpOp P ops Q i (fun a' W' => ∃ v, a' = a.put (some d) v ∧ Below W.heap.size W W' ∧ factAt ps i v W' ∧ ∀ b, key i v = some b → W.heap.size ≤ b) a W)
    (hrest : ∀ listed a W, FactsK ops ps key n ds a0 w listed a W → (∀ i, i < n → listed.getD i false = true) → wpAny P .any ops Q m2 listed a W) :
    ∀ (m : Nat) (listed : Array Bool) (a : Act) (W : World), unl listed n = m → FactsK ops ps key n ds a0 w listed a W → wpAny P .any ops Q (m + m2) listed a W
  | 0, listed, a, W, hu, hI => by
    rw [Nat.zero_add]
    exact hrest listed a W hI (unl_zero hu)
  | m + 1, listed, a, W, hu, hI => by
    simp only [waitsB, Bool.and_eq_true, List.all_eq_true, decide_eq_true_eq, List.mem_range, List.mem_range'_1] at hwt
    rw [Nat.succ_add]
    refine ⟨fun h0 => ?_, fun i hi => ?_⟩
    · obtain ⟨i, h1, h2, h3⟩ := unl_some (listed := listed) (k := n) (by omega)
      have hio : i < ops.size := by omega
      have : i ∈ Region.ready .any ops listed := mem_ready.2 ⟨by
        have hil : i < listed.size := by rw [hI.sz]; exact hio
        simp only [Array.getD, hil, dif_pos] at h2 ⊢
        exact h2, ops[i], Array.getElem?_eq_getElem hio, fun e he hb => h3 _ (hwt.1 i h1 _ ((mem_depsOf (Array.getElem?_eq_getElem hio)).2 ⟨e, he, hb, rfl⟩))⟩
      rw [h0] at this
      cases this
    · obtain ⟨hun, o, ho, hdep⟩ := mem_ready.1 hi
      have hio : i < ops.size := (Array.getElem?_eq_some_iff.1 ho).1
      have hil : i < listed.size := by rw [hI.sz]; exact hio
      have hun' : listed.getD i false = false := by
        simp only [Array.getD, hil, dif_pos] at hun ⊢
        exact hun
      have hdep' : ∀ j ∈ depsOf .any ops i, listed.getD j false = true := fun j hj => by
        obtain ⟨e, h1, h2, rfl⟩ := (mem_depsOf ho).1 hj
        exact hdep e h1 h2
      have hin : i < n := by
        refine Nat.lt_of_not_le fun hge => ?_
        have hall : ∀ k, k < n → listed.getD k false = true := fun k hk => clo_listed (md := .any) (ops := ops) hI.down _ _ hdep' k (by simpa using hwt.2 i ⟨hge, by omega⟩ k hk)
        have hz : ∀ k, k ≤ n → unl listed k = 0 := fun k => by
          induction k with
          | zero => intro _; rfl
          | succ k ih => intro hk; simp only [unl]; rw [ih (by omega), hall k (by omega)]; rfl
        rw [hz n (Nat.le_refl _)] at hu
        cases hu
      obtain ⟨vs, hvl, rfl, hval, hfar⟩ := hI.act
      obtain ⟨d, hd⟩ : ∃ d, ds[i]? = some d := ⟨ds[i], by simp⟩
      refine wpOp_mono (fun a' W' h => wpAny_factsK m2 hn hsz (by
        simp only [waitsB, Bool.and_eq_true, List.all_eq_true, decide_eq_true_eq, List.mem_range, List.mem_range'_1]; exact hwt) hnd hlt hfr hstep hrest m _ a' W' ?_ ?_) (hstep i _ W d hin hd hI.bl (fun t ht => putL_off ht) (fun j e hj hje => ?_))
      · have := unl_lt hil hun' hin
        omega
      · obtain ⟨v, rfl, hb, hp, hf⟩ := h
        refine ⟨hI.bl.trans (hb.mono hI.bl.size), by simp [hI.sz], fun k hk => ?_, fun k hk j hj => ?_, vs.set i v, by simp [hvl], putL_set hnd (by rw [hvl, hn]) hd, fun j hj hlj => ?_, fun j j' u u' hj hj' hne l1 l2 q1 q2 bb k1 k2 => ?_⟩
        · rw [set_getD hil] at hk
          split at hk
          · omega
          · exact hI.lo k hk
        · rw [set_getD hil] at hk ⊢
          split
          · rfl
          · split at hk
            · rename_i e; subst e; exact hdep' j hj
            · exact hI.down k hk j hj
        · by_cases e : i = j
          · subst e
            exact ⟨v, by rw [List.getElem?_set]; simp; omega, hp⟩
          · rw [set_getD hil, if_neg e] at hlj
            obtain ⟨x, h1, h2⟩ := hval j hj hlj
            exact ⟨x, by rw [List.getElem?_set, if_neg e]; exact h1, factAt_st ps h2 hb⟩
        · have hold : ∀ k x, k < n → listed.getD k false = true → vs[k]? = some x → ∀ b, key k x = some b → b < W.heap.size := fun k x hk hl hx b hkb => by
            obtain ⟨y, h1, h2⟩ := hval k hk hl
            rw [hx] at h1; injection h1 with h1; subst h1
            exact hfr k x W h2 b hkb
          rw [List.getElem?_set] at q1 q2
          by_cases e1 : i = j
          · subst e1
            rw [if_pos rfl] at q1
            rw [if_neg hne] at q2
            rw [set_getD hil, if_neg hne] at l2
            split at q1
            · injection q1 with q1; subst q1
              have h1 := hf bb k1
              have h2 := hold j' u' hj' l2 q2 bb k2
              omega
            · cases q1
          · rw [if_neg e1] at q1
            rw [set_getD hil, if_neg e1] at l1
            by_cases e2 : i = j'
            · subst e2
              rw [if_pos rfl] at q2
              split at q2
              · injection q2 with q2; subst q2
                have h1 := hf bb k2
                have h2 := hold j u hj l1 q1 bb k1
                omega
              · cases q2
            · rw [if_neg e2] at q2
              rw [set_getD hil, if_neg e2] at l2
              exact hfar j j' u u' hj hj' hne l1 l2 q1 q2 bb k1 k2
      · have hjm : j ∈ depsOf .any ops i := by simpa using hj
        have hjl := hdep' j hjm
        obtain ⟨x, h1, h2⟩ := hval j (hI.lo j hjl) hjl
        rw [putL_at hnd hlt hje h1]
        exact h2

/-- THE LAW. -/
theorem wp_region_factsK {id : Nat} {a0 : Act} {w : World} (l : List Oper) (n : Nat) (ds : List Nat) (ps : List Fact) (key : Nat → Value → Option Nat) (hm : P.follows .mixedOrders = true)
    (hwt : waitsB .any l.toArray n = true)
    (hs : vseq .any l.toArray (l.length - n) n (Array.replicate n true ++ Array.replicate (l.length - n) false) = true)
    (hn : ds.length = n) (hle : n ≤ l.length) (hnd : ds.Nodup) (hlt : ∀ d ∈ ds, d < a0.tmps.size)
    (hfr : ∀ i v W, factAt ps i v W → ∀ b, key i v = some b → b < W.heap.size)
    (hstep : ∀ i a W d, i < n → ds[i]? = some d → Below w.heap.size w W → (∀ t, t ∉ ds → a.eval (.tmp t) = a0.eval (.tmp t)) →
      (∀ j e, (depsOf .any l.toArray i).contains j = true → ds[j]? = some e → factAt ps j (a.eval (.tmp e)) W) →
      wpOp P l.toArray Q i (fun a' W' => ∃ v, a' = a.put (some d) v ∧ Below W.heap.size W W' ∧ factAt ps i v W' ∧ ∀ b, key i v = some b → W.heap.size ≤ b) a W)
    (hrest : ∀ vs W, vs.length = n → Below w.heap.size w W → (∀ i, i < n → ∃ v, vs[i]? = some v ∧ factAt ps i v W) → (∀ i j u v, i < n → j < n → i ≠ j → vs[i]? = some u → vs[j]? = some v → ∀ b, key i u = some b → key j v ≠ some b) → wpList P l.toArray Q (l.drop n) (putL a0 ds vs) W) :
    (Code.region id l.toArray true).wp P Q a0 w := by
  refine wp_region_any hm ?_
  have hb0 : Below w.heap.size w { w with drawn := w.drawn + 1 } := ⟨rfl, rfl, rfl, Nat.le_refl _, fun _ _ => rfl⟩
  have hI0 : FactsK l.toArray ps key n ds a0 w (Array.replicate l.length false) a0 { w with drawn := w.drawn + 1 } := by
    obtain ⟨vs, h1, h2⟩ := putL_same hlt
    have hf : ∀ i, (Array.replicate l.length false).getD i false = false := fun i => by simp [Array.getD]
    have hno : ∀ i, (Array.replicate l.length false).getD i false = true → False := fun i h => by rw [hf] at h; cases h
    exact ⟨hb0, by simp, fun i h => (hno i h).elim, fun i h => (hno i h).elim, vs, by rw [h1, hn], h2, fun i _ h => (hno i h).elim, fun i _ _ _ _ _ _ h => (hno i h).elim⟩
  have := wpAny_factsK (P := P) (ops := l.toArray) (Q := Q) (ps := ps) (key := key) (n := n) (ds := ds) (a0 := a0) (w := w) (l.length - n) hn (by simpa using hle) hwt hnd hlt hfr hstep
    (fun listed a W hI hall => by
      obtain ⟨vs, h1, rfl, h2, h3⟩ := hI.act
      have hL : listed = Array.replicate n true ++ Array.replicate (l.length - n) false := by
        apply Array.ext_getElem?
        intro i
        have hsz := hI.sz
        simp only [List.size_toArray] at hsz
        by_cases hi : i < n
        · have := hall i hi
          rw [Array.getElem?_append_left (by simpa using hi)]
          have hil : i < listed.size := by omega
          simp only [Array.getD, hil, dif_pos] at this
          rw [Array.getElem?_eq_getElem hil, Array.getElem?_replicate, if_pos hi]
          exact congrArg some this
        · rw [Array.getElem?_append_right (by simp; omega)]
          by_cases hil : i < listed.size
          · have : ¬ listed.getD i false = true := fun h => hi (hI.lo i h)
            simp only [Array.getD, hil, dif_pos, Bool.not_eq_true] at this
            rw [Array.getElem?_eq_getElem hil, Array.getElem?_replicate, if_pos (by simp; omega)]
            exact congrArg some this
          · rw [Array.getElem?_eq_none (by omega), Array.getElem?_eq_none (by simp; omega)]
      subst hL
      have hseq := wpAny_seq (P := P) (ops := l.toArray) (md := .any) (Q := Q) (l.drop n) n _ (putL a0 ds vs) W (fun j => by simp) (by rw [List.length_drop]; exact hs)
        (hrest vs W h1 hI.bl (fun i hi => h2 i hi (hall i hi)) (fun i j u v hi hj hne => h3 i j u v hi hj hne (hall i hi) (hall j hj)))
      rw [List.length_drop] at hseq
      exact hseq)
    n (Array.replicate l.length false) a0 { w with drawn := w.drawn + 1 } (unl_none _ _) hI0
  rw [show n + (l.length - n) = l.toArray.size by simp; omega] at this
  simpa using this

/-- What an operation of its own memory yields lies apart; what has no key needs nothing. -/
theorem factK {i d : Nat} {a : Act} {W : World} (hk : ∀ v, key i v = none) (h : wpOp P ops Q i (fun a' W' => ∃ v, a' = a.put (some d) v ∧ Below W.heap.size W W' ∧ factAt ps i v W') a W) :
    wpOp P ops Q i (fun a' W' => ∃ v, a' = a.put (some d) v ∧ Below W.heap.size W W' ∧ factAt ps i v W' ∧ ∀ b, key i v = some b → W.heap.size ≤ b) a W :=
  wpOp_mono (fun a' W' ⟨v, h1, h2, h3⟩ => ⟨v, h1, h2, h3, fun b hb => by rw [hk] at hb; cases hb⟩) h
theorem fact_valueK {i d : Nat} {o : Oper} {a : Act} {W W' : World} {v : Value} (ho : ops[i]? = some o) (hg : o.guard = none) (hd : o.dst = some d) (hrun : (execOp a.eval o).run P W = .ok (.value v) W') (hb : Below W.heap.size W W') (hp : factAt ps i v W') (hk : ∀ b, key i v = some b → W.heap.size ≤ b) :
    wpOp P ops Q i (fun a' W' => ∃ v, a' = a.put (some d) v ∧ Below W.heap.size W W' ∧ factAt ps i v W' ∧ ∀ b, key i v = some b → W.heap.size ≤ b) a W := by
  refine wpOp_at ho hg (wp_run hrun ?_)
  show ∃ u, a.put o.dst v = _ ∧ _
  rw [hd]
  exact ⟨v, rfl, hb, hp, hk⟩
theorem fact_callK {i d : Nat} {o : Oper} {a : Act} {W : World} {f : FuncId} {args : Array Value} (ho : ops[i]? = some o) (hg : o.guard = none) (hd : o.dst = some d) (hrun : (execOp a.eval o).run P W = .ok (.enter f args) W)
    (hc : Calls P f args W fun e W' => ∃ v, e = .returned v ∧ Below W.heap.size W W' ∧ factAt ps i v W' ∧ ∀ b, key i v = some b → W.heap.size ≤ b) :
    wpOp P ops Q i (fun a' W' => ∃ v, a' = a.put (some d) v ∧ Below W.heap.size W W' ∧ factAt ps i v W' ∧ ∀ b, key i v = some b → W.heap.size ≤ b) a W := by
  refine wpOp_at ho hg (wp_run hrun (hc.mono ?_))
  rintro e W' ⟨v, rfl, hb, hp, hk⟩
  show ∃ u, a.put o.dst v = _ ∧ _
  rw [hd]
  exact ⟨v, rfl, hb, hp, hk⟩
end
end Go.Proofs.Ythclinhikhinpaa
