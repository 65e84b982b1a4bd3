/-
  A region that draws its order, by facts of its values, where some operations take values for their own and write what they own (append): each value owns some blocks, no two that live own the same; no order is taken apart.
  Links: rows of rows as values that own blocks: the outer row's and those of the rows in it.
-/
import Derived.Test.YtgjikoebneiamaaLLin
import Derived.Test.YtgjikoebneiamaaLRows

namespace Go.Proofs.Ytgjikoebneiamaa
open Go.RowKit

/-- What is said of a value, and the blocks that it owns: it stays so while memory grows and other owned blocks are written. -/
structure MFact (ok : Nat → Prop) where
  p : Value → World → Prop
  key : Value → World → Nat → Prop
  st : ∀ v W W' row, p v W → W.grownBy W' row → (∀ b, row = some b → ok b ∧ ¬ key v W b) → p v W' ∧ ∀ b, key v W' b → key v W b
  lt : ∀ v W b, p v W → key v W b → ok b ∧ b < W.heap.size
/-- The value is c. -/
def misV (ok : Nat → Prop) (c : Value) : MFact ok := ⟨fun v _ => v = c, fun _ _ _ => False, fun _ _ _ _ h _ _ => ⟨h, fun _ h => h⟩, fun _ _ _ _ h => h.elim⟩
def manyV (ok : Nat → Prop) : MFact ok := ⟨fun _ _ => True, fun _ _ _ => False, fun _ _ _ _ _ _ _ => ⟨trivial, fun _ h => h⟩, fun _ _ _ _ h => h.elim⟩
def mf {ok : Nat → Prop} (ps : List (MFact ok)) (i : Nat) : MFact ok := ps.getD i (manyV ok)

/-- Who takes which value for its own: each value that is taken is used by that one alone. -/
def readsOf (md : Region.Mode) (ops : Array Oper) (k : Nat) : List Nat :=
  match ops[k]? with
  | some o => (o.after.toList.filter (fun e => Region.binds md e && (match e.ground with | .data => true | _ => false))).map (fun e => e.on)
  | none => []
theorem reads_deps {md : Region.Mode} {ops : Array Oper} {k j : Nat} (h : j ∈ readsOf md ops k) : j ∈ depsOf md ops k := by
  unfold readsOf at h
  unfold depsOf
  cases ho : ops[k]? with
  | none => rw [ho] at h; simp at h
  | some o =>
    rw [ho] at h
    simp only [List.mem_map, List.mem_filter, Bool.and_eq_true] at h ⊢
    obtain ⟨e, ⟨h1, h2, _⟩, h3⟩ := h
    exact ⟨e, ⟨h1, h2⟩, h3⟩
def takesM (md : Region.Mode) (ops : Array Oper) (n : Nat) (cons : Nat → List Nat) : Bool :=
  (List.range n).all (fun i => (cons i).all (fun j => (readsOf md ops i).contains j && (List.range n).all (fun k => decide (k = i) || !(readsOf md ops k).contains j)))
def takeM (l : List (Nat × List Nat)) (i : Nat) : List Nat := ((l.find? (fun p => p.1 == i)).map (·.2)).getD []
theorem takeM_none {l : List (Nat × List Nat)} {n : Nat} (h : l.all (fun p => decide (p.1 < n)) = true) : ∀ i, n ≤ i → takeM l i = [] := fun i hi => by
  unfold takeM
  rw [List.find?_eq_none.2 (fun p hp => ?_)]
  · rfl
  · have := List.all_eq_true.1 h p hp
    simp only [decide_eq_true_eq] at this
    simp; omega
theorem takeM_not {l : List (Nat × List Nat)} {n i : Nat} (h : l.all (fun p => decide (i ∉ p.2)) = true) : ∀ k, k < n → i ∉ takeM l k := fun k _ e => by
  unfold takeM at e
  cases hf : l.find? (fun p => p.1 == k) with
  | none => rw [hf] at e; cases e
  | some p =>
    rw [hf] at e
    have := List.all_eq_true.1 h p (List.mem_of_find?_eq_some hf)
    simp only [decide_eq_true_eq] at this
    exact this e

section
variable {P : Program} {ops : Array Oper} {Q : Exit → Act → World → Prop} {ok : Nat → Prop}

/-- Listed, and not taken. -/
def liveM (cons : Nat → List Nat) (listed : Array Bool) (i : Nat) : Prop := listed.getD i false = true ∧ ∀ k, listed.getD k false = true → i ∉ cons k

structure MulI (ops : Array Oper) (ps : List (MFact ok)) (cons : Nat → List Nat) (own0 : Nat → Option Nat) (n : Nat) (ds : List Nat) (a0 : Act) (w : World) (listed : Array Bool) (a : Act) (W : World) : Prop where
  bl : OkKept ok w W
  sz : listed.size = ops.size
  lo : ∀ i, listed.getD i false = true → i < n
  down : ∀ k, listed.getD k false = true → ∀ j ∈ depsOf .any ops k, listed.getD j false = true
  first : ∀ i b, listed.getD i false = false → own0 i = some b → W.heap[b]? = w.heap[b]?
  act : ∃ vs : List Value, vs.length = n ∧ a = putL a0 ds vs ∧ (∀ i, i < n → liveM cons listed i → ∃ v, vs[i]? = some v ∧ (mf ps i).p v W) ∧
    (∀ i u b, liveM cons listed i → vs[i]? = some u → (mf ps i).key u W b → w.heap.size ≤ b ∨ ∃ j, listed.getD j false = true ∧ own0 j = some b) ∧
    ∀ i j u v, liveM cons listed i → liveM cons listed j → i ≠ j → vs[i]? = some u → vs[j]? = some v → ∀ b, (mf ps i).key u W b → ¬ (mf ps j).key v W b

variable {ps : List (MFact ok)} {cons : Nat → List Nat} {own0 : Nat → Option Nat} {n : Nat} {ds : List Nat} {a0 : Act} {w : World}

/-- What a step must do. -/
def MulStep (P : Program) (ops : Array Oper) (Q : Exit → Act → World → Prop) (ps : List (MFact ok)) (cons : Nat → List Nat) (own0 : Nat → Option Nat) (ds : List Nat) (i d : Nat) (a : Act) (W : World) : Prop :=
  wpOp P ops Q i (fun a' W' => ∃ v row, a' = a.put (some d) v ∧ W.grownBy W' row ∧ (mf ps i).p v W' ∧
    (∀ b, row = some b → ∃ j e, j ∈ cons i ∧ ds[j]? = some e ∧ (mf ps j).key (a.eval (.tmp e)) W b) ∧ (∀ b, (mf ps i).key v W' b → W.heap.size ≤ b ∨ (∃ j e, j ∈ cons i ∧ ds[j]? = some e ∧ (mf ps j).key (a.eval (.tmp e)) W b) ∨ own0 i = some b)) a W

theorem wpAny_mul (m2 : Nat) (hn : ds.length = n) (hsz : n ≤ ops.size) (hwt : waitsB .any ops n = true) (htk : takesM .any ops n cons = true) (hc2 : ∀ i, n ≤ i → cons i = []) (h0 : ∀ i b, own0 i = some b → b < w.heap.size) (h0i : ∀ i j b, own0 i = some b → own0 j = some b → i = j) (hnd : ds.Nodup) (hlt : ∀ d ∈ ds, d < a0.tmps.size)
    (hstep : ∀ i a W d, i < n → ds[i]? = some d → OkKept ok w W → (∀ b, own0 i = some b → W.heap[b]? = w.heap[b]?) → (∀ t, t ∉ ds → a.eval (.tmp t) = a0.eval (.tmp t)) →
      (∀ j e, (readsOf .any ops i).contains j = true → ds[j]? = some e → (mf ps j).p (a.eval (.tmp e)) W) → MulStep P ops Q ps cons own0 ds i d a W)
    (hrest : ∀ listed a W, MulI ops ps cons own0 n ds a0 w listed a W → (∀ i, i < n → listed.getD i false = true) → wpAny P .any ops Q m2 listed a W) :
    ∀ (m : Nat) (listed : Array Bool) (a : Act) (W : World), unl listed n = m → MulI ops ps cons own0 n ds a0 w listed a W → wpAny P .any ops Q (m + m2) listed a W
  | 0, listed, a, W, hu, hI => by
    rw [Nat.zero_add]
    exact hrest listed a W hI (unl_zero hu)
  | m + 1, listed, a, W, hu, hI => by
    have hwt0 := hwt
    simp only [waitsB, Bool.and_eq_true, List.all_eq_true, decide_eq_true_eq, List.mem_range, List.mem_range'_1] at hwt
    have htk' : ∀ i j, i < n → j ∈ cons i → j ∈ readsOf .any ops i ∧ ∀ k, k < n → j ∈ readsOf .any ops k → k = i := fun i j hi hc => by
      simp only [takesM, List.all_eq_true, List.mem_range] at htk
      have := htk i hi j hc
      simp only [Bool.and_eq_true, List.all_eq_true, List.mem_range, Bool.or_eq_true, decide_eq_true_eq, Bool.not_eq_true', List.contains_eq_mem] at this
      refine ⟨by simpa using this.1, fun k hk hj => ?_⟩
      rcases this.2 k hk with h | h
      · exact h
      · simp [hj] at h
    rw [Nat.succ_add]
    refine ⟨fun h0 => ?_, fun i hi => ?_⟩
    · obtain ⟨i, h1, h2, h3⟩ := unl_some (listed := listed) (k := n) (by omega)
      have hio : i < ops.size := by omega
      have : i ∈ Region.ready .any ops listed := mem_ready.2 ⟨by
        have hil : i < listed.size := by rw [hI.sz]; exact hio
        simp only [Array.getD, hil, dif_pos] at h2 ⊢
        exact h2, ops[i], Array.getElem?_eq_getElem hio, fun e he hb => h3 _ (hwt.1 i h1 _ ((mem_depsOf (Array.getElem?_eq_getElem hio)).2 ⟨e, he, hb, rfl⟩))⟩
      rw [h0] at this
      cases this
    · obtain ⟨hun, o, ho, hdep⟩ := mem_ready.1 hi
      have hio : i < ops.size := (Array.getElem?_eq_some_iff.1 ho).1
      have hil : i < listed.size := by rw [hI.sz]; exact hio
      have hun' : listed.getD i false = false := by
        simp only [Array.getD, hil, dif_pos] at hun ⊢
        exact hun
      have hdep' : ∀ j ∈ depsOf .any ops i, listed.getD j false = true := fun j hj => by
        obtain ⟨e, h1, h2, rfl⟩ := (mem_depsOf ho).1 hj
        exact hdep e h1 h2
      have hin : i < n := by
        refine Nat.lt_of_not_le fun hge => ?_
        have hall : ∀ k, k < n → listed.getD k false = true := fun k hk => clo_listed (md := .any) (ops := ops) hI.down _ _ hdep' k (by simpa using hwt.2 i ⟨hge, by omega⟩ k hk)
        have hz : ∀ k, k ≤ n → unl listed k = 0 := fun k => by
          induction k with
          | zero => intro _; rfl
          | succ k ih => intro hk; simp only [unl]; rw [ih (by omega), hall k (by omega)]; rfl
        rw [hz n (Nat.le_refl _)] at hu
        cases hu
      have hself : i ∉ depsOf .any ops i := fun h => by have := hwt.1 i hin i h; omega
      -- what the operation reads lives
      have hlive : ∀ j ∈ readsOf .any ops i, liveM cons listed j := fun j hj => ⟨hdep' j (reads_deps hj), fun k hk hc => by
        have hkn := hI.lo k hk
        have := (htk' k j hkn hc).2 i hin hj
        subst this
        rw [hun'] at hk; cases hk⟩
      obtain ⟨vs, hvl, rfl, hval, hsrc, hfar⟩ := hI.act
      obtain ⟨d, hd⟩ : ∃ d, ds[i]? = some d := ⟨ds[i], by simp⟩
      refine wpOp_mono (fun a' W' h => wpAny_mul m2 hn hsz hwt0 htk hc2 h0 h0i hnd hlt hstep hrest m _ a' W' ?_ ?_) (hstep i _ W d hin hd hI.bl (fun b hb => hI.first i b hun' hb) (fun t ht => putL_off ht) (fun j e hj hje => ?_))
      · have := unl_lt hil hun' hin
        omega
      · obtain ⟨v, row, rfl, hg, hp, htake, hkey⟩ := h
        have hK : ∀ b, (∃ j e, j ∈ cons i ∧ ds[j]? = some e ∧ (mf ps j).key ((putL a0 ds vs).eval (.tmp e)) W b) → ∃ j x, j ∈ cons i ∧ vs[j]? = some x ∧ (mf ps j).p x W ∧ (mf ps j).key x W b := fun b hb => by
          obtain ⟨j, e, h1, h2, h3⟩ := hb
          have hjd := (htk' i j hin h1).1
          obtain ⟨x, h4, h5⟩ := hval j (hI.lo j (hdep' j (reads_deps hjd))) (hlive j hjd)
          rw [putL_at hnd hlt h2 h4] at h3
          exact ⟨j, x, h1, h4, h5, h3⟩
        have htake' : ∀ b, row = some b → ∃ j x, j ∈ cons i ∧ vs[j]? = some x ∧ (mf ps j).p x W ∧ (mf ps j).key x W b := fun b hb => hK b (htake b hb)
        have hrow : ∀ b, row = some b → ok b ∧ b < W.heap.size := fun b hb => by
          obtain ⟨j, x, _, _, h5, h6⟩ := htake' b hb
          exact (mf ps j).lt x W b h5 h6
        -- who lived and lives still
        have hlv : ∀ k, k ≠ i → liveM cons (listed.setIfInBounds i true) k → liveM cons listed k ∧ k ∉ cons i := fun k hk h => by
          have h1 := h.1
          rw [set_getD hil, if_neg (Ne.symm hk)] at h1
          refine ⟨⟨h1, fun k' hk' hc => h.2 k' ?_ hc⟩, h.2 i (by rw [set_getD hil, if_pos rfl])⟩
          rw [set_getD hil]
          split
          · rfl
          · exact hk'
        have hkrow : ∀ k x b, liveM cons listed k → k ∉ cons i → vs[k]? = some x → (∃ j x, j ∈ cons i ∧ vs[j]? = some x ∧ (mf ps j).p x W ∧ (mf ps j).key x W b) → ¬ (mf ps k).key x W b := fun k x b hk hc hx hb => by
          obtain ⟨j, y, h1, h2, h3, h4⟩ := hb
          have hjd := (htk' i j hin h1).1
          exact fun e => hfar j k y x (hlive j hjd) hk (fun e' => hc (e' ▸ h1)) h2 hx b h4 e
        have hshr : ∀ k x, liveM cons listed k → k ∉ cons i → vs[k]? = some x → ∀ b, (mf ps k).key x W' b → (mf ps k).key x W b := fun k x hl hc hx => by
          obtain ⟨y, h1, h2⟩ := hval k (hI.lo k hl.1) hl
          rw [hx] at h1; injection h1 with h1; subst h1
          exact ((mf ps k).st x W W' row h2 hg (fun b hb => ⟨(hrow b hb).1, hkrow k x b hl hc hx (htake' b hb)⟩)).2
        refine ⟨hI.bl.grown hg (fun b hb => (hrow b hb).1), by simp [hI.sz], fun k hk => ?_, fun k hk j hj => ?_, fun k b hk hb => ?_, vs.set i v, by simp [hvl], putL_set hnd (by rw [hvl, hn]) hd, fun j hj hlj => ?_, fun j u bb l1 q1 k1 => ?_, fun j j' u u' l1 l2 hne q1 q2 bb k1 k2 => ?_⟩
        · rw [set_getD hil] at hk
          split at hk
          · omega
          · exact hI.lo k hk
        · rw [set_getD hil] at hk ⊢
          split
          · rfl
          · split at hk
            · rename_i e; subst e; exact hdep' j hj
            · exact hI.down k hk j hj
        · have hk' : listed.getD k false = false ∧ k ≠ i := by
            rw [set_getD hil] at hk
            split at hk
            · cases hk
            · rename_i e; exact ⟨hk, fun e' => e e'.symm⟩
          refine (hg.block b (by have := h0 k b hb; have := hI.bl.size; omega) (fun e => ?_)).trans (hI.first k b hk'.1 hb)
          obtain ⟨j, y, h1, h2, h3, h4⟩ := htake' b e.symm
          rcases hsrc j y b (hlive j (htk' i j hin h1).1) h2 h4 with h | ⟨j', h5, h6⟩
          · have := h0 k b hb; omega
          · have := h0i k j' b hb h6
            subst this
            rw [hk'.1] at h5; cases h5
        · by_cases e : i = j
          · subst e
            exact ⟨v, by rw [List.getElem?_set]; simp; omega, hp⟩
          · obtain ⟨hl, hc⟩ := hlv j (Ne.symm e) hlj
            obtain ⟨x, h1, h2⟩ := hval j hj hl
            exact ⟨x, by rw [List.getElem?_set, if_neg e]; exact h1, ((mf ps j).st x W W' row h2 hg (fun b hb => ⟨(hrow b hb).1, hkrow j x b hl hc h1 (htake' b hb)⟩)).1⟩
        · have hmore : ∀ j, listed.getD j false = true → (listed.setIfInBounds i true).getD j false = true := fun j hj => by
            rw [set_getD hil]
            split
            · rfl
            · exact hj
          rw [List.getElem?_set] at q1
          by_cases e1 : i = j
          · subst e1
            rw [if_pos rfl] at q1
            split at q1
            · injection q1 with q1; subst q1
              rcases hkey bb k1 with h | h | h
              · exact .inl (Nat.le_trans hI.bl.size h)
              · obtain ⟨j, y, h1, h2, h3, h4⟩ := hK bb h
                rcases hsrc j y bb (hlive j (htk' i j hin h1).1) h2 h4 with h | ⟨j', h5, h6⟩
                · exact .inl h
                · exact .inr ⟨j', hmore j' h5, h6⟩
              · exact .inr ⟨i, by rw [set_getD hil, if_pos rfl], h⟩
            · cases q1
          · rw [if_neg e1] at q1
            obtain ⟨hl, hc⟩ := hlv j (Ne.symm e1) l1
            rcases hsrc j u bb hl q1 (hshr j u hl hc q1 bb k1) with h | ⟨j', h5, h6⟩
            · exact .inl h
            · exact .inr ⟨j', hmore j' h5, h6⟩
        · have hnew : ∀ k x b, k ≠ i → liveM cons (listed.setIfInBounds i true) k → vs[k]? = some x → (mf ps i).key v W' b → ¬ (mf ps k).key x W' b := fun k x b hki hk hx hb e => by
            obtain ⟨hl, hc⟩ := hlv k hki hk
            have e := hshr k x hl hc hx b e
            rcases hkey b hb with h | h | h
            · obtain ⟨y, h1, h2⟩ := hval k (hI.lo k hl.1) hl
              rw [hx] at h1; injection h1 with h1; subst h1
              have := ((mf ps k).lt x W b h2 e).2
              omega
            · exact hkrow k x b hl hc hx (hK b h) e
            · rcases hsrc k x b hl hx e with h2 | ⟨j, h2, h3⟩
              · have := h0 i b h; omega
              · have := h0i i j b h h3
                subst this
                rw [hun'] at h2; cases h2
          rw [List.getElem?_set] at q1 q2
          by_cases e1 : i = j
          · subst e1
            rw [if_pos rfl] at q1
            rw [if_neg hne] at q2
            split at q1
            · injection q1 with q1; subst q1
              exact hnew j' u' bb (Ne.symm hne) l2 q2 k1 k2
            · cases q1
          · rw [if_neg e1] at q1
            by_cases e2 : i = j'
            · subst e2
              rw [if_pos rfl] at q2
              split at q2
              · injection q2 with q2; subst q2
                exact hnew j u bb hne l1 q1 k2 k1
              · cases q2
            · rw [if_neg e2] at q2
              obtain ⟨hl, hc⟩ := hlv j (Ne.symm e1) l1
              obtain ⟨hl', hc'⟩ := hlv j' (Ne.symm e2) l2
              exact hfar j j' u u' hl hl' hne q1 q2 bb (hshr j u hl hc q1 bb k1) (hshr j' u' hl' hc' q2 bb k2)
      · have hjm : j ∈ readsOf .any ops i := by simpa using hj
        obtain ⟨x, h1, h2⟩ := hval j (hI.lo j (hdep' j (reads_deps hjm))) (hlive j hjm)
        rw [putL_at hnd hlt hje h1]
        exact h2

/-- THE LAW. -/
theorem wp_region_mul {id : Nat} {a0 : Act} {w : World} (ok : Nat → Prop) (l : List Oper) (n : Nat) (ds : List Nat) (ps : List (MFact ok)) (cons : Nat → List Nat) (own0 : Nat → Option Nat) (hm : P.follows .mixedOrders = true)
    (hwt : waitsB .any l.toArray n = true) (htk : takesM .any l.toArray n cons = true) (hc2 : ∀ i, n ≤ i → cons i = []) (h0 : ∀ i b, own0 i = some b → b < w.heap.size) (h0i : ∀ i j b, own0 i = some b → own0 j = some b → i = j)
    (hs : vseq .any l.toArray (l.length - n) n (Array.replicate n true ++ Array.replicate (l.length - n) false) = true)
    (hn : ds.length = n) (hle : n ≤ l.length) (hnd : ds.Nodup) (hlt : ∀ d ∈ ds, d < a0.tmps.size)
    (hstep : ∀ i a W d, i < n → ds[i]? = some d → OkKept ok w W → (∀ b, own0 i = some b → W.heap[b]? = w.heap[b]?) → (∀ t, t ∉ ds → a.eval (.tmp t) = a0.eval (.tmp t)) →
      (∀ j e, (readsOf .any l.toArray i).contains j = true → ds[j]? = some e → (mf ps j).p (a.eval (.tmp e)) W) → MulStep P l.toArray Q ps cons own0 ds i d a W)
    (hrest : ∀ vs W, vs.length = n → OkKept ok w W → (∀ i, i < n → (∀ k, k < n → i ∉ cons k) → ∃ v, vs[i]? = some v ∧ (mf ps i).p v W) → wpList P l.toArray Q (l.drop n) (putL a0 ds vs) W) :
    (Code.region id l.toArray true).wp P Q a0 w := by
  refine wp_region_any hm ?_
  have hb0 : OkKept ok w { w with drawn := w.drawn + 1 } := ⟨rfl, rfl, rfl, Nat.le_refl _, fun _ _ _ => rfl⟩
  have hI0 : MulI l.toArray ps cons own0 n ds a0 w (Array.replicate l.length false) a0 { w with drawn := w.drawn + 1 } := by
    obtain ⟨vs, h1, h2⟩ := putL_same hlt
    have hf : ∀ i, (Array.replicate l.length false).getD i false = false := fun i => by simp [Array.getD]
    have hno : ∀ i, (Array.replicate l.length false).getD i false = true → False := fun i h => by rw [hf] at h; cases h
    exact ⟨hb0, by simp, fun i h => (hno i h).elim, fun i h => (hno i h).elim, fun _ _ _ _ => rfl, vs, by rw [h1, hn], h2, fun i _ h => (hno i h.1).elim, fun i _ _ h => (hno i h.1).elim, fun i _ _ _ h => (hno i h.1).elim⟩
  have := wpAny_mul (P := P) (ops := l.toArray) (Q := Q) (ps := ps) (cons := cons) (own0 := own0) (n := n) (ds := ds) (a0 := a0) (w := w) (l.length - n) hn (by simpa using hle) hwt htk hc2 h0 h0i hnd hlt hstep
    (fun listed a W hI hall => by
      obtain ⟨vs, h1, rfl, h2, _, _⟩ := hI.act
      have hL : listed = Array.replicate n true ++ Array.replicate (l.length - n) false := by
        apply Array.ext_getElem?
        intro i
        have hsz := hI.sz
        simp only [List.size_toArray] at hsz
        by_cases hi : i < n
        · have := hall i hi
          rw [Array.getElem?_append_left (by simpa using hi)]
          have hil : i < listed.size := by omega
          simp only [Array.getD, hil, dif_pos] at this
          rw [Array.getElem?_eq_getElem hil, Array.getElem?_replicate, if_pos hi]
          exact congrArg some this
        · rw [Array.getElem?_append_right (by simp; omega)]
          by_cases hil : i < listed.size
          · have : ¬ listed.getD i false = true := fun h => hi (hI.lo i h)
            simp only [Array.getD, hil, dif_pos, Bool.not_eq_true] at this
            rw [Array.getElem?_eq_getElem hil, Array.getElem?_replicate, if_pos (by simp; omega)]
            exact congrArg some this
          · rw [Array.getElem?_eq_none (by omega), Array.getElem?_eq_none (by simp; omega)]
      have hseq := wpAny_seq (P := P) (ops := l.toArray) (md := .any) (Q := Q) (l.drop n) n listed (putL a0 ds vs) W (fun j => by simp) (by rw [List.length_drop, hL]; exact hs)
        (hrest vs W h1 hI.bl (fun i hi hc => h2 i hi ⟨hall i hi, fun k hk => hc k (hI.lo k hk)⟩))
      rw [List.length_drop] at hseq
      exact hseq)
    n (Array.replicate l.length false) a0 { w with drawn := w.drawn + 1 } (unl_none _ _) hI0
  rw [show n + (l.length - n) = l.toArray.size by simp; omega] at this
  simpa using this

theorem mul_value {i d : Nat} {o : Oper} {a : Act} {W W' : World} {v : Value} (ho : ops[i]? = some o) (hg : o.guard = none) (hd : o.dst = some d) (hrun : (execOp a.eval o).run P W = .ok (.value v) W') (hb : W.grownBy W' none) (hp : (mf ps i).p v W')
    (hk : ∀ b, (mf ps i).key v W' b → W.heap.size ≤ b ∨ (∃ j e, j ∈ cons i ∧ ds[j]? = some e ∧ (mf ps j).key (a.eval (.tmp e)) W b) ∨ own0 i = some b) : MulStep P ops Q ps cons own0 ds i d a W := by
  refine wpOp_at ho hg (wp_run hrun ?_)
  show ∃ u row, a.put o.dst v = _ ∧ _
  rw [hd]
  exact ⟨v, none, rfl, hb, hp, (fun b h => by cases h), hk⟩
theorem mul_call {i d : Nat} {o : Oper} {a : Act} {W : World} {f : FuncId} {args : Array Value} (ho : ops[i]? = some o) (hg : o.guard = none) (hd : o.dst = some d) (hrun : (execOp a.eval o).run P W = .ok (.enter f args) W)
    (hc : Calls P f args W fun e W' => ∃ v, e = .returned v ∧ Below W.heap.size W W' ∧ (mf ps i).p v W' ∧ ∀ b, (mf ps i).key v W' b → W.heap.size ≤ b ∨ (∃ j e, j ∈ cons i ∧ ds[j]? = some e ∧ (mf ps j).key (a.eval (.tmp e)) W b) ∨ own0 i = some b) : MulStep P ops Q ps cons own0 ds i d a W := by
  refine wpOp_at ho hg (wp_run hrun (hc.mono ?_))
  rintro e W' ⟨v, rfl, hb, hp, hk⟩
  show ∃ u row, a.put o.dst v = _ ∧ _
  rw [hd]
  exact ⟨v, none, rfl, below_grownBy hb, hp, (fun b h => by cases h), hk⟩
/-- append to a row that is taken. -/
theorem mul_onto {e t : TypeId} {inf : TypeInfo} {z : Value} {size bytes base m c nn j : Nat} {i d : Nat} {o : Oper} {a : Act} {W : World} {u : Value} {A : Option Addr} {xs news : List Value} (s x : Operand) (y : Nat) (ho : ops[i]? = some o) (hgd : o.guard = none) (hd : o.dst = some d)
    (hop : o.op = .call { callee := .builtin .append, args := #[s, x], argTypes := #[t, t] })
    (ht : P.underlying t = some (.slice e)) (hi : P.info? e = some inf) (hz : inf.zero = some z) (hsize : inf.size = size) (hby : inf.bytes = bytes) (hzs : z.cells.size = size) (hsz : 0 < size)
    (hs : a.eval s = u) (hown : W.ownsRow base e size u nn xs) (hx : a.eval x = .slice A m c) (hf : CellsFrom W A m size news) (h1 : ∀ u ∈ news, u.oneCell' = true)
    (h63 : nn + m ≤ maxLen) (hbytes : (nn + m) * bytes ≤ 140737488355328) (hbase : base ≤ W.heap.size)
    (hc : j ∈ cons i) (hj : ds[j]? = some y) (hkj : ∀ b, u.ownBlock = some b → (mf ps j).key (a.eval (.tmp y)) W b)
    (hp : ∀ A' c' W', W'.ownsRow base e size (.slice A' (nn + m) c') (nn + m) (xs ++ news) → W.grownBy W' u.ownBlock → ((Value.slice A' (nn + m) c').ownBlock = u.ownBlock ∨ (Value.slice A' (nn + m) c').ownBlock = some W.heap.size) → (mf ps i).p (.slice A' (nn + m) c') W' ∧
      ∀ b, (mf ps i).key (.slice A' (nn + m) c') W' b → (Value.slice A' (nn + m) c').ownBlock = some b ∨ (∃ j e, j ∈ cons i ∧ ds[j]? = some e ∧ (mf ps j).key (a.eval (.tmp e)) W b)) :
    MulStep P ops Q ps cons own0 ds i d a W := by
  refine wpOp_at ho hgd (wp_onto s x hop ht hi hz hsize hby hzs hsz hs hown hx hf h1 h63 hbytes hbase fun A' c' W' h2 h3 h4 => ?_)
  obtain ⟨h5, h6⟩ := hp A' c' W' h2 h3 h4
  rw [hd]
  refine ⟨_, u.ownBlock, rfl, h3, h5, fun b hb => ⟨j, y, hc, hj, hkj b hb⟩, fun b hb => ?_⟩
  rcases h6 b hb with h | h
  · rcases h4 with h4 | h4
    · exact .inr (.inl ⟨j, y, hc, hj, hkj b (h4 ▸ h)⟩)
    · rw [h4] at h; injection h with h; exact .inl (by omega)
  · exact .inr (.inl h)
/-- A row that somebody owns, as a fact. -/
def mrowF (ok : Nat → Prop) (base : Nat) (e : TypeId) (size n : Nat) (xs : List Value) : MFact ok :=
  ⟨fun v W => W.ownsRow base e size v n xs ∧ ∀ b, v.ownBlock = some b → ok b, fun v _ b => v.ownBlock = some b, fun v W W' row h hg hr => ⟨⟨h.1.kept hg (by
    cases hv : v.ownBlock with
    | none => exact .inl rfl
    | some g => exact .inr (fun h => (hr g h.symm).2 hv)), h.2⟩, fun _ h => h⟩, fun v W b h hk => ⟨h.2 b hk, (h.1.lt b hk).2⟩⟩
/-- A new block that is read from. -/
def msrcF (ok : Nat → Prop) (o : Obj) : MFact ok :=
  ⟨fun v W => ∃ A, v = .slice (some ⟨A, 0, none⟩) 1 1 ∧ ok A ∧ W.heap[A]? = some o, fun v _ b => v.ownBlock = some b, fun v W W' row ⟨A, h1, h2, h3⟩ hg hr => ⟨⟨A, h1, h2, (hg.block A (heap_lt h3) (fun e => (hr A e.symm).2 (by rw [h1]; rfl))).trans h3⟩, fun _ h => h⟩,
    fun v W b ⟨A, h1, h2, h3⟩ hk => by
      rw [h1] at hk
      have : A = b := by simpa [Value.ownBlock] using hk
      subst this
      exact ⟨h2, heap_lt h3⟩⟩
end
end Go.Proofs.Ytgjikoebneiamaa

namespace Go.Proofs.Ytgjikoebneiamaa
open Go.RowKit

/-- A block of a row that lies in a row of rows. -/
def Inner (W : World) (v : Value) (b : Nat) : Prop := ∃ g n c i u, v = .slice (some ⟨g, 0, none⟩) n c ∧ i < n ∧ W.cell? ⟨g, i, none⟩ = some u ∧ u.ownBlock = some b
theorem ListsAt.inner {w : World} {base : Nat} {v : Value} {xs : List (List Int)} (h : ListsAt w base v xs) {b : Nat} (hi : Inner w v b) : ∃ i u, i < xs.length ∧ OwnInts w u (xnth xs i) ∧ u.ownBlock = some b := by
  obtain ⟨g, n, c, i, u, rfl, hin, hc, hu⟩ := hi
  obtain ⟨vs, h1, h2, h3⟩ := h
  have hn : n = xs.length := by
    rcases h2.2 with ⟨e, h0⟩ | ⟨g', cap, cur, e, _⟩
    · cases e
    · injection e with _ e2 _
  subst hn
  obtain ⟨x, h4, h5⟩ := h3 i hin
  rw [h2.cellAt i (by omega), h4] at hc
  injection hc with hc
  subst hc
  exact ⟨i, x, hin, h5, hu⟩
theorem ListsAt.kept {w w' : World} {base : Nat} {v : Value} {xs : List (List Int)} {row : Option Nat} (h : ListsAt w base v xs) (hg : w.grownBy w' row) (hr : ∀ b, row = some b → v.ownBlock ≠ some b ∧ ¬ Inner w v b) : ListsAt w' base v xs ∧ ∀ b, Inner w' v b → Inner w v b := by
  have hc : ∀ g n c i, v = .slice (some ⟨g, 0, none⟩) n c → g < w.heap.size → w'.cell? ⟨g, i, none⟩ = w.cell? ⟨g, i, none⟩ := fun g n c i e hl =>
    hg.cell_far ⟨g, i, none⟩ hl (fun e2 => (hr g e2.symm).1 (by rw [e]; rfl))
  have hout : ∀ g, v.ownBlock = some g → g < w.heap.size := fun g hg' => by
    obtain ⟨vs, h1, h2, h3⟩ := h
    exact (h2.lt g hg').2
  refine ⟨?_, fun b ⟨g, n, c, i, u, h1, h2, h3, h4⟩ => ⟨g, n, c, i, u, h1, h2, (hc g n c i h1 (hout g (by rw [h1]; rfl))) ▸ h3, h4⟩⟩
  have h0 := h
  obtain ⟨vs, h1, h2, h3⟩ := h
  refine ⟨vs, h1, h2.kept hg (by
    cases hv : v.ownBlock with
    | none => exact .inl rfl
    | some g => exact .inr (fun e => (hr g e.symm).1 hv)), fun i hi => ?_⟩
  obtain ⟨x, h4, h5⟩ := h3 i hi
  refine ⟨x, h4, h5.kept hg ?_⟩
  cases hx : x.ownBlock with
  | none => exact .inl rfl
  | some g =>
    refine .inr (fun e => (hr g e.symm).2 ?_)
    obtain ⟨g', c, x', e1, e2, e3⟩ := h0.get hi
    subst e1
    have e4 := e2
    rw [h2.cellAt i (by omega), h4] at e4
    injection e4 with e4
    subst e4
    exact ⟨g', _, c, i, x, rfl, hi, e2, hx⟩
theorem ListsAt.lt {w : World} {base : Nat} {v : Value} {xs : List (List Int)} (h : ListsAt w base v xs) {b : Nat} (hb : v.ownBlock = some b ∨ Inner w v b) : b < w.heap.size := by
  rcases hb with hb | hb
  · obtain ⟨vs, h1, h2, h3⟩ := h
    exact (h2.lt b hb).2
  · obtain ⟨i, u, _, h2, h3⟩ := h.inner hb
    exact (h2.lt b h3).2
/-- A row of rows as a fact. -/
def mlistF (ok : Nat → Prop) (base : Nat) (xs : List (List Int)) : MFact ok :=
  ⟨fun v W => ListsAt W base v xs ∧ ∀ b, v.ownBlock = some b ∨ Inner W v b → ok b, fun v W b => v.ownBlock = some b ∨ Inner W v b,
    fun v W W' row h hg hr => by
      obtain ⟨h1, h2⟩ := h.1.kept hg (fun b hb => ⟨fun e => (hr b hb).2 (.inl e), fun e => (hr b hb).2 (.inr e)⟩)
      exact ⟨⟨h1, fun b hb => h.2 b (hb.imp id (h2 b))⟩, fun b hb => hb.imp id (h2 b)⟩,
    fun v W b h hk => ⟨h.2 b hk, h.1.lt hk⟩⟩
/-- Two rows of rows, one behind the other. -/
theorem lists_append {w w' : World} {base base2 : Nat} {u q : Value} {xs ys : List (List Int)} {vs us : List Value} (h1 : vs.length = xs.length) (h2 : w.ownsRow base 33 1 u xs.length vs) (h3 : ∀ i, i < xs.length → ∃ v, vs[i]? = some v ∧ OwnInts w v (xnth xs i))
    (k1 : us.length = ys.length) (k3 : ∀ i, i < ys.length → ∃ v, us[i]? = some v ∧ OwnInts w v (xnth ys i))
    (hg : w.grownBy w' u.ownBlock) (hq : w'.ownsRow base2 33 1 q (xs.length + ys.length) (vs ++ us)) :
    ListsAt w' base2 q (xs ++ ys) ∧ ∀ b, Inner w' q b → ∃ y, (y ∈ vs ∨ y ∈ us) ∧ y.ownBlock = some b := by
  have hq' : w'.ownsRow base2 33 1 q (xs ++ ys).length (vs ++ us) := by rw [List.length_append]; exact hq
  have hrow : ∀ i, i < (xs ++ ys).length → ∃ v, (vs ++ us)[i]? = some v ∧ OwnInts w' v (xnth (xs ++ ys) i) ∧ (v ∈ vs ∨ v ∈ us) := fun i hi => by
    rw [List.length_append] at hi
    by_cases e : i < xs.length
    · obtain ⟨v, h4, h5⟩ := h3 i e
      have hx : xnth (xs ++ ys) i = xnth xs i := by simp [xnth, List.getElem?_append_left e]
      exact ⟨v, by rw [List.getElem?_append_left (by omega)]; exact h4, by rw [hx]; exact own_kept_type h5 h2 (by decide) hg, .inl (List.mem_of_getElem? h4)⟩
    · obtain ⟨v, h4, h5⟩ := k3 (i - xs.length) (by omega)
      have hx : xnth (xs ++ ys) i = xnth ys (i - xs.length) := by simp [xnth, List.getElem?_append_right (show xs.length ≤ i by omega)]
      exact ⟨v, by rw [List.getElem?_append_right (by omega), h1]; exact h4, by rw [hx]; exact own_kept_type h5 h2 (by decide) hg, .inr (List.mem_of_getElem? h4)⟩
  refine ⟨⟨vs ++ us, by simp [h1, k1], hq', fun i hi => ?_⟩, fun b ⟨g, n, c, i, y, e1, e2, e3, e4⟩ => ?_⟩
  · obtain ⟨v, h4, h5, _⟩ := hrow i hi
    exact ⟨v, h4, h5⟩
  · subst e1
    have hn : n = (xs ++ ys).length := by
      rcases hq'.2 with ⟨e, h0⟩ | ⟨g', cap, cur, e, _⟩
      · cases e
      · injection e with _ e2 _
    subst hn
    obtain ⟨v, h4, _, h6⟩ := hrow i e2
    rw [hq'.cellAt i (by omega), h4] at e3
    injection e3 with e3
    subst e3
    exact ⟨v, h6, e4⟩

end Go.Proofs.Ytgjikoebneiamaa
