/-
  A region that draws its order, by facts of its values, where some operations take a value for their own and write what it owns (append): each value owns at most one block, no two that live own the same; no order is taken apart.
-/
import Derived.Test.YtomcjopcfdllgaaVFactsK
import Derived.Test.YtomcjopcfdllgaaVSrc

namespace Go.Proofs.Ytomcjopcfdllgaa
open Go.RowKit

/-- What is said of a value, and the block that it owns: it stays so while memory grows and other owned blocks are written. -/
structure LFact (ok : Nat → Prop) where
  p : Value → World → Prop
  key : Value → Option Nat
  st : ∀ v W W' row, p v W → W.grownBy W' row → (∀ b, row = some b → ok b ∧ key v ≠ some b) → p v W'
  lt : ∀ v W b, p v W → key v = some b → ok b ∧ b < W.heap.size
/-- The value is c. -/
def lisV (ok : Nat → Prop) (c : Value) : LFact ok := ⟨fun v _ => v = c, fun _ => none, fun _ _ _ _ h _ _ => h, fun _ _ _ _ h => by cases h⟩
def lanyV (ok : Nat → Prop) : LFact ok := ⟨fun _ _ => True, fun _ => none, fun _ _ _ _ _ _ _ => trivial, fun _ _ _ _ h => by cases h⟩
def lf {ok : Nat → Prop} (ps : List (LFact ok)) (i : Nat) : LFact ok := ps.getD i (lanyV ok)

/-- What was there is as it was, but for blocks that may be owned. -/
structure OkKept (ok : Nat → Prop) (w W : World) : Prop where
  os : W.os = w.os
  tape : W.tape = w.tape
  output : W.output = w.output
  size : w.heap.size ≤ W.heap.size
  block : ∀ b, b < w.heap.size → ¬ ok b → W.heap[b]? = w.heap[b]?
theorem OkKept.grown {ok : Nat → Prop} {w W W' : World} {row : Option Nat} (h : OkKept ok w W) (hg : W.grownBy W' row) (hr : ∀ b, row = some b → ok b) : OkKept ok w W' :=
  ⟨hg.os.trans h.os, hg.tape.trans h.tape, hg.output.trans h.output, Nat.le_trans h.size hg.size, fun b hb hn => (hg.block b (by have := h.size; omega) (fun e => hn (hr b e.symm))).trans (h.block b hb hn)⟩
theorem OkKept.cell {ok : Nat → Prop} {w W : World} {b o : Nat} {v : Value} (h : OkKept ok w W) (hn : ¬ ok b) (hc : w.cell? ⟨b, o, none⟩ = some v) : W.cell? ⟨b, o, none⟩ = some v := by
  have hlt := block_lt_of_cell hc
  have e := h.block b hlt hn
  simp only [World.cell?] at hc ⊢
  rw [e]; exact hc
theorem below_grownBy {W W' : World} (hb : Below W.heap.size W W') : W.grownBy W' none := ⟨hb.os, hb.tape, hb.output, hb.size, fun k hk _ => hb.block k hk⟩

theorem own_okKept {ok : Nat → Prop} {w W : World} {base : Nat} {e : TypeId} {size : Nat} {v : Value} {n : Nat} {xs : List Value} (h : w.ownsRow base e size v n xs) (hk : OkKept ok w W) (hn : ∀ g, v.ownBlock = some g → ¬ ok g) : W.ownsRow base e size v n xs := by
  refine ⟨h.1, ?_⟩
  rcases h.2 with h2 | ⟨g, cap, cur, h1, h2, h3, h4⟩
  · exact .inl h2
  · exact .inr ⟨g, cap, cur, h1, h2, (hk.block g (heap_lt h3) (hn g (by rw [h1]; rfl))).trans h3, h4⟩
/-- A row that nobody has taken yet. -/
theorem own_first {w W : World} {base : Nat} {e : TypeId} {size : Nat} {v : Value} {n : Nat} {xs : List Value} (h : w.ownsRow base e size v n xs) (hf : ∀ b, v.ownBlock = some b → W.heap[b]? = w.heap[b]?) : W.ownsRow base e size v n xs := by
  refine ⟨h.1, ?_⟩
  rcases h.2 with h2 | ⟨g, cap, cur, h1, h2, h3, h4⟩
  · exact .inl h2
  · exact .inr ⟨g, cap, cur, h1, h2, (hf g (by rw [h1]; rfl)).trans h3, h4⟩
/-- Who takes which value for its own: each value that is taken is used by that one alone. -/
def takesB (md : Region.Mode) (ops : Array Oper) (n : Nat) (cons : Nat → Option Nat) : Bool :=
  (List.range n).all (fun i => match cons i with
    | none => true
    | some j => (depsOf md ops i).contains j && (List.range n).all (fun k => decide (k = i) || !(depsOf md ops k).contains j))

theorem src_key {k b : Nat} (h : (Value.slice (some ⟨k, 0, none⟩) 1 1).ownBlock = some b) : k ≤ b := by
  have : k = b := by simpa [Value.ownBlock] using h
  omega
/-- One value alone is there from the start. -/
def own1 (k : Nat) (o : Option Nat) (i : Nat) : Option Nat := if i = k then o else none
theorem own1_some {k i b : Nat} {o : Option Nat} (h : own1 k o i = some b) : i = k ∧ o = some b := by
  unfold own1 at h
  split at h
  · exact ⟨‹_›, h⟩
  · cases h
theorem own1_inj {k : Nat} {o : Option Nat} : ∀ i j b, own1 k o i = some b → own1 k o j = some b → i = j := fun _ _ _ hi hj => (own1_some hi).1.trans (own1_some hj).1.symm
theorem own1_self {k : Nat} {o : Option Nat} : own1 k o k = o := if_pos rfl
def takeL (l : List (Nat × Nat)) (i : Nat) : Option Nat := (l.find? (fun p => p.1 == i)).map (·.2)
theorem takeL_not {l : List (Nat × Nat)} {n i : Nat} (h : l.all (fun p => decide (p.2 ≠ i)) = true) : ∀ k, k < n → takeL l k ≠ some i := fun k _ e => by
  unfold takeL at e
  cases hf : l.find? (fun p => p.1 == k) with
  | none => rw [hf] at e; cases e
  | some p =>
    rw [hf] at e
    have := List.all_eq_true.1 h p (List.mem_of_find?_eq_some hf)
    simp only [decide_eq_true_eq] at this
    injection e with e
    exact this e
theorem takeL_none {l : List (Nat × Nat)} {n : Nat} (h : l.all (fun p => decide (p.1 < n)) = true) : ∀ i, n ≤ i → takeL l i = none := fun i hi => by
  unfold takeL
  rw [List.find?_eq_none.2 (fun p hp => ?_)]
  · rfl
  · have := List.all_eq_true.1 h p hp
    simp only [decide_eq_true_eq] at this
    simp; omega

section
variable {P : Program} {ops : Array Oper} {Q : Exit → Act → World → Prop} {ok : Nat → Prop}

/-- Listed, and not taken. -/
def live (cons : Nat → Option Nat) (listed : Array Bool) (i : Nat) : Prop := listed.getD i false = true ∧ ∀ k, listed.getD k false = true → cons k ≠ some i

structure LinI (ops : Array Oper) (ps : List (LFact ok)) (cons own0 : Nat → Option Nat) (n : Nat) (ds : List Nat) (a0 : Act) (w : World) (listed : Array Bool) (a : Act) (W : World) : Prop where
  bl : OkKept ok w W
  sz : listed.size = ops.size
  lo : ∀ i, listed.getD i false = true → i < n
  down : ∀ k, listed.getD k false = true → ∀ j ∈ depsOf .any ops k, listed.getD j false = true
  first : ∀ i b, listed.getD i false = false → own0 i = some b → W.heap[b]? = w.heap[b]?
  act : ∃ vs : List Value, vs.length = n ∧ a = putL a0 ds vs ∧ (∀ i, i < n → live cons listed i → ∃ v, vs[i]? = some v ∧ (lf ps i).p v W) ∧
    (∀ i u b, live cons listed i → vs[i]? = some u → (lf ps i).key u = some b → w.heap.size ≤ b ∨ ∃ j, listed.getD j false = true ∧ own0 j = some b) ∧
    ∀ i j u v, live cons listed i → live cons listed j → i ≠ j → vs[i]? = some u → vs[j]? = some v → ∀ b, (lf ps i).key u = some b → (lf ps j).key v ≠ some b

variable {ps : List (LFact ok)} {cons own0 : Nat → Option Nat} {n : Nat} {ds : List Nat} {a0 : Act} {w : World}

/-- A value that is there from the start may be looked at by an operation that comes before whoever takes it. -/
def Peek (ops : Array Oper) (ps : List (LFact ok)) (cons own0 : Nat → Option Nat) (n : Nat) (w : World) (i : Nat) (W : World) : Prop :=
  ∀ j, j < n → (∀ k, k < n → cons k = some j → (clo .any ops ops.size (depsOf .any ops k)).contains i = true) → (∀ b, own0 j = some b → W.heap[b]? = w.heap[b]?) ∨ ∃ v, (lf ps j).p v W
/-- What a step must do. -/
def LinStep (P : Program) (ops : Array Oper) (Q : Exit → Act → World → Prop) (ps : List (LFact ok)) (cons own0 : Nat → Option Nat) (ds : List Nat) (i d : Nat) (a : Act) (W : World) : Prop :=
  wpOp P ops Q i (fun a' W' => ∃ v row, a' = a.put (some d) v ∧ W.grownBy W' row ∧ (lf ps i).p v W' ∧
    (∀ b, row = some b → ∃ j e, cons i = some j ∧ ds[j]? = some e ∧ (lf ps j).key (a.eval (.tmp e)) = some b) ∧ (∀ b, (lf ps i).key v = some b → W.heap.size ≤ b ∨ row = some b ∨ own0 i = some b)) a W

theorem wpAny_lin (m2 : Nat) (hn : ds.length = n) (hsz : n ≤ ops.size) (hwt : waitsB .any ops n = true) (htk : takesB .any ops n cons = true) (hc2 : ∀ i, n ≤ i → cons i = none) (h0 : ∀ i b, own0 i = some b → b < w.heap.size) (h0i : ∀ i j b, own0 i = some b → own0 j = some b → i = j) (hnd : ds.Nodup) (hlt : ∀ d ∈ ds, d < a0.tmps.size)
    (hstep : ∀ i a W d, i < n → ds[i]? = some d → OkKept ok w W → (∀ b, own0 i = some b → W.heap[b]? = w.heap[b]?) → (∀ t, t ∉ ds → a.eval (.tmp t) = a0.eval (.tmp t)) →
      (∀ j e, (depsOf .any ops i).contains j = true → ds[j]? = some e → (lf ps j).p (a.eval (.tmp e)) W) → Peek ops ps cons own0 n w i W → LinStep P ops Q ps cons own0 ds i d a W)
    (hrest : ∀ listed a W, LinI ops ps cons own0 n ds a0 w listed a W → (∀ i, i < n → listed.getD i false = true) → wpAny P .any ops Q m2 listed a W) :
    ∀ (m : Nat) (listed : Array Bool) (a : Act) (W : World), unl listed n = m → LinI ops ps cons own0 n ds a0 w listed a W → wpAny P .any ops Q (m + m2) listed a W
  | 0, listed, a, W, hu, hI => by
    rw [Nat.zero_add]
    exact hrest listed a W hI (unl_zero hu)
  | m + 1, listed, a, W, hu, hI => by
    have hwt0 := hwt
    simp only [waitsB, Bool.and_eq_true, List.all_eq_true, decide_eq_true_eq, List.mem_range, List.mem_range'_1] at hwt
    have htk' : ∀ i j, i < n → cons i = some j → j ∈ depsOf .any ops i ∧ ∀ k, k < n → j ∈ depsOf .any ops k → k = i := fun i j hi hc => by
      simp only [takesB, List.all_eq_true, List.mem_range] at htk
      have := htk i hi
      rw [hc] at this
      simp only [Bool.and_eq_true, List.all_eq_true, List.mem_range, Bool.or_eq_true, decide_eq_true_eq, Bool.not_eq_true', List.contains_eq_mem] at this
      refine ⟨by simpa using this.1, fun k hk hj => ?_⟩
      rcases this.2 k hk with h | h
      · exact h
      · simp [hj] at h
    rw [Nat.succ_add]
    refine ⟨fun h0 => ?_, fun i hi => ?_⟩
    · obtain ⟨i, h1, h2, h3⟩ := unl_some (listed := listed) (k := n) (by omega)
      have hio : i < ops.size := by omega
      have : i ∈ Region.ready .any ops listed := mem_ready.2 ⟨by
        have hil : i < listed.size := by rw [hI.sz]; exact hio
        simp only [Array.getD, hil, dif_pos] at h2 ⊢
        exact h2, ops[i], Array.getElem?_eq_getElem hio, fun e he hb => h3 _ (hwt.1 i h1 _ ((mem_depsOf (Array.getElem?_eq_getElem hio)).2 ⟨e, he, hb, rfl⟩))⟩
      rw [h0] at this
      cases this
    · obtain ⟨hun, o, ho, hdep⟩ := mem_ready.1 hi
      have hio : i < ops.size := (Array.getElem?_eq_some_iff.1 ho).1
      have hil : i < listed.size := by rw [hI.sz]; exact hio
      have hun' : listed.getD i false = false := by
        simp only [Array.getD, hil, dif_pos] at hun ⊢
        exact hun
      have hdep' : ∀ j ∈ depsOf .any ops i, listed.getD j false = true := fun j hj => by
        obtain ⟨e, h1, h2, rfl⟩ := (mem_depsOf ho).1 hj
        exact hdep e h1 h2
      have hin : i < n := by
        refine Nat.lt_of_not_le fun hge => ?_
        have hall : ∀ k, k < n → listed.getD k false = true := fun k hk => clo_listed (md := .any) (ops := ops) hI.down _ _ hdep' k (by simpa using hwt.2 i ⟨hge, by omega⟩ k hk)
        have hz : ∀ k, k ≤ n → unl listed k = 0 := fun k => by
          induction k with
          | zero => intro _; rfl
          | succ k ih => intro hk; simp only [unl]; rw [ih (by omega), hall k (by omega)]; rfl
        rw [hz n (Nat.le_refl _)] at hu
        cases hu
      have hself : i ∉ depsOf .any ops i := fun h => by have := hwt.1 i hin i h; omega
      -- what the operation reads lives
      have hlive : ∀ j ∈ depsOf .any ops i, live cons listed j := fun j hj => ⟨hdep' j hj, fun k hk hc => by
        have hkn := hI.lo k hk
        have := (htk' k j hkn hc).2 i hin hj
        subst this
        rw [hun'] at hk; cases hk⟩
      obtain ⟨vs, hvl, rfl, hval, hsrc, hfar⟩ := hI.act
      obtain ⟨d, hd⟩ : ∃ d, ds[i]? = some d := ⟨ds[i], by simp⟩
      have hpeek : Peek ops ps cons own0 n w i W := fun j hj hc => by
        cases hlj : listed.getD j false
        · exact .inl (fun b hb => hI.first j b hlj hb)
        · right
          obtain ⟨v, _, h2⟩ := hval j hj ⟨hlj, fun k hk hck => by
            have h3 := clo_listed (md := .any) (ops := ops) hI.down ops.size _ (fun m hm => hI.down k hk m hm) i (by simpa using hc k (hI.lo k hk) hck)
            rw [hun'] at h3; cases h3⟩
          exact ⟨v, h2⟩
      refine wpOp_mono (fun a' W' h => wpAny_lin m2 hn hsz hwt0 htk hc2 h0 h0i hnd hlt hstep hrest m _ a' W' ?_ ?_) (hstep i _ W d hin hd hI.bl (fun b hb => hI.first i b hun' hb) (fun t ht => putL_off ht) (fun j e hj hje => ?_) hpeek)
      · have := unl_lt hil hun' hin
        omega
      · obtain ⟨v, row, rfl, hg, hp, htake, hkey⟩ := h
        have htake' : ∀ b, row = some b → ∃ j x, cons i = some j ∧ vs[j]? = some x ∧ (lf ps j).p x W ∧ (lf ps j).key x = some b := fun b hb => by
          obtain ⟨j, e, h1, h2, h3⟩ := htake b hb
          have hjd := (htk' i j hin h1).1
          obtain ⟨x, h4, h5⟩ := hval j (hI.lo j (hdep' j hjd)) (hlive j hjd)
          rw [putL_at hnd hlt h2 h4] at h3
          exact ⟨j, x, h1, h4, h5, h3⟩
        have hrow : ∀ b, row = some b → ok b ∧ b < W.heap.size := fun b hb => by
          obtain ⟨j, x, _, _, h5, h6⟩ := htake' b hb
          exact (lf ps j).lt x W b h5 h6
        -- who lived and lives still
        have hlv : ∀ k, k ≠ i → live cons (listed.setIfInBounds i true) k → live cons listed k ∧ cons i ≠ some k := fun k hk h => by
          have h1 := h.1
          rw [set_getD hil, if_neg (Ne.symm hk)] at h1
          refine ⟨⟨h1, fun k' hk' hc => h.2 k' ?_ hc⟩, h.2 i (by rw [set_getD hil, if_pos rfl])⟩
          rw [set_getD hil]
          split
          · rfl
          · exact hk'
        have hkrow : ∀ k x b, live cons listed k → cons i ≠ some k → vs[k]? = some x → row = some b → (lf ps k).key x ≠ some b := fun k x b hk hc hx hb => by
          obtain ⟨j, y, h1, h2, h3, h4⟩ := htake' b hb
          have hjd := (htk' i j hin h1).1
          exact fun e => hfar j k y x (hlive j hjd) hk (fun e' => hc (e' ▸ h1)) h2 hx b h4 e
        refine ⟨hI.bl.grown hg (fun b hb => (hrow b hb).1), by simp [hI.sz], fun k hk => ?_, fun k hk j hj => ?_, fun k b hk hb => ?_, vs.set i v, by simp [hvl], putL_set hnd (by rw [hvl, hn]) hd, fun j hj hlj => ?_, fun j u bb l1 q1 k1 => ?_, fun j j' u u' l1 l2 hne q1 q2 bb k1 k2 => ?_⟩
        · rw [set_getD hil] at hk
          split at hk
          · omega
          · exact hI.lo k hk
        · rw [set_getD hil] at hk ⊢
          split
          · rfl
          · split at hk
            · rename_i e; subst e; exact hdep' j hj
            · exact hI.down k hk j hj
        · have hk' : listed.getD k false = false ∧ k ≠ i := by
            rw [set_getD hil] at hk
            split at hk
            · cases hk
            · rename_i e; exact ⟨hk, fun e' => e e'.symm⟩
          refine (hg.block b (by have := h0 k b hb; have := hI.bl.size; omega) (fun e => ?_)).trans (hI.first k b hk'.1 hb)
          obtain ⟨j, y, h1, h2, h3, h4⟩ := htake' b e.symm
          rcases hsrc j y b (hlive j (htk' i j hin h1).1) h2 h4 with h | ⟨j', h5, h6⟩
          · have := h0 k b hb; omega
          · have := h0i k j' b hb h6
            subst this
            rw [hk'.1] at h5; cases h5
        · by_cases e : i = j
          · subst e
            exact ⟨v, by rw [List.getElem?_set]; simp; omega, hp⟩
          · obtain ⟨hl, hc⟩ := hlv j (Ne.symm e) hlj
            obtain ⟨x, h1, h2⟩ := hval j hj hl
            exact ⟨x, by rw [List.getElem?_set, if_neg e]; exact h1, (lf ps j).st x W W' row h2 hg (fun b hb => ⟨(hrow b hb).1, hkrow j x b hl hc h1 hb⟩)⟩
        · have hmore : ∀ j, listed.getD j false = true → (listed.setIfInBounds i true).getD j false = true := fun j hj => by
            rw [set_getD hil]
            split
            · rfl
            · exact hj
          rw [List.getElem?_set] at q1
          by_cases e1 : i = j
          · subst e1
            rw [if_pos rfl] at q1
            split at q1
            · injection q1 with q1; subst q1
              rcases hkey bb k1 with h | h | h
              · exact .inl (Nat.le_trans hI.bl.size h)
              · obtain ⟨j, y, h1, h2, h3, h4⟩ := htake' bb h
                rcases hsrc j y bb (hlive j (htk' i j hin h1).1) h2 h4 with h | ⟨j', h5, h6⟩
                · exact .inl h
                · exact .inr ⟨j', hmore j' h5, h6⟩
              · exact .inr ⟨i, by rw [set_getD hil, if_pos rfl], h⟩
            · cases q1
          · rw [if_neg e1] at q1
            rcases hsrc j u bb (hlv j (Ne.symm e1) l1).1 q1 k1 with h | ⟨j', h5, h6⟩
            · exact .inl h
            · exact .inr ⟨j', hmore j' h5, h6⟩
        · have hnew : ∀ k x b, k ≠ i → live cons (listed.setIfInBounds i true) k → vs[k]? = some x → (lf ps i).key v = some b → (lf ps k).key x ≠ some b := fun k x b hki hk hx hb e => by
            obtain ⟨hl, hc⟩ := hlv k hki hk
            rcases hkey b hb with h | h | h
            · obtain ⟨y, h1, h2⟩ := hval k (hI.lo k hl.1) hl
              rw [hx] at h1; injection h1 with h1; subst h1
              have := ((lf ps k).lt x W b h2 e).2
              omega
            · exact hkrow k x b hl hc hx h e
            · rcases hsrc k x b hl hx e with h2 | ⟨j, h2, h3⟩
              · have := h0 i b h; omega
              · have := h0i i j b h h3
                subst this
                rw [hun'] at h2; cases h2
          rw [List.getElem?_set] at q1 q2
          by_cases e1 : i = j
          · subst e1
            rw [if_pos rfl] at q1
            rw [if_neg hne] at q2
            split at q1
            · injection q1 with q1; subst q1
              exact hnew j' u' bb (Ne.symm hne) l2 q2 k1 k2
            · cases q1
          · rw [if_neg e1] at q1
            by_cases e2 : i = j'
            · subst e2
              rw [if_pos rfl] at q2
              split at q2
              · injection q2 with q2; subst q2
                exact hnew j u bb hne l1 q1 k2 k1
              · cases q2
            · rw [if_neg e2] at q2
              exact hfar j j' u u' (hlv j (Ne.symm e1) l1).1 (hlv j' (Ne.symm e2) l2).1 hne q1 q2 bb k1 k2
      · have hjm : j ∈ depsOf .any ops i := by simpa using hj
        obtain ⟨x, h1, h2⟩ := hval j (hI.lo j (hdep' j hjm)) (hlive j hjm)
        rw [putL_at hnd hlt hje h1]
        exact h2

/-- THE LAW. -/
theorem wp_region_lin {id : Nat} {a0 : Act} {w : World} (ok : Nat → Prop) (l : List Oper) (n : Nat) (ds : List Nat) (ps : List (LFact ok)) (cons own0 : Nat → Option Nat) (hm : P.follows .mixedOrders = true)
    (hwt : waitsB .any l.toArray n = true) (htk : takesB .any l.toArray n cons = true) (hc2 : ∀ i, n ≤ i → cons i = none) (h0 : ∀ i b, own0 i = some b → b < w.heap.size) (h0i : ∀ i j b, own0 i = some b → own0 j = some b → i = j)
    (hs : vseq .any l.toArray (l.length - n) n (Array.replicate n true ++ Array.replicate (l.length - n) false) = true)
    (hn : ds.length = n) (hle : n ≤ l.length) (hnd : ds.Nodup) (hlt : ∀ d ∈ ds, d < a0.tmps.size)
    (hstep : ∀ i a W d, i < n → ds[i]? = some d → OkKept ok w W → (∀ b, own0 i = some b → W.heap[b]? = w.heap[b]?) → (∀ t, t ∉ ds → a.eval (.tmp t) = a0.eval (.tmp t)) →
      (∀ j e, (depsOf .any l.toArray i).contains j = true → ds[j]? = some e → (lf ps j).p (a.eval (.tmp e)) W) → Peek l.toArray ps cons own0 n w i W → LinStep P l.toArray Q ps cons own0 ds i d a W)
    (hrest : ∀ vs W, vs.length = n → OkKept ok w W → (∀ i, i < n → (∀ k, k < n → cons k ≠ some i) → ∃ v, vs[i]? = some v ∧ (lf ps i).p v W) → wpList P l.toArray Q (l.drop n) (putL a0 ds vs) W) :
    (Code.region id l.toArray true).wp P Q a0 w := by
  refine wp_region_any hm ?_
  have hb0 : OkKept ok w { w with drawn := w.drawn + 1 } := ⟨rfl, rfl, rfl, Nat.le_refl _, fun _ _ _ => rfl⟩
  have hI0 : LinI l.toArray ps cons own0 n ds a0 w (Array.replicate l.length false) a0 { w with drawn := w.drawn + 1 } := by
    obtain ⟨vs, h1, h2⟩ := putL_same hlt
    have hf : ∀ i, (Array.replicate l.length false).getD i false = false := fun i => by simp [Array.getD]
    have hno : ∀ i, (Array.replicate l.length false).getD i false = true → False := fun i h => by rw [hf] at h; cases h
    exact ⟨hb0, by simp, fun i h => (hno i h).elim, fun i h => (hno i h).elim, fun _ _ _ _ => rfl, vs, by rw [h1, hn], h2, fun i _ h => (hno i h.1).elim, fun i _ _ h => (hno i h.1).elim, fun i _ _ _ h => (hno i h.1).elim⟩
  have := wpAny_lin (P := P) (ops := l.toArray) (Q := Q) (ps := ps) (cons := cons) (own0 := own0) (n := n) (ds := ds) (a0 := a0) (w := w) (l.length - n) hn (by simpa using hle) hwt htk hc2 h0 h0i hnd hlt hstep
    (fun listed a W hI hall => by
      obtain ⟨vs, h1, rfl, h2, _, _⟩ := hI.act
      have hL : listed = Array.replicate n true ++ Array.replicate (l.length - n) false := by
        apply Array.ext_getElem?
        intro i
        have hsz := hI.sz
        simp only [List.size_toArray] at hsz
        by_cases hi : i < n
        · have := hall i hi
          rw [Array.getElem?_append_left (by simpa using hi)]
          have hil : i < listed.size := by omega
          simp only [Array.getD, hil, dif_pos] at this
          rw [Array.getElem?_eq_getElem hil, Array.getElem?_replicate, if_pos hi]
          exact congrArg some this
        · rw [Array.getElem?_append_right (by simp; omega)]
          by_cases hil : i < listed.size
          · have : ¬ listed.getD i false = true := fun h => hi (hI.lo i h)
            simp only [Array.getD, hil, dif_pos, Bool.not_eq_true] at this
            rw [Array.getElem?_eq_getElem hil, Array.getElem?_replicate, if_pos (by simp; omega)]
            exact congrArg some this
          · rw [Array.getElem?_eq_none (by omega), Array.getElem?_eq_none (by simp; omega)]
      have hseq := wpAny_seq (P := P) (ops := l.toArray) (md := .any) (Q := Q) (l.drop n) n listed (putL a0 ds vs) W (fun j => by simp) (by rw [List.length_drop, hL]; exact hs)
        (hrest vs W h1 hI.bl (fun i hi hc => h2 i hi ⟨hall i hi, fun k hk => hc k (hI.lo k hk)⟩))
      rw [List.length_drop] at hseq
      exact hseq)
    n (Array.replicate l.length false) a0 { w with drawn := w.drawn + 1 } (unl_none _ _) hI0
  rw [show n + (l.length - n) = l.toArray.size by simp; omega] at this
  simpa using this

theorem lin_value {i d : Nat} {o : Oper} {a : Act} {W W' : World} {v : Value} (ho : ops[i]? = some o) (hg : o.guard = none) (hd : o.dst = some d) (hrun : (execOp a.eval o).run P W = .ok (.value v) W') (hb : W.grownBy W' none) (hp : (lf ps i).p v W') (hk : ∀ b, (lf ps i).key v = some b → W.heap.size ≤ b ∨ own0 i = some b) : LinStep P ops Q ps cons own0 ds i d a W := by
  refine wpOp_at ho hg (wp_run hrun ?_)
  show ∃ u row, a.put o.dst v = _ ∧ _
  rw [hd]
  exact ⟨v, none, rfl, hb, hp, (fun b h => by cases h), fun b h => (hk b h).imp id .inr⟩
theorem lin_call {i d : Nat} {o : Oper} {a : Act} {W : World} {f : FuncId} {args : Array Value} (ho : ops[i]? = some o) (hg : o.guard = none) (hd : o.dst = some d) (hrun : (execOp a.eval o).run P W = .ok (.enter f args) W)
    (hc : Calls P f args W fun e W' => ∃ v, e = .returned v ∧ Below W.heap.size W W' ∧ (lf ps i).p v W' ∧ ∀ b, (lf ps i).key v = some b → W.heap.size ≤ b) : LinStep P ops Q ps cons own0 ds i d a W := by
  refine wpOp_at ho hg (wp_run hrun (hc.mono ?_))
  rintro e W' ⟨v, rfl, hb, hp, hk⟩
  show ∃ u row, a.put o.dst v = _ ∧ _
  rw [hd]
  exact ⟨v, none, rfl, below_grownBy hb, hp, (fun b h => by cases h), fun b h => .inl (hk b h)⟩
/-- append to a row that is taken. -/
theorem lin_onto {e t : TypeId} {inf : TypeInfo} {z : Value} {size bytes base m c nn j : Nat} {i d : Nat} {o : Oper} {a : Act} {W : World} {u : Value} {A : Option Addr} {xs news : List Value} (s x : Nat) (ho : ops[i]? = some o) (hgd : o.guard = none) (hd : o.dst = some d)
    (hop : o.op = .call { callee := .builtin .append, args := #[.tmp s, .tmp x], argTypes := #[t, t] })
    (ht : P.underlying t = some (.slice e)) (hi : P.info? e = some inf) (hz : inf.zero = some z) (hsize : inf.size = size) (hby : inf.bytes = bytes) (hzs : z.cells.size = size) (hsz : 0 < size)
    (hs : a.eval (.tmp s) = u) (hown : W.ownsRow base e size u nn xs) (hx : a.eval (.tmp x) = .slice A m c) (hf : CellsFrom W A m size news) (h1 : ∀ u ∈ news, u.oneCell' = true)
    (h63 : nn + m ≤ maxLen) (hbytes : (nn + m) * bytes ≤ 140737488355328) (hbase : base ≤ W.heap.size)
    (hc : cons i = some j) (hj : ds[j]? = some s) (hkj : (lf ps j).key u = u.ownBlock)
    (hp : ∀ A' c' W', W'.ownsRow base e size (.slice A' (nn + m) c') (nn + m) (xs ++ news) → W.grownBy W' u.ownBlock → ((Value.slice A' (nn + m) c').ownBlock = u.ownBlock ∨ (Value.slice A' (nn + m) c').ownBlock = some W.heap.size) → (lf ps i).p (.slice A' (nn + m) c') W' ∧ (lf ps i).key (.slice A' (nn + m) c') = (Value.slice A' (nn + m) c').ownBlock) :
    LinStep P ops Q ps cons own0 ds i d a W := by
  refine wpOp_at ho hgd (wp_onto (.tmp s) (.tmp x) hop ht hi hz hsize hby hzs hsz hs hown hx hf h1 h63 hbytes hbase fun A' c' W' h2 h3 h4 => ?_)
  obtain ⟨h5, h6⟩ := hp A' c' W' h2 h3 h4
  rw [hd]
  refine ⟨_, u.ownBlock, rfl, h3, h5, fun b hb => ⟨j, s, hc, hj, by rw [hs, hkj]; exact hb⟩, fun b hb => ?_⟩
  rw [h6] at hb
  rcases h4 with h4 | h4
  · exact .inr (.inl (h4 ▸ hb))
  · rw [h4] at hb; injection hb with hb; exact .inl (by omega)
/-- A row that somebody owns, as a fact. -/
def rowF (ok : Nat → Prop) (base : Nat) (e : TypeId) (size n : Nat) (xs : List Value) : LFact ok :=
  ⟨fun v W => W.ownsRow base e size v n xs ∧ ∀ b, v.ownBlock = some b → ok b, Value.ownBlock, fun v W W' row h hg hr => ⟨h.1.kept hg (by
    cases hv : v.ownBlock with
    | none => exact .inl rfl
    | some g => exact .inr (fun h => (hr g h.symm).2 hv)), h.2⟩, fun v W b h hk => ⟨h.2 b hk, (h.1.lt b hk).2⟩⟩
/-- A new block that is read from. -/
def srcF (ok : Nat → Prop) (o : Obj) : LFact ok :=
  ⟨fun v W => ∃ A, v = .slice (some ⟨A, 0, none⟩) 1 1 ∧ ok A ∧ W.heap[A]? = some o, Value.ownBlock, fun v W W' row ⟨A, h1, h2, h3⟩ hg hr => ⟨A, h1, h2, (hg.block A (heap_lt h3) (fun e => (hr A e.symm).2 (by rw [h1]; rfl))).trans h3⟩,
    fun v W b ⟨A, h1, h2, h3⟩ hk => by
      rw [h1] at hk
      have : A = b := by simpa [Value.ownBlock] using hk
      subst this
      exact ⟨h2, heap_lt h3⟩⟩
end
end Go.Proofs.Ytomcjopcfdllgaa
