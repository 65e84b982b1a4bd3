/-
  A region that draws its order whose first operations yield a value each and leave what lies in memory as it was (they read, call, or lay blocks), and whose last ones wait for all of them and for each other: the values come in whatever order; each keeps what is said of it; the last ones are walked in the order of the text.
  A region that draws its order, whose first n operations yield a value each and leave what lay in memory as it was (they read, call, or lay blocks), however they hang on each other, and whose last ones wait for all of them and for each other: of each value something is said that stays so; no order is taken apart.
-/
import Derived.Test.YtomcjopcfdllgaaVMem
import Derived.Orders
import Derived.OrdersHeld

namespace Go.Proofs.Ytomcjopcfdllgaa
open Go.RowKit

section
variable {P : Program} {ops : Array Oper} {md : Region.Mode} {Q : Exit → Act → World → Prop}

/-- Whatever the way, after m operations just those of L have come up. -/
def vpre (md : Region.Mode) (ops : Array Oper) (L : Array Bool) : Nat → Array Bool → Bool
  | 0, listed => listed == L
  | m + 1, listed => !(Region.ready md ops listed).isEmpty && (Region.ready md ops listed).all fun i => vpre md ops L m (listed.setIfInBounds i true)
/-- From here on one operation alone may come up, the next of the text. -/
def vseq (md : Region.Mode) (ops : Array Oper) : Nat → Nat → Array Bool → Bool
  | 0, _, listed => (Region.ready md ops listed).isEmpty
  | m + 1, k, listed => (Region.ready md ops listed == [k]) && vseq md ops m (k + 1) (listed.setIfInBounds k true)

theorem vset_keep {L : Array Bool} {i j : Nat} (h : L[j]? = some true) : (L.setIfInBounds i true)[j]? = some true := by
  by_cases e : i = j
  · subst e; have := (Array.getElem?_eq_some_iff.1 h).1; simp [this]
  · rw [Array.getElem?_setIfInBounds_ne e]; exact h
theorem vpre_mono {L : Array Bool} {j : Nat} : ∀ {m : Nat} {listed : Array Bool}, vpre md ops L m listed = true → listed[j]? = some true → L[j]? = some true
  | 0, listed, h, hj => by
    simp only [vpre, beq_iff_eq] at h
    exact h ▸ hj
  | m + 1, listed, h, hj => by
    simp only [vpre, Bool.and_eq_true, Bool.not_eq_true', List.all_eq_true] at h
    obtain ⟨h1, h2⟩ := h
    cases hr : Region.ready md ops listed with
    | nil => rw [hr] at h1; simp at h1
    | cons i l => exact vpre_mono (h2 i (by rw [hr]; exact .head _)) (vset_keep hj)

theorem wpAny_seq : ∀ (rest : List Oper) (k : Nat) (listed : Array Bool) (a : Act) (W : World), (∀ j, rest[j]? = ops[k + j]?) → vseq md ops rest.length k listed = true →
    wpList P ops Q rest a W → wpAny P md ops Q rest.length listed a W
  | [], k, listed, a, W, _, hs, h => by
    simp only [List.length_nil, vseq, List.isEmpty_iff] at hs
    exact ⟨hs, h⟩
  | o :: rest, k, listed, a, W, hl, hs, h => by
    simp only [List.length_cons, vseq, Bool.and_eq_true, beq_iff_eq] at hs
    obtain ⟨h1, h2⟩ := hs
    have ho : ops[k]? = some o := by simpa using (hl 0).symm
    refine ⟨fun h0 => (by rw [h1] at h0; cases h0), fun i hi => ?_⟩
    rw [h1] at hi
    obtain rfl : i = k := by simpa using hi
    have ih := fun a' W' h' => wpAny_seq rest (i + 1) (listed.setIfInBounds i true) a' W' (fun j => by have := hl (j + 1); simpa [Nat.add_assoc, Nat.add_comm 1 j] using this) h2 h'
    unfold wpOp
    simp only [ho]
    unfold wpList at h
    split
    · rename_i hw; rw [if_pos hw] at h; exact h.imp (Oper.wp_mono ih) id
    · rename_i hw; rw [if_neg hw] at h; exact ih _ _ h

/-- The values in their slots. -/
def putL (a : Act) : List Nat → List Value → Act
  | d :: ds, v :: vs => putL (a.put (some d) v) ds vs
  | _, _ => a
theorem put_comm {a : Act} {d e : Nat} {u v : Value} (h : d ≠ e) : (a.put (some d) u).put (some e) v = (a.put (some e) v).put (some d) u := by
  simp only [Act.put, Array.setIfInBounds_comm _ _ h]
theorem put_again {a : Act} {d : Nat} {u v : Value} : (a.put (some d) u).put (some d) v = a.put (some d) v := by simp [Act.put]
theorem putL_put : ∀ {ds : List Nat} {vs : List Value} {a : Act} {d : Nat} {v : Value}, d ∉ ds → (putL a ds vs).put (some d) v = putL (a.put (some d) v) ds vs
  | [], _, _, _, _, _ => by simp [putL]
  | e :: ds, [], _, _, _, _ => by simp [putL]
  | e :: ds, u :: vs, a, d, v, h => by
    simp only [putL]
    rw [putL_put (fun h' => h (.tail _ h')), put_comm (fun e' : e = d => h (by rw [e']; exact .head _))]
theorem putL_set : ∀ {ds : List Nat} {vs : List Value} {a : Act} {i d : Nat} {v : Value}, ds.Nodup → vs.length = ds.length → ds[i]? = some d → (putL a ds vs).put (some d) v = putL a ds (vs.set i v)
  | [], _, _, i, _, _, _, _, h => by simp at h
  | e :: ds, [], _, _, _, _, _, h, _ => by simp at h
  | e :: ds, u :: vs, a, 0, d, v, hn, hl, h => by
    simp only [List.getElem?_cons_zero, Option.some.injEq] at h
    subst h
    simp only [putL, List.set_cons_zero]
    rw [putL_put (List.nodup_cons.1 hn).1, put_again]
  | e :: ds, u :: vs, a, i + 1, d, v, hn, hl, h => by
    simp only [putL, List.set_cons_succ]
    exact putL_set (List.nodup_cons.1 hn).2 (by simpa using hl) (by simpa using h)
theorem putL_same : ∀ {ds : List Nat} {a : Act}, (∀ d ∈ ds, d < a.tmps.size) → ∃ vs : List Value, vs.length = ds.length ∧ a = putL a ds vs
  | [], a, _ => ⟨[], rfl, rfl⟩
  | d :: ds, a, h => by
    have hd := h d (.head _)
    have e : a.put (some d) (a.tmps[d]) = a := by
      obtain ⟨t, f⟩ := a
      simp only [Act.put]
      congr 1
      apply Array.ext_getElem?
      intro k
      rw [Array.getElem?_setIfInBounds]
      split
      · rename_i hk; subst hk; simp
      · rfl
    obtain ⟨vs, h1, h2⟩ := putL_same (ds := ds) (a := a) (fun x hx => h x (.tail _ hx))
    exact ⟨a.tmps[d] :: vs, by simp [h1], by simp only [putL]; rw [e]; exact h2⟩

/-- What holds while the values come. -/
structure ValsI (Pd : Nat → Value → World → Prop) (fresh : Nat → Bool) (ds : List Nat) (a0 : Act) (w : World) (L : Array Bool) (a : Act) (W : World) : Prop where
  bl : Below w.heap.size w W
  act : ∃ vs : List Value, vs.length = ds.length ∧ a = putL a0 ds vs ∧ (∀ i, i < ds.length → L[i]? = some true → ∃ v, vs[i]? = some v ∧ Pd i v W) ∧
    ∀ i j u v, i < ds.length → j < ds.length → i ≠ j → fresh i = true → fresh j = true → L[i]? = some true → L[j]? = some true → vs[i]? = some u → vs[j]? = some v → u ≠ v

variable {Pd : Nat → Value → World → Prop} {fresh : Nat → Bool} {ds : List Nat} {a0 : Act} {w : World}

theorem wpAny_vals {L : Array Bool} (m2 : Nat) (hnd : ds.Nodup) (hL : ∀ i, L[i]? = some true → i < ds.length)
    (hst : ∀ i v W W', Pd i v W → Below W.heap.size W W' → Pd i v W')
    (hfr : ∀ i v W, fresh i = true → Pd i v W → ∃ b, v = .pointer (some ⟨b, 0, none⟩) ∧ b < W.heap.size)
    (hstep : ∀ i vs W, (hi : i < ds.length) → vs.length = ds.length → Below w.heap.size w W → (∀ o, ops[i]? = some o → ∀ e ∈ o.after, Region.binds md e = true → e.on < ds.length → ∃ v, vs[e.on]? = some v ∧ Pd e.on v W) →
      wpOp P ops Q i (fun a' W' => ∃ v, a' = (putL a0 ds vs).put (some ds[i]) v ∧ Below W.heap.size W W' ∧ Pd i v W' ∧ (fresh i = true → ∃ b, v = .pointer (some ⟨b, 0, none⟩) ∧ W.heap.size ≤ b)) (putL a0 ds vs) W)
    (hrest : ∀ a W, ValsI Pd fresh ds a0 w L a W → wpAny P md ops Q m2 L a W) :
    ∀ (m : Nat) (listed : Array Bool) (a : Act) (W : World), vpre md ops L m listed = true → ValsI Pd fresh ds a0 w listed a W → wpAny P md ops Q (m + m2) listed a W
  | 0, listed, a, W, hv, hI => by
    simp only [vpre, beq_iff_eq] at hv
    subst hv
    rw [Nat.zero_add]
    exact hrest a W hI
  | m + 1, listed, a, W, hv, hI => by
    have hv' := hv
    simp only [vpre, Bool.and_eq_true, Bool.not_eq_true', List.all_eq_true] at hv
    rw [Nat.succ_add]
    refine ⟨fun h0 => (by rw [h0] at hv; simp at hv), fun i hi => ?_⟩
    have hnext := hv.2 i hi
    obtain ⟨hun, o, ho, hdep⟩ := mem_ready.1 hi
    have hin : i < listed.size := by
      refine Nat.lt_of_not_le fun h => ?_
      simp [Array.getD, show ¬ i < listed.size by omega] at hun
    have hik : i < ds.length := hL i (vpre_mono hnext (by simp [hin]))
    obtain ⟨vs, hvl, rfl, hval, hfar⟩ := hI.act
    have hd : ∀ j, listed.getD j false = true → listed[j]? = some true := fun j hj => by
      by_cases h : j < listed.size
      · simp [Array.getD, h] at hj; rw [Array.getElem?_eq_getElem h, hj]
      · simp [Array.getD, h] at hj
    refine wpOp_mono (fun a' W' h => wpAny_vals m2 hnd hL hst hfr hstep hrest m _ a' W' hnext ?_) (hstep i vs W hik hvl hI.bl (fun o' ho' e he hb hlt => by
      rw [ho] at ho'; injection ho' with ho'; subst ho'
      exact hval _ hlt (hd _ (hdep e he hb))))
    obtain ⟨v, rfl, hb, hp, hf⟩ := h
    refine ⟨hI.bl.trans (hb.mono hI.bl.size), vs.set i v, by simp [hvl], putL_set hnd hvl (by simp [hik]), fun j hj hlj => ?_, fun j j' u u' hj hj' hne f1 f2 l1 l2 q1 q2 => ?_⟩
    · by_cases e : i = j
      · subst e
        exact ⟨v, by rw [List.getElem?_set]; simp; omega, hp⟩
      · rw [Array.getElem?_setIfInBounds_ne e] at hlj
        obtain ⟨x, h1, h2⟩ := hval j hj hlj
        exact ⟨x, by rw [List.getElem?_set, if_neg e]; exact h1, hst _ _ _ _ h2 hb⟩
    · have old : ∀ k x, k < ds.length → fresh k = true → listed[k]? = some true → vs[k]? = some x → ∃ b, x = .pointer (some ⟨b, 0, none⟩) ∧ b < W.heap.size := fun k x hk hf hl hx => by
        obtain ⟨y, h1, h2⟩ := hval k hk hl
        rw [hx] at h1; injection h1 with h1; subst h1
        exact hfr k x W hf h2
      rw [List.getElem?_set] at q1 q2
      by_cases e1 : i = j
      · subst e1
        have e2 : i ≠ j' := hne
        rw [if_pos rfl] at q1
        rw [if_neg e2] at q2
        rw [Array.getElem?_setIfInBounds_ne e2] at l2
        split at q1
        · injection q1 with q1; subst q1
          obtain ⟨b, rfl, hb'⟩ := hf f1
          obtain ⟨b2, rfl, hb2⟩ := old j' u' hj' f2 l2 q2
          intro e; injection e with e; injection e with e; injection e with e; omega
        · cases q1
      · rw [if_neg e1] at q1
        rw [Array.getElem?_setIfInBounds_ne e1] at l1
        by_cases e2 : i = j'
        · subst e2
          rw [if_pos rfl] at q2
          split at q2
          · injection q2 with q2; subst q2
            obtain ⟨b, rfl, hb'⟩ := hf f2
            obtain ⟨b2, rfl, hb2⟩ := old j u hj f1 l1 q1
            intro e; injection e with e; injection e with e; injection e with e; omega
          · cases q2
        · rw [if_neg e2] at q2
          rw [Array.getElem?_setIfInBounds_ne e2] at l2
          exact hfar j j' u u' hj hj' hne f1 f2 l1 l2 q1 q2

/-- THE LAW. -/
theorem wp_region_vals {id : Nat} {a0 : Act} {w : World} (l : List Oper) (ds : List Nat) (Pd : Nat → Value → World → Prop) (fresh : Nat → Bool) (hm : P.follows .mixedOrders = true)
    (hv : vpre .any l.toArray (Array.replicate ds.length true ++ Array.replicate (l.length - ds.length) false) ds.length (Array.replicate l.length false) = true)
    (hs : vseq .any l.toArray (l.length - ds.length) ds.length (Array.replicate ds.length true ++ Array.replicate (l.length - ds.length) false) = true)
    (hle : ds.length ≤ l.length) (hnd : ds.Nodup) (hlt : ∀ d ∈ ds, d < a0.tmps.size)
    (hst : ∀ i v W W', Pd i v W → Below W.heap.size W W' → Pd i v W')
    (hfr : ∀ i v W, fresh i = true → Pd i v W → ∃ b, v = .pointer (some ⟨b, 0, none⟩) ∧ b < W.heap.size)
    (hstep : ∀ i vs W, (hi : i < ds.length) → vs.length = ds.length → Below w.heap.size w W → (∀ o, l[i]? = some o → ∀ e ∈ o.after, Region.binds .any e = true → e.on < ds.length → ∃ v, vs[e.on]? = some v ∧ Pd e.on v W) →
      wpOp P l.toArray Q i (fun a' W' => ∃ v, a' = (putL a0 ds vs).put (some ds[i]) v ∧ Below W.heap.size W W' ∧ Pd i v W' ∧ (fresh i = true → ∃ b, v = .pointer (some ⟨b, 0, none⟩) ∧ W.heap.size ≤ b)) (putL a0 ds vs) W)
    (hrest : ∀ vs W, vs.length = ds.length → Below w.heap.size w W → (∀ i, i < ds.length → ∃ v, vs[i]? = some v ∧ Pd i v W) →
      (∀ i j u v, i < ds.length → j < ds.length → i ≠ j → fresh i = true → fresh j = true → vs[i]? = some u → vs[j]? = some v → u ≠ v) → wpList P l.toArray Q (l.drop ds.length) (putL a0 ds vs) W) :
    (Code.region id l.toArray true).wp P Q a0 w := by
  refine wp_region_any hm ?_
  have hLt : ∀ i, i < ds.length → (Array.replicate ds.length true ++ Array.replicate (l.length - ds.length) false)[i]? = some true := fun i hi => by
    rw [Array.getElem?_append_left (by simpa using hi)]; simp [hi]
  have hI0 : ValsI Pd fresh ds a0 w (Array.replicate l.length false) a0 { w with drawn := w.drawn + 1 } := by
    obtain ⟨vs, h1, h2⟩ := putL_same hlt
    refine ⟨⟨rfl, rfl, rfl, Nat.le_refl _, fun _ _ => rfl⟩, vs, h1, h2, fun i _ h => ?_, fun i j u v _ _ _ _ _ h => ?_⟩
    · rw [Array.getElem?_replicate] at h; split at h <;> simp at h
    · rw [Array.getElem?_replicate] at h; split at h <;> simp at h
  have := wpAny_vals (P := P) (ops := l.toArray) (md := .any) (Q := Q) (L := Array.replicate ds.length true ++ Array.replicate (l.length - ds.length) false) (l.length - ds.length) hnd
    (fun i h => by
      refine Nat.lt_of_not_le fun hge => ?_
      rw [Array.getElem?_append_right (by simpa using hge), Array.getElem?_replicate] at h
      split at h <;> simp at h) hst hfr
    (fun i vs W hi h1 h2 h3 => hstep i vs W hi h1 h2 (fun o ho => h3 o (by simpa using ho)))
    (fun a W hI => by
      obtain ⟨vs, h1, rfl, h2, h3⟩ := hI.act
      have hseq := wpAny_seq (P := P) (ops := l.toArray) (md := .any) (Q := Q) (l.drop ds.length) ds.length (Array.replicate ds.length true ++ Array.replicate (l.length - ds.length) false) (putL a0 ds vs) W (fun j => by simp) (by rw [List.length_drop]; exact hs)
        (hrest vs W h1 hI.bl (fun i hi => h2 i hi (hLt i hi)) (fun i j u v hi hj hne f1 f2 => h3 i j u v hi hj hne f1 f2 (hLt i hi) (hLt j hj)))
      rw [List.length_drop] at hseq
      exact hseq)
    ds.length (Array.replicate l.length false) a0 { w with drawn := w.drawn + 1 } hv hI0
  rw [show ds.length + (l.length - ds.length) = l.toArray.size by simp; omega] at this
  simpa using this

theorem wpOp_at {i : Nat} {o : Oper} {K : Act → World → Prop} {a : Act} (ho : ops[i]? = some o) (hg : o.guard = none) (h : o.wp P a w K Q) : wpOp P ops Q i K a w := by
  unfold wpOp
  simp only [ho]
  rw [if_pos (by simp [Region.wanted, hg])]
  exact .inl h
theorem wp_run {o : Oper} {a : Act} {w' : World} {n : Next} {K : Act → World → Prop} (h : (execOp a.eval o).run P w = .ok n w') (hk : o.upon P a K Q (.ok n w')) : o.wp P a w K Q := by
  unfold Oper.wp
  rw [h]
  exact hk
end
end Go.Proofs.Ytomcjopcfdllgaa

namespace Go.Proofs.Ytomcjopcfdllgaa
open Go.RowKit

/-- What is said of a value, and stays so while memory grows. -/
structure Fact where
  p : Value → World → Prop
  st : ∀ v W W', p v W → Below W.heap.size W W' → p v W'
/-- The value is c. -/
def isV (c : Value) : Fact := ⟨fun v _ => v = c, fun _ _ _ h _ => h⟩
/-- Nothing is said. -/
def anyV : Fact := ⟨fun _ _ => True, fun _ _ _ _ _ => trivial⟩
def factAt (ps : List Fact) (i : Nat) (v : Value) (W : World) : Prop := (ps.getD i anyV).p v W
theorem factAt_st (ps : List Fact) {i : Nat} {v : Value} {W W' : World} (h : factAt ps i v W) (hb : Below W.heap.size W W') : factAt ps i v W' := (ps.getD i anyV).st v W W' h hb

/-- What an operation waits for. -/
def depsOf (md : Region.Mode) (ops : Array Oper) (k : Nat) : List Nat :=
  match ops[k]? with
  | some o => (o.after.toList.filter (fun e => Region.binds md e)).map (fun e => e.on)
  | none => []
/-- And what that waits for. -/
def clo (md : Region.Mode) (ops : Array Oper) : Nat → List Nat → List Nat
  | 0, S => S
  | k + 1, S => clo md ops k (if S.contains k = true then S ++ depsOf md ops k else S)
/-- The first n wait for earlier ones alone; the others for all of the first n. -/
def waitsB (md : Region.Mode) (ops : Array Oper) (n : Nat) : Bool :=
  (List.range n).all (fun i => (depsOf md ops i).all (fun j => decide (j < i))) &&
  (List.range' n (ops.size - n)).all (fun r => (List.range n).all (fun i => (clo md ops ops.size (depsOf md ops r)).contains i))
/-- How many of the first k have not come up. -/
def unl (listed : Array Bool) : Nat → Nat
  | 0 => 0
  | k + 1 => unl listed k + (if listed.getD k false = true then 0 else 1)

section
variable {P : Program} {ops : Array Oper} {md : Region.Mode} {Q : Exit → Act → World → Prop}

theorem mem_depsOf {k j : Nat} {o : Oper} (ho : ops[k]? = some o) : j ∈ depsOf md ops k ↔ ∃ e ∈ o.after, Region.binds md e = true ∧ e.on = j := by
  simp only [depsOf, ho, List.mem_map, List.mem_filter, Array.mem_toList_iff]
  constructor
  · rintro ⟨e, ⟨h1, h2⟩, h3⟩; exact ⟨e, h1, h2, h3⟩
  · rintro ⟨e, h1, h2, h3⟩; exact ⟨e, ⟨h1, h2⟩, h3⟩
theorem clo_listed {listed : Array Bool} (hd : ∀ k, listed.getD k false = true → ∀ j ∈ depsOf md ops k, listed.getD j false = true) :
    ∀ (k : Nat) (S : List Nat), (∀ j ∈ S, listed.getD j false = true) → ∀ j ∈ clo md ops k S, listed.getD j false = true
  | 0, S, h, j, hj => h j hj
  | k + 1, S, h, j, hj => by
    refine clo_listed hd k _ (fun i hi => ?_) j hj
    split at hi
    · rename_i hk
      rcases List.mem_append.1 hi with h1 | h1
      · exact h i h1
      · exact hd k (h k (by simpa using hk)) i h1
    · exact h i hi
theorem set_getD {listed : Array Bool} {i j : Nat} (hi : i < listed.size) : (listed.setIfInBounds i true).getD j false = (if i = j then true else listed.getD j false) := by
  by_cases e : i = j
  · subst e; simp [Array.getD, hi]
  · rw [if_neg e, getD_set_ne false e]
theorem unl_ge {listed : Array Bool} {i : Nat} (hi : i < listed.size) : ∀ {k : Nat}, k ≤ i → unl (listed.setIfInBounds i true) k = unl listed k
  | 0, _ => rfl
  | k + 1, h => by simp only [unl]; rw [unl_ge hi (by omega), set_getD (j := k) hi, if_neg (show ¬ i = k by omega)]
theorem unl_lt {listed : Array Bool} {i : Nat} (hi : i < listed.size) (h0 : listed.getD i false = false) : ∀ {k : Nat}, i < k → unl (listed.setIfInBounds i true) k + 1 = unl listed k
  | 0, h => by omega
  | k + 1, h => by
    simp only [unl]
    by_cases e : i = k
    · subst e
      rw [unl_ge hi (Nat.le_refl _), set_getD hi, if_pos rfl, h0]
      simp
    · have := unl_lt hi h0 (k := k) (by omega)
      rw [set_getD hi, if_neg e]
      omega
theorem unl_zero {listed : Array Bool} : ∀ {k : Nat}, unl listed k = 0 → ∀ i, i < k → listed.getD i false = true
  | 0, _, i, h => by omega
  | k + 1, hu, i, h => by
    simp only [unl] at hu
    by_cases e : i = k
    · subst e
      cases hc : listed.getD i false
      · rw [hc] at hu; simp at hu
      · rfl
    · exact unl_zero (k := k) (by omega) i (by omega)
theorem unl_some {listed : Array Bool} : ∀ {k : Nat}, unl listed k ≠ 0 → ∃ i, i < k ∧ listed.getD i false = false ∧ ∀ j, j < i → listed.getD j false = true
  | 0, h => by simp [unl] at h
  | k + 1, h => by
    by_cases e : unl listed k = 0
    · refine ⟨k, by omega, ?_, unl_zero e⟩
      simp only [unl, e] at h
      cases hc : listed.getD k false
      · rfl
      · rw [hc] at h; simp at h
    · obtain ⟨i, h1, h2, h3⟩ := unl_some e
      exact ⟨i, by omega, h2, h3⟩
theorem unl_none (m : Nat) : ∀ k, unl (Array.replicate m false) k = k
  | 0 => rfl
  | k + 1 => by
    simp only [unl, unl_none m k]
    have : (Array.replicate m false).getD k false = false := by
      simp [Array.getD]
    rw [this]; simp

theorem putL_size : ∀ {ds : List Nat} {vs : List Value} {a : Act}, (putL a ds vs).tmps.size = a.tmps.size
  | [], _, _ => rfl
  | _ :: _, [], _ => rfl
  | d :: ds, v :: vs, a => by
    simp only [putL]
    rw [putL_size]
    simp [Act.put]
theorem putL_off : ∀ {ds : List Nat} {vs : List Value} {a : Act} {t : Nat}, t ∉ ds → (putL a ds vs).eval (.tmp t) = a.eval (.tmp t)
  | [], _, _, _, _ => rfl
  | _ :: _, [], _, _, _ => rfl
  | d :: ds, v :: vs, a, t, h => by
    simp only [putL]
    rw [putL_off (fun h' => h (.tail _ h'))]
    have : d ≠ t := fun e => h (e ▸ .head _)
    simp [Act.eval, Act.put, Array.getElem?_setIfInBounds_ne this, Array.getD_eq_getD_getElem?]
theorem putL_at : ∀ {ds : List Nat} {vs : List Value} {a : Act} {j d : Nat} {u : Value}, ds.Nodup → (∀ d ∈ ds, d < a.tmps.size) → ds[j]? = some d → vs[j]? = some u → (putL a ds vs).eval (.tmp d) = u
  | [], _, _, _, _, _, _, _, h, _ => by simp at h
  | _ :: _, [], _, _, _, _, _, _, _, h => by simp at h
  | d :: ds, v :: vs, a, 0, d', u, hn, hlt, h1, h2 => by
    simp only [List.getElem?_cons_zero, Option.some.injEq] at h1 h2
    subst h1 h2
    simp only [putL]
    rw [putL_off (List.nodup_cons.1 hn).1]
    have := hlt d (.head _)
    simp [Act.eval, Act.put, this, Array.getD_eq_getD_getElem?]
  | d :: ds, v :: vs, a, j + 1, d', u, hn, hlt, h1, h2 => by
    simp only [putL]
    exact putL_at (List.nodup_cons.1 hn).2 (fun x hx => by have := hlt x (.tail _ hx); simpa [Act.put] using this) (by simpa using h1) (by simpa using h2)

theorem eval_tmp (a : Act) (t : Nat) : a.eval (.tmp t) = a.tmps[t]?.getD undef := by simp [Act.eval]
/-- What holds while the values come. -/
structure FactsI (ops : Array Oper) (ps : List Fact) (n : Nat) (ds : List Nat) (a0 : Act) (w : World) (listed : Array Bool) (a : Act) (W : World) : Prop where
  bl : Below w.heap.size w W
  sz : listed.size = ops.size
  lo : ∀ i, listed.getD i false = true → i < n
  down : ∀ k, listed.getD k false = true → ∀ j ∈ depsOf .any ops k, listed.getD j false = true
  act : ∃ vs : List Value, vs.length = n ∧ a = putL a0 ds vs ∧ ∀ i, i < n → listed.getD i false = true → ∃ v, vs[i]? = some v ∧ factAt ps i v W

variable {ps : List Fact} {n : Nat} {ds : List Nat} {a0 : Act} {w : World}

theorem wpAny_facts (m2 : Nat) (hn : ds.length = n) (hsz : n ≤ ops.size) (hwt : waitsB .any ops n = true) (hnd : ds.Nodup) (hlt : ∀ d ∈ ds, d < a0.tmps.size)
    (hstep : ∀ i a W d, i < n → ds[i]? = some d → Below w.heap.size w W → (∀ t, t ∉ ds → a.eval (.tmp t) = a0.eval (.tmp t)) →
      (∀ j e, (depsOf .any ops i).contains j = true → ds[j]? = some e → factAt ps j (a.eval (.tmp e)) W) →
      wpOp P ops Q i (fun a' W' => ∃ v, a' = a.put (some d) v ∧ Below W.heap.size W W' ∧ factAt ps i v W') a W)
    (hrest : ∀ listed a W, FactsI ops ps n ds a0 w listed a W → (∀ i, i < n → listed.getD i false = true) → wpAny P .any ops Q m2 listed a W) :
    ∀ (m : Nat) (listed : Array Bool) (a : Act) (W : World), unl listed n = m → FactsI ops ps n ds a0 w listed a W → wpAny P .any ops Q (m + m2) listed a W
  | 0, listed, a, W, hu, hI => by
    rw [Nat.zero_add]
    exact hrest listed a W hI (unl_zero hu)
  | m + 1, listed, a, W, hu, hI => by
    simp only [waitsB, Bool.and_eq_true, List.all_eq_true, decide_eq_true_eq, List.mem_range, List.mem_range'_1] at hwt
    rw [Nat.succ_add]
    refine ⟨fun h0 => ?_, fun i hi => ?_⟩
    · obtain ⟨i, h1, h2, h3⟩ := unl_some (listed := listed) (k := n) (by omega)
      have hio : i < ops.size := by omega
      have : i ∈ Region.ready .any ops listed := mem_ready.2 ⟨by
        have hil : i < listed.size := by rw [hI.sz]; exact hio
        simp only [Array.getD, hil, dif_pos] at h2 ⊢
        exact h2, ops[i], Array.getElem?_eq_getElem hio, fun e he hb => h3 _ (hwt.1 i h1 _ ((mem_depsOf (Array.getElem?_eq_getElem hio)).2 ⟨e, he, hb, rfl⟩))⟩
      rw [h0] at this
      cases this
    · obtain ⟨hun, o, ho, hdep⟩ := mem_ready.1 hi
      have hio : i < ops.size := (Array.getElem?_eq_some_iff.1 ho).1
      have hil : i < listed.size := by rw [hI.sz]; exact hio
      have hun' : listed.getD i false = false := by
        simp only [Array.getD, hil, dif_pos] at hun ⊢
        exact hun
      have hdep' : ∀ j ∈ depsOf .any ops i, listed.getD j false = true := fun j hj => by
        obtain ⟨e, h1, h2, rfl⟩ := (mem_depsOf ho).1 hj
        exact hdep e h1 h2
      have hin : i < n := by
        refine Nat.lt_of_not_le fun hge => ?_
        have hall : ∀ k, k < n → listed.getD k false = true := fun k hk => clo_listed (md := .any) (ops := ops) hI.down _ _ hdep' k (by simpa using hwt.2 i ⟨hge, by omega⟩ k hk)
        have hz : ∀ k, k ≤ n → unl listed k = 0 := fun k => by
          induction k with
          | zero => intro _; rfl
          | succ k ih => intro hk; simp only [unl]; rw [ih (by omega), hall k (by omega)]; rfl
        rw [hz n (Nat.le_refl _)] at hu
        cases hu
      obtain ⟨vs, hvl, rfl, hval⟩ := hI.act
      obtain ⟨d, hd⟩ : ∃ d, ds[i]? = some d := ⟨ds[i], by simp⟩
      refine wpOp_mono (fun a' W' h => wpAny_facts m2 hn hsz (by
        simp only [waitsB, Bool.and_eq_true, List.all_eq_true, decide_eq_true_eq, List.mem_range, List.mem_range'_1]; exact hwt) hnd hlt hstep hrest m _ a' W' ?_ ?_) (hstep i _ W d hin hd hI.bl (fun t ht => putL_off ht) (fun j e hj hje => ?_))
      · have := unl_lt hil hun' hin
        omega
      · obtain ⟨v, rfl, hb, hp⟩ := h
        refine ⟨hI.bl.trans (hb.mono hI.bl.size), by simp [hI.sz], fun k hk => ?_, fun k hk j hj => ?_, vs.set i v, by simp [hvl], putL_set hnd (by rw [hvl, hn]) hd, fun j hj hlj => ?_⟩
        · rw [set_getD hil] at hk
          split at hk
          · omega
          · exact hI.lo k hk
        · rw [set_getD hil] at hk ⊢
          split
          · rfl
          · split at hk
            · rename_i e; subst e; exact hdep' j hj
            · exact hI.down k hk j hj
        · by_cases e : i = j
          · subst e
            exact ⟨v, by rw [List.getElem?_set]; simp; omega, hp⟩
          · rw [set_getD hil, if_neg e] at hlj
            obtain ⟨x, h1, h2⟩ := hval j hj hlj
            exact ⟨x, by rw [List.getElem?_set, if_neg e]; exact h1, factAt_st ps h2 hb⟩
      · have hjm : j ∈ depsOf .any ops i := by simpa using hj
        have hjl := hdep' j hjm
        obtain ⟨x, h1, h2⟩ := hval j (hI.lo j hjl) hjl
        rw [putL_at hnd hlt hje h1]
        exact h2

/-- THE LAW. -/
theorem wp_region_facts {id : Nat} {a0 : Act} {w : World} (l : List Oper) (n : Nat) (ds : List Nat) (ps : List Fact) (hm : P.follows .mixedOrders = true)
    (hwt : waitsB .any l.toArray n = true)
    (hs : vseq .any l.toArray (l.length - n) n (Array.replicate n true ++ Array.replicate (l.length - n) false) = true)
    (hn : ds.length = n) (hle : n ≤ l.length) (hnd : ds.Nodup) (hlt : ∀ d ∈ ds, d < a0.tmps.size)
    (hstep : ∀ i a W d, i < n → ds[i]? = some d → Below w.heap.size w W → (∀ t, t ∉ ds → a.eval (.tmp t) = a0.eval (.tmp t)) →
      (∀ j e, (depsOf .any l.toArray i).contains j = true → ds[j]? = some e → factAt ps j (a.eval (.tmp e)) W) →
      wpOp P l.toArray Q i (fun a' W' => ∃ v, a' = a.put (some d) v ∧ Below W.heap.size W W' ∧ factAt ps i v W') a W)
    (hrest : ∀ vs W, vs.length = n → Below w.heap.size w W → (∀ i, i < n → ∃ v, vs[i]? = some v ∧ factAt ps i v W) → wpList P l.toArray Q (l.drop n) (putL a0 ds vs) W) :
    (Code.region id l.toArray true).wp P Q a0 w := by
  refine wp_region_any hm ?_
  have hb0 : Below w.heap.size w { w with drawn := w.drawn + 1 } := ⟨rfl, rfl, rfl, Nat.le_refl _, fun _ _ => rfl⟩
  have hI0 : FactsI l.toArray ps n ds a0 w (Array.replicate l.length false) a0 { w with drawn := w.drawn + 1 } := by
    obtain ⟨vs, h1, h2⟩ := putL_same hlt
    have hf : ∀ i, (Array.replicate l.length false).getD i false = false := fun i => by simp [Array.getD]
    have hno : ∀ i, (Array.replicate l.length false).getD i false = true → False := fun i h => by rw [hf] at h; cases h
    exact ⟨hb0, by simp, fun i h => (hno i h).elim, fun i h => (hno i h).elim, vs, by rw [h1, hn], h2, fun i _ h => (hno i h).elim⟩
  have := wpAny_facts (P := P) (ops := l.toArray) (Q := Q) (ps := ps) (n := n) (ds := ds) (a0 := a0) (w := w) (l.length - n) hn (by simpa using hle) hwt hnd hlt hstep
    (fun listed a W hI hall => by
      obtain ⟨vs, h1, rfl, h2⟩ := hI.act
      have hL : listed = Array.replicate n true ++ Array.replicate (l.length - n) false := by
        apply Array.ext_getElem?
        intro i
        have hsz := hI.sz
        simp only [List.size_toArray] at hsz
        by_cases hi : i < n
        · have := hall i hi
          rw [Array.getElem?_append_left (by simpa using hi)]
          have hil : i < listed.size := by omega
          simp only [Array.getD, hil, dif_pos] at this
          rw [Array.getElem?_eq_getElem hil, Array.getElem?_replicate, if_pos hi]
          exact congrArg some this
        · rw [Array.getElem?_append_right (by simp; omega)]
          by_cases hil : i < listed.size
          · have : ¬ listed.getD i false = true := fun h => hi (hI.lo i h)
            simp only [Array.getD, hil, dif_pos, Bool.not_eq_true] at this
            rw [Array.getElem?_eq_getElem hil, Array.getElem?_replicate, if_pos (by simp; omega)]
            exact congrArg some this
          · rw [Array.getElem?_eq_none (by omega), Array.getElem?_eq_none (by simp; omega)]
      subst hL
      have hseq := wpAny_seq (P := P) (ops := l.toArray) (md := .any) (Q := Q) (l.drop n) n _ (putL a0 ds vs) W (fun j => by simp) (by rw [List.length_drop]; exact hs)
        (hrest vs W h1 hI.bl (fun i hi => h2 i hi (hall i hi)))
      rw [List.length_drop] at hseq
      exact hseq)
    n (Array.replicate l.length false) a0 { w with drawn := w.drawn + 1 } (unl_none _ _) hI0
  rw [show n + (l.length - n) = l.toArray.size by simp; omega] at this
  simpa using this

/-- An operation that yields a value by itself. -/
theorem fact_value {i d : Nat} {o : Oper} {a : Act} {W W' : World} {v : Value} (ho : ops[i]? = some o) (hg : o.guard = none) (hd : o.dst = some d) (hrun : (execOp a.eval o).run P W = .ok (.value v) W') (hb : Below W.heap.size W W') (hp : factAt ps i v W') :
    wpOp P ops Q i (fun a' W' => ∃ v, a' = a.put (some d) v ∧ Below W.heap.size W W' ∧ factAt ps i v W') a W := by
  refine wpOp_at ho hg (wp_run hrun ?_)
  show ∃ u, a.put o.dst v = _ ∧ _
  rw [hd]
  exact ⟨v, rfl, hb, hp⟩
theorem wants_on {o : Oper} {a : Act} {g t : Nat} {b : Bool} (hg : o.guard = some (g, b)) (hgd : (ops[g]?).bind (·.dst) = some t) (hv : a.tmps[t]?.getD undef = .bool b) : Region.wanted o (yielded ops a.tmps) = true := by
  unfold Region.wanted yielded
  rw [hg]
  simp only [hgd, Option.bind_some]
  cases h : a.tmps[t]? with
  | none => rw [h] at hv; cases hv
  | some v =>
    rw [h] at hv
    simp only [Option.getD_some] at hv
    subst hv
    simp
theorem wants_off {o : Oper} {a : Act} {g t : Nat} {b : Bool} (hg : o.guard = some (g, b)) (hgd : (ops[g]?).bind (·.dst) = some t) (hv : a.tmps[t]?.getD undef = .bool (!b)) : Region.wanted o (yielded ops a.tmps) = false := by
  unfold Region.wanted yielded
  rw [hg]
  simp only [hgd, Option.bind_some]
  cases h : a.tmps[t]? with
  | none => rw [h] at hv; cases hv
  | some v =>
    rw [h] at hv
    simp only [Option.getD_some] at hv
    subst hv
    cases b <;> rfl
theorem wpOp_on {i : Nat} {o : Oper} {K : Act → World → Prop} {a : Act} {w : World} (ho : ops[i]? = some o) (hw : Region.wanted o (yielded ops a.tmps) = true) (h : o.wp P a w K Q) : wpOp P ops Q i K a w := by
  unfold wpOp
  simp only [ho]
  rw [if_pos hw]
  exact .inl h
/-- A guarded operation that is wanted. -/
theorem fact_value_on {i d : Nat} {o : Oper} {a : Act} {W W' : World} {v : Value} (ho : ops[i]? = some o) (hw : Region.wanted o (yielded ops a.tmps) = true) (hd : o.dst = some d) (hrun : (execOp a.eval o).run P W = .ok (.value v) W') (hb : Below W.heap.size W W') (hp : factAt ps i v W') :
    wpOp P ops Q i (fun a' W' => ∃ v, a' = a.put (some d) v ∧ Below W.heap.size W W' ∧ factAt ps i v W') a W := by
  refine wpOp_on ho hw (wp_run hrun ?_)
  show ∃ u, a.put o.dst v = _ ∧ _
  rw [hd]
  exact ⟨v, rfl, hb, hp⟩
theorem fact_call_on {i d : Nat} {o : Oper} {a : Act} {W : World} {f : FuncId} {args : Array Value} (ho : ops[i]? = some o) (hw : Region.wanted o (yielded ops a.tmps) = true) (hd : o.dst = some d) (hrun : (execOp a.eval o).run P W = .ok (.enter f args) W)
    (hc : Calls P f args W fun e W' => ∃ v, e = .returned v ∧ Below W.heap.size W W' ∧ factAt ps i v W') :
    wpOp P ops Q i (fun a' W' => ∃ v, a' = a.put (some d) v ∧ Below W.heap.size W W' ∧ factAt ps i v W') a W := by
  refine wpOp_on ho hw (wp_run hrun (hc.mono ?_))
  rintro e W' ⟨v, rfl, hb, hp⟩
  show ∃ u, a.put o.dst v = _ ∧ _
  rw [hd]
  exact ⟨v, rfl, hb, hp⟩
/-- A guarded operation that is not. -/
theorem fact_off {i d : Nat} {o : Oper} {a : Act} {W : World} (ho : ops[i]? = some o) (hw : Region.wanted o (yielded ops a.tmps) = false) (hd : o.dst = some d) (hp : factAt ps i undef W) :
    wpOp P ops Q i (fun a' W' => ∃ v, a' = a.put (some d) v ∧ Below W.heap.size W W' ∧ factAt ps i v W') a W := by
  unfold wpOp
  simp only [ho]
  rw [if_neg (by rw [hw]; simp), hd]
  exact ⟨undef, rfl, Below.refl _ _, hp⟩
/-- A call of a Go function. -/
theorem fact_call {i d : Nat} {o : Oper} {a : Act} {W : World} {f : FuncId} {args : Array Value} (ho : ops[i]? = some o) (hg : o.guard = none) (hd : o.dst = some d) (hrun : (execOp a.eval o).run P W = .ok (.enter f args) W)
    (hc : Calls P f args W fun e W' => ∃ v, e = .returned v ∧ Below W.heap.size W W' ∧ factAt ps i v W') :
    wpOp P ops Q i (fun a' W' => ∃ v, a' = a.put (some d) v ∧ Below W.heap.size W W' ∧ factAt ps i v W') a W := by
  refine wpOp_at ho hg (wp_run hrun (hc.mono ?_))
  rintro e W' ⟨v, rfl, hb, hp⟩
  show ∃ u, a.put o.dst v = _ ∧ _
  rw [hd]
  exact ⟨v, rfl, hb, hp⟩
end
end Go.Proofs.Ytomcjopcfdllgaa
