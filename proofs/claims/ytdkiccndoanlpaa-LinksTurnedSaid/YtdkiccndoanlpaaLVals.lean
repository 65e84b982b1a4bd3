/-
  A region that draws its order whose first operations yield a value each and leave what lies in memory as it was (they read, call, or lay blocks), and whose last ones wait for all of them and for each other: the values come in whatever order; each keeps what is said of it; the last ones are walked in the order of the text.
-/
import Derived.Test.YtdkiccndoanlpaaGen
import Derived.Orders
import Derived.OrdersHeld

namespace Go.Proofs.Ytdkiccndoanlpaa
open Go.RowKit

section
variable {P : Program} {ops : Array Oper} {md : Region.Mode} {Q : Exit → Act → World → Prop}

/-- Whatever the way, after m operations just those of L have come up. -/
def vpre (md : Region.Mode) (ops : Array Oper) (L : Array Bool) : Nat → Array Bool → Bool
  | 0, listed => listed == L
  | m + 1, listed => !(Region.ready md ops listed).isEmpty && (Region.ready md ops listed).all fun i => vpre md ops L m (listed.setIfInBounds i true)
/-- From here on one operation alone may come up, the next of the text. -/
def vseq (md : Region.Mode) (ops : Array Oper) : Nat → Nat → Array Bool → Bool
  | 0, _, listed => (Region.ready md ops listed).isEmpty
  | m + 1, k, listed => (Region.ready md ops listed == [k]) && vseq md ops m (k + 1) (listed.setIfInBounds k true)

theorem vset_keep {L : Array Bool} {i j : Nat} (h : L[j]? = some true) : (L.setIfInBounds i true)[j]? = some true := by
  by_cases e : i = j
  · subst e; have := (Array.getElem?_eq_some_iff.1 h).1; simp [this]
  · rw [Array.getElem?_setIfInBounds_ne e]; exact h
theorem vpre_mono {L : Array Bool} {j : Nat} : ∀ {m : Nat} {listed : Array Bool}, vpre md ops L m listed = true → listed[j]? = some true → L[j]? = some true
  | 0, listed, h, hj => by
    simp only [vpre, beq_iff_eq] at h
    exact h ▸ hj
  | m + 1, listed, h, hj => by
    simp only [vpre, Bool.and_eq_true, Bool.not_eq_true', List.all_eq_true] at h
    obtain ⟨h1, h2⟩ := h
    cases hr : Region.ready md ops listed with
    | nil => rw [hr] at h1; simp at h1
    | cons i l => exact vpre_mono (h2 i (by rw [hr]; exact .head _)) (vset_keep hj)

theorem wpAny_seq : ∀ (rest : List Oper) (k : Nat) (listed : Array Bool) (a : Act) (W : World), (∀ j, rest[j]? = ops[k + j]?) → vseq md ops rest.length k listed = true →
    wpList P ops Q rest a W → wpAny P md ops Q rest.length listed a W
  | [], k, listed, a, W, _, hs, h => by
    simp only [List.length_nil, vseq, List.isEmpty_iff] at hs
    exact ⟨hs, h⟩
  | o :: rest, k, listed, a, W, hl, hs, h => by
    simp only [List.length_cons, vseq, Bool.and_eq_true, beq_iff_eq] at hs
    obtain ⟨h1, h2⟩ := hs
    have ho : ops[k]? = some o := by simpa using (hl 0).symm
    refine ⟨fun h0 => (by rw [h1] at h0; cases h0), fun i hi => ?_⟩
    rw [h1] at hi
    obtain rfl : i = k := by simpa using hi
    have ih := fun a' W' h' => wpAny_seq rest (i + 1) (listed.setIfInBounds i true) a' W' (fun j => by have := hl (j + 1); simpa [Nat.add_assoc, Nat.add_comm 1 j] using this) h2 h'
    unfold wpOp
    simp only [ho]
    unfold wpList at h
    split
    · rename_i hw; rw [if_pos hw] at h; exact h.imp (Oper.wp_mono ih) id
    · rename_i hw; rw [if_neg hw] at h; exact ih _ _ h

/-- The values in their slots. -/
def putL (a : Act) : List Nat → List Value → Act
  | d :: ds, v :: vs => putL (a.put (some d) v) ds vs
  | _, _ => a
theorem put_comm {a : Act} {d e : Nat} {u v : Value} (h : d ≠ e) : (a.put (some d) u).put (some e) v = (a.put (some e) v).put (some d) u := by
  simp only [Act.put, Array.setIfInBounds_comm _ _ h]
theorem put_again {a : Act} {d : Nat} {u v : Value} : (a.put (some d) u).put (some d) v = a.put (some d) v := by simp [Act.put]
theorem putL_put : ∀ {ds : List Nat} {vs : List Value} {a : Act} {d : Nat} {v : Value}, d ∉ ds → (putL a ds vs).put (some d) v = putL (a.put (some d) v) ds vs
  | [], _, _, _, _, _ => by simp [putL]
  | e :: ds, [], _, _, _, _ => by simp [putL]
  | e :: ds, u :: vs, a, d, v, h => by
    simp only [putL]
    rw [putL_put (fun h' => h (.tail _ h')), put_comm (fun e' : e = d => h (by rw [e']; exact .head _))]
theorem putL_set : ∀ {ds : List Nat} {vs : List Value} {a : Act} {i d : Nat} {v : Value}, ds.Nodup → vs.length = ds.length → ds[i]? = some d → (putL a ds vs).put (some d) v = putL a ds (vs.set i v)
  | [], _, _, i, _, _, _, _, h => by simp at h
  | e :: ds, [], _, _, _, _, _, h, _ => by simp at h
  | e :: ds, u :: vs, a, 0, d, v, hn, hl, h => by
    simp only [List.getElem?_cons_zero, Option.some.injEq] at h
    subst h
    simp only [putL, List.set_cons_zero]
    rw [putL_put (List.nodup_cons.1 hn).1, put_again]
  | e :: ds, u :: vs, a, i + 1, d, v, hn, hl, h => by
    simp only [putL, List.set_cons_succ]
    exact putL_set (List.nodup_cons.1 hn).2 (by simpa using hl) (by simpa using h)
theorem putL_same : ∀ {ds : List Nat} {a : Act}, (∀ d ∈ ds, d < a.tmps.size) → ∃ vs : List Value, vs.length = ds.length ∧ a = putL a ds vs
  | [], a, _ => ⟨[], rfl, rfl⟩
  | d :: ds, a, h => by
    have hd := h d (.head _)
    have e : a.put (some d) (a.tmps[d]) = a := by
      obtain ⟨t, f⟩ := a
      simp only [Act.put]
      congr 1
      apply Array.ext_getElem?
      intro k
      rw [Array.getElem?_setIfInBounds]
      split
      · rename_i hk; subst hk; simp
      · rfl
    obtain ⟨vs, h1, h2⟩ := putL_same (ds := ds) (a := a) (fun x hx => h x (.tail _ hx))
    exact ⟨a.tmps[d] :: vs, by simp [h1], by simp only [putL]; rw [e]; exact h2⟩

/-- What holds while the values come. -/
structure ValsI (Pd : Nat → Value → World → Prop) (fresh : Nat → Bool) (ds : List Nat) (a0 : Act) (w : World) (L : Array Bool) (a : Act) (W : World) : Prop where
  bl : Below w.heap.size w W
  act : ∃ vs : List Value, vs.length = ds.length ∧ a = putL a0 ds vs ∧ (∀ i, i < ds.length → L[i]? = some true → ∃ v, vs[i]? = some v ∧ Pd i v W) ∧
    ∀ i j u v, i < ds.length → j < ds.length → i ≠ j → fresh i = true → fresh j = true → L[i]? = some true → L[j]? = some true → vs[i]? = some u → vs[j]? = some v → u ≠ v

variable {Pd : Nat → Value → World → Prop} {fresh : Nat → Bool} {ds : List Nat} {a0 : Act} {w : World}

theorem wpAny_vals {L : Array Bool} (m2 : Nat) (hnd : ds.Nodup) (hL : ∀ i, L[i]? = some true → i < ds.length)
    (hst : ∀ i v W W', Pd i v W → Below W.heap.size W W' → Pd i v W')
    (hfr : ∀ i v W, fresh i = true → Pd i v W → ∃ b, v = .pointer (some ⟨b, 0, none⟩) ∧ b < W.heap.size)
    (hstep : ∀ i vs W, (hi : i < ds.length) → vs.length = ds.length → Below w.heap.size w W → (∀ o, ops[i]? = some o → ∀ e ∈ o.after, Region.binds md e = true → e.on < ds.length → ∃ v, vs[e.on]? = some v ∧ Pd e.on v W) →
      wpOp P ops Q i (fun a' W' => ∃ v, a' = (putL a0 ds vs).put (some ds[i]) v ∧ Below W.heap.size W W' ∧ Pd i v W' ∧ (fresh i = true → ∃ b, v = .pointer (some ⟨b, 0, none⟩) ∧ W.heap.size ≤ b)) (putL a0 ds vs) W)
    (hrest : ∀ a W, ValsI Pd fresh ds a0 w L a W → wpAny P md ops Q m2 L a W) :
    ∀ (m : Nat) (listed : Array Bool) (a : Act) (W : World), vpre md ops L m listed = true → ValsI Pd fresh ds a0 w listed a W → wpAny P md ops Q (m + m2) listed a W
  | 0, listed, a, W, hv, hI => by
    simp only [vpre, beq_iff_eq] at hv
    subst hv
    rw [Nat.zero_add]
    exact hrest a W hI
  | m + 1, listed, a, W, hv, hI => by
    have hv' := hv
    simp only [vpre, Bool.and_eq_true, Bool.not_eq_true', List.all_eq_true] at hv
    rw [Nat.succ_add]
    refine ⟨fun h0 => (by rw [h0] at hv; simp at hv), fun i hi => ?_⟩
    have hnext := hv.2 i hi
    obtain ⟨hun, o, ho, hdep⟩ := mem_ready.1 hi
    have hin : i < listed.size := by
      refine Nat.lt_of_not_le fun h => ?_
      simp [Array.getD, show ¬ i < listed.size by omega] at hun
    have hik : i < ds.length := hL i (vpre_mono hnext (by simp [hin]))
    obtain ⟨vs, hvl, rfl, hval, hfar⟩ := hI.act
    have hd : ∀ j, listed.getD j false = true → listed[j]? = some true := fun j hj => by
      by_cases h : j < listed.size
      · simp [Array.getD, h] at hj; rw [Array.getElem?_eq_getElem h, hj]
      · simp [Array.getD, h] at hj
    refine wpOp_mono (fun a' W' h => wpAny_vals m2 hnd hL hst hfr hstep hrest m _ a' W' hnext ?_) (hstep i vs W hik hvl hI.bl (fun o' ho' e he hb hlt => by
      rw [ho] at ho'; injection ho' with ho'; subst ho'
      exact hval _ hlt (hd _ (hdep e he hb))))
    obtain ⟨v, rfl, hb, hp, hf⟩ := h
    refine ⟨hI.bl.trans (hb.mono hI.bl.size), vs.set i v, by simp [hvl], putL_set hnd hvl (by simp [hik]), fun j hj hlj => ?_, fun j j' u u' hj hj' hne f1 f2 l1 l2 q1 q2 => ?_⟩
    · by_cases e : i = j
      · subst e
        exact ⟨v, by rw [List.getElem?_set]; simp; omega, hp⟩
      · rw [Array.getElem?_setIfInBounds_ne e] at hlj
        obtain ⟨x, h1, h2⟩ := hval j hj hlj
        exact ⟨x, by rw [List.getElem?_set, if_neg e]; exact h1, hst _ _ _ _ h2 hb⟩
    · have old : ∀ k x, k < ds.length → fresh k = true → listed[k]? = some true → vs[k]? = some x → ∃ b, x = .pointer (some ⟨b, 0, none⟩) ∧ b < W.heap.size := fun k x hk hf hl hx => by
        obtain ⟨y, h1, h2⟩ := hval k hk hl
        rw [hx] at h1; injection h1 with h1; subst h1
        exact hfr k x W hf h2
      rw [List.getElem?_set] at q1 q2
      by_cases e1 : i = j
      · subst e1
        have e2 : i ≠ j' := hne
        rw [if_pos rfl] at q1
        rw [if_neg e2] at q2
        rw [Array.getElem?_setIfInBounds_ne e2] at l2
        split at q1
        · injection q1 with q1; subst q1
          obtain ⟨b, rfl, hb'⟩ := hf f1
          obtain ⟨b2, rfl, hb2⟩ := old j' u' hj' f2 l2 q2
          intro e; injection e with e; injection e with e; injection e with e; omega
        · cases q1
      · rw [if_neg e1] at q1
        rw [Array.getElem?_setIfInBounds_ne e1] at l1
        by_cases e2 : i = j'
        · subst e2
          rw [if_pos rfl] at q2
          split at q2
          · injection q2 with q2; subst q2
            obtain ⟨b, rfl, hb'⟩ := hf f2
            obtain ⟨b2, rfl, hb2⟩ := old j u hj f1 l1 q1
            intro e; injection e with e; injection e with e; injection e with e; omega
          · cases q2
        · rw [if_neg e2] at q2
          rw [Array.getElem?_setIfInBounds_ne e2] at l2
          exact hfar j j' u u' hj hj' hne f1 f2 l1 l2 q1 q2

/-- THE LAW. -/
theorem wp_region_vals {id : Nat} {a0 : Act} {w : World} (l : List Oper) (ds : List Nat) (Pd : Nat → Value → World → Prop) (fresh : Nat → Bool) (hm : P.follows .mixedOrders = true)
    (hv : vpre .any l.toArray (Array.replicate ds.length true ++ Array.replicate (l.length - ds.length) false) ds.length (Array.replicate l.length false) = true)
    (hs : vseq .any l.toArray (l.length - ds.length) ds.length (Array.replicate ds.length true ++ Array.replicate (l.length - ds.length) false) = true)
    (hle : ds.length ≤ l.length) (hnd : ds.Nodup) (hlt : ∀ d ∈ ds, d < a0.tmps.size)
    (hst : ∀ i v W W', Pd i v W → Below W.heap.size W W' → Pd i v W')
    (hfr : ∀ i v W, fresh i = true → Pd i v W → ∃ b, v = .pointer (some ⟨b, 0, none⟩) ∧ b < W.heap.size)
    (hstep : ∀ i vs W, (hi : i < ds.length) → vs.length = ds.length → Below w.heap.size w W → (∀ o, l[i]? = some o → ∀ e ∈ o.after, Region.binds .any e = true → e.on < ds.length → ∃ v, vs[e.on]? = some v ∧ Pd e.on v W) →
      wpOp P l.toArray Q i (fun a' W' => ∃ v, a' = (putL a0 ds vs).put (some ds[i]) v ∧ Below W.heap.size W W' ∧ Pd i v W' ∧ (fresh i = true → ∃ b, v = .pointer (some ⟨b, 0, none⟩) ∧ W.heap.size ≤ b)) (putL a0 ds vs) W)
    (hrest : ∀ vs W, vs.length = ds.length → Below w.heap.size w W → (∀ i, i < ds.length → ∃ v, vs[i]? = some v ∧ Pd i v W) →
      (∀ i j u v, i < ds.length → j < ds.length → i ≠ j → fresh i = true → fresh j = true → vs[i]? = some u → vs[j]? = some v → u ≠ v) → wpList P l.toArray Q (l.drop ds.length) (putL a0 ds vs) W) :
    (Code.region id l.toArray true).wp P Q a0 w := by
  refine wp_region_any hm ?_
  have hLt : ∀ i, i < ds.length → (Array.replicate ds.length true ++ Array.replicate (l.length - ds.length) false)[i]? = some true := fun i hi => by
    rw [Array.getElem?_append_left (by simpa using hi)]; simp [hi]
  have hI0 : ValsI Pd fresh ds a0 w (Array.replicate l.length false) a0 { w with drawn := w.drawn + 1 } := by
    obtain ⟨vs, h1, h2⟩ := putL_same hlt
    refine ⟨⟨rfl, rfl, rfl, Nat.le_refl _, fun _ _ => rfl⟩, vs, h1, h2, fun i _ h => ?_, fun i j u v _ _ _ _ _ h => ?_⟩
    · rw [Array.getElem?_replicate] at h; split at h <;> simp at h
    · rw [Array.getElem?_replicate] at h; split at h <;> simp at h
  have := wpAny_vals (P := P) (ops := l.toArray) (md := .any) (Q := Q) (L := Array.replicate ds.length true ++ Array.replicate (l.length - ds.length) false) (l.length - ds.length) hnd
    (fun i h => by
      refine Nat.lt_of_not_le fun hge => ?_
      rw [Array.getElem?_append_right (by simpa using hge), Array.getElem?_replicate] at h
      split at h <;> simp at h) hst hfr
    (fun i vs W hi h1 h2 h3 => hstep i vs W hi h1 h2 (fun o ho => h3 o (by simpa using ho)))
    (fun a W hI => by
      obtain ⟨vs, h1, rfl, h2, h3⟩ := hI.act
      have hseq := wpAny_seq (P := P) (ops := l.toArray) (md := .any) (Q := Q) (l.drop ds.length) ds.length (Array.replicate ds.length true ++ Array.replicate (l.length - ds.length) false) (putL a0 ds vs) W (fun j => by simp) (by rw [List.length_drop]; exact hs)
        (hrest vs W h1 hI.bl (fun i hi => h2 i hi (hLt i hi)) (fun i j u v hi hj hne f1 f2 => h3 i j u v hi hj hne f1 f2 (hLt i hi) (hLt j hj)))
      rw [List.length_drop] at hseq
      exact hseq)
    ds.length (Array.replicate l.length false) a0 { w with drawn := w.drawn + 1 } hv hI0
  rw [show ds.length + (l.length - ds.length) = l.toArray.size by simp; omega] at this
  simpa using this

theorem wpOp_at {i : Nat} {o : Oper} {K : Act → World → Prop} {a : Act} (ho : ops[i]? = some o) (hg : o.guard = none) (h : o.wp P a w K Q) : wpOp P ops Q i K a w := by
  unfold wpOp
  simp only [ho]
  rw [if_pos (by simp [Region.wanted, hg])]
  exact .inl h
theorem wp_run {o : Oper} {a : Act} {w' : World} {n : Next} {K : Act → World → Prop} (h : (execOp a.eval o).run P w = .ok n w') (hk : o.upon P a K Q (.ok n w')) : o.wp P a w K Q := by
  unfold Oper.wp
  rw [h]
  exact hk
end
end Go.Proofs.Ytdkiccndoanlpaa
