/-
  A region that draws its order whose first operations yield a value each: as LVals, and what is new in memory lies apart.
-/
import Derived.Test.YthclinhikhinpaaLVals
namespace Go.Proofs.Ythclinhikhinpaa
open Go.RowKit

section
variable {P : Program} {ops : Array Oper} {md : Region.Mode} {Q : Exit → Act → World → Prop}

/-- What holds while the values come. -/
structure ValsK (Pd : Nat → Value → World → Prop) (key : Nat → Value → Option Nat) (ds : List Nat) (a0 : Act) (w : World) (L : Array Bool) (a : Act) (W : World) : Prop where
  bl : Below w.heap.size w W
  act : ∃ vs : List Value, vs.length = ds.length ∧ a = putL a0 ds vs ∧ (∀ i, i < ds.length → L[i]? = some true → ∃ v, vs[i]? = some v ∧ Pd i v W) ∧
    ∀ i j u v, i < ds.length → j < ds.length → i ≠ j → L[i]? = some true → L[j]? = some true → vs[i]? = some u → vs[j]? = some v → ∀ b, key i u = some b → key j v ≠ some b

variable {Pd : Nat → Value → World → Prop} {key : Nat → Value → Option Nat} {ds : List Nat} {a0 : Act} {w : World}

theorem wpAny_keys {L : Array Bool} (m2 : Nat) (hnd : ds.Nodup) (hL : ∀ i, L[i]? = some true → i < ds.length)
    (hst : ∀ i v W W', Pd i v W → Below W.heap.size W W' → Pd i v W')
    (hfr : ∀ i v W, Pd i v W → ∀ b, key i v = some b → b < W.heap.size)
    (hstep : ∀ i vs W, (hi : i < ds.length) → vs.length = ds.length → Below w.heap.size w W → (∀ o, ops[i]? = some o → ∀ e ∈ o.after, Region.binds md e = true → e.on < ds.length → ∃ v, vs[e.on]? = some v ∧ Pd e.on v W) →
      wpOp P ops Q i (fun a' W' => ∃ v, a' = (putL a0 ds vs).put (some ds[i]) v ∧ Below W.heap.size W W' ∧ Pd i v W' ∧ (∀ b, key i v = some b → W.heap.size ≤ b)) (putL a0 ds vs) W)
    (hrest : ∀ a W, ValsK Pd key ds a0 w L a W → wpAny P md ops Q m2 L a W) :
    ∀ (m : Nat) (listed : Array Bool) (a : Act) (W : World), vpre md ops L m listed = true → ValsK Pd key ds a0 w listed a W → wpAny P md ops Q (m + m2) listed a W
  | 0, listed, a, W, hv, hI => by
    simp only [vpre, beq_iff_eq] at hv
    subst hv
    rw [Nat.zero_add]
    exact hrest a W hI
  | m + 1, listed, a, W, hv, hI => by
    have hv' := hv
    simp only [vpre, Bool.and_eq_true, Bool.not_eq_true', List.all_eq_true] at hv
    rw [Nat.succ_add]
    refine ⟨fun h0 => (by rw [h0] at hv; simp at hv), fun i hi => ?_⟩
    have hnext := hv.2 i hi
    obtain ⟨hun, o, ho, hdep⟩ := mem_ready.1 hi
    have hin : i < listed.size := by
      refine Nat.lt_of_not_le fun h => ?_
      simp [Array.getD, show ¬ i < listed.size by omega] at hun
    have hik : i < ds.length := hL i (vpre_mono hnext (by simp [hin]))
    obtain ⟨vs, hvl, rfl, hval, hfar⟩ := hI.act
    have hd : ∀ j, listed.getD j false = true → listed[j]? = some true := fun j hj => by
      by_cases h : j < listed.size
      · simp [Array.getD, h] at hj; rw [Array.getElem?_eq_getElem h, hj]
      · simp [Array.getD, h] at hj
    refine wpOp_mono (fun a' W' h => wpAny_keys m2 hnd hL hst hfr hstep hrest m _ a' W' hnext ?_) (hstep i vs W hik hvl hI.bl (fun o' ho' e he hb hlt => by
      rw [ho] at ho'; injection ho' with ho'; subst ho'
      exact hval _ hlt (hd _ (hdep e he hb))))
    obtain ⟨v, rfl, hb, hp, hf⟩ := h
    refine ⟨hI.bl.trans (hb.mono hI.bl.size), vs.set i v, by simp [hvl], putL_set hnd hvl (by simp [hik]), fun j hj hlj => ?_, fun j j' u u' hj hj' hne l1 l2 q1 q2 bb k1 k2 => ?_⟩
    · by_cases e : i = j
      · subst e
        exact ⟨v, by rw [List.getElem?_set]; simp; omega, hp⟩
      · rw [Array.getElem?_setIfInBounds_ne e] at hlj
        obtain ⟨x, h1, h2⟩ := hval j hj hlj
        exact ⟨x, by rw [List.getElem?_set, if_neg e]; exact h1, hst _ _ _ _ h2 hb⟩
    · have old : ∀ k x, k < ds.length → listed[k]? = some true → vs[k]? = some x → ∀ b, key k x = some b → b < W.heap.size := fun k x hk hl hx b hb => by
        obtain ⟨y, h1, h2⟩ := hval k hk hl
        rw [hx] at h1; injection h1 with h1; subst h1
        exact hfr k x W h2 b hb
      rw [List.getElem?_set] at q1 q2
      by_cases e1 : i = j
      · subst e1
        have e2 : i ≠ j' := hne
        rw [if_pos rfl] at q1
        rw [if_neg e2] at q2
        rw [Array.getElem?_setIfInBounds_ne e2] at l2
        split at q1
        · injection q1 with q1; subst q1
          have h1 := hf bb k1
          have h2 := old j' u' hj' l2 q2 bb k2
          omega
        · cases q1
      · rw [if_neg e1] at q1
        rw [Array.getElem?_setIfInBounds_ne e1] at l1
        by_cases e2 : i = j'
        · subst e2
          rw [if_pos rfl] at q2
          split at q2
          · injection q2 with q2; subst q2
            have h1 := hf bb k2
            have h2 := old j u hj l1 q1 bb k1
            omega
          · cases q2
        · rw [if_neg e2] at q2
          rw [Array.getElem?_setIfInBounds_ne e2] at l2
          exact hfar j j' u u' hj hj' hne l1 l2 q1 q2 bb k1 k2

/-- THE LAW. -/
theorem wp_region_keys {id : Nat} {a0 : Act} {w : World} (l : List Oper) (ds : List Nat) (Pd : Nat → Value → World → Prop) (key : Nat → Value → Option Nat) (hm : P.follows .mixedOrders = true)
    (hv : vpre .any l.toArray (Array.replicate ds.length true ++ Array.replicate (l.length - ds.length) false) ds.length (Array.replicate l.length false) = true)
    (hs : vseq .any l.toArray (l.length - ds.length) ds.length (Array.replicate ds.length true ++ Array.replicate (l.length - ds.length) false) = true)
    (hle : ds.length ≤ l.length) (hnd : ds.Nodup) (hlt : ∀ d ∈ ds, d < a0.tmps.size)
    (hst : ∀ i v W W', Pd i v W → Below W.heap.size W W' → Pd i v W')
    (hfr : ∀ i v W, Pd i v W → ∀ b, key i v = some b → b < W.heap.size)
    (hstep : ∀ i vs W, (hi : i < ds.length) → vs.length = ds.length → Below w.heap.size w W → (∀ o, l[i]? = some o → ∀ e ∈ o.after, Region.binds .any e = true → e.on < ds.length → ∃ v, vs[e.on]? = some v ∧ Pd e.on v W) →
      wpOp P l.toArray Q i (fun a' W' => ∃ v, a' = (putL a0 ds vs).put (some ds[i]) v ∧ Below W.heap.size W W' ∧ Pd i v W' ∧ (∀ b, key i v = some b → W.heap.size ≤ b)) (putL a0 ds vs) W)
    (hrest : ∀ vs W, vs.length = ds.length → Below w.heap.size w W → (∀ i, i < ds.length → ∃ v, vs[i]? = some v ∧ Pd i v W) →
      (∀ i j u v, i < ds.length → j < ds.length → i ≠ j → vs[i]? = some u → vs[j]? = some v → ∀ b, key i u = some b → key j v ≠ some b) → wpList P l.toArray Q (l.drop ds.length) (putL a0 ds vs) W) :
    (Code.region id l.toArray true).wp P Q a0 w := by
  refine wp_region_any hm ?_
  have hLt : ∀ i, i < ds.length → (Array.replicate ds.length true ++ Array.replicate (l.length - ds.length) false)[i]? = some true := fun i hi => by
    rw [Array.getElem?_append_left (by simpa using hi)]; simp [hi]
  have hI0 : ValsK Pd key ds a0 w (Array.replicate l.length false) a0 { w with drawn := w.drawn + 1 } := by
    obtain ⟨vs, h1, h2⟩ := putL_same hlt
    refine ⟨⟨rfl, rfl, rfl, Nat.le_refl _, fun _ _ => rfl⟩, vs, h1, h2, fun i _ h => ?_, fun i j u v _ _ _ h => ?_⟩
    · rw [Array.getElem?_replicate] at h; split at h <;> simp at h
    · rw [Array.getElem?_replicate] at h; split at h <;> simp at h
  have := wpAny_keys (P := P) (ops := l.toArray) (md := .any) (Q := Q) (L := Array.replicate ds.length true ++ Array.replicate (l.length - ds.length) false) (l.length - ds.length) hnd
    (fun i h => by
      refine Nat.lt_of_not_le fun hge => ?_
      rw [Array.getElem?_append_right (by simpa using hge), Array.getElem?_replicate] at h
      split at h <;> simp at h) hst hfr
    (fun i vs W hi h1 h2 h3 => hstep i vs W hi h1 h2 (fun o ho => h3 o (by simpa using ho)))
    (fun a W hI => by
      obtain ⟨vs, h1, rfl, h2, h3⟩ := hI.act
      have hseq := wpAny_seq (P := P) (ops := l.toArray) (md := .any) (Q := Q) (l.drop ds.length) ds.length (Array.replicate ds.length true ++ Array.replicate (l.length - ds.length) false) (putL a0 ds vs) W (fun j => by simp) (by rw [List.length_drop]; exact hs)
        (hrest vs W h1 hI.bl (fun i hi => h2 i hi (hLt i hi)) (fun i j u v hi hj hne => h3 i j u v hi hj hne (hLt i hi) (hLt j hj)))
      rw [List.length_drop] at hseq
      exact hseq)
    ds.length (Array.replicate l.length false) a0 { w with drawn := w.drawn + 1 } hv hI0
  rw [show ds.length + (l.length - ds.length) = l.toArray.size by simp; omega] at this
  simpa using this

end
end Go.Proofs.Ythclinhikhinpaa
