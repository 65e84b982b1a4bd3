/-
  A drawn region in a round: its first operations, which only read or call what only lays blocks, are taken in the order of the text; what follows waits for them all.
-/
import Derived.Test.YtgjikoebneiamaaLSeq1
import Derived.Lib.QuietBelowIn
import Derived.OwnWalkIn

namespace Go.Proofs.Ytgjikoebneiamaa
open Go.RowKit Go.Sort

section
variable {F : Fence} {n : Nat} {P : Program} {ops : Array Oper} {md : Region.Mode} {C : World → Prop}

/-- Every way through the next m operations, each quiet. -/
def preAny (F : Fence) (n : Nat) (P : Program) (md : Region.Mode) (ops : Array Oper) (C : World → Prop) (K : Act → Prop) : Nat → Array Bool → Act → Prop
  | 0, _, a => K a
  | m + 1, listed, a => ∀ i ∈ Region.ready md ops listed, qOpIn F n P ops C i (preAny F n P md ops C K m (listed.setIfInBounds i true)) a
/-- Whatever the way, after m operations just those of L have come up. -/
def preB (md : Region.Mode) (ops : Array Oper) (L : Array Bool) : Nat → Array Bool → Bool
  | 0, listed => listed == L
  | m + 1, listed => !(Region.ready md ops listed).isEmpty && (Region.ready md ops listed).all fun i => preB md ops L m (listed.setIfInBounds i true)
def preLex (md : Region.Mode) (ops : Array Oper) : Nat → Nat → Array Bool → Bool
  | 0, _, _ => true
  | m + 1, k, listed => (Region.ready md ops listed).contains k && Region.free md ops listed k && preLex md ops m (k + 1) (listed.setIfInBounds k true)
def noDefer (ops : Array Oper) : Bool := ops.all fun o => match o.op with | .defer .. => false | _ => true
theorem noDefer_spec (h : noDefer ops = true) (j : Nat) (o : Oper) (c : Call) (ho : ops[j]? = some o) : o.op ≠ .defer c := by
  intro heq
  have := Array.all_eq_true_iff_forall_mem.1 h o (Array.mem_of_getElem? ho)
  simp [heq] at this

theorem wpIn_of_quietR {o : Oper} {a : Act} {K : Act → Prop} {K' : Act → World → Prop} {Q' : Exit → Act → World → Prop} {w : World} (hp : ∀ c, o.op ≠ .defer c) (hw : C w) (h : ∀ a w', C w' → K a → K' a w')
    (ha : o.askedIn F P a C) (hh : o.quietIn F n P a C K) : o.wpIn F n P a w K' Q' := by
  obtain ⟨v, h1, h2⟩ := hh
  have h3 := h1 w hw
  unfold Oper.quietAtIn at h3
  unfold Oper.wpIn
  refine ⟨ha w hw, ?_⟩
  rw [Oper.semAt_plain F _ _ hp]
  generalize (execOp a.eval o).run P w = r at *
  cases r with
  | ok x w' =>
    cases x <;> simp only [Oper.quietUponIn] at h3 <;> simp only [Oper.uponIn]
    case value u =>
      obtain ⟨e1, e2⟩ := h3
      rw [e1, e2]
      exact h _ _ hw h2
    case skip =>
      obtain ⟨e1, e2⟩ := h3
      rw [e1, ← e2]
      exact h _ _ hw h2
    case enter f args =>
      obtain ⟨e1, hd, hc⟩ := h3
      rw [e1]
      exact ⟨hd, hc.mono fun e w'' ⟨he, hw''⟩ => by subst he; exact h _ _ hw'' h2⟩
  | halt x w' => simp only [Oper.quietUponIn] at h3

theorem wpOpIn_of_qOpR {i : Nat} {a : Act} {K : Act → Prop} {K' : Act → World → Prop} {Q' : Exit → Act → World → Prop} {w : World} (hp : noDefer ops = true) (hC : C w) (h : ∀ a w', C w' → K a → K' a w')
    (hh : qOpIn F n P ops C i K a) : wpOpIn F n P ops Q' i K' a w := by
  unfold qOpIn at hh
  unfold wpOpIn
  split
  · rename_i ho; simp only [ho] at hh; exact h _ _ hC hh
  · rename_i o ho
    simp only [ho] at hh
    obtain ⟨ha, hh⟩ := hh
    split
    · rename_i hw; simp only [hw, if_true] at hh; exact wpIn_of_quietR (fun c => noDefer_spec hp i o c ho) hC h ha hh
    · rename_i hw; simp only [hw] at hh; exact ⟨ha w hC, h _ _ hC hh⟩

theorem wpAnyIn_of_pre {L : Array Bool} {K : Act → Prop} {Q : Exit → Act → World → Prop} (hp : noDefer ops = true) (m2 : Nat) (hK : ∀ a w, C w → K a → wpAnyIn F n P md ops Q m2 L a w) :
    ∀ (m : Nat) (listed : Array Bool) (a : Act) (w : World), preB md ops L m listed = true → C w → preAny F n P md ops C K m listed a → wpAnyIn F n P md ops Q (m + m2) listed a w
  | 0, listed, a, w, hb, hc, h => by
    simp only [preB, beq_iff_eq] at hb
    subst hb
    rw [Nat.zero_add]
    exact hK _ _ hc h
  | m + 1, listed, a, w, hb, hc, h => by
    simp only [preB, Bool.and_eq_true, Bool.not_eq_true', List.all_eq_true] at hb
    rw [Nat.succ_add]
    refine ⟨fun h0 => ?_, fun i hi => ?_⟩
    · rw [h0] at hb; simp at hb
    · exact wpOpIn_of_qOpR hp hc (fun a' w' hw' h' => wpAnyIn_of_pre hp m2 hK m _ a' w' (hb.2 i hi) hw' h') (h i hi)

theorem preAny_first {L : Array Bool} {K : Act → Prop} {i : Nat} {oi : Oper} {v : Value} (hi : ops[i]? = some oi) (hsel : ∀ (j : Nat) (o : Oper) cs b, ops[j]? = some o → o.op ≠ .select cs b) :
    ∀ (m : Nat) (listed : Array Bool) (a : Act), preB md ops L (m + 1) listed = true →
      (∀ j oj, ops[j]? = some oj → j ≠ i → listed.getD j true = false → (∀ e ∈ oj.after, Region.binds md e = true → e.on ≠ i) → oi.apart ops oj = true) →
      i ∈ Region.ready md ops listed → YieldsQuiet F n P ops C oi v a →
      preAny F n P md ops C K m (listed.setIfInBounds i true) (a.put oi.dst v) → preAny F n P md ops C K (m + 1) listed a := by
  intro m
  induction m with
  | zero =>
    intro listed a hb _ hr hy H j hj
    by_cases hji : j = i
    · subst hji; exact hy.qOpIn hi H
    · exfalso
      simp only [preB, Bool.and_eq_true, List.all_eq_true, beq_iff_eq] at hb
      have e1 := hb.2 i hr
      have e2 := hb.2 j hj
      have hun := (mem_ready.1 hr).1
      have e3 : (listed.setIfInBounds i true).getD i true = true := by
        simp only [Array.getD_eq_getD_getElem?, Array.getElem?_setIfInBounds, if_true]
        split
        · rfl
        · rfl
      rw [e1, ← e2, getD_set_ne true hji, hun] at e3
      cases e3
  | succ m ih =>
    intro listed a hb hfree hr hy H j hj
    by_cases hji : j = i
    · subst hji; exact hy.qOpIn hi H
    · have h1 := H j (ready_mono hj hji)
      obtain ⟨hjun, oj, hoj, hall⟩ := mem_ready.1 hj
      have hnot : ∀ e ∈ oj.after, Region.binds md e = true → e.on ≠ i := fun e he hb heq => by
        have h1 := hall e he hb
        have h0 := (mem_ready.1 hr).1
        rw [heq] at h1
        rcases Nat.lt_or_ge i listed.size with h' | h'
        · simp [h'] at h0 h1; rw [h0] at h1; cases h1
        · simp [Array.getElem?_eq_none h'] at h1
      have h2 := qOpIn_put hoj (hfree j oj hoj hji hjun hnot) (fun cs b => hsel i oi cs b hi) (fun cs b => hsel j oj cs b hoj) hy h1
      have hfree' : ∀ k ok, ops[k]? = some ok → k ≠ i → (listed.setIfInBounds j true).getD k true = false →
          (∀ e ∈ ok.after, Region.binds md e = true → e.on ≠ i) → oi.apart ops ok = true := fun k ok hk hki hun hno => by
        refine hfree k ok hk hki ?_ hno
        by_cases hjk : j = k
        · subst hjk; exact hjun
        · rw [getD_set_ne true hjk] at hun; exact hun
      have hb' : preB md ops L (m + 1) (listed.setIfInBounds j true) = true := by
        have := hb
        rw [preB, Bool.and_eq_true, List.all_eq_true] at this
        exact this.2 j hj
      refine qOpIn_mono (fun a' h3 => ih (listed.setIfInBounds j true) a' hb' hfree' (ready_mono hr (Ne.symm hji)) h3.1 ?_) h2
      rw [Array.setIfInBounds_comm _ _ hji]
      exact h3.2

theorem preAny_lex {L : Array Bool} {K : Act → Prop} (hs : Region.noSelect ops = true) : ∀ (l : List Oper) (k : Nat) (listed : Array Bool) (a : Act), (∀ j, j < l.length → l[j]? = ops[k + j]?) →
    preB md ops L l.length listed = true → preLex md ops l.length k listed = true → wpQuietIn F n P ops C K l a → preAny F n P md ops C K l.length listed a
  | [], _, _, _, _, _, _, h => h
  | o :: l, k, listed, a, hl, hb, hB, h => by
    have h0 : ops[k]? = some o := by simpa using (hl 0 (by simp)).symm
    simp only [List.length_cons, preLex, Bool.and_eq_true] at hB
    obtain ⟨⟨hr, hf⟩, hB'⟩ := hB
    have hst : qOpIn F n P ops C k (wpQuietIn F n P ops C K l) a := by unfold qOpIn; simp only [h0]; exact h
    obtain ⟨v, hy, hK⟩ := yieldsQuiet_of_qOpIn h0 hst
    have hr' : k ∈ Region.ready md ops listed := by simpa using hr
    have hb' : preB md ops L l.length (listed.setIfInBounds k true) = true := by
      have := hb
      rw [List.length_cons, preB, Bool.and_eq_true, List.all_eq_true] at this
      exact this.2 k hr'
    exact preAny_first h0 (Region.noSelect_spec hs) l.length listed a hb (Region.free_spec h0 hf) hr' hy
      (preAny_lex hs l (k + 1) _ _ (fun j hj => by have := hl (j + 1) (by simpa using hj); simpa [Nat.add_assoc, Nat.add_comm 1 j] using this) hb' hB' hK)

/-- Whether the first k operations of a region can be taken in the order of the text. -/
def preOk (l : List Oper) (k : Nat) : Bool :=
  noDefer l.toArray && Region.noSelect l.toArray && decide (k ≤ l.length) &&
  preB .any l.toArray (Array.replicate k true ++ Array.replicate (l.length - k) false) k (Array.replicate l.length false) &&
  preLex .any l.toArray k 0 (Array.replicate l.length false)

theorem wpIn_region_pre (k : Nat) {id : Nat} {Q : Exit → Act → World → Prop} {a : Act} {w : World} {l : List Oper} (hm : P.follows .mixedOrders = true) (hB : preOk l k = true)
    (h : wpQuietIn F n P l.toArray (fun w' => ∃ p : Regrown, w' = grow (redrawn w p.d) p.os) (fun a' => ∀ w', (∃ p : Regrown, w' = grow (redrawn w p.d) p.os) →
      wpAnyIn F n P .any l.toArray Q (l.length - k) (Array.replicate k true ++ Array.replicate (l.length - k) false) a' w') (l.take k) a) : (Code.region id l.toArray true).wpIn F n P Q a w := by
  simp only [preOk, Bool.and_eq_true, decide_eq_true_eq] at hB
  obtain ⟨⟨⟨⟨h1, h2⟩, h3⟩, h4⟩, h5⟩ := hB
  refine wpIn_region_any hm ?_
  have hlen : (l.take k).length = k := by simp; omega
  have hpre := preAny_lex (F := F) (n := n) (P := P) (C := fun w' => ∃ p : Regrown, w' = grow (redrawn w p.d) p.os) (md := .any) (L := Array.replicate k true ++ Array.replicate (l.length - k) false) h2 (l.take k) 0 (Array.replicate l.length false) a
    (fun j hj => by rw [hlen] at hj; simp [hj]) (by rw [hlen]; exact h4) (by rw [hlen]; exact h5) h
  rw [hlen] at hpre
  have := wpAnyIn_of_pre (Q := Q) (md := .any) h1 (l.length - k) (fun a' w' hc hk => hk w' hc) k _ a { w with drawn := w.drawn + 1 } h4 ⟨⟨w.drawn + 1, #[]⟩, by rw [grow_empty]; rfl⟩ hpre
  rw [show k + (l.length - k) = l.toArray.size by simp; omega] at this
  simpa using this

/-- The same where all of it is quiet. -/
theorem wpIn_region_all {id : Nat} {Q : Exit → Act → World → Prop} {a : Act} {w : World} {l : List Oper} (hm : P.follows .mixedOrders = true) (hB : preOk l l.length = true)
    (hr : Region.ready .any l.toArray (Array.replicate l.length true) = [])
    (h : wpQuietIn F n P l.toArray (fun w' => ∃ p : Regrown, w' = grow (redrawn w p.d) p.os) (fun a' => ∀ w', (∃ p : Regrown, w' = grow (redrawn w p.d) p.os) → Q .normal a' w') l a) : (Code.region id l.toArray true).wpIn F n P Q a w := by
  refine wpIn_region_pre l.length hm hB ?_
  rw [List.take_length]
  have mono : ∀ (K K' : Act → Prop), (∀ a, K a → K' a) → ∀ (l' : List Oper) (a : Act), wpQuietIn F n P l.toArray (fun w' => ∃ p : Regrown, w' = grow (redrawn w p.d) p.os) K l' a → wpQuietIn F n P l.toArray (fun w' => ∃ p : Regrown, w' = grow (redrawn w p.d) p.os) K' l' a := by
    intro K K' hk l'
    induction l' with
    | nil => intro a h; exact hk _ h
    | cons o l' ih =>
      intro a h
      refine ⟨h.1, ?_⟩
      have h2 := h.2
      split
      · rename_i hw; rw [if_pos hw] at h2; exact Oper.quietIn_mono ih h2
      · rename_i hw; rw [if_neg hw] at h2; exact ih _ h2
  refine mono _ _ (fun a' h' w' hw' => ?_) l a h
  have e : Array.replicate l.length true ++ Array.replicate (l.length - l.length) false = Array.replicate l.length true := by simp
  rw [e]
  exact wpAnyIn_done hr (h' w' hw') _

theorem CallsIn.regrownR {f : FuncId} {args : Array Value} {w : World} {d : Nat} {os : Array Obj} {v : Value}
    (h : Calls P f args (grow (redrawn w d) os) fun e w' => e = .returned v ∧ Below (grow (redrawn w d) os).heap.size (grow (redrawn w d) os) w') (hF : Hid (F = Fence.wide)) (l : Nat) :
    CallsIn (F.inRound l) n P f args (grow (redrawn w d) os) fun e w'' => e = .returned v ∧ ∃ p : Regrown, w'' = grow (redrawn w p.d) p.os :=
  CallsIn.regrown_of (CallsIn.inRound l (inF hF h))
end
end Go.Proofs.Ytgjikoebneiamaa
