/-
  Copies of a chain in one statement: what each operation of such a region yields.
-/
import Derived.Test.YtgjikoebneiamaaLVals
import Derived.Test.YtgjikoebneiamaaLCopy
namespace Go.Proofs.Ytgjikoebneiamaa
open Go.RowKit

theorem load3 (w : World) (b : Nat) (v0 v1 v2 : Value) (h : w.heap[b]? = some (.cells #[v0,v1,v2] 25)) : (Instr.loadAt 25 (.pointer (some ⟨b,0,none⟩))).run Try.prog w = .ok (.agg #[v0,v1,v2]) w := by
  obtain ⟨c0, c1, c2⟩ := box3c h
  go_simp
theorem alloc3 (w : World) : (Instr.alloc 25 true (.tuple #[])).run Try.prog w = .ok (.pointer (some ⟨w.heap.size, 0, none⟩)) (w.alloc (.cells #[.slice none 0 0, .slice none 0 0, .int .i64 0] 25)) := by
  go_simp
def ptr (b : Nat) : Value := .pointer (some ⟨b, 0, none⟩)
/-- What is said of a value: kind 0: what the variable holds; 1: a copy; 2: a new variable. -/
def cpPd (lo : Nat) (C : Chain) (cv : Value) (kind : Nat → Nat) (i : Nat) (v : Value) (W : World) : Prop :=
  (kind i = 0 → v = cv) ∧ (kind i = 1 → CopyAt lo W v C) ∧ (kind i = 2 → ∃ b, v = ptr b ∧ lo ≤ b ∧ W.heap[b]? = some (.cells #[.slice none 0 0, .slice none 0 0, .int .i64 0] 25))
theorem cpPd_st {lo : Nat} {C : Chain} {cv : Value} {kind : Nat → Nat} : ∀ i v (W W' : World), cpPd lo C cv kind i v W → Below W.heap.size W W' → cpPd lo C cv kind i v W' := fun i v W W' h hb =>
  ⟨h.1, fun k => (h.2.1 k).below hb, fun k => by
    obtain ⟨b, h1, h2, h3⟩ := h.2.2 k
    exact ⟨b, h1, h2, (hb.block b (heap_lt h3)).trans h3⟩⟩
theorem cpPd_fr {lo : Nat} {C : Chain} {cv : Value} {kind : Nat → Nat} : ∀ i v (W : World), decide (kind i = 2) = true → cpPd lo C cv kind i v W → ∃ b, v = .pointer (some ⟨b, 0, none⟩) ∧ b < W.heap.size := fun i v W hk h => by
  obtain ⟨b, h1, h2, h3⟩ := h.2.2 (of_decide_eq_true hk)
  exact ⟨b, h1, heap_lt h3⟩

section
variable {Q : Exit → Act → World → Prop} {ops : Array Oper} {i d s lo : Nat} {o : Oper} {a : Act} {W : World} {C : Chain} {cv : Value} {kind : Nat → Nat}
theorem cp_load {b : Nat} {v0 v1 v2 : Value} (ho : ops[i]? = some o) (hg : o.guard = none) (hop : o.op = .load 25 (.tmp s)) (hd : o.dst = some d) (hk : kind i = 0) (he : a.eval (.tmp s) = ptr b) (hb : W.heap[b]? = some (.cells #[v0, v1, v2] 25)) :
    wpOp Try.prog ops Q i (fun a' W' => ∃ v, a' = a.put (some d) v ∧ Below W.heap.size W W' ∧ cpPd lo C (.agg #[v0, v1, v2]) kind i v W' ∧ (decide (kind i = 2) = true → ∃ b, v = .pointer (some ⟨b, 0, none⟩) ∧ W.heap.size ≤ b)) a W := by
  refine wpOp_at ho hg (wp_run (n := .value (.agg #[v0, v1, v2])) (w' := W) ?_ ?_)
  · simp only [execOp, hop]
    rw [he]
    unfold ptr
    obtain ⟨c0, c1, c2⟩ := box3c hb
    go_simp
  · show ∃ v, a.put o.dst (.agg #[v0, v1, v2]) = _ ∧ _
    rw [hd]
    exact ⟨_, rfl, Below.refl _ _, ⟨fun _ => rfl, fun h => by omega, fun h => by omega⟩, fun h => by have := of_decide_eq_true h; omega⟩
theorem cp_alloc (ho : ops[i]? = some o) (hg : o.guard = none) (hop : o.op = .alloc 25) (hd : o.dst = some d) (hk : kind i = 2) (hlo : lo ≤ W.heap.size) :
    wpOp Try.prog ops Q i (fun a' W' => ∃ v, a' = a.put (some d) v ∧ Below W.heap.size W W' ∧ cpPd lo C cv kind i v W' ∧ (decide (kind i = 2) = true → ∃ b, v = .pointer (some ⟨b, 0, none⟩) ∧ W.heap.size ≤ b)) a W := by
  refine wpOp_at ho hg (wp_run (n := .value (ptr W.heap.size)) (w' := W.alloc (.cells #[.slice none 0 0, .slice none 0 0, .int .i64 0] 25)) ?_ ?_)
  · simp only [execOp, hop]
    go_simp
    rfl
  · show ∃ v, a.put o.dst (ptr W.heap.size) = _ ∧ _
    rw [hd]
    exact ⟨_, rfl, (Below.refl _ _).alloc (Nat.le_refl _) _, ⟨fun h => by omega, fun h => by omega, fun _ => ⟨_, rfl, hlo, heap_new _ _⟩⟩, fun _ => ⟨_, rfl, Nat.le_refl _⟩⟩
theorem cp_call {v : Value} (ho : ops[i]? = some o) (hg : o.guard = none) (hop : o.op = .call { callee := .value (.func 15), args := #[.tmp s], argTypes := #[25] }) (hd : o.dst = some d) (hk : kind i = 1) (he : a.eval (.tmp s) = v)
    (hx : ChainAt W.heap.size W v C) (hn : C.deeds.length ≤ 40) (hm : C.sights.length ≤ 40) (hlo : lo ≤ W.heap.size) :
    wpOp Try.prog ops Q i (fun a' W' => ∃ v, a' = a.put (some d) v ∧ Below W.heap.size W W' ∧ cpPd lo C cv kind i v W' ∧ (decide (kind i = 2) = true → ∃ b, v = .pointer (some ⟨b, 0, none⟩) ∧ W.heap.size ≤ b)) a W := by
  refine wpOp_at ho hg (wp_run (n := .enter 15 #[v]) (w' := W) ?_ ?_)
  · simp only [execOp, hop]
    go_simp
    simpa [Act.eval] using he
  · refine (Copy_any v C W hx (by omega) (by omega)).mono ?_
    rintro e w' ⟨u, rfl, hc, hb⟩
    show ∃ v, a.put o.dst u = _ ∧ _
    rw [hd]
    exact ⟨_, rfl, hb, ⟨fun h => by omega, fun _ => hc.low hlo, fun h => by omega⟩, fun h => by have := of_decide_eq_true h; omega⟩
end

/-- A store into a variable of a chain leaves the rows of a copy. -/
theorem own_setBox {w : World} {base b o n size : Nat} {e : TypeId} {v u : Value} {xs : List Value} {cs : Array Value} (h : w.ownsRow base e size v n xs) (hb : w.heap[b]? = some (.cells cs 25)) (hne : e ≠ 25) : (w.setCell ⟨b, o, none⟩ u).ownsRow base e size v n xs := by
  refine h.kept (row := some b) ⟨rfl, rfl, rfl, by rw [size_setCell]; exact Nat.le_refl _, fun k hk hn => heap_setCell_other (fun q => hn (by rw [q]))⟩ ?_
  rcases h.2 with ⟨rfl, _⟩ | ⟨g, cap, cur, rfl, _, hh, _⟩
  · exact .inl rfl
  · refine .inr (fun he => ?_)
    have : g = b := by simpa [Value.ownBlock] using he
    subst this
    rw [hh] at hb
    injection hb with hb
    injection hb with _ ht
    exact hne ht
theorem CopyAt.setBox {lo b o : Nat} {w : World} {v u : Value} {C : Chain} {cs : Array Value} (h : CopyAt lo w v C) (hb : w.heap[b]? = some (.cells cs 25)) : CopyAt lo (w.setCell ⟨b, o, none⟩ u) v C := by
  obtain ⟨dv, sv, rfl, h1, h2, h3⟩ := h
  exact ⟨dv, sv, rfl, own_setBox h1 hb (by decide), own_setBox h2 hb (by decide), h3⟩
theorem CopyAt.shape {lo : Nat} {w : World} {v : Value} {C : Chain} (h : CopyAt lo w v C) : ∃ a k a2 k2, v = .agg #[.slice a C.deeds.length k, .slice a2 C.sights.length k2, .int .i64 C.wrong] ∧ C.deeds.length ≤ k ∧ C.sights.length ≤ k2 := by
  obtain ⟨dv, sv, rfl, h1, h2, _⟩ := h
  obtain ⟨a, k, rfl, q1⟩ := own_form h1
  obtain ⟨a2, k2, rfl, q2⟩ := own_form h2
  exact ⟨a, k, a2, k2, rfl, q1, q2⟩
/-- A copy is stored into a variable. -/
def put3 (w : World) (b : Nat) (v0 v1 v2 : Value) : World := ((w.setCell ⟨b, 0, none⟩ v0).setCell ⟨b, 1, none⟩ v1).setCell ⟨b, 2, none⟩ v2
theorem put3_heap {w : World} {b : Nat} {v0 v1 v2 z0 z1 z2 : Value} (h : w.heap[b]? = some (.cells #[z0, z1, z2] 25)) : (put3 w b v0 v1 v2).heap[b]? = some (.cells #[v0, v1, v2] 25) := by
  unfold put3
  rw [heap_setCell_same (heap_setCell_same (heap_setCell_same h))]
  rfl
theorem put3_other {w : World} {b b' : Nat} {v0 v1 v2 : Value} (hn : b' ≠ b) : (put3 w b v0 v1 v2).heap[b']? = w.heap[b']? := by
  unfold put3
  rw [heap_setCell_other (Ne.symm hn), heap_setCell_other (Ne.symm hn), heap_setCell_other (Ne.symm hn)]
theorem put3_below {B : Nat} {w W : World} {b : Nat} {v0 v1 v2 : Value} (h : Below B w W) (hb : B ≤ b) : Below B w (put3 W b v0 v1 v2) := below_setCell (below_setCell (below_setCell h hb) hb) hb
theorem put3_size {w : World} {b : Nat} {v0 v1 v2 : Value} : (put3 w b v0 v1 v2).heap.size = w.heap.size := by simp [put3]
theorem CopyAt.put3 {lo : Nat} {w : World} {v v0 v1 v2 z0 z1 z2 : Value} {C : Chain} {b : Nat} (h : CopyAt lo w v C) (hb : w.heap[b]? = some (.cells #[z0, z1, z2] 25)) : CopyAt lo (put3 w b v0 v1 v2) v C :=
  ((h.setBox hb).setBox (heap_setCell_same hb)).setBox (heap_setCell_same (heap_setCell_same hb))
theorem SightsAt.take {B : Nat} {w : World} {a : Option Addr} {cap k : Nat} {ss : List Sight} (h : SightsAt B w (.slice a ss.length cap) ss) (hk : k ≤ ss.length) : SightsAt B w (.slice a k cap) (ss.take k) := by
  obtain ⟨a', cap', b, off, hv, hl, hm, ha, hc, hw⟩ := h
  cases hv
  have e : (ss.take k).length = k := by simp; omega
  have hn : ∀ i, i < k → snth (ss.take k) i = snth ss i := fun i hi => by simp [snth, List.getD_eq_getElem?_getD, hi]
  refine ⟨a, cap, b, off, by rw [e], by omega, hm, fun h => ha (by omega), fun i hi => ?_, fun i hi => ?_⟩
  · rw [e] at hi; rw [hn i hi]; exact hc i (by omega)
  · rw [e] at hi; rw [hn i hi]; exact hw i (by omega)

end Go.Proofs.Ytgjikoebneiamaa
