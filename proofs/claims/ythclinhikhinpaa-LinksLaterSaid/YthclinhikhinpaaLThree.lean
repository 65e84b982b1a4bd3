/-
  Copies of a chain in one statement, whose rows lie apart.
-/
import Derived.Test.YthclinhikhinpaaLKeys
import Derived.Test.YthclinhikhinpaaLTwo
namespace Go.Proofs.Ythclinhikhinpaa
open Go.RowKit

/-- The block of a value's own: of a copy's deeds, of a new variable. -/
def headB : Value → Option Nat
  | .agg cs => (cs[0]?.getD undef).ownBlock
  | _ => none
def ptrB : Value → Option Nat
  | .pointer (some a) => some a.block
  | _ => none
def keyC (kind : Nat → Nat) (i : Nat) (v : Value) : Option Nat := if kind i = 1 then headB v else if kind i = 2 then ptrB v else none
theorem cpPd_key {lo : Nat} {C : Chain} {cv : Value} {kind : Nat → Nat} : ∀ i v (W : World), cpPd lo C cv kind i v W → ∀ b, keyC kind i v = some b → b < W.heap.size := fun i v W h b hb => by
  unfold keyC at hb
  split at hb
  · rename_i hk
    obtain ⟨dv, sv, rfl, h1, h2, _⟩ := h.2.1 hk
    exact (h1.lt b hb).2
  · split at hb
    · rename_i hk
      obtain ⟨b', rfl, _, h3⟩ := h.2.2 hk
      injection hb with hb
      subst hb
      exact heap_lt h3
    · cases hb
section
variable {Q : Exit → Act → World → Prop} {ops : Array Oper} {i d s lo : Nat} {o : Oper} {a : Act} {W : World} {C : Chain} {cv : Value} {kind : Nat → Nat}
theorem ck_load {b : Nat} {v0 v1 v2 : Value} (ho : ops[i]? = some o) (hg : o.guard = none) (hop : o.op = .load 25 (.tmp s)) (hd : o.dst = some d) (hk : kind i = 0) (he : a.eval (.tmp s) = ptr b) (hb : W.heap[b]? = some (.cells #[v0, v1, v2] 25)) :
    wpOp Try.prog ops Q i (fun a' W' => ∃ v, a' = a.put (some d) v ∧ Below W.heap.size W W' ∧ cpPd lo C (.agg #[v0, v1, v2]) kind i v W' ∧ (∀ b, keyC kind i v = some b → W.heap.size ≤ b)) a W := by
  refine wpOp_mono (fun a' W' h => ?_) (cp_load (lo := lo) (C := C) (kind := kind) ho hg hop hd hk he hb)
  obtain ⟨v, h1, h2, h3, _⟩ := h
  exact ⟨v, h1, h2, h3, fun b hb => by unfold keyC at hb; rw [if_neg (by omega), if_neg (by omega)] at hb; cases hb⟩
theorem ck_alloc (ho : ops[i]? = some o) (hg : o.guard = none) (hop : o.op = .alloc 25) (hd : o.dst = some d) (hk : kind i = 2) (hlo : lo ≤ W.heap.size) :
    wpOp Try.prog ops Q i (fun a' W' => ∃ v, a' = a.put (some d) v ∧ Below W.heap.size W W' ∧ cpPd lo C cv kind i v W' ∧ (∀ b, keyC kind i v = some b → W.heap.size ≤ b)) a W := by
  refine wpOp_mono (fun a' W' h => ?_) (cp_alloc (lo := lo) (C := C) (cv := cv) (kind := kind) ho hg hop hd hk hlo)
  obtain ⟨v, h1, h2, h3, h4⟩ := h
  refine ⟨v, h1, h2, h3, fun b hb => ?_⟩
  obtain ⟨b', rfl, h5⟩ := h4 (decide_eq_true hk)
  unfold keyC at hb
  rw [if_neg (by omega), if_pos hk] at hb
  injection hb with hb
  subst hb
  exact h5
theorem ck_call {v : Value} (ho : ops[i]? = some o) (hg : o.guard = none) (hop : o.op = .call { callee := .value (.func 15), args := #[.tmp s], argTypes := #[25] }) (hd : o.dst = some d) (hk : kind i = 1) (he : a.eval (.tmp s) = v)
    (hx : ChainAt W.heap.size W v C) (hn : C.deeds.length ≤ 40) (hm : C.sights.length ≤ 40) (hlo : lo ≤ W.heap.size) :
    wpOp Try.prog ops Q i (fun a' W' => ∃ v, a' = a.put (some d) v ∧ Below W.heap.size W W' ∧ cpPd lo C cv kind i v W' ∧ (∀ b, keyC kind i v = some b → W.heap.size ≤ b)) a W := by
  refine wpOp_at ho hg (wp_run (n := .enter 15 #[v]) (w' := W) ?_ ?_)
  · simp only [execOp, hop]
    go_simp
    simpa [Act.eval] using he
  · refine (Copy_any v C W hx (by omega) (by omega)).mono ?_
    rintro e w' ⟨u, rfl, hc, hb⟩
    show ∃ v, a.put o.dst u = _ ∧ _
    rw [hd]
    refine ⟨_, rfl, hb, ⟨fun h => by omega, fun _ => hc.low hlo, fun h => by omega⟩, fun b hb' => ?_⟩
    unfold keyC at hb'
    rw [if_pos hk] at hb'
    obtain ⟨dv, sv, rfl, h1, _⟩ := hc
    exact (h1.lt b hb').1
end

theorem dcells_snoc (ds : List Deed) (d : Deed) : dcells (ds ++ [d]) (ds.length + 1) = dcells ds ds.length ++ [.int .i64 d.what, .int .i64 d.at_, .int .i64 d.from_, .int .i64 d.bar, .int .i64 d.smith] := by
  have hold : ∀ i, i < ds.length → dnth (ds ++ [d]) i = dnth ds i := fun i hi => by simp [dnth, List.getD_eq_getElem?_getD, List.getElem?_append_left hi]
  have hnew : dnth (ds ++ [d]) ds.length = d := by simp [dnth]
  apply List.ext_getElem?
  intro j
  by_cases hj : j < ds.length * 5
  · have hr : j % 5 < 5 := Nat.mod_lt _ (by omega)
    have e : j = j / 5 * 5 + j % 5 := by omega
    rw [List.getElem?_append_left (by rw [dcells_len]; exact hj), e, dcells_at _ (by omega) hr, dcells_at _ (by omega) hr, hold _ (by omega)]
  · rw [List.getElem?_append_right (by rw [dcells_len]; omega), dcells_len]
    by_cases hj2 : j < ds.length * 5 + 5
    · obtain ⟨r, rfl⟩ : ∃ r, j = ds.length * 5 + r := ⟨j - ds.length * 5, by omega⟩
      have hr : r < 5 := by omega
      rw [dcells_at _ (by omega) hr, hnew, show ds.length * 5 + r - ds.length * 5 = r by omega]
      match r, hr with
      | 0, _ => rfl
      | 1, _ => rfl
      | 2, _ => rfl
      | 3, _ => rfl
      | 4, _ => rfl
    · rw [List.getElem?_eq_none (by rw [dcells_len]; omega), List.getElem?_eq_none (by simp; omega)]

end Go.Proofs.Ythclinhikhinpaa
